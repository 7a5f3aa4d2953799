/- Texts of this claim, joined: Rjoined, Rsplit, Shw, Wpoly. -/
import Derived.Test.YtghiniaijobonaaDoorJ07
import Derived.Test.YtghiniaijobonaaDoorJ10
import Derived.Test.YtghiniaijobonaaDoorJ09
import Derived.Test.YtghiniaijobonaaDoorJ08
import Derived.Deep.RegionHeld3
import Derived.Laws.IdiomCopy
import Derived.OwnWalk
import Derived.WalkKit
/- The contract of oathbookref2.Joined. -/
namespace Go.Proofs.YtghiniaijobonaaDoor
open Go.RowKit
set_option linter.unusedVariables false
set_option linter.unusedSimpArgs false

/-- The places of shares; what they have at a place. -/
def placesL (ss : List Shr) : List UInt8 := ss.map fun s => UInt8.ofNat s.1
def colL (ss : List Shr) (k : Nat) : List UInt8 := ss.map fun s => s.2.getD k 0
theorem placesL_length (ss : List Shr) : (placesL ss).length = ss.length := by simp [placesL]
theorem colL_length (ss : List Shr) (k : Nat) : (colL ss k).length = ss.length := by simp [colL]
theorem nb_places {ss : List Shr} (h : ∀ s ∈ ss, s.1 < 256) : nb (placesL ss) = ss.map (·.1) := by
  unfold nb placesL
  rw [List.map_map]
  refine List.map_congr_left fun s hs => ?_
  have := h s hs
  show (UInt8.ofNat s.1).toNat = s.1
  rw [UInt8.toNat_ofNat']
  omega
theorem places_take {ss : List Shr} {i : Nat} (h : i < ss.length) : (placesL ss).take i ++ [UInt8.ofNat (ss.getD i noS).1] = (placesL ss).take (i + 1) := by
  rw [List.take_succ_eq_append_getElem (by rw [placesL_length]; exact h)]
  simp [placesL, List.getD_eq_getElem?_getD, List.getElem?_eq_getElem h]
theorem col_take {ss : List Shr} {i k : Nat} (h : i < ss.length) : (colL ss k).take i ++ [(ss.getD i noS).2.getD k 0] = (colL ss k).take (i + 1) := by
  rw [List.take_succ_eq_append_getElem (by rw [colL_length]; exact h)]
  simp [colL, List.getD_eq_getElem?_getD, List.getElem?_eq_getElem h]
/-- What shares tell at x, of their place k. -/
def thrS (ss : List Shr) (x k : Nat) : Nat := hsum (fun i => (nb (placesL ss)).getD i 0) (fun i => ddm (fun i => (nb (placesL ss)).getD i 0) (fun i => (nb (colL ss k)).getD i 0) (ss.length - 1) i) x ss.length 0
theorem getD_nb_lt (l : List UInt8) (i : Nat) : (nb l).getD i 0 < 256 := by
  rw [nb_at]
  exact UInt8.toNat_lt _
theorem thrS_lt (ss : List Shr) (x k : Nat) : thrS ss x k < 256 := hsum_lt (fun i => ddm_lt (fun i => getD_nb_lt _ _) _ _) x _ _
def joinedL (ss : List Shr) (x n : Nat) : List UInt8 := (List.range n).map fun k => UInt8.ofNat (thrS ss x k)
theorem joinedL_length (ss : List Shr) (x n : Nat) : (joinedL ss x n).length = n := by simp [joinedL]
theorem joinedL_succ (ss : List Shr) (x n : Nat) : joinedL ss x n ++ [UInt8.ofNat (thrS ss x n)] = joinedL ss x (n + 1) := by
  unfold joinedL
  rw [List.range_succ, List.map_append]
  rfl
theorem byte_cast {v : Nat} (h : v < 256) : (v : Int) = (((UInt8.ofNat v).toNat : Nat) : Int) := by rw [UInt8.toNat_ofNat']; omega
theorem nth_toNat (l : List UInt8) (i : Nat) : nth l i = ((l.getD i 0).toNat : Int) := by rw [nth_nb, nb_at]
end Go.Proofs.YtghiniaijobonaaDoor
/- The contract of oathbookref2.SplitOf. -/
namespace Go.Proofs.YtghiniaijobonaaDoor
open Go.RowKit
set_option linter.unusedVariables false
set_option linter.unusedSimpArgs false

theorem OwnL.lit1w (w : World) (B : Nat) (x : UInt8) (v : Int) (hv : v = (x.toNat : Int)) (hB : B ≤ w.heap.size) : OwnL (w.alloc (.cells #[.int .u8 v] 5)) B (.slice (some ⟨w.heap.size, 0, none⟩) 1 1) [x] := by
  subst hv
  exact World.ownsRow_lit w #[.int .u8 (x.toNat : Int)] 1 hB (by unfold maxLen; omega) rfl
theorem u8_wrap {n : Nat} (h : n < 256) : IntKind.u8.wrap (n : Int) = n := by
  simp only [IntKind.wrap, IntKind.bits, IntKind.signed, Bool.false_and]
  simp
  omega
theorem gro_cell (w : World) (g j : Nat) (v : Value) : w.grownBy (w.setCell ⟨g, j, none⟩ v) (some g) :=
  ⟨rfl, rfl, rfl, by simp [World.setCell], fun i _ hi => by
    rw [Go.RowKit.Below.heap_setCell _ _ _ _ (fun e => hi (by rw [e]))]⟩
theorem OwnL.aside {w : World} {B : Nat} {v : Value} {l : List UInt8} (h : OwnL w B v l) (g j : Nat) (u : Value) (hg : g < B) : OwnL (w.setCell ⟨g, j, none⟩ u) B v l := by
  refine World.ownsRow.kept h (gro_cell w g j u) ?_
  by_cases hv : v.ownBlock = none
  · exact .inl hv
  · refine .inr fun e => ?_
    have := (World.ownsRow.lt h g e).1
    omega
theorem wp_appendL {w : World} {o : Oper} {a : Act} {K : Act → World → Prop} {Q : Exit → Act → World → Prop} (s x : Operand)
    (ho : o.op = .call { callee := .builtin .append, args := #[s, x], argTypes := #[33, 33] })
    (base : Nat) (v : Value) (l : List UInt8) (hs : a.eval s = v) (hown : OwnL w base v l)
    (b off : Nat) (n c : Nat) (r : List UInt8) (hx : a.eval x = .slice (some ⟨b, off, none⟩) n c) (hr : Row w (some ⟨b, off, none⟩) n r) (hn : 0 < n) (h47 : l.length + n ≤ 140737488355328) (hbase : base ≤ w.heap.size)
    (h : ∀ v' w', OwnL w' base v' (l ++ r) → w.grownBy w' v.ownBlock → K (a.put o.dst v') w') : o.wp Tryd.prog a w K Q := by
  obtain ⟨i0, hi, hz0, hz1, hz2⟩ := info_parts Tryd.infoSh8
  obtain ⟨hl, hr⟩ := hr
  have hnews : ∀ j u, (cellsB r)[j]? = some u → w.cell? ((⟨b, off, none⟩ : Addr).add j) = some u := by
    intro j u hj
    have hj' : j < r.length := by have := (List.getElem?_eq_some_iff.1 hj).1; rwa [cellsB_length] at this
    rcases hr with h0 | ⟨b', off', h1, hc⟩
    · omega
    · cases h1
      rw [Go.WideShapes.add_plain, hc j (by omega), ← cellsB_at r j hj', hj]
  obtain ⟨v', w', hrun, h2, h3, h4, h5⟩ := run_append_own_at (P := Tryd.prog) w base 33 o.type 5 i0 (.int .u8 0) 1 1 Tryd.underlying33 hi hz0 hz1 hz2 rfl (by decide) v l.length (cellsB l) hown ⟨b, off, none⟩ n c (cellsB r) (by rw [cellsB_length, hl, Nat.mul_one]) hnews (cellsB_one _) (by unfold maxLen; omega) (by omega) hbase
  unfold Oper.wp execOp
  simp only [ho, resolve, invoke, builtin, Sem.run_bind, Sem.run_pure, Result.andThen_ok, List.map_toArray, List.map_cons, List.map_nil, hs, hx, hrun]
  refine h v' w' ?_ h3
  unfold OwnL
  rw [List.length_append, cellsB_append, hl]
  exact h2
end Go.Proofs.YtghiniaijobonaaDoor
/- Rows that share makes: bytes by place, slices of bytes by place, shares by place. -/
namespace Go.Proofs.YtghiniaijobonaaDoor
open Go.RowKit
set_option linter.unusedVariables false
set_option linter.unusedSimpArgs false

theorem gr_setCellsS (g : Nat) : ∀ (vs : List Value) (o : Nat) (w : World), w.grownBy (w.setCells g o vs) (some g)
  | [], _, w => World.grownBy.refl w _
  | v :: r, o, w => by
    rw [World.setCells]
    have h := gro_cell w g o v
    have k := gr_setCellsS g r (o + 1) (w.setCell ⟨g, o, none⟩ v)
    exact ⟨k.os.trans h.os, k.tape.trans h.tape, k.output.trans h.output, Nat.le_trans h.size k.size, fun i hi hne => (k.block i (Nat.lt_of_lt_of_le hi h.size) hne).trans (h.block i hi hne)⟩
theorem own_thereS {w : World} {B g n cap size : Nat} {e : TypeId} {xs : List Value} (h : w.ownsRow B e size (.slice (some ⟨g, 0, none⟩) n cap) n xs) : w.there g 0 (n * size) := by
  intro j hj
  have hl := h.1
  rw [Nat.zero_add, World.ownsRow.cellAt h j hj, World.ownsRow.frozenAt h j, List.getElem?_eq_getElem (by omega)]
  exact ⟨rfl, rfl⟩
theorem there_belowB {w w' : World} {B g o n : Nat} (h : w.there g o n) (hb : Below B w w') (hg : g < B) : w'.there g o n := fun j hj => by
  have := h j hj
  rwa [← hb.cell (p := ⟨g, o + j, none⟩) hg, ← hb.frozen (p := ⟨g, o + j, none⟩) hg] at this
theorem Row.belowB {w w' : World} {B n : Nat} {ad : Option Addr} {l : List UInt8} (h : Row w ad n l) (hb : Below B w w') (hlt : ∀ x, ad = some x → x.block < B) : Row w' ad n l := by
  refine ⟨h.1, ?_⟩
  rcases h.2 with h0 | ⟨b, o, e, hc⟩
  · exact .inl h0
  · exact .inr ⟨b, o, e, fun i hi => (hb.cell (p := ⟨b, o + i, none⟩) (by show b < B; exact hlt _ e)).trans (hc i hi)⟩
/-- m bytes in a block, by place. -/
def BCells (w : World) (g m : Nat) (f : Nat → Nat) : Prop := w.there g 0 m ∧ ∀ j, j < m → w.cell? ⟨g, j, none⟩ = some (.int .u8 ((f j : Nat) : Int))
theorem BCells.made {w1 : World} {B g m : Nat} (h : w1.ownsRow B 5 1 (.slice (some ⟨g, 0, none⟩) m m) m (madeCells (Value.int .u8 0).cells (m * 1)).toList) : BCells w1 g m (fun _ => 0) := by
  have ht := own_thereS h
  rw [Nat.mul_one] at ht
  refine ⟨ht, fun j hj => ?_⟩
  have := World.ownsRow.cellAt h j (by omega)
  rw [this, show (Value.int .u8 0).cells = #[Value.int .u8 0] from rfl, toList_madeCells_one]
  simp [hj]
theorem BCells.below {w w' : World} {B g m : Nat} {f : Nat → Nat} (h : BCells w g m f) (hb : Below B w w') (hg : g < B) : BCells w' g m f :=
  ⟨there_belowB h.1 hb hg, fun j hj => (hb.cell (p := ⟨g, j, none⟩) hg).trans (h.2 j hj)⟩
theorem BCells.at {w : World} {g m i : Nat} {f : Nat → Nat} (h : BCells w g m f) (hi : i < m) : w.cell? ⟨g, i, none⟩ = some (.int .u8 ((f i : Nat) : Int)) ∧ w.frozen? ⟨g, i, none⟩ = false := by
  have := h.1 i hi
  rw [Nat.zero_add] at this
  exact ⟨h.2 i hi, this.2⟩
theorem BCells.set {w : World} {g m i v : Nat} {f f' : Nat → Nat} (h : BCells w g m f) (hi : i < m) (hf : ∀ j, j < m → f' j = if j = i then v else f j) : BCells (w.setCell ⟨g, i, none⟩ (.int .u8 (v : Int))) g m f' := by
  have e : w.setCell ⟨g, i, none⟩ (.int .u8 (v : Int)) = w.setCells g i [.int .u8 (v : Int)] := rfl
  refine ⟨by rw [e]; exact World.there_setCells h.1 _ _ _, fun j hj => ?_⟩
  rw [hf j hj]
  by_cases c : j = i
  · subst c
    rw [if_pos rfl]
    exact World.cell?_setCell_same' _ _ _ (by rw [h.2 j hj]; rfl)
  · rw [if_neg c]
    have q := World.cell?_setCell_other w ⟨g, i, none⟩ ⟨g, j, none⟩ (.int .u8 (v : Int)) (by intro q; have := congrArg Addr.off q; exact c this.symm)
    rw [q]
    exact h.2 j hj
theorem BCells.row {w : World} {g m : Nat} {f : Nat → Nat} {l : List UInt8} (h : BCells w g m f) (hl : l.length = m) (he : ∀ j, j < m → (l.getD j 0).toNat = f j) : Row w (some ⟨g, 0, none⟩) m l :=
  ⟨hl, .inr ⟨g, 0, rfl, fun i hi => by rw [Nat.zero_add, h.2 i hi, nth_toNat, he i hi]⟩⟩
/-- k slices of bytes in a block that has room for n. -/
def PCells (w : World) (g n k : Nat) (F : Nat → List UInt8) : Prop := w.there g 0 n ∧ ∀ i, i < k → ∃ (ad : Option Addr) (c : Nat), w.cell? ⟨g, i, none⟩ = some (.slice ad (F i).length c) ∧ (F i).length ≤ c ∧ Row w ad (F i).length (F i) ∧ ∀ x, ad = some x → x.block ≠ g ∧ x.block < w.heap.size
theorem PCells.made {w1 : World} {B g n : Nat} {xs : List Value} {F : Nat → List UInt8} (h : w1.ownsRow B 33 1 (.slice (some ⟨g, 0, none⟩) n n) n xs) : PCells w1 g n 0 F := by
  have ht := own_thereS h
  rw [Nat.mul_one] at ht
  exact ⟨ht, fun i hi => absurd hi (by omega)⟩
theorem PCells.below {w w' : World} {g n k : Nat} {F : Nat → List UInt8} (h : PCells w g n k F) (hb : Below w.heap.size w w') (hg : g < w.heap.size) : PCells w' g n k F := by
  refine ⟨there_belowB h.1 hb hg, fun i hi => ?_⟩
  obtain ⟨ad, c, h1, h2, h3, h4⟩ := h.2 i hi
  exact ⟨ad, c, (hb.cell (p := ⟨g, i, none⟩) hg).trans h1, h2, h3.below hb, fun x e => ⟨(h4 x e).1, Nat.lt_of_lt_of_le (h4 x e).2 hb.size⟩⟩
theorem PCells.put {w : World} {g n k c : Nat} {ad : Option Addr} {F : Nat → List UInt8} (h : PCells w g n k F) (hk : k < n) (hc : (F k).length ≤ c) (hR : Row w ad (F k).length (F k)) (hne : ∀ x, ad = some x → x.block ≠ g ∧ x.block < w.heap.size) : PCells (w.setCell ⟨g, k, none⟩ (.slice ad (F k).length c)) g n (k + 1) F := by
  have e : w.setCell ⟨g, k, none⟩ (.slice ad (F k).length c) = w.setCells g k [.slice ad (F k).length c] := rfl
  have hg := gro_cell w g k (.slice ad (F k).length c)
  have keep : ∀ (a : Option Addr) (m : Nat) (l : List UInt8), Row w a m l → (∀ x, a = some x → x.block ≠ g ∧ x.block < w.heap.size) → Row (w.setCell ⟨g, k, none⟩ (.slice ad (F k).length c)) a m l := fun a m l hr hn =>
    row_grown hr hg (.inr fun x e => by intro q; exact (hn x e).1 (Option.some.inj q).symm)
  have hs := hg.size
  refine ⟨by rw [e]; exact World.there_setCells h.1 _ _ _, fun i hi => ?_⟩
  by_cases c1 : i = k
  · subst c1
    refine ⟨ad, c, ?_, hc, keep _ _ _ hR hne, fun x e => ⟨(hne x e).1, Nat.lt_of_lt_of_le (hne x e).2 hs⟩⟩
    have := (h.1 i hk).1
    rw [Nat.zero_add] at this
    exact World.cell?_setCell_same' _ _ _ this
  · obtain ⟨a, c', h1, h2, h3, h4⟩ := h.2 i (by omega)
    refine ⟨a, c', ?_, h2, keep _ _ _ h3 h4, fun x e => ⟨(h4 x e).1, Nat.lt_of_lt_of_le (h4 x e).2 hs⟩⟩
    have q := World.cell?_setCell_other w ⟨g, k, none⟩ ⟨g, i, none⟩ (.slice ad (F k).length c) (by intro q; have := congrArg Addr.off q; exact c1 this.symm)
    rw [q]
    exact h1
theorem PCells.rows {w : World} {g n : Nat} {F : Nat → List UInt8} (h : PCells w g n n F) (hF : ∀ i, i < n → (F i).length ≤ 140737488351232) : BRowsB w (some ⟨g, 0, none⟩) n ((List.range n).map F) := by
  have e : ∀ i, i < n → ((List.range n).map F).getD i [] = F i := fun i hi => by rw [List.getD_eq_getElem?_getD, List.getElem?_map, List.getElem?_range hi]; rfl
  refine ⟨⟨by simp, .inr ⟨g, 0, rfl, fun i hi => ?_⟩⟩, fun i hi => by rw [e i hi]; exact hF i hi⟩
  obtain ⟨ad, c, h1, h2, h3, _⟩ := h.2 i hi
  exact ⟨ad, (F i).length, c, by rw [Nat.zero_add]; exact h1, h2, by rw [e i hi]; exact h3⟩
/-- k shares in a block that has room for n. -/
def SCells (w : World) (g n k : Nat) (S : Nat → Shr) : Prop := w.there g 0 (n * 2) ∧ ∀ i, i < k → (S i).1 < 256 ∧ (S i).2.length ≤ 140737488351232 ∧ ∃ (ad : Option Addr) (c : Nat), w.cell? ⟨g, i * 2, none⟩ = some (.int .u8 ((S i).1 : Int)) ∧ w.cell? ⟨g, i * 2 + 1, none⟩ = some (.slice ad (S i).2.length c) ∧ (S i).2.length ≤ c ∧ Row w ad (S i).2.length (S i).2 ∧ ∀ x, ad = some x → x.block ≠ g ∧ x.block < w.heap.size
theorem SCells.made {w1 : World} {B g n : Nat} {xs : List Value} {S : Nat → Shr} (h : w1.ownsRow B 37 2 (.slice (some ⟨g, 0, none⟩) n n) n xs) : SCells w1 g n 0 S :=
  ⟨own_thereS h, fun i hi => absurd hi (by omega)⟩
theorem SCells.below {w w' : World} {g n k : Nat} {S : Nat → Shr} (h : SCells w g n k S) (hb : Below w.heap.size w w') (hg : g < w.heap.size) : SCells w' g n k S := by
  refine ⟨there_belowB h.1 hb hg, fun i hi => ?_⟩
  obtain ⟨h0, h00, ad, c, h1, h2, h3, h4, h5⟩ := h.2 i hi
  exact ⟨h0, h00, ad, c, (hb.cell (p := ⟨g, i * 2, none⟩) hg).trans h1, (hb.cell (p := ⟨g, i * 2 + 1, none⟩) hg).trans h2, h3, h4.below hb, fun x e => ⟨(h5 x e).1, Nat.lt_of_lt_of_le (h5 x e).2 hb.size⟩⟩
theorem SCells.slot {w : World} {g n k : Nat} {S : Nat → Shr} (h : SCells w g n k S) {i : Nat} (hi : i < n) : w.there g (i * 2) 2 := fun j hj => by
  have := h.1 (i * 2 + j) (by omega)
  rwa [Nat.zero_add] at this
theorem SCells.put {w : World} {g n k c : Nat} {ad : Option Addr} {S : Nat → Shr} (h : SCells w g n k S) (hk : k < n) (h8 : (S k).1 < 256) (h47 : (S k).2.length ≤ 140737488351232) (hc : (S k).2.length ≤ c) (hR : Row w ad (S k).2.length (S k).2) (hne : ∀ x, ad = some x → x.block ≠ g ∧ x.block < w.heap.size) :
    SCells (w.setCells g (k * 2) (hdC ((S k).1, ad, (S k).2.length, c))) g n (k + 1) S := by
  have hg := gr_setCellsS g (hdC ((S k).1, ad, (S k).2.length, c)) (k * 2) w
  have keep : ∀ (a : Option Addr) (m : Nat) (l : List UInt8), Row w a m l → (∀ x, a = some x → x.block ≠ g ∧ x.block < w.heap.size) → Row (w.setCells g (k * 2) (hdC ((S k).1, ad, (S k).2.length, c))) a m l := fun a m l hr hn =>
    row_grown hr hg (.inr fun x e => by intro q; exact (hn x e).1 (Option.some.inj q).symm)
  have hs := hg.size
  refine ⟨World.there_setCells h.1 _ _ _, fun i hi => ?_⟩
  by_cases c1 : i = k
  · subst c1
    have hr : (w.setCells g (i * 2) (hdC ((S i).1, ad, (S i).2.length, c))).rangeAt g (i * 2) (hdC ((S i).1, ad, (S i).2.length, c)) := World.rangeAt_setCells_same _ _ _ _ (h.slot hk)
    exact ⟨h8, h47, ad, c, hr 0 _ rfl, hr 1 _ rfl, hc, keep _ _ _ hR hne, fun x e => ⟨(hne x e).1, Nat.lt_of_lt_of_le (hne x e).2 hs⟩⟩
  · obtain ⟨h0, h00, a, c', h1, h2, h3, h4, h5⟩ := h.2 i (by omega)
    have out : ∀ j, j < 2 → (w.setCells g (k * 2) (hdC ((S k).1, ad, (S k).2.length, c))).cell? ⟨g, i * 2 + j, none⟩ = w.cell? ⟨g, i * 2 + j, none⟩ := fun j hj =>
      World.cell?_setCells_out g _ _ _ ⟨g, i * 2 + j, none⟩ (fun _ _ => by
        show i * 2 + j < k * 2 ∨ k * 2 + (hdC ((S k).1, ad, (S k).2.length, c)).length ≤ i * 2 + j
        rw [hdC_length]
        omega)
    exact ⟨h0, h00, a, c', (out 0 (by omega)).trans h1, (out 1 (by omega)).trans h2, h3, keep _ _ _ h4 h5, fun x e => ⟨(h5 x e).1, Nat.lt_of_lt_of_le (h5 x e).2 hs⟩⟩
theorem SCells.rows {w : World} {g n : Nat} {S : Nat → Shr} {ss : List Shr} (h : SCells w g n n S) (hl : ss.length = n) (he : ∀ i, i < n → ss.getD i noS = S i) : SRow w (some ⟨g, 0, none⟩) n ss := by
  refine ⟨hl, .inr ⟨g, 0, rfl, fun i hi => ?_⟩⟩
  obtain ⟨h0, h00, ad, c, h1, h2, h3, h4, _⟩ := h.2 i hi
  rw [he i hi, Nat.zero_add]
  exact ⟨h0, h1, ad, (S i).2.length, c, h2, h3, h00, h4⟩
theorem wpList_storeShA {ops : Array Oper} {rest : List Oper} {o : Oper} {a : Act} {w : World} {Q : Exit → Act → World → Prop} (hg : o.guard = none) (x y : Operand) (ho : o.op = .store 37 x y)
    (b k : Nat) (hd : Hdr) (hx : a.eval x = .pointer (some ⟨b, k, none⟩)) (hy : a.eval y = hdV hd) (ht : w.there b k 2)
    (h : wpList Tryd.prog ops Q rest (a.put o.dst undef) (w.setCells b k (hdC hd))) : wpList Tryd.prog ops Q (o :: rest) a w :=
  wpList_store_mid hg 37 x y ho b k (hdC hd).toArray hx hy ht Tryd.sizeSh (all_oneCell_toArray (hdC_one hd)) h
theorem run_results_sh {fn : Func} {p : Tmp} (h : fn.results = #[.cell p 37]) (tmps : Array Value) (w : World) (b : Nat) (hp : tmps.getD p undef = .pointer (some ⟨b, 0, none⟩)) (hd : Hdr) (hc : w.rangeAt b 0 (hdC hd)) :
    (results fn tmps).run Tryd.prog w = .ok (hdV hd) w := by
  have hp' : tmps[p]?.getD undef = .pointer (some ⟨b, 0, none⟩) := by simpa using hp
  simp only [results, h]
  simp [Sem.run_bind, Result.andThen, hp', asAddr, run_loadVar_mid w b 0 37 (hdC hd) _ hc Tryd.underlying37 (by rfl) (by rw [hdC_length]; exact Tryd.sizeSh)]
  rfl
end Go.Proofs.YtghiniaijobonaaDoor
/- The contract of share.polynomials. -/
namespace Go.Proofs.YtghiniaijobonaaDoor
open Go.RowKit
set_option linter.unusedVariables false
set_option linter.unusedSimpArgs false

theorem Tryd.infoPw : (Tryd.prog.info? 33).map (fun i => (i.zero, i.size, i.bytes)) = some (some (.slice none 0 0), 1, 24) := by kernel_rfl
def polysL (secret : List UInt8) (ls : List (List UInt8)) (m : Nat) : List (List UInt8) := (List.range m).map (polyC secret ls)
theorem polysL_length (secret : List UInt8) (ls : List (List UInt8)) (m : Nat) : (polysL secret ls m).length = m := by simp [polysL]
theorem polysL_at (secret : List UInt8) (ls : List (List UInt8)) {m i : Nat} (h : i < m) : (polysL secret ls m).getD i [] = polyC secret ls i := by
  unfold polysL
  rw [List.getD_eq_getElem?_getD, List.getElem?_map, List.getElem?_range h]
  rfl
set_option maxRecDepth 100000 in
set_option maxHeartbeats 2000000 in
theorem wpolys_any (a1 : Option Addr) (m c1 : Nat) (secret : List UInt8) (a2 : Option Addr) (n2 c2 : Nat) (ls : List (List UInt8)) (w : World) (R1 : Row w a1 m secret) (R2 : BRowsB w a2 n2 ls) (h1 : m ≤ 100) (h2 : n2 ≤ 20) (hall : ∀ l ∈ ls, l.length = m) :
    Calls Tryd.prog 12 #[.slice a1 m c1, .slice a2 n2 c2] w fun e w' => (∃ a' c', e = .returned (.slice a' m c') ∧ m ≤ c' ∧ BRowsB w' a' m (polysL secret ls m)) ∧ Below w.heap.size w w' := by
  obtain ⟨iB, hiB, hz0, hz1, hz2⟩ := info_parts Tryd.infoSh8
  obtain ⟨iR, hiR, hr0, hr1, hr2⟩ := info_parts Tryd.infoPw
  have HL : Hid (ls.length = n2) := R2.1.1
  have HS1 : Hid (∀ i, i < m → ∃ b o, a1 = some ⟨b, o, none⟩ ∧ ∀ wx, Below w.heap.size w wx → wx.cell? ⟨b, o + i, none⟩ = some (.int .u8 ((secret.getD i 0).toNat : Int))) := by
    intro i hi
    rcases R1.2 with h0 | ⟨b, o, ha, hc⟩
    · omega
    · refine ⟨b, o, ha, fun wx hb => ?_⟩
      rw [← nth_toNat]
      exact (hb.cell (p := ⟨b, o + i, none⟩) (cell_block (hc i hi))).trans (hc i hi)
  have HRW : Hid (∀ j, j < n2 → ∀ i, i < m → ∃ (b o bi oi ci : Nat), a2 = some ⟨b, o, none⟩ ∧ m ≤ ci ∧ ∀ wx, Below w.heap.size w wx → wx.cell? ⟨b, o + j, none⟩ = some (.slice (some ⟨bi, oi, none⟩) m ci) ∧ wx.cell? ⟨bi, oi + i, none⟩ = some (.int .u8 (((ls.getD j []).getD i 0).toNat : Int))) := by
    intro j hj i hi
    obtain ⟨b, o, ha⟩ := R2.addr (by omega)
    subst ha
    obtain ⟨ai, ni, ci, hci, hni, had, HC⟩ := R2.head j hj
    have : ni = m := by
      rw [hni]
      refine hall _ ?_
      rw [List.getD_eq_getElem?_getD, List.getElem?_eq_getElem (by rw [HL.out]; exact hj)]
      exact List.getElem_mem _
    subst this
    obtain ⟨bi, oi, rfl⟩ := had i hi
    refine ⟨b, o, bi, oi, ci, rfl, hci, fun wx hb => ⟨(HC wx hb).1, ?_⟩⟩
    rw [(HC wx hb).2 bi oi rfl i hi, nth_toNat]
  clear R1 R2 hall
  have m0 : (0 : Int) ≤ (m : Int) := by omega
  obtain ⟨g, hg⟩ : ∃ g, w.heap.size = g := ⟨_, rfl⟩
  have HG : Hid (w.heap.size = g) := hg
  go_enter Tryd.func12, Tryd.ntmps12
  go_wp2_with (first
    | (at_make; (refine wpList_make_full _ rfl _ _ 24 rfl w.heap.size 33 iR (.slice none 0 0) 1 Tryd.underlying24 hiR hr0 hr1 _ _ _ _ m rfl rfl rfl rfl (by rw [hr2]; omega) (by unfold maxLen; omega) (Nat.le_refl _) ?_); intro w5 hown hgrow))
  have HP5 : Hid (PCells w5 w.heap.size m 0 (polyC secret ls)) := PCells.made hown
  have HB5 : Hid (Below w.heap.size w w5) := (Below.refl _ _).grown hgrow (Nat.le_refl _) (fun _ h => by cases h)
  have HG5 : Hid (w.heap.size < w5.heap.size) := (World.ownsRow.lt hown w.heap.size rfl).2
  clear hown hgrow iR hiR hr0 hr1 hr2
  rw [hg] at HP5 HG5
  try simp only [hg]
  clear hg
  go_loopw [16] (fun iv wr => ∃ i : Nat, iv = .int .i64 (i : Int) ∧ i ≤ m ∧ Hid (PCells wr g m i (polyC secret ls)) ∧ Hid (Below w.heap.size w wr) ∧ Hid (g < wr.heap.size)) (fun iv _ => m - (intOf iv).toNat)
  case atStart => exact ⟨0, rfl, Nat.zero_le _, HP5.out, HB5.out, HG5.out⟩
  case round =>
    clear HP5 HB5 HG5
    obtain ⟨i, rfl, hi, HP, HB, HGS⟩ := hrel
    by_cases hlt : i < m
    · obtain ⟨b1, o1, ha1, HC1⟩ := HS1.out i hlt
      subst ha1
      have k0 := HC1 wr HB.out
      have HIM : Hid (i < m) := hlt
      have i0 : (0 : Int) ≤ (i : Int) := by omega
      have i1 : (i : Int) < (m : Int) := by omega
      clear HC1 hlt hi
      go_wp2_with fail
      generalize wr = w4 at *
      clear wr k0
      have HW4 : Hid (OwnL (w4.alloc (.cells #[.int .u8 ((secret.getD i 0).toNat : Int)] 5)) w4.heap.size (.slice (some ⟨w4.heap.size, 0, none⟩) 1 1) (polyT secret ls i 0)) := by
        unfold Hid
        rw [polyT_zero]
        exact OwnL.lit1w w4 _ _ _ rfl (Nat.le_refl _)
      go_loopw [25, 8] (fun jv cv wr => ∃ j : Nat, jv = .int .i64 (j : Int) ∧ j ≤ n2 ∧ Hid (OwnL wr w4.heap.size cv (polyT secret ls i j)) ∧ Hid (Below w4.heap.size w4 wr)) (fun jv _ _ => n2 - (intOf jv).toNat)
      case atStart => exact ⟨0, rfl, Nat.zero_le _, HW4.out, (Below.refl _ _).alloc (Nat.le_refl _) _⟩
      case round =>
        clear HW4
        obtain ⟨j, rfl, hj, HC, HB4⟩ := hrel
        by_cases hlj : j < n2
        · obtain ⟨b, o, bi, oi, ci, ha2, hci, HCJ⟩ := HRW.out j hlj i HIM.out
          subst ha2
          have HBx : Hid (Below w.heap.size w wr) := HB.out.trans (HB4.out.mono HB.out.size)
          have r1 := (HCJ wr HBx.out).1
          have r2 := (HCJ wr HBx.out).2
          have HPS : Hid (polyT secret ls i j ++ [(ls.getD j []).getD i 0] = polyT secret ls i (j + 1)) := polyT_succ (by rw [HL.out]; exact hlj)
          have HPL : Hid ((polyT secret ls i j).length = j + 1) := polyT_length (by rw [HL.out]; omega)
          have j0 : (0 : Int) ≤ (j : Int) := by omega
          have j1 : (j : Int) < (n2 : Int) := by omega
          generalize (ls.getD j []).getD i 0 = y at *
          generalize polyT secret ls i j = C at *
          clear HCJ
          go_wp2_with (at_builtin; refine wpList_append_bytes rfl (.tmp 29) (.tmp 34) 33 rfl w4.heap.size iB Tryd.underlying33 hiB hz0 hz1 hz2 _ (C) rfl (World.ownsRow.alloc HC.out _) _ 1 1 [y] rfl (Row.lit1v wr y 5 _ rfl) (by rw [HPL.out]; omega) (by have := HB4.out.size; simp; omega) ?_; intro v5 w5 ho5 hg5)
          have q5 : OwnL w5 w4.heap.size v5 (polyT secret ls i (j + 1)) := by rw [← HPS.out]; exact ho5
          have B5 := OwnL.grown (World.ownsRow.alloc HC.out _) (HB4.out.alloc HB4.out.size _) hg5 (Nat.le_refl _) (by have := HB4.out.size; simp; omega)
          go_roundw
          case rel => exact ⟨j + 1, by go_num, by omega, q5, B5⟩
          case measure => simp [intOf]; omega
        · have hjn : j = n2 := by omega
          subst hjn
          have g2 : ¬ (j : Int) < (j : Int) := by omega
          have hpl : (polyT secret ls i j).length = j + 1 := polyT_length (by rw [HL.out]; exact Nat.le_refl _)
          obtain ⟨gc, cc, hce, RC, hcc, hgl, hgh⟩ := HC.out.formSome (by rw [hpl]; omega)
          rw [hpl] at hce RC hcc
          subst hce
          have HPA : Hid (polyT secret ls i j = polyC secret ls i) := by have := polyT_all secret ls i; rw [HL.out] at this; exact this
          have hpc : (polyC secret ls i).length = j + 1 := by rw [polyC_length, HL.out]
          have HPX : Hid (PCells wr g m i (polyC secret ls)) := HP.out.below HB4.out HGS.out
          have hput := HPX.out.put HIM.out (c := cc) (ad := some ⟨gc, 0, none⟩) (by rw [hpc]; exact hcc) (by rw [hpc, ← HPA.out]; exact RC) (fun x e => by
            cases e
            have := HGS.out
            exact ⟨by show gc ≠ g; omega, hgh⟩)
          rw [hpc] at hput
          have HPN : Hid (PCells (wr.setCell ⟨g, i, none⟩ (.slice (some ⟨gc, 0, none⟩) (j + 1) cc)) g m (i + 1) (polyC secret ls)) := hput
          have HBN : Hid (Below w.heap.size w (wr.setCell ⟨g, i, none⟩ (.slice (some ⟨gc, 0, none⟩) (j + 1) cc))) := (HB.out.trans (HB4.out.mono HB.out.size)).setCell (p := ⟨g, i, none⟩) (by have := HG.out; show w.heap.size ≤ g; omega) _
          have HGN : Hid (g < (wr.setCell ⟨g, i, none⟩ (.slice (some ⟨gc, 0, none⟩) (j + 1) cc)).heap.size) := Nat.lt_of_lt_of_le (Nat.lt_of_lt_of_le HGS.out HB4.out.size) (gro_cell _ _ _ _).size
          have hth := HPX.out.1 i HIM.out
          rw [Nat.zero_add] at hth
          obtain ⟨uo, hcu⟩ := Option.isSome_iff_exists.1 hth.1
          have hfu := hth.2
          clear hput hpc RC hpl hcc hgl hgh HC HP HPA HPX hth hlj hj
          go_wp2_with fail
          go_roundw
          case rel => exact ⟨i + 1, by go_num, HIM.out, HPN.out, HBN.out, HGN.out⟩
          case measure => have := HIM.out; simp [intOf]; omega
    · have hin : i = m := by omega
      subst hin
      have g2 : ¬ (i : Int) < (i : Int) := by omega
      clear hlt hi
      go_wp2_with fail
      go_ret
      refine ⟨⟨_, _, rfl, Nat.le_refl _, HP.out.rows fun k hk => ?_⟩, HB.out⟩
      rw [polyC_length, HL.out]
      omega
end Go.Proofs.YtghiniaijobonaaDoor
