/- Texts of this claim, joined: Rsplitf, Rvalue, Rsplit, Shw. -/
import Derived.Test.YtnffmegicgbinabDoorJ08
import Derived.Test.YtnffmegicgbinabDoorJ06
import Derived.Deep.DeepCutAuto
import Derived.WalkKit
import Derived.Test.YtnffmegicgbinabDoorJ02
import Derived.Test.YtnffmegicgbinabDoorJ04
import Derived.Laws.BitsAllLaws
import Derived.Test.YtnffmegicgbinabDoorJ05
import Derived.Deep.RegionHeld3
import Derived.Laws.IdiomCopy
import Derived.OwnWalk
/- The contract of oathbookref2.SplitFault. -/
namespace Go.Proofs.YtnffmegicgbinabDoor
open Go.RowKit
set_option linter.unusedVariables false
set_option linter.unusedSimpArgs false

theorem BRowsB.head {w : World} {b o n : Nat} {ls : List (List UInt8)} (R : BRowsB w (some ⟨b, o, none⟩) n ls) (i : Nat) (hi : i < n) : ∃ (ai : Option Addr) (ni ci : Nat), ni ≤ ci ∧ ni = (ls.getD i []).length ∧ (∀ k, k < ni → ∃ bi oi, ai = some ⟨bi, oi, none⟩) ∧ ∀ wx, Below w.heap.size w wx → wx.cell? ⟨b, o + i, none⟩ = some (.slice ai ni ci) ∧
    ∀ bi oi, ai = some ⟨bi, oi, none⟩ → ∀ k, k < ni → wx.cell? ⟨bi, oi + k, none⟩ = some (.int .u8 (nth (ls.getD i []) k)) := by
  rcases R.1.2 with h0 | ⟨b', o', e, hc⟩
  · omega
  · cases e
    obtain ⟨ai, ni, ci, c1, h4, hR⟩ := hc i hi
    refine ⟨ai, ni, ci, h4, hR.1.symm, fun k hk => ?_, fun wx hb => ⟨(hb.cell (p := ⟨b, o + i, none⟩) (cell_block c1)).trans c1, fun bi oi e k hk => ?_⟩⟩
    · rcases hR.2 with h0 | ⟨bi, oi, e, _⟩
      · omega
      · exact ⟨bi, oi, e⟩
    · rcases hR.2 with h0 | ⟨bi', oi', e', hcell⟩
      · omega
      · rw [e] at e'
        cases e'
        have ck := hcell k hk
        exact (hb.cell (p := ⟨bi, oi + k, none⟩) (cell_block ck)).trans ck
theorem BRowsB.addr {w : World} {a : Option Addr} {n : Nat} {ls : List (List UInt8)} (R : BRowsB w a n ls) (hn : 0 < n) : ∃ b o, a = some ⟨b, o, none⟩ := by
  rcases R.1.2 with h0 | ⟨b, o, e, _⟩
  · omega
  · exact ⟨b, o, e⟩
end Go.Proofs.YtnffmegicgbinabDoor
/- The contract of oathbookref2.Value. -/
namespace Go.Proofs.YtnffmegicgbinabDoor
open Go.RowKit
set_option linter.unusedVariables false
set_option linter.unusedSimpArgs false

end Go.Proofs.YtnffmegicgbinabDoor
/- The contract of oathbookref2.SplitOf. -/
namespace Go.Proofs.YtnffmegicgbinabDoor
open Go.RowKit
set_option linter.unusedVariables false
set_option linter.unusedSimpArgs false

theorem OwnL.lit1w (w : World) (B : Nat) (x : UInt8) (v : Int) (hv : v = (x.toNat : Int)) (hB : B ≤ w.heap.size) : OwnL (w.alloc (.cells #[.int .u8 v] 5)) B (.slice (some ⟨w.heap.size, 0, none⟩) 1 1) [x] := by
  subst hv
  exact World.ownsRow_lit w #[.int .u8 (x.toNat : Int)] 1 hB (by unfold maxLen; omega) rfl
theorem u8_wrap {n : Nat} (h : n < 256) : IntKind.u8.wrap (n : Int) = n := by
  simp only [IntKind.wrap, IntKind.bits, IntKind.signed, Bool.false_and]
  simp
  omega
theorem gro_cell (w : World) (g j : Nat) (v : Value) : w.grownBy (w.setCell ⟨g, j, none⟩ v) (some g) :=
  ⟨rfl, rfl, rfl, by simp [World.setCell], fun i _ hi => by
    rw [Go.RowKit.Below.heap_setCell _ _ _ _ (fun e => hi (by rw [e]))]⟩
theorem OwnL.aside {w : World} {B : Nat} {v : Value} {l : List UInt8} (h : OwnL w B v l) (g j : Nat) (u : Value) (hg : g < B) : OwnL (w.setCell ⟨g, j, none⟩ u) B v l := by
  refine World.ownsRow.kept h (gro_cell w g j u) ?_
  by_cases hv : v.ownBlock = none
  · exact .inl hv
  · refine .inr fun e => ?_
    have := (World.ownsRow.lt h g e).1
    omega
theorem wp_appendL {w : World} {o : Oper} {a : Act} {K : Act → World → Prop} {Q : Exit → Act → World → Prop} (s x : Operand)
    (ho : o.op = .call { callee := .builtin .append, args := #[s, x], argTypes := #[26, 26] })
    (base : Nat) (v : Value) (l : List UInt8) (hs : a.eval s = v) (hown : OwnL w base v l)
    (b off : Nat) (n c : Nat) (r : List UInt8) (hx : a.eval x = .slice (some ⟨b, off, none⟩) n c) (hr : Row w (some ⟨b, off, none⟩) n r) (hn : 0 < n) (h47 : l.length + n ≤ 140737488355328) (hbase : base ≤ w.heap.size)
    (h : ∀ v' w', OwnL w' base v' (l ++ r) → w.grownBy w' v.ownBlock → K (a.put o.dst v') w') : o.wp Tryd.prog a w K Q := by
  obtain ⟨i0, hi, hz0, hz1, hz2⟩ := info_parts Tryd.infoSh8
  obtain ⟨hl, hr⟩ := hr
  have hnews : ∀ j u, (cellsB r)[j]? = some u → w.cell? ((⟨b, off, none⟩ : Addr).add j) = some u := by
    intro j u hj
    have hj' : j < r.length := by have := (List.getElem?_eq_some_iff.1 hj).1; rwa [cellsB_length] at this
    rcases hr with h0 | ⟨b', off', h1, hc⟩
    · omega
    · cases h1
      rw [Go.WideShapes.add_plain, hc j (by omega), ← cellsB_at r j hj', hj]
  obtain ⟨v', w', hrun, h2, h3, h4, h5⟩ := run_append_own_at (P := Tryd.prog) w base 26 o.type 5 i0 (.int .u8 0) 1 1 Tryd.underlying26 hi hz0 hz1 hz2 rfl (by decide) v l.length (cellsB l) hown ⟨b, off, none⟩ n c (cellsB r) (by rw [cellsB_length, hl, Nat.mul_one]) hnews (cellsB_one _) (by unfold maxLen; omega) (by omega) hbase
  unfold Oper.wp execOp
  simp only [ho, resolve, invoke, builtin, Sem.run_bind, Sem.run_pure, Result.andThen_ok, List.map_toArray, List.map_cons, List.map_nil, hs, hx, hrun]
  refine h v' w' ?_ h3
  unfold OwnL
  rw [List.length_append, cellsB_append, hl]
  exact h2
end Go.Proofs.YtnffmegicgbinabDoor
/- Rows that share makes: bytes by place, slices of bytes by place, shares by place. -/
namespace Go.Proofs.YtnffmegicgbinabDoor
open Go.RowKit
set_option linter.unusedVariables false
set_option linter.unusedSimpArgs false

theorem gr_setCellsS (g : Nat) : ∀ (vs : List Value) (o : Nat) (w : World), w.grownBy (w.setCells g o vs) (some g)
  | [], _, w => World.grownBy.refl w _
  | v :: r, o, w => by
    rw [World.setCells]
    have h := gro_cell w g o v
    have k := gr_setCellsS g r (o + 1) (w.setCell ⟨g, o, none⟩ v)
    exact ⟨k.os.trans h.os, k.tape.trans h.tape, k.output.trans h.output, Nat.le_trans h.size k.size, fun i hi hne => (k.block i (Nat.lt_of_lt_of_le hi h.size) hne).trans (h.block i hi hne)⟩
theorem own_thereS {w : World} {B g n cap size : Nat} {e : TypeId} {xs : List Value} (h : w.ownsRow B e size (.slice (some ⟨g, 0, none⟩) n cap) n xs) : w.there g 0 (n * size) := by
  intro j hj
  have hl := h.1
  rw [Nat.zero_add, World.ownsRow.cellAt h j hj, World.ownsRow.frozenAt h j, List.getElem?_eq_getElem (by omega)]
  exact ⟨rfl, rfl⟩
theorem there_belowB {w w' : World} {B g o n : Nat} (h : w.there g o n) (hb : Below B w w') (hg : g < B) : w'.there g o n := fun j hj => by
  have := h j hj
  rwa [← hb.cell (p := ⟨g, o + j, none⟩) hg, ← hb.frozen (p := ⟨g, o + j, none⟩) hg] at this
theorem Row.belowB {w w' : World} {B n : Nat} {ad : Option Addr} {l : List UInt8} (h : Row w ad n l) (hb : Below B w w') (hlt : ∀ x, ad = some x → x.block < B) : Row w' ad n l := by
  refine ⟨h.1, ?_⟩
  rcases h.2 with h0 | ⟨b, o, e, hc⟩
  · exact .inl h0
  · exact .inr ⟨b, o, e, fun i hi => (hb.cell (p := ⟨b, o + i, none⟩) (by show b < B; exact hlt _ e)).trans (hc i hi)⟩
/-- m bytes in a block, by place. -/
def BCells (w : World) (g m : Nat) (f : Nat → Nat) : Prop := w.there g 0 m ∧ ∀ j, j < m → w.cell? ⟨g, j, none⟩ = some (.int .u8 ((f j : Nat) : Int))
theorem BCells.made {w1 : World} {B g m : Nat} (h : w1.ownsRow B 5 1 (.slice (some ⟨g, 0, none⟩) m m) m (madeCells (Value.int .u8 0).cells (m * 1)).toList) : BCells w1 g m (fun _ => 0) := by
  have ht := own_thereS h
  rw [Nat.mul_one] at ht
  refine ⟨ht, fun j hj => ?_⟩
  have := World.ownsRow.cellAt h j (by omega)
  rw [this, show (Value.int .u8 0).cells = #[Value.int .u8 0] from rfl, toList_madeCells_one]
  simp [hj]
theorem BCells.below {w w' : World} {B g m : Nat} {f : Nat → Nat} (h : BCells w g m f) (hb : Below B w w') (hg : g < B) : BCells w' g m f :=
  ⟨there_belowB h.1 hb hg, fun j hj => (hb.cell (p := ⟨g, j, none⟩) hg).trans (h.2 j hj)⟩
theorem BCells.at {w : World} {g m i : Nat} {f : Nat → Nat} (h : BCells w g m f) (hi : i < m) : w.cell? ⟨g, i, none⟩ = some (.int .u8 ((f i : Nat) : Int)) ∧ w.frozen? ⟨g, i, none⟩ = false := by
  have := h.1 i hi
  rw [Nat.zero_add] at this
  exact ⟨h.2 i hi, this.2⟩
theorem BCells.set {w : World} {g m i v : Nat} {f f' : Nat → Nat} (h : BCells w g m f) (hi : i < m) (hf : ∀ j, j < m → f' j = if j = i then v else f j) : BCells (w.setCell ⟨g, i, none⟩ (.int .u8 (v : Int))) g m f' := by
  have e : w.setCell ⟨g, i, none⟩ (.int .u8 (v : Int)) = w.setCells g i [.int .u8 (v : Int)] := rfl
  refine ⟨by rw [e]; exact World.there_setCells h.1 _ _ _, fun j hj => ?_⟩
  rw [hf j hj]
  by_cases c : j = i
  · subst c
    rw [if_pos rfl]
    exact World.cell?_setCell_same' _ _ _ (by rw [h.2 j hj]; rfl)
  · rw [if_neg c]
    have q := World.cell?_setCell_other w ⟨g, i, none⟩ ⟨g, j, none⟩ (.int .u8 (v : Int)) (by intro q; have := congrArg Addr.off q; exact c this.symm)
    rw [q]
    exact h.2 j hj
theorem BCells.row {w : World} {g m : Nat} {f : Nat → Nat} {l : List UInt8} (h : BCells w g m f) (hl : l.length = m) (he : ∀ j, j < m → (l.getD j 0).toNat = f j) : Row w (some ⟨g, 0, none⟩) m l :=
  ⟨hl, .inr ⟨g, 0, rfl, fun i hi => by rw [Nat.zero_add, h.2 i hi, nth_toNat, he i hi]⟩⟩
/-- k slices of bytes in a block that has room for n. -/
def PCells (w : World) (g n k : Nat) (F : Nat → List UInt8) : Prop := w.there g 0 n ∧ ∀ i, i < k → ∃ (ad : Option Addr) (c : Nat), w.cell? ⟨g, i, none⟩ = some (.slice ad (F i).length c) ∧ (F i).length ≤ c ∧ Row w ad (F i).length (F i) ∧ ∀ x, ad = some x → x.block ≠ g ∧ x.block < w.heap.size
theorem PCells.made {w1 : World} {B g n : Nat} {xs : List Value} {F : Nat → List UInt8} (h : w1.ownsRow B 26 1 (.slice (some ⟨g, 0, none⟩) n n) n xs) : PCells w1 g n 0 F := by
  have ht := own_thereS h
  rw [Nat.mul_one] at ht
  exact ⟨ht, fun i hi => absurd hi (by omega)⟩
theorem PCells.below {w w' : World} {g n k : Nat} {F : Nat → List UInt8} (h : PCells w g n k F) (hb : Below w.heap.size w w') (hg : g < w.heap.size) : PCells w' g n k F := by
  refine ⟨there_belowB h.1 hb hg, fun i hi => ?_⟩
  obtain ⟨ad, c, h1, h2, h3, h4⟩ := h.2 i hi
  exact ⟨ad, c, (hb.cell (p := ⟨g, i, none⟩) hg).trans h1, h2, h3.below hb, fun x e => ⟨(h4 x e).1, Nat.lt_of_lt_of_le (h4 x e).2 hb.size⟩⟩
theorem PCells.put {w : World} {g n k c : Nat} {ad : Option Addr} {F : Nat → List UInt8} (h : PCells w g n k F) (hk : k < n) (hc : (F k).length ≤ c) (hR : Row w ad (F k).length (F k)) (hne : ∀ x, ad = some x → x.block ≠ g ∧ x.block < w.heap.size) : PCells (w.setCell ⟨g, k, none⟩ (.slice ad (F k).length c)) g n (k + 1) F := by
  have e : w.setCell ⟨g, k, none⟩ (.slice ad (F k).length c) = w.setCells g k [.slice ad (F k).length c] := rfl
  have hg := gro_cell w g k (.slice ad (F k).length c)
  have keep : ∀ (a : Option Addr) (m : Nat) (l : List UInt8), Row w a m l → (∀ x, a = some x → x.block ≠ g ∧ x.block < w.heap.size) → Row (w.setCell ⟨g, k, none⟩ (.slice ad (F k).length c)) a m l := fun a m l hr hn =>
    row_grown hr hg (.inr fun x e => by intro q; exact (hn x e).1 (Option.some.inj q).symm)
  have hs := hg.size
  refine ⟨by rw [e]; exact World.there_setCells h.1 _ _ _, fun i hi => ?_⟩
  by_cases c1 : i = k
  · subst c1
    refine ⟨ad, c, ?_, hc, keep _ _ _ hR hne, fun x e => ⟨(hne x e).1, Nat.lt_of_lt_of_le (hne x e).2 hs⟩⟩
    have := (h.1 i hk).1
    rw [Nat.zero_add] at this
    exact World.cell?_setCell_same' _ _ _ this
  · obtain ⟨a, c', h1, h2, h3, h4⟩ := h.2 i (by omega)
    refine ⟨a, c', ?_, h2, keep _ _ _ h3 h4, fun x e => ⟨(h4 x e).1, Nat.lt_of_lt_of_le (h4 x e).2 hs⟩⟩
    have q := World.cell?_setCell_other w ⟨g, k, none⟩ ⟨g, i, none⟩ (.slice ad (F k).length c) (by intro q; have := congrArg Addr.off q; exact c1 this.symm)
    rw [q]
    exact h1
theorem PCells.rows {w : World} {g n : Nat} {F : Nat → List UInt8} (h : PCells w g n n F) (hF : ∀ i, i < n → (F i).length ≤ 140737488351232) : BRowsB w (some ⟨g, 0, none⟩) n ((List.range n).map F) := by
  have e : ∀ i, i < n → ((List.range n).map F).getD i [] = F i := fun i hi => by rw [List.getD_eq_getElem?_getD, List.getElem?_map, List.getElem?_range hi]; rfl
  refine ⟨⟨by simp, .inr ⟨g, 0, rfl, fun i hi => ?_⟩⟩, fun i hi => by rw [e i hi]; exact hF i hi⟩
  obtain ⟨ad, c, h1, h2, h3, _⟩ := h.2 i hi
  exact ⟨ad, (F i).length, c, by rw [Nat.zero_add]; exact h1, h2, by rw [e i hi]; exact h3⟩
/-- k shares in a block that has room for n. -/
def SCells (w : World) (g n k : Nat) (S : Nat → Shr) : Prop := w.there g 0 (n * 2) ∧ ∀ i, i < k → (S i).1 < 256 ∧ (S i).2.length ≤ 140737488351232 ∧ ∃ (ad : Option Addr) (c : Nat), w.cell? ⟨g, i * 2, none⟩ = some (.int .u8 ((S i).1 : Int)) ∧ w.cell? ⟨g, i * 2 + 1, none⟩ = some (.slice ad (S i).2.length c) ∧ (S i).2.length ≤ c ∧ Row w ad (S i).2.length (S i).2 ∧ ∀ x, ad = some x → x.block ≠ g ∧ x.block < w.heap.size
theorem SCells.made {w1 : World} {B g n : Nat} {xs : List Value} {S : Nat → Shr} (h : w1.ownsRow B 36 2 (.slice (some ⟨g, 0, none⟩) n n) n xs) : SCells w1 g n 0 S :=
  ⟨own_thereS h, fun i hi => absurd hi (by omega)⟩
theorem SCells.below {w w' : World} {g n k : Nat} {S : Nat → Shr} (h : SCells w g n k S) (hb : Below w.heap.size w w') (hg : g < w.heap.size) : SCells w' g n k S := by
  refine ⟨there_belowB h.1 hb hg, fun i hi => ?_⟩
  obtain ⟨h0, h00, ad, c, h1, h2, h3, h4, h5⟩ := h.2 i hi
  exact ⟨h0, h00, ad, c, (hb.cell (p := ⟨g, i * 2, none⟩) hg).trans h1, (hb.cell (p := ⟨g, i * 2 + 1, none⟩) hg).trans h2, h3, h4.below hb, fun x e => ⟨(h5 x e).1, Nat.lt_of_lt_of_le (h5 x e).2 hb.size⟩⟩
theorem SCells.slot {w : World} {g n k : Nat} {S : Nat → Shr} (h : SCells w g n k S) {i : Nat} (hi : i < n) : w.there g (i * 2) 2 := fun j hj => by
  have := h.1 (i * 2 + j) (by omega)
  rwa [Nat.zero_add] at this
theorem SCells.put {w : World} {g n k c : Nat} {ad : Option Addr} {S : Nat → Shr} (h : SCells w g n k S) (hk : k < n) (h8 : (S k).1 < 256) (h47 : (S k).2.length ≤ 140737488351232) (hc : (S k).2.length ≤ c) (hR : Row w ad (S k).2.length (S k).2) (hne : ∀ x, ad = some x → x.block ≠ g ∧ x.block < w.heap.size) :
    SCells (w.setCells g (k * 2) (hdC ((S k).1, ad, (S k).2.length, c))) g n (k + 1) S := by
  have hg := gr_setCellsS g (hdC ((S k).1, ad, (S k).2.length, c)) (k * 2) w
  have keep : ∀ (a : Option Addr) (m : Nat) (l : List UInt8), Row w a m l → (∀ x, a = some x → x.block ≠ g ∧ x.block < w.heap.size) → Row (w.setCells g (k * 2) (hdC ((S k).1, ad, (S k).2.length, c))) a m l := fun a m l hr hn =>
    row_grown hr hg (.inr fun x e => by intro q; exact (hn x e).1 (Option.some.inj q).symm)
  have hs := hg.size
  refine ⟨World.there_setCells h.1 _ _ _, fun i hi => ?_⟩
  by_cases c1 : i = k
  · subst c1
    have hr : (w.setCells g (i * 2) (hdC ((S i).1, ad, (S i).2.length, c))).rangeAt g (i * 2) (hdC ((S i).1, ad, (S i).2.length, c)) := World.rangeAt_setCells_same _ _ _ _ (h.slot hk)
    exact ⟨h8, h47, ad, c, hr 0 _ rfl, hr 1 _ rfl, hc, keep _ _ _ hR hne, fun x e => ⟨(hne x e).1, Nat.lt_of_lt_of_le (hne x e).2 hs⟩⟩
  · obtain ⟨h0, h00, a, c', h1, h2, h3, h4, h5⟩ := h.2 i (by omega)
    have out : ∀ j, j < 2 → (w.setCells g (k * 2) (hdC ((S k).1, ad, (S k).2.length, c))).cell? ⟨g, i * 2 + j, none⟩ = w.cell? ⟨g, i * 2 + j, none⟩ := fun j hj =>
      World.cell?_setCells_out g _ _ _ ⟨g, i * 2 + j, none⟩ (fun _ _ => by
        show i * 2 + j < k * 2 ∨ k * 2 + (hdC ((S k).1, ad, (S k).2.length, c)).length ≤ i * 2 + j
        rw [hdC_length]
        omega)
    exact ⟨h0, h00, a, c', (out 0 (by omega)).trans h1, (out 1 (by omega)).trans h2, h3, keep _ _ _ h4 h5, fun x e => ⟨(h5 x e).1, Nat.lt_of_lt_of_le (h5 x e).2 hs⟩⟩
theorem SCells.rows {w : World} {g n : Nat} {S : Nat → Shr} {ss : List Shr} (h : SCells w g n n S) (hl : ss.length = n) (he : ∀ i, i < n → ss.getD i noS = S i) : SRow w (some ⟨g, 0, none⟩) n ss := by
  refine ⟨hl, .inr ⟨g, 0, rfl, fun i hi => ?_⟩⟩
  obtain ⟨h0, h00, ad, c, h1, h2, h3, h4, _⟩ := h.2 i hi
  rw [he i hi, Nat.zero_add]
  exact ⟨h0, h1, ad, (S i).2.length, c, h2, h3, h00, h4⟩
theorem wpList_storeShA {ops : Array Oper} {rest : List Oper} {o : Oper} {a : Act} {w : World} {Q : Exit → Act → World → Prop} (hg : o.guard = none) (x y : Operand) (ho : o.op = .store 36 x y)
    (b k : Nat) (hd : Hdr) (hx : a.eval x = .pointer (some ⟨b, k, none⟩)) (hy : a.eval y = hdV hd) (ht : w.there b k 2)
    (h : wpList Tryd.prog ops Q rest (a.put o.dst undef) (w.setCells b k (hdC hd))) : wpList Tryd.prog ops Q (o :: rest) a w :=
  wpList_store_mid hg 36 x y ho b k (hdC hd).toArray hx hy ht Tryd.sizeSh (all_oneCell_toArray (hdC_one hd)) h
theorem run_results_sh {fn : Func} {p : Tmp} (h : fn.results = #[.cell p 36]) (tmps : Array Value) (w : World) (b : Nat) (hp : tmps.getD p undef = .pointer (some ⟨b, 0, none⟩)) (hd : Hdr) (hc : w.rangeAt b 0 (hdC hd)) :
    (results fn tmps).run Tryd.prog w = .ok (hdV hd) w := by
  have hp' : tmps[p]?.getD undef = .pointer (some ⟨b, 0, none⟩) := by simpa using hp
  simp only [results, h]
  simp [Sem.run_bind, Result.andThen, hp', asAddr, run_loadVar_mid w b 0 36 (hdC hd) _ hc Tryd.underlying36 (by rfl) (by rw [hdC_length]; exact Tryd.sizeSh)]
  rfl
end Go.Proofs.YtnffmegicgbinabDoor
