/- Texts of this claim, joined: OpenD, Build, OwnD, Tree. -/
import Derived.Test.YtdgaimlccpmojaaGreatDoorJ03
import Derived.Test.YtdgaimlccpmojaaGreatDoorJ02
import Derived.Deep.Slices
import Derived.Test.YtdgaimlccpmojaaGreatDoorJ01
/- How an argument that is a digest, or a slice of digests, is opened. -/
namespace Go.Proofs.YtdgaimlccpmojaaGreatDoor
open Go.ChangeShapes Go.WideShapes Go.ChangeAt Go.RowKit
set_option linter.unusedVariables false
set_option linter.unusedSimpArgs false

/-- The byte that a value holds. -/
def byteOf : Value → UInt8
  | .int _ n => UInt8.ofNat n.toNat
  | _ => 0

section
variable {H : Type} {enc : TypeId × Value → H} {P : Program} {w : World} {base : Nat} {spare : Nat → Bool} {held : Bool} {t e : TypeId} {fuel : Nat}
theorem bytes_of_trod {cs : List Value} {x : DataW H × List MemPlace} (ht : P.underlying t = some (.array 32 e)) (he : P.underlying e = some (.int .u8)) (hce : P.cellsOf e = 1) (hct : P.cellsOf t = 32)
    (h : DataW.trod enc P w base spare held fuel t cs = some x) : ∃ l : List UInt8, l.length = 32 ∧ cs = cellsB l := by
  obtain ⟨xs, m, _, _, hl, hxs, hi⟩ := DataW.trod_array ht h
  rw [hct] at hl
  refine ⟨cs.map byteOf, by simp [hl], ?_⟩
  apply List.ext_getElem
  · simp [cellsB]
  · intro i h1 h2
    have hi' := hi i (by omega)
    rw [hce, Nat.mul_one, List.getElem?_eq_getElem (by omega)] at hi'
    obtain ⟨n, hn, _, hwf⟩ := DataW.trod_int he hi'
    have hb := wf_u8 hwf
    have hc : cs[i] = .int .u8 n := by
      have := congrArg List.head? hn
      simpa [List.head?_take, List.getElem?_eq_getElem h1] using this
    simp only [cellsB, List.getElem_map, hc, byteOf, UInt8.toNat_ofNat']
    congr 1
    omega
theorem open_digest {r : Reach} {b0 : Nat} {v : Value} {d : DataW H} {p : List MemPlace} (ht : P.underlying t = some (.array 32 e)) (he : P.underlying e = some (.int .u8)) (hce : P.cellsOf e = 1) (hct : P.cellsOf t = 32)
    (hv : Value.okWide P w r b0 t v) (h : DataW.Trod enc P w base spare held t v d p) : ∃ l : List UInt8, l.length = 32 ∧ v = digestV l := by
  obtain ⟨cs, rfl⟩ : ∃ cs, v = .agg cs := by
    simp only [Value.okWide, ht] at hv
    obtain ⟨cs, h1, _⟩ := hv
    exact ⟨cs, h1⟩
  obtain ⟨fuel, hf⟩ := h
  obtain ⟨l, hl, hc⟩ := bytes_of_trod ht he hce hct hf
  refine ⟨l, hl, ?_⟩
  have : cs.toList = cellsB l := hc
  show Value.agg cs = Value.agg (cellsB l).toArray
  rw [← this]
end

/-- A slice of n digests at a reads as the list ls. -/
def DRow (w : World) (a : Option Addr) (n : Nat) (ls : List (List UInt8)) : Prop :=
  ls.length = n ∧ (∀ l ∈ ls, l.length = 32) ∧ (n = 0 ∨ ∃ b o, a = some ⟨b, o, none⟩ ∧ ∀ i, i < n → DAt w b (o + 32 * i) (ls.getD i []))
theorem DRow.nil (w : World) : DRow w none 0 [] := ⟨rfl, (fun l hl => by cases hl), .inl rfl⟩
theorem DRow.len {w : World} {a : Option Addr} {n : Nat} {ls : List (List UInt8)} (h : DRow w a n ls) (i : Nat) (hi : i < n) : (ls.getD i []).length = 32 := by
  rw [List.getD_eq_getElem?_getD, List.getElem?_eq_getElem (by rw [h.1]; exact hi)]
  exact h.2.1 _ (List.getElem_mem _)
theorem DRow.below {w w' : World} {a : Option Addr} {n : Nat} {ls : List (List UInt8)} (h : DRow w a n ls) (hb : Below w.heap.size w w') : DRow w' a n ls := by
  have hlen := h.len
  obtain ⟨h1, h2, h3⟩ := h
  refine ⟨h1, h2, ?_⟩
  rcases h3 with h3 | ⟨b, o, ha, hc⟩
  · exact .inl h3
  · exact .inr ⟨b, o, ha, fun i hi => (hc i hi).below hb (cell_block ((hc i hi).cell 0 (by rw [hlen i hi]; omega)))⟩

theorem open_digests {H : Type} {enc : TypeId × Value → H} {P : Program} {w : World} {base : Nat} {held : Bool} {t e f : TypeId} {fuel : Nat} {a : Option Addr} {len cap : Nat} {d : DataW H} {p : List MemPlace}
    (ht : P.underlying t = some (.slice e)) (he : P.underlying e = some (.array 32 f)) (hf : P.underlying f = some (.int .u8)) (hcf : P.cellsOf f = 1) (hce : P.cellsOf e = 32)
    (h : DataW.trod enc P w base (fun _ => true) held fuel t [.slice a len cap] = some (d, p)) :
    ∃ ls, DRow w a len ls ∧ (len = 0 ∨ ∃ elems spare, d = .slice elems spare ∧ elems.length = len) := by
  rcases Go.Deep.open_slice ht h with ⟨hcs, _⟩ | ⟨x, l, c, m, n, D, Pl, hcs, _, hlc, hm, hmm, hx, hel⟩
  · simp at hcs
    obtain ⟨rfl, rfl, rfl⟩ := hcs
    exact ⟨[], DRow.nil w, .inl rfl⟩
  · simp at hcs
    obtain ⟨rfl, rfl, rfl⟩ := hcs
    simp only [if_true] at hmm
    subst hmm
    simp only [Prod.mk.injEq] at hx
    have each : ∀ i, i < len → ∃ q : List UInt8, q.length = 32 ∧ ∀ j, j < 32 → w.cell? ((x.add (i * 32)).add j) = some (.int .u8 (nth q j)) := by
      intro i hi
      obtain ⟨cs', hc, htr⟩ := hel i (by omega)
      obtain ⟨q, hq, rfl⟩ := bytes_of_trod he hf hcf hce htr
      refine ⟨q, hq, fun j hj => ?_⟩
      rw [hce] at hc
      have hs := World.cells?_some hc
      rw [hs.2.2 j hj, ← cellsB_at q j (by omega)]
    let ls := (List.range len).map fun i => if h : i < len then (each i h).choose else []
    have hls : ∀ i, i < len → ∃ h : i < len, ls.getD i [] = (each i h).choose := fun i hi => ⟨hi, by simp [ls, List.getD_eq_getElem?_getD, hi]⟩
    refine ⟨ls, ⟨by simp [ls], ?_, ?_⟩, .inr ⟨_, _, hx.1, by simp⟩⟩
    · intro l hl
      obtain ⟨i, hi, rfl⟩ := List.mem_map.1 hl
      have hi' := List.mem_range.1 hi
      rw [dif_pos hi']
      exact (each i hi').choose_spec.1
    · by_cases h0 : len = 0
      · exact .inl h0
      · obtain ⟨b, off, spot⟩ := x
        have hspot : spot = none := by
          obtain ⟨q, hq, hc⟩ := each 0 (by omega)
          simpa [Addr.add] using World.cell?_spot (hc 0 (by omega))
        subst hspot
        refine .inr ⟨b, off, rfl, fun i hi => ?_⟩
        obtain ⟨hi', e1⟩ := hls i hi
        rw [e1]
        have sp := (each i hi').choose_spec
        refine DAt.mk fun j hj => ?_
        have := sp.2 j (by omega)
        refine Eq.trans (congrArg w.cell? ?_) this
        rw [add_plain, add_plain, show off + 32 * i + j = off + i * 32 + j from by omega]
end Go.Proofs.YtdgaimlccpmojaaGreatDoor
/- Slices of digests that a literal lays. -/
namespace Go.Proofs.YtdgaimlccpmojaaGreatDoor
open Go.RowKit
set_option linter.unusedVariables false
set_option linter.unusedSimpArgs false

theorem fold_set (off : Nat) : ∀ (l : List Value) (j : Nat) (b : Array Value), off + j + l.length ≤ b.size →
    ((l.zipIdx j).foldl (fun cs (x : Value × Nat) => cs.setIfInBounds (off + x.2) x.1) b).toList = b.toList.take (off + j) ++ l ++ b.toList.drop (off + j + l.length)
  | [], j, b, h => by simp
  | c :: r, j, b, h => by
    rw [List.zipIdx_cons, List.foldl_cons, fold_set off r (j + 1) _ (by simp; simp at h; omega)]
    simp only [Array.toList_setIfInBounds]
    have hlt : off + j < b.toList.length := by simp at h ⊢; omega
    have e1 : (b.toList.set (off + j) c).take (off + (j + 1)) = b.toList.take (off + j) ++ [c] := by
      rw [show off + (j + 1) = off + j + 1 from by omega, List.take_succ_eq_append_getElem (by simpa using hlt)]
      rw [List.take_set_of_le (Nat.le_refl _)]
      simp
    have e2 : (b.toList.set (off + j) c).drop (off + (j + 1) + r.length) = b.toList.drop (off + j + (c :: r).length) := by
      rw [List.drop_set_of_lt (by omega)]
      congr 1
      simp; omega
    rw [e1, e2]
    simp
theorem fill_digests : ∀ (ls : List (List UInt8)) (k : Nat) (b : Array Value), (∀ l ∈ ls, l.length = 32) → b.size = 32 * (k + ls.length) →
    ∃ r : Array Value, Instr.fill (fun i => some (i * 32, 32)) b ((ls.zipIdx k).map fun x => (x.2, digestV x.1)) = some r ∧ r.toList = b.toList.take (32 * k) ++ cellsB ls.flatten
  | [], k, b, _, hb => ⟨b, rfl, by simp at hb; rw [List.take_of_length_le (by simp; omega)]; simp [cellsB]⟩
  | l :: ls, k, b, hl, hb => by
    have h32 : l.length = 32 := hl l (List.mem_cons_self ..)
    have hsz : (digestV l).cells.size = 32 := by
      show (cellsB l).toArray.size = 32
      exact cells32 h32
    have hlen : (cellsB l).length = 32 := by rw [cellsB_length, h32]
    let b' := (digestV l).cells.zipIdx.foldl (fun cs (x : Value × Nat) => cs.setIfInBounds (k * 32 + x.2) x.1) b
    have hb' : b'.toList = b.toList.take (k * 32) ++ cellsB l ++ b.toList.drop (k * 32 + 32) := by
      have := fold_set (k * 32) (cellsB l) 0 b (by simp at hb; omega)
      rw [Nat.add_zero, hlen] at this
      rw [← this]
      show ((cellsB l).toArray.zipIdx.foldl _ b).toList = _
      rw [← Array.foldl_toList, Array.toList_zipIdx]
    have hbs : b'.size = b.size := by
      rw [← Array.length_toList, hb']
      simp [hlen]
      simp at hb
      omega
    obtain ⟨r, hr, hrl⟩ := fill_digests ls (k + 1) b' (fun x hx => hl x (List.mem_cons_of_mem _ hx)) (by rw [hbs, hb]; simp; omega)
    refine ⟨r, ?_, ?_⟩
    · rw [List.zipIdx_cons, List.map_cons]
      unfold Instr.fill
      simp only
      rw [if_neg (by simp only [hsz]; simp; simp at hb; omega)]
      exact hr
    · rw [hrl, hb', List.flatten_cons, cellsB_append]
      have e : 32 * (k + 1) = (b.toList.take (k * 32) ++ cellsB l).length := by simp [hlen]; simp at hb; omega
      rw [e, List.take_left, List.append_assoc, Nat.mul_comm k 32]

section
variable {P : Program}
/-- 'a literal of digests': a new row that reads as they do. -/
theorem run_buildD (w : World) (t e : TypeId) (z : Value) (i : TypeInfo) (ls : List (List UInt8)) (hls : ∀ l ∈ ls, l.length = 32) (h0 : 0 < ls.length) (hn : ls.length ≤ 10000) (ht : P.underlying t = some (.slice e)) (hi : P.info? e = some i) (hz : i.zero = some z) (hzs : z.cells.size = 32) (hsize : i.size = 32) :
    (Instr.buildSlice t ls.length ((ls.zipIdx 0).map fun x => (x.2, digestV x.1)).toArray).run P w = .ok (.slice (some ⟨w.heap.size, 0, none⟩) ls.length ls.length) (w.alloc (.cells (cellsB ls.flatten).toArray e)) := by
  obtain ⟨r, hr, hrl⟩ := fill_digests ls 0 ((Array.range (ls.length * 32)).map (z.cells[· % z.cells.size]!)) hls (by simp; omega)
  have hr' : r = (cellsB ls.flatten).toArray := by
    rw [← Array.toArray_toList (xs := r), hrl]
    simp
  subst hr'
  rw [hzs] at hr
  have hne : ¬ ls.length * 32 = 0 := by omega
  simp [Instr.buildSlice, run_underlying ht, sizeOf, typeInfo, hi, hsize, zeroValue, hz, hr, newRow, hzs, show ¬ (16777216 < ls.length * 32) by omega, hne]
/-- .. as a step of a walk, of one digest. -/
theorem wpList_build1 {w : World} {ops : Array Oper} {rest : List Oper} {o : Oper} {a : Act} {Q : Exit → Act → World → Prop} (hgd : o.guard = none) (x : Operand) (t : TypeId) (ho : o.op = .buildSlice t 1 #[(0, x)])
    (e : TypeId) (z : Value) (i : TypeInfo) (l : List UInt8) (hl : l.length = 32) (hx : a.eval x = digestV l) (ht : P.underlying t = some (.slice e)) (hi : P.info? e = some i) (hz : i.zero = some z) (hzs : z.cells.size = 32) (hsize : i.size = 32)
    (h : wpList P ops Q rest (a.put o.dst (.slice (some ⟨w.heap.size, 0, none⟩) 1 1)) (w.alloc (.cells (cellsB l).toArray e))) : wpList P ops Q (o :: rest) a w := by
  have hrun := run_buildD (P := P) w t e z i [l] (by intro q hq; rw [List.mem_singleton] at hq; rw [hq]; exact hl) (by simp) (by simp) ht hi hz hzs hsize
  simp only [List.length_singleton, List.zipIdx_cons, List.zipIdx_nil, List.map_cons, List.map_nil, List.flatten_cons, List.flatten_nil, List.append_nil] at hrun
  refine wpList_plain hgd fun K hK' => ?_
  unfold Oper.wp
  simp [execOp, ho, hx, hrun, Result.andThen]
  exact hK' _ _ h
/-- .. of two. -/
theorem wpList_build2 {w : World} {ops : Array Oper} {rest : List Oper} {o : Oper} {a : Act} {Q : Exit → Act → World → Prop} (hgd : o.guard = none) (x y : Operand) (t : TypeId) (ho : o.op = .buildSlice t 2 #[(0, x), (1, y)])
    (e : TypeId) (z : Value) (i : TypeInfo) (l r : List UInt8) (hl : l.length = 32) (hr : r.length = 32) (hx : a.eval x = digestV l) (hy : a.eval y = digestV r) (ht : P.underlying t = some (.slice e)) (hi : P.info? e = some i) (hz : i.zero = some z) (hzs : z.cells.size = 32) (hsize : i.size = 32)
    (h : wpList P ops Q rest (a.put o.dst (.slice (some ⟨w.heap.size, 0, none⟩) 2 2)) (w.alloc (.cells (cellsB (l ++ r)).toArray e))) : wpList P ops Q (o :: rest) a w := by
  have hrun := run_buildD (P := P) w t e z i [l, r] (by intro q hq; simp only [List.mem_cons, List.not_mem_nil, or_false] at hq; rcases hq with rfl | rfl <;> assumption) (by simp) (by simp) ht hi hz hzs hsize
  simp only [List.length_cons, List.length_nil, List.zipIdx_cons, List.zipIdx_nil, List.map_cons, List.map_nil, List.flatten_cons, List.flatten_nil, List.append_nil, Nat.zero_add, Nat.reduceAdd] at hrun
  refine wpList_plain hgd fun K hK' => ?_
  unfold Oper.wp
  simp [execOp, ho, hx, hy, hrun, Result.andThen]
  exact hK' _ _ h
end
theorem cells_new (w : World) (cs : List Value) (t : TypeId) (j : Nat) : (w.alloc (.cells cs.toArray t)).cell? ⟨w.heap.size, j, none⟩ = cs[j]? := by
  have h : (w.alloc (.cells cs.toArray t)).heap[w.heap.size]? = some (.cells cs.toArray t) := by
    show (w.heap.push _)[w.heap.size]? = _
    simp
  unfold World.cell?
  rw [h]
  simp
theorem DRow.lit1 (w : World) (l : List UInt8) (t : TypeId) (hl : l.length = 32) : DRow (w.alloc (.cells (cellsB l).toArray t)) (some ⟨w.heap.size, 0, none⟩) 1 [l] := by
  refine ⟨rfl, by intro q hq; rw [List.mem_singleton] at hq; rw [hq]; exact hl, .inr ⟨w.heap.size, 0, rfl, fun i hi => ?_⟩⟩
  obtain rfl : i = 0 := by omega
  exact box_dat w l t
theorem DRow.lit2 (w : World) (l r : List UInt8) (t : TypeId) (hl : l.length = 32) (hr : r.length = 32) : DRow (w.alloc (.cells (cellsB (l ++ r)).toArray t)) (some ⟨w.heap.size, 0, none⟩) 2 [l, r] := by
  refine ⟨rfl, by intro q hq; simp only [List.mem_cons, List.not_mem_nil, or_false] at hq; rcases hq with rfl | rfl <;> assumption, .inr ⟨w.heap.size, 0, rfl, fun i hi => ?_⟩⟩
  have : i = 0 ∨ i = 1 := by omega
  rcases this with rfl | rfl
  · refine DAt.mk fun j hj => ?_
    have hj' : j < l.length := hj
    rw [show 0 + 32 * 0 + j = j from by omega, cells_new, cellsB_append, List.getElem?_append_left (by rw [cellsB_length]; exact hj'), cellsB_at l j hj']
    rfl
  · refine DAt.mk fun j hj => ?_
    have hj' : j < r.length := hj
    rw [show 0 + 32 * 1 + j = 32 + j from by omega, cells_new, cellsB_append, List.getElem?_append_right (by rw [cellsB_length]; omega), cellsB_length, hl, show 32 + j - 32 = j from by omega, cellsB_at r j hj']
    rfl
end Go.Proofs.YtdgaimlccpmojaaGreatDoor
/- Rows of digests that a call itself made: read, and appended to. -/
namespace Go.Proofs.YtdgaimlccpmojaaGreatDoor
open Go.RowKit
set_option linter.unusedVariables false
set_option linter.unusedSimpArgs false

theorem flat_len {ls : List (List UInt8)} (h : ∀ l ∈ ls, l.length = 32) : ls.flatten.length = 32 * ls.length := by
  induction ls with
  | nil => rfl
  | cons l r ih =>
    rw [List.flatten_cons, List.length_append, h l (List.mem_cons_self ..), ih (fun x hx => h x (List.mem_cons_of_mem _ hx)), List.length_cons]
    omega
theorem nth_flat : ∀ {ls : List (List UInt8)}, (∀ l ∈ ls, l.length = 32) → ∀ (i j : Nat), i < ls.length → j < 32 → nth ls.flatten (32 * i + j) = nth (ls.getD i []) j
  | [], _, i, j, hi, _ => by simp at hi
  | l :: r, h, i, j, hi, hj => by
    have hl := h l (List.mem_cons_self ..)
    cases i with
    | zero =>
      unfold nth
      simp only [List.flatten_cons, List.getD_eq_getElem?_getD, Nat.mul_zero, Nat.zero_add]
      rw [List.getElem?_append_left (by omega)]
      rfl
    | succ i =>
      have ih := nth_flat (fun x hx => h x (List.mem_cons_of_mem _ hx)) i j (by simpa using hi) hj
      unfold nth at ih ⊢
      simp only [List.flatten_cons, List.getD_eq_getElem?_getD] at ih ⊢
      rw [List.getElem?_append_right (by omega), hl, show 32 * (i + 1) + j - 32 = 32 * i + j by omega, ih]
      rfl
/-- The call's own slice of digests v reads as ls. -/
def OwnD (w : World) (B : Nat) (v : Value) (ls : List (List UInt8)) : Prop := (∀ l ∈ ls, l.length = 32) ∧ w.ownsRow B 23 32 v ls.length (cellsB ls.flatten)
theorem OwnD.nil (w : World) (B : Nat) : OwnD w B (.slice none 0 0) [] := ⟨(fun l hl => by cases hl), World.ownsRow_nil _ _ _ _⟩
theorem OwnD.form {w : World} {B : Nat} {v : Value} {ls : List (List UInt8)} (h : OwnD w B v ls) : ∃ a cap, v = .slice a ls.length cap ∧ DRow w a ls.length ls ∧ ls.length ≤ cap := by
  obtain ⟨h32, h⟩ := h
  rcases h.2 with ⟨rfl, h0⟩ | ⟨g, cap, cur, rfl, h1, h2, h3, _⟩
  · exact ⟨none, 0, by rw [h0], ⟨rfl, h32, .inl h0⟩, by omega⟩
  · refine ⟨_, cap, rfl, ⟨rfl, h32, .inr ⟨g, 0, rfl, fun i hi => DAt.mk fun j hj => ?_⟩⟩, h3⟩
    have hlen : (ls.getD i []).length = 32 := by
      rw [List.getD_eq_getElem?_getD, List.getElem?_eq_getElem hi]
      exact h32 _ (List.getElem_mem _)
    rw [hlen] at hj
    have hf := flat_len h32
    rw [Nat.zero_add, World.ownsRow.cellAt h (32 * i + j) (by omega), cellsB_at _ _ (by omega), nth_flat h32 i j hi hj]
theorem OwnD.below {w w' : World} {B : Nat} {v : Value} {ls : List (List UInt8)} (h : OwnD w B v ls) (hb : Below w.heap.size w w') : OwnD w' B v ls := by
  refine ⟨h.1, ?_⟩
  have h := h.2
  rcases h.2 with ⟨h1, h0⟩ | ⟨g, cap, cur, e1, e2, e3, e4⟩
  · exact ⟨h.1, .inl ⟨h1, h0⟩⟩
  · have hg : g < w.heap.size := (World.ownsRow.lt h g (by rw [e1]; rfl)).2
    exact ⟨h.1, .inr ⟨g, cap, cur, e1, e2, (hb.block g hg).trans e3, e4⟩⟩
theorem OwnD.grown {w w0 w' : World} {B B0 : Nat} {v : Value} {ls : List (List UInt8)} (h : OwnD w B v ls) (hb : Below B0 w0 w) (hg : w.grownBy w' v.ownBlock) (h0 : B0 ≤ B) (hs : B0 ≤ w.heap.size) : Below B0 w0 w' :=
  hb.grown hg hs (fun k hk => Nat.le_trans h0 (World.ownsRow.lt h.2 k hk).1)
theorem OwnD.alloc {w : World} {B : Nat} {v : Value} {ls : List (List UInt8)} (h : OwnD w B v ls) (o : Obj) : OwnD (w.alloc o) B v ls := h.below ((Below.refl _ _).alloc (Nat.le_refl _) _)
theorem Tryz.infoDg : (Tryz.prog.info? 23).map (fun i => (i.zero, i.size, i.bytes)) = some (some (.agg zeros32), 32, 32) := by kernel_rfl
/-- 'append(v, ds...)', v the call's own row of digests. -/
theorem wpList_append_digests {w : World} {ops : Array Oper} {rest : List Oper} {o : Oper} {a : Act} {Q : Exit → Act → World → Prop} (hgd : o.guard = none) (s x : Operand)
    (ho : o.op = .call { callee := .builtin .append, args := #[s, x], argTypes := #[24, 24] })
    (base : Nat) (v : Value) (ls : List (List UInt8)) (hs : a.eval s = v) (hown : OwnD w base v ls)
    (ad : Addr) (n c : Nat) (ds : List (List UInt8)) (hx : a.eval x = .slice (some ad) n c) (hr : DRow w (some ad) n ds) (hn0 : 0 < n) (h47 : (ls.length + n) * 32 ≤ 140737488355328) (hbase : base ≤ w.heap.size)
    (h : ∀ v' w', OwnD w' base v' (ls ++ ds) → w.grownBy w' v.ownBlock → (v'.ownBlock = v.ownBlock ∨ v'.ownBlock = some w.heap.size) → wpList Tryz.prog ops Q rest (a.put o.dst v') w') : wpList Tryz.prog ops Q (o :: rest) a w := by
  obtain ⟨i0, hi, hz0, hz1, hz2⟩ := info_parts Tryz.infoDg
  have hlen := hr.len
  obtain ⟨hl, h32, h1 | ⟨b, off, e1, hc⟩⟩ := hr
  · omega
  cases e1
  have hf := flat_len h32
  refine wpList_append_own_at w hgd s x 24 ho base 23 i0 (.agg zeros32) 32 32 Tryz.underlying24 hi hz0 hz1 hz2 rfl (by decide) v ls.length (cellsB ls.flatten) hs hown.2 ⟨b, off, none⟩ n c (cellsB ds.flatten) hx (by rw [cellsB_length, hf, hl]; omega) ?_ (cellsB_one _) (by unfold maxLen; omega) h47 hbase ?_
  · intro j u hj
    have hj' : j < ds.flatten.length := by have := (List.getElem?_eq_some_iff.1 hj).1; rwa [cellsB_length] at this
    have hq : j / 32 < n := by omega
    have hm : j % 32 < 32 := Nat.mod_lt _ (by omega)
    have e : j = 32 * (j / 32) + j % 32 := by omega
    rw [Go.WideShapes.add_plain, ← hj, cellsB_at _ j hj']
    have := (hc (j / 32) hq).cell (j % 32) (by rw [hlen _ hq]; exact hm)
    rw [show off + 32 * (j / 32) + j % 32 = off + j by omega] at this
    rw [this]
    have hn := nth_flat h32 (j / 32) (j % 32) (by omega) hm
    rw [← e] at hn
    rw [hn]
  · intro v' w' hown' hgrow _ hat
    refine h v' w' ⟨?_, ?_⟩ hgrow hat
    · intro l hl'
      rcases List.mem_append.1 hl' with h' | h'
      · exact hown.1 l h'
      · exact h32 l h'
    · rw [List.length_append, List.flatten_append, cellsB_append, hl]
      exact hown'
end Go.Proofs.YtdgaimlccpmojaaGreatDoor
/- Plain definitions for trees of digests: no theorem of the program yet. -/
namespace Go.Proofs.YtdgaimlccpmojaaGreatDoor
set_option linter.unusedVariables false
set_option linter.unusedSimpArgs false

def leafT (b : List UInt8) : List UInt8 := shaL (0 :: b)
def nodeT (l r : List UInt8) : List UInt8 := shaL (1 :: (l ++ r))
theorem leafT_length (b : List UInt8) : (leafT b).length = 32 := shaL_length _
theorem nodeT_length (l r : List UInt8) : (nodeT l r).length = 32 := shaL_length _
/-- The greatest power of 2 below n, from k on. -/
def halfF : Nat → Nat → Nat → Nat
  | 0, k, _ => k
  | f + 1, k, n => if 2 * k < n then halfF f (2 * k) n else k
def halfT (n : Nat) : Nat := halfF n 1 n
theorem halfF_lt : ∀ f k n, k < n → halfF f k n < n
  | 0, k, n, h => h
  | f + 1, k, n, h => by
    rw [halfF]
    by_cases c : 2 * k < n
    · rw [if_pos c]; exact halfF_lt f (2 * k) n c
    · rw [if_neg c]; exact h
theorem halfF_ge : ∀ f k n, k ≤ halfF f k n
  | 0, k, n => Nat.le_refl _
  | f + 1, k, n => by
    rw [halfF]
    by_cases c : 2 * k < n
    · rw [if_pos c]; have := halfF_ge f (2 * k) n; omega
    · rw [if_neg c]; exact Nat.le_refl _
theorem halfF_two : ∀ f k n, 0 < k → n ≤ k + f → n ≤ 2 * halfF f k n
  | 0, k, n, h0, h => by rw [halfF]; omega
  | f + 1, k, n, h0, h => by
    rw [halfF]
    by_cases c : 2 * k < n
    · rw [if_pos c]; exact halfF_two f (2 * k) n (by omega) (by omega)
    · rw [if_neg c]; omega
theorem halfT_lt {n : Nat} (h : 2 ≤ n) : halfT n < n := halfF_lt n 1 n (by omega)
theorem halfT_pos (n : Nat) : 0 < halfT n := halfF_ge n 1 n
theorem halfT_two (n : Nat) : n ≤ 2 * halfT n := halfF_two n 1 n (by omega) (by omega)
/-- The Root of leaves. -/
def rootT (ls : List (List UInt8)) : List UInt8 :=
  if h : 2 ≤ ls.length then nodeT (rootT (ls.take (halfT ls.length))) (rootT (ls.drop (halfT ls.length)))
  else if ls.length = 0 then shaL [] else ls.getD 0 []
termination_by ls.length
decreasing_by
  · have := halfT_lt h
    rw [List.length_take]; omega
  · have := halfT_pos ls.length
    rw [List.length_drop]; omega
theorem rootT_two {ls : List (List UInt8)} (h : 2 ≤ ls.length) : rootT ls = nodeT (rootT (ls.take (halfT ls.length))) (rootT (ls.drop (halfT ls.length))) := by
  rw [rootT, dif_pos h]
theorem rootT_one {ls : List (List UInt8)} (h : ls.length = 1) : rootT ls = ls.getD 0 [] := by
  rw [rootT, dif_neg (by omega), if_neg (by omega)]
theorem rootT_none {ls : List (List UInt8)} (h : ls.length = 0) : rootT ls = shaL [] := by
  rw [rootT, dif_neg (by omega), if_pos h]
theorem rootT_length {ls : List (List UInt8)} (h : ∀ l ∈ ls, l.length = 32) : (rootT ls).length = 32 := by
  by_cases h2 : 2 ≤ ls.length
  · rw [rootT_two h2]; exact nodeT_length _ _
  · by_cases h0 : ls.length = 0
    · rw [rootT_none h0]; exact shaL_length _
    · rw [rootT_one (by omega)]
      have : 0 < ls.length := by omega
      rw [List.getD_eq_getElem?_getD, List.getElem?_eq_getElem this]
      exact h _ (List.getElem_mem _)
/-- The Path of leaf i. -/
def pathT (ls : List (List UInt8)) (i : Nat) : List (List UInt8) :=
  if h : 2 ≤ ls.length then
    if i < halfT ls.length then pathT (ls.take (halfT ls.length)) i ++ [rootT (ls.drop (halfT ls.length))]
    else pathT (ls.drop (halfT ls.length)) (i - halfT ls.length) ++ [rootT (ls.take (halfT ls.length))]
  else []
termination_by ls.length
decreasing_by
  · have := halfT_lt h
    rw [List.length_take]; omega
  · have := halfT_pos ls.length
    rw [List.length_drop]; omega
theorem pathT_lo {ls : List (List UInt8)} {i : Nat} (h : 2 ≤ ls.length) (hi : i < halfT ls.length) : pathT ls i = pathT (ls.take (halfT ls.length)) i ++ [rootT (ls.drop (halfT ls.length))] := by
  rw [pathT, dif_pos h, if_pos hi]
theorem pathT_hi {ls : List (List UInt8)} {i : Nat} (h : 2 ≤ ls.length) (hi : ¬ i < halfT ls.length) : pathT ls i = pathT (ls.drop (halfT ls.length)) (i - halfT ls.length) ++ [rootT (ls.take (halfT ls.length))] := by
  rw [pathT, dif_pos h, if_neg hi]
theorem pathT_one {ls : List (List UInt8)} {i : Nat} (h : ¬ 2 ≤ ls.length) : pathT ls i = [] := by
  rw [pathT, dif_neg h]
/-- How long the path of leaf i of n is. -/
def longT (i n : Nat) : Nat :=
  if h : 2 ≤ n then if i < halfT n then 1 + longT i (halfT n) else 1 + longT (i - halfT n) (n - halfT n) else 0
termination_by n
decreasing_by
  · exact halfT_lt h
  · have := halfT_pos n; omega
theorem longT_lo {i n : Nat} (h : 2 ≤ n) (hi : i < halfT n) : longT i n = 1 + longT i (halfT n) := by rw [longT, dif_pos h, if_pos hi]
theorem longT_hi {i n : Nat} (h : 2 ≤ n) (hi : ¬ i < halfT n) : longT i n = 1 + longT (i - halfT n) (n - halfT n) := by rw [longT, dif_pos h, if_neg hi]
theorem longT_one {i n : Nat} (h : ¬ 2 ≤ n) : longT i n = 0 := by rw [longT, dif_neg h]
theorem longT_le : ∀ (n i : Nat), longT i n ≤ n := by
  intro n
  induction n using Nat.strongRecOn with
  | ind n ih =>
    intro i
    by_cases h : 2 ≤ n
    · have h1 := halfT_lt h
      have h2 := halfT_pos n
      by_cases hi : i < halfT n
      · rw [longT_lo h hi]; have := ih (halfT n) h1 i; omega
      · rw [longT_hi h hi]; have := ih (n - halfT n) (by omega) (i - halfT n); omega
    · rw [longT_one h]; omega
/-- The root that a leaf and a path have. -/
def foldT (l : List UInt8) (i n : Nat) (path : List (List UInt8)) : List UInt8 :=
  if h : 2 ≤ n then
    if i < halfT n then nodeT (foldT l i (halfT n) (path.take (path.length - 1))) (path.getD (path.length - 1) [])
    else nodeT (path.getD (path.length - 1) []) (foldT l (i - halfT n) (n - halfT n) (path.take (path.length - 1)))
  else l
termination_by n
decreasing_by
  · exact halfT_lt h
  · have := halfT_pos n; omega
theorem foldT_lo {l : List UInt8} {i n : Nat} {path : List (List UInt8)} (h : 2 ≤ n) (hi : i < halfT n) : foldT l i n path = nodeT (foldT l i (halfT n) (path.take (path.length - 1))) (path.getD (path.length - 1) []) := by rw [foldT, dif_pos h, if_pos hi]
theorem foldT_hi {l : List UInt8} {i n : Nat} {path : List (List UInt8)} (h : 2 ≤ n) (hi : ¬ i < halfT n) : foldT l i n path = nodeT (path.getD (path.length - 1) []) (foldT l (i - halfT n) (n - halfT n) (path.take (path.length - 1))) := by rw [foldT, dif_pos h, if_neg hi]
theorem foldT_one {l : List UInt8} {i n : Nat} {path : List (List UInt8)} (h : ¬ 2 ≤ n) : foldT l i n path = l := by rw [foldT, dif_neg h]
theorem foldT_length {l : List UInt8} (hl : l.length = 32) (i n : Nat) (path : List (List UInt8)) : (foldT l i n path).length = 32 := by
  by_cases h : 2 ≤ n
  · by_cases hi : i < halfT n
    · rw [foldT_lo h hi]; exact nodeT_length _ _
    · rw [foldT_hi h hi]; exact nodeT_length _ _
  · rw [foldT_one h]; exact hl
theorem snoc_last (p : List (List UInt8)) (x : List UInt8) : (p ++ [x]).getD ((p ++ [x]).length - 1) [] = x := by
  rw [List.length_append, List.length_singleton, Nat.add_sub_cancel, List.getD_eq_getElem?_getD, List.getElem?_append_right (Nat.le_refl _), Nat.sub_self]
  rfl
theorem snoc_init (p : List (List UInt8)) (x : List UInt8) : (p ++ [x]).take ((p ++ [x]).length - 1) = p := by
  rw [List.length_append, List.length_singleton, Nat.add_sub_cancel, List.take_left']
  rfl
theorem getD_take {ls : List (List UInt8)} {i k : Nat} (h : i < k) : (ls.take k).getD i [] = ls.getD i [] := by
  rw [List.getD_eq_getElem?_getD, List.getD_eq_getElem?_getD, List.getElem?_take_of_lt h]
theorem getD_drop (ls : List (List UInt8)) (i k : Nat) : (ls.drop k).getD i [] = ls.getD (k + i) [] := by
  rw [List.getD_eq_getElem?_getD, List.getD_eq_getElem?_getD, List.getElem?_drop]
/-- A leaf and its path are the root; the path is as long as it must be. -/
theorem fold_path : ∀ (n : Nat) (ls : List (List UInt8)) (i : Nat), ls.length = n → i < n → foldT (ls.getD i []) i n (pathT ls i) = rootT ls ∧ (pathT ls i).length = longT i n := by
  intro n
  induction n using Nat.strongRecOn with
  | ind n ih =>
    intro ls i hl hi
    subst hl
    by_cases h : 2 ≤ ls.length
    · have h1 := halfT_lt h
      have h2 := halfT_pos ls.length
      by_cases c : i < halfT ls.length
      · obtain ⟨e1, e2⟩ := ih (halfT ls.length) h1 (ls.take (halfT ls.length)) i (by rw [List.length_take]; omega) c
        rw [foldT_lo h c, rootT_two h, longT_lo h c, pathT_lo h c, snoc_last, snoc_init]
        rw [getD_take c] at e1
        refine ⟨by rw [e1], ?_⟩
        rw [List.length_append, e2, List.length_singleton]; omega
      · obtain ⟨e1, e2⟩ := ih (ls.length - halfT ls.length) (by omega) (ls.drop (halfT ls.length)) (i - halfT ls.length) (by rw [List.length_drop]) (by omega)
        rw [foldT_hi h c, rootT_two h, longT_hi h c, pathT_hi h c, snoc_last, snoc_init]
        rw [getD_drop, show halfT ls.length + (i - halfT ls.length) = i by omega] at e1
        refine ⟨by rw [e1], ?_⟩
        rw [List.length_append, e2, List.length_singleton]; omega
    · obtain rfl : i = 0 := by omega
      rw [foldT_one h, longT_one h, pathT_one h, rootT_one (by omega)]
      exact ⟨rfl, rfl⟩
theorem pathT_32 : ∀ (n : Nat) (ls : List (List UInt8)) (i : Nat), ls.length = n → (∀ l ∈ ls, l.length = 32) → ∀ l ∈ pathT ls i, l.length = 32 := by
  intro n
  induction n using Nat.strongRecOn with
  | ind n ih =>
    intro ls i hl h32
    subst hl
    by_cases h : 2 ≤ ls.length
    · have h1 := halfT_lt h
      have h2 := halfT_pos ls.length
      have ht : ∀ l ∈ ls.take (halfT ls.length), l.length = 32 := fun l hl => h32 l (List.mem_of_mem_take hl)
      have hd : ∀ l ∈ ls.drop (halfT ls.length), l.length = 32 := fun l hl => h32 l (List.mem_of_mem_drop hl)
      by_cases c : i < halfT ls.length
      · rw [pathT_lo h c]
        intro l hl
        rcases List.mem_append.1 hl with h' | h'
        · exact ih (halfT ls.length) h1 _ i (by rw [List.length_take]; omega) ht l h'
        · rw [List.mem_singleton.1 h']; exact rootT_length hd
      · rw [pathT_hi h c]
        intro l hl
        rcases List.mem_append.1 hl with h' | h'
        · exact ih (ls.length - halfT ls.length) (by omega) _ _ (by rw [List.length_drop]) hd l h'
        · rw [List.mem_singleton.1 h']; exact rootT_length ht
    · rw [pathT_one h]; intro l hl; cases hl
/-- How often a number can be halved: the bits of it. -/
def bitsT : Nat → Nat → Nat
  | 0, _ => 0
  | f + 1, n => if 0 < n then 1 + bitsT f (n / 2) else 0
theorem bitsT_mono : ∀ f a b, a ≤ b → b ≤ f → bitsT f a ≤ bitsT f b
  | 0, a, b, _, _ => Nat.le_refl _
  | f + 1, a, b, h, hb => by
    rw [bitsT, bitsT]
    by_cases c : 0 < a
    · rw [if_pos c, if_pos (by omega)]
      have := bitsT_mono f (a / 2) (b / 2) (by omega) (by omega)
      omega
    · rw [if_neg c]; omega
theorem bitsT_fuel : ∀ f g a, a ≤ f → a ≤ g → bitsT f a = bitsT g a
  | 0, 0, a, _, _ => rfl
  | 0, g + 1, a, h, _ => by rw [bitsT, bitsT, if_neg (by omega)]
  | f + 1, 0, a, _, h => by rw [bitsT, bitsT, if_neg (by omega)]
  | f + 1, g + 1, a, h1, h2 => by
    rw [bitsT, bitsT]
    by_cases c : 0 < a
    · rw [if_pos c, if_pos c, bitsT_fuel f g (a / 2) (by omega) (by omega)]
    · rw [if_neg c, if_neg c]
theorem bitsT_gt : ∀ f m, m ≤ f → m < 2 ^ bitsT f m
  | 0, m, h => by rw [bitsT]; omega
  | f + 1, m, h => by
    rw [bitsT]
    by_cases c : 0 < m
    · rw [if_pos c, Nat.pow_add]
      have := bitsT_gt f (m / 2) (by omega)
      omega
    · rw [if_neg c]; omega
theorem halfF_pow : ∀ f a n, ∃ e, halfF f (2 ^ a) n = 2 ^ e
  | 0, a, n => ⟨a, rfl⟩
  | f + 1, a, n => by
    rw [halfF]
    by_cases c : 2 * 2 ^ a < n
    · rw [if_pos c, show 2 * 2 ^ a = 2 ^ (a + 1) by rw [Nat.pow_succ]; omega]; exact halfF_pow f (a + 1) n
    · rw [if_neg c]; exact ⟨a, rfl⟩
theorem halfT_pow (n : Nat) : ∃ e, halfT n = 2 ^ e := halfF_pow n 0 n
theorem longT_pow : ∀ e i n, n ≤ 2 ^ e → longT i n ≤ e
  | 0, i, n, h => by rw [longT_one (by simp at h; omega)]; omega
  | e + 1, i, n, h => by
    by_cases h2 : 2 ≤ n
    · obtain ⟨a, ha⟩ := halfT_pow n
      have h1 := halfT_lt h2
      have h3 := halfT_two n
      have hk : halfT n ≤ 2 ^ e := by
        rw [ha] at h1 ⊢
        have : a < e + 1 := by
          apply Classical.byContradiction
          intro hc
          have := Nat.pow_le_pow_right (n := 2) (by omega) (show e + 1 ≤ a by omega)
          omega
        exact Nat.pow_le_pow_right (by omega) (by omega)
      by_cases c : i < halfT n
      · rw [longT_lo h2 c]; have := longT_pow e i (halfT n) hk; omega
      · rw [longT_hi h2 c]; have := longT_pow e (i - halfT n) (n - halfT n) (by omega); omega
    · rw [longT_one h2]; omega
/-- A path is no longer than the bits of how many leaves there are beside it. -/
theorem longT_bits (i n : Nat) : longT i n ≤ bitsT n (n - 1) := by
  refine longT_pow _ i n ?_
  have := bitsT_gt n (n - 1) (by omega)
  omega
/-- For at most 256 leaves a path has at most 8. -/
theorem longT_256 (i n : Nat) (h : n ≤ 256) : longT i n ≤ 8 := longT_pow 8 i n h
end Go.Proofs.YtdgaimlccpmojaaGreatDoor
