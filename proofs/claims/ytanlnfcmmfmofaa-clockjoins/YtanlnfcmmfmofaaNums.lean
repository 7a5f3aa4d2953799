/- Sixteen numbers: an array of ints as a value and in memory; copy of ints. -/
import Derived.Test.YtanlnfcmmfmofaaClockp
import Derived.Test.YtanlnfcmmfmofaaWords
import Derived.Test.YtanlnfcmmfmofaaDigest
import Derived.Laws.CopyOwn
namespace Go.Proofs.Ytanlnfcmmfmofaa
open Go.RowKit
set_option linter.unusedVariables false
set_option linter.unusedSimpArgs false

theorem cellsN_size (l : List Int) : (cellsI l).toArray.size = l.length := by
  show (cellsI l).length = _
  exact cellsI_length l
/-- Nobody has seen anything. -/
def z16 : List Int := List.replicate 16 0
theorem z16_size : (cellsI z16).toArray.size = 16 := by rw [cellsN_size]; rfl
theorem Try.zeroN16 : (Try.prog.info? 36).map (·.zero) = some (some (.agg (cellsI z16).toArray)) := by kernel_rfl
theorem Try.sizeN16 : (Try.prog.info? 36).map (·.size) = some 16 := by kernel_rfl
/-- Sixteen numbers as a value. -/
abbrev numV (l : List Int) : Value := .agg (cellsI l).toArray
/-- Numbers that lie at the head of block g. -/
def NA (w : World) (g : Nat) (l : List Int) : Prop := w.rangeAt g 0 (cellsI l)
theorem NA.at {w : World} {g : Nat} {l : List Int} (h : NA w g l) (i : Nat) (hi : i < l.length) : w.cell? ⟨g, i, none⟩ = some (.int .i64 (seenL l i)) := by
  have := h i _ (cellsI_at l i hi)
  rwa [Nat.zero_add] at this
theorem NA.mk {w : World} {g : Nat} {l : List Int} (h : ∀ i, i < l.length → w.cell? ⟨g, i, none⟩ = some (.int .i64 (seenL l i))) : NA w g l := by
  intro j v hj
  have hj' : j < l.length := by have := (List.getElem?_eq_some_iff.1 hj).1; rwa [cellsI_length] at this
  rw [Nat.zero_add, h j hj', ← hj, cellsI_at l j hj']
  rfl
theorem NA.below {w w' : World} {B g : Nat} {l : List Int} (h : NA w g l) (hb : Below B w w') (hg : g < B) : NA w' g l := by
  intro j v hj
  rw [hb.cell (p := ⟨g, 0 + j, none⟩) hg]
  exact h j v hj
theorem NA.irow {w : World} {g n : Nat} {l : List Int} (h : NA w g l) (hl : l.length = n) : IRow w (some ⟨g, 0, none⟩) n l :=
  ⟨hl, .inr ⟨g, 0, rfl, fun i hi => by rw [Nat.zero_add]; exact h.at i (by omega)⟩⟩
theorem NA.block {w : World} {g : Nat} {l : List Int} (h : NA w g l) (hl : 0 < l.length) : g < w.heap.size := cell_block (h.at 0 hl)
theorem NA.boxed {w : World} (l : List Int) (t : TypeId) : NA (w.alloc (.cells (cellsI l).toArray t)) w.heap.size l := box_range w (cellsI l) t
theorem NA.stored {w : World} {g : Nat} {l : List Int} (ht : w.there g 0 16) (hl : l.length = 16) : NA (w.setCells g 0 (cellsI l)) g l :=
  World.rangeAt_setCells_same _ _ _ _ (by rw [cellsI_length, hl]; exact ht)
/-- Numbers for all sixteen, 0 where there is none. -/
def pad16 (l : List Int) : List Int := of16 (seenL l) 16
theorem pad16_length (l : List Int) : (pad16 l).length = 16 := of16_length _ _
theorem pad16_seen (l : List Int) (h : l.length ≤ 16) (i : Nat) : seenL (pad16 l) i = seenL l i := by
  by_cases c : i < 16
  · exact of16_seen _ _ _ c
  · unfold pad16
    rw [of16_out _ (by omega), seenL_out (by omega)]
theorem z16_seen (i : Nat) : seenL z16 i = 0 := by
  unfold seenL z16
  rw [List.getD_eq_getElem?_getD, List.getElem?_replicate]
  split <;> rfl
theorem NA.copied {w : World} {g : Nat} {l : List Int} (h : NA w g z16) (ht : w.there g 0 16) (hl : l.length ≤ 16) : NA (w.setCells g 0 (cellsI l)) g (pad16 l) := by
  refine NA.mk fun i hi => ?_
  rw [pad16_length] at hi
  rw [pad16_seen l hl]
  by_cases c : i < l.length
  · have hs : ∀ j, j < (cellsI l).length → (w.cell? ⟨g, 0 + j, none⟩).isSome = true := fun j hj => by
      rw [cellsI_length] at hj
      exact (ht j (by omega)).1
    have := World.cell?_setCells_in g (cellsI l) 0 w hs i (by rw [cellsI_length]; exact c)
    rw [Nat.zero_add] at this
    rw [this]
    have := cellsI_at l i c
    rw [List.getElem?_eq_getElem (by rw [cellsI_length]; exact c)] at this
    exact this
  · rw [World.cell?_setCells_out _ _ _ _ _ (fun _ _ => Or.inr (by show 0 + (cellsI l).length ≤ i; rw [cellsI_length]; omega)), h.at i hi, z16_seen, seenL_out (by omega)]
theorem NA.set {w : World} {g k : Nat} {l : List Int} {x : Int} (h : NA w g l) (ht : w.there g 0 16) (hl : l.length = 16) (hk : k < 16) (m : List Int) (hm : m.length = 16) (hs : ∀ i, i < 16 → seenL m i = if i = k then x else seenL l i) : NA (w.setCell ⟨g, k, none⟩ (.int .i64 x)) g m := by
  refine NA.mk fun i hi => ?_
  rw [hs i (by omega)]
  by_cases c : i = k
  · subst c
    rw [if_pos rfl]
    have hs : ∀ j, j < [Value.int .i64 x].length → (w.cell? ⟨g, i + j, none⟩).isSome = true := fun j hj => by
      obtain rfl : j = 0 := by simp at hj; exact hj
      have := (ht i hk).1
      rwa [Nat.zero_add] at this
    exact World.cell?_setCells_in g [Value.int .i64 x] i w hs 0 (by simp)
  · rw [if_neg c]
    have := World.cell?_setCells_out g [Value.int .i64 x] k w ⟨g, i, none⟩ (fun _ _ => by
      by_cases d : i < k
      · exact Or.inl d
      · exact Or.inr (by show k + 1 ≤ i; omega))
    exact this.trans (h.at i (by omega))
theorem NA.aside {w : World} {g b o : Nat} {l : List Int} {v : Value} (h : NA w g l) (hb : g ≠ b) : NA (w.setCell ⟨b, o, none⟩ v) g l :=
  World.rangeAt_setCells_apart h b o [v] (.inl hb)
theorem there_set {w : World} {g b o n : Nat} {v : Value} (h : w.there g 0 n) : (w.setCell ⟨b, o, none⟩ v).there g 0 n := World.there_setCells h b o [v]
/-- 'copy(d, s)', s any slice of ints. -/
theorem wpList_copy_ints {P : Program} {w : World} {ops : Array Oper} {rest : List Oper} {o : Oper} {a : Act} {Q : Exit → Act → World → Prop} (hgd : o.guard = none) (d s : Operand) (dT sT : TypeId)
    (ho : o.op = .call { callee := .builtin .copy, args := #[d, s], argTypes := #[dT, sT] }) (elem : TypeId) (hu : P.underlying dT = some (.slice elem)) (hsz : (P.info? elem).map (·.size) = some 1)
    (dp : Option Addr) (dLen dCap : Nat) (hd : a.eval d = .slice dp dLen dCap) (ad : Option Addr) (n c : Nat) (l : List Int) (hs : a.eval s = .slice ad n c) (R : IRow w ad n l)
    (hm : n ≤ dLen) (b off : Nat) (hdp : 0 < n → dp = some ⟨b, off, none⟩) (ht : w.there b off n) (w1 : World) (hw : w.setCells b off (cellsI l) = w1)
    (h : wpList P ops Q rest (a.put o.dst (.int .i64 (n : Int))) w1) : wpList P ops Q (o :: rest) a w := by
  subst hw
  obtain ⟨hl, hR⟩ := R
  have hmn : Nat.min n dLen = n := Nat.min_eq_left hm
  by_cases h0 : n = 0
  · subst h0
    obtain rfl : l = [] := List.eq_nil_of_length_eq_zero hl
    exact wpList_copy_nothing hgd d s dT sT ho elem hu hsz dp ad dLen dCap 0 c hd hs hmn h
  · rcases hR with h1 | ⟨sb, so, rfl, hcells⟩
    · omega
    obtain rfl := hdp (by omega)
    have hlen : (cellsI l).length = n := by rw [cellsI_length, hl]
    refine wpList_plain hgd fun K hK => ?_
    have hrun := run_copy_cells (P := P) w dT sT o.type elem b off dLen dCap ⟨sb, so, none⟩ n c (cellsI l) hu hsz (by rw [hlen, hmn]) (fun j v hj => by
      have hj' : j < n := by have := (List.getElem?_eq_some_iff.1 hj).1; omega
      rw [Go.WideShapes.add_plain, hcells j (by omega), ← hj, cellsI_at _ j (by omega)]) (fun j hj => (ht j (by omega)).1) (fun j hj => (ht j (by omega)).2) (cellsI_one _)
    rw [hlen] at hrun
    unfold Oper.wp
    simp [execOp, ho, resolve, invoke, builtin, hd, hs, hrun, Result.andThen]
    exact hK _ _ h
end Go.Proofs.Ytanlnfcmmfmofaa
