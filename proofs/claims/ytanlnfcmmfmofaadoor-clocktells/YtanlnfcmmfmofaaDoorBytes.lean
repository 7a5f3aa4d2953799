/- Rows of bytes that grow by append. -/
import Derived.Test.YtanlnfcmmfmofaaDoorInts
import Derived.Laws.AppendOwnNone
import Derived.Maps.AppendAt
namespace Go.Proofs.YtanlnfcmmfmofaaDoor
open Go.RowKit
set_option linter.unusedVariables false
set_option linter.unusedSimpArgs false

def cellsB (l : List UInt8) : List Value := l.map fun b => Value.int .u8 (b.toNat : Int)
theorem cellsB_append (l r : List UInt8) : cellsB (l ++ r) = cellsB l ++ cellsB r := by simp [cellsB]
theorem cellsB_length (l : List UInt8) : (cellsB l).length = l.length := by simp [cellsB]
theorem cellsB_at (l : List UInt8) (i : Nat) (h : i < l.length) : (cellsB l)[i]? = some (.int .u8 (nth l i)) := by
  unfold cellsB nth
  simp [List.getElem?_eq_getElem h]
theorem cellsB_one (l : List UInt8) : ∀ u ∈ cellsB l, u.oneCell' = true := by
  intro u hu
  obtain ⟨i, _, rfl⟩ := List.mem_map.1 hu
  rfl
/-- The call's own slice of bytes v reads as l. -/
def OwnL (w : World) (B : Nat) (v : Value) (l : List UInt8) : Prop := w.ownsRow B 5 1 v l.length (cellsB l)
theorem OwnL.form {w : World} {B : Nat} {v : Value} {l : List UInt8} (h : OwnL w B v l) : ∃ a cap, v = .slice a l.length cap ∧ Row w a l.length l ∧ l.length ≤ cap := by
  rcases h.2 with ⟨rfl, h0⟩ | ⟨g, cap, cur, rfl, h1, h2, h3, _⟩
  · exact ⟨none, 0, by rw [h0], ⟨rfl, .inl h0⟩, by omega⟩
  · refine ⟨_, cap, rfl, ⟨rfl, .inr ⟨g, 0, rfl, fun i hi => ?_⟩⟩, h3⟩
    rw [Nat.zero_add, World.ownsRow.cellAt h i (by omega), cellsB_at l i hi]
theorem OwnL.formSome {w : World} {B : Nat} {v : Value} {l : List UInt8} (h : OwnL w B v l) (hl : 0 < l.length) : ∃ g cap, v = .slice (some ⟨g, 0, none⟩) l.length cap ∧ Row w (some ⟨g, 0, none⟩) l.length l ∧ l.length ≤ cap ∧ B ≤ g ∧ g < w.heap.size := by
  have hlt := World.ownsRow.lt h
  rcases h.2 with ⟨rfl, h0⟩ | ⟨g, cap, cur, rfl, h1, h2, h3, _⟩
  · omega
  · refine ⟨g, cap, rfl, ⟨rfl, .inr ⟨g, 0, rfl, fun i hi => ?_⟩⟩, h3, (hlt g rfl).1, (hlt g rfl).2⟩
    rw [Nat.zero_add, World.ownsRow.cellAt h i (by omega), cellsB_at l i hi]
theorem OwnL.nil (w : World) (B : Nat) : OwnL w B (.slice none 0 0) [] := World.ownsRow_nil _ _ _ _
theorem OwnL.lit0 (w : World) (B : Nat) (hB : B ≤ w.heap.size) : OwnL (w.alloc (.cells #[] 5)) B (.slice (some ⟨w.heap.size, 0, none⟩) 0 0) [] :=
  World.ownsRow_lit w #[] 0 hB (by unfold maxLen; omega) rfl
theorem OwnL.lit0' (w : World) (B s : Nat) (hs : w.heap.size = s) (hB : B ≤ s) : OwnL (w.alloc (.cells #[] 5)) B (.slice (some ⟨s, 0, none⟩) 0 0) [] := by
  subst hs
  exact OwnL.lit0 w B hB
theorem OwnL.drewN {w : World} {B : Nat} {v : Value} {l : List UInt8} (h : OwnL w B v l) (q : Nat) : OwnL (w.drewN q) B v l := by
  induction q with
  | zero => exact h
  | succ q ih => exact World.ownsRow.drew ih
theorem OwnL.below {w w' : World} {B : Nat} {v : Value} {l : List UInt8} (h : OwnL w B v l) (hb : Below w.heap.size w w') : OwnL w' B v l := by
  rcases h.2 with ⟨h1, h0⟩ | ⟨g, cap, cur, e1, e2, e3, e4⟩
  · exact ⟨h.1, .inl ⟨h1, h0⟩⟩
  · have hg : g < w.heap.size := (World.ownsRow.lt h g (by rw [e1]; rfl)).2
    exact ⟨h.1, .inr ⟨g, cap, cur, e1, e2, (hb.block g hg).trans e3, e4⟩⟩

theorem OwnL.grown {w w0 w' : World} {B B0 : Nat} {v : Value} {l : List UInt8} (h : OwnL w B v l) (hb : Below B0 w0 w) (hg : w.grownBy w' v.ownBlock) (h0 : B0 ≤ B) (hs : B0 ≤ w.heap.size) : Below B0 w0 w' :=
  hb.grown hg hs (fun k hk => Nat.le_trans h0 (World.ownsRow.lt h k hk).1)
/-- Two slices that lie apart. -/
def Sep (v v' : Value) : Prop := v.ownBlock = none ∨ v'.ownBlock = none ∨ v.ownBlock ≠ v'.ownBlock
theorem Sep.symm {v v' : Value} (h : Sep v v') : Sep v' v := by
  rcases h with h | h | h
  · exact .inr (.inl h)
  · exact .inl h
  · exact .inr (.inr fun e => h e.symm)
theorem OwnL.other {w w1 : World} {B : Nat} {v v' : Value} {l' : List UInt8} (h' : OwnL w B v' l') (hg : w.grownBy w1 v.ownBlock) (hs : Sep v v') : OwnL w1 B v' l' := by
  refine World.ownsRow.kept h' hg ?_
  rcases hs with h | h | h
  · by_cases hn : v'.ownBlock = none
    · exact .inl hn
    · rw [h]; exact .inr hn
  · exact .inl h
  · exact .inr fun e => h e.symm
theorem Sep.next {w : World} {B : Nat} {v v1 v' : Value} {l' : List UInt8} (hs : Sep v v') (hat : v1.ownBlock = v.ownBlock ∨ v1.ownBlock = some w.heap.size) (h' : OwnL w B v' l') : Sep v1 v' := by
  rcases hat with h | h
  · unfold Sep at *; rw [h]; exact hs
  · by_cases hn : v'.ownBlock = none
    · exact .inr (.inl hn)
    · refine .inr (.inr fun e => ?_)
      have := (World.ownsRow.lt h' w.heap.size (by rw [← e, h])).2
      omega
section
variable {P : Program}
theorem run_append_nothing (w : World) (base : Nat) (t ty e : TypeId) (i : TypeInfo) (size : Nat) (ht : P.underlying t = some (.slice e)) (hi : P.info? e = some i)
    (v : Value) (n c : Nat) (xs : List Value) (hown : w.ownsRow base e size v n xs) :
    (Builtin.append_ #[t, t] ty #[v, .slice none 0 c]).run P w = .ok v w := by
  rcases hown.2 with ⟨rfl, rfl⟩ | ⟨g, cap, cur, rfl, _, _, hnc, _⟩
  · simp [Builtin.append_, run_underlying ht, sizeOf, typeInfo, hi, Builtin.lenOf, Builtin.firstCells]
  · simp [Builtin.append_, run_underlying ht, sizeOf, typeInfo, hi, Builtin.lenOf, Builtin.firstCells, hnc, storeCells]

/-- 'append(v, x...)', v the call's own row of bytes, x any slice of bytes. -/
theorem wpList_append_bytes_at {w : World} {ops : Array Oper} {rest : List Oper} {o : Oper} {a : Act} {Q : Exit → Act → World → Prop} (hgd : o.guard = none) (s x : Operand) (t : TypeId)
    (ho : o.op = .call { callee := .builtin .append, args := #[s, x], argTypes := #[t, t] })
    (base : Nat) (i : TypeInfo) (ht : P.underlying t = some (.slice 5)) (hi : P.info? 5 = some i) (hz : i.zero = some (.int .u8 0)) (hsize : i.size = 1) (hby : i.bytes = 1)
    (v : Value) (l : List UInt8) (hs : a.eval s = v) (hown : OwnL w base v l)
    (ad : Option Addr) (n c : Nat) (r : List UInt8) (hx : a.eval x = .slice ad n c) (hr : Row w ad n r) (h47 : l.length + n ≤ 140737488355328) (hbase : base ≤ w.heap.size)
    (h : ∀ v' w', OwnL w' base v' (l ++ r) → w.grownBy w' v.ownBlock → (v'.ownBlock = v.ownBlock ∨ v'.ownBlock = some w.heap.size) → wpList P ops Q rest (a.put o.dst v') w') : wpList P ops Q (o :: rest) a w := by
  obtain ⟨hl, hr⟩ := hr
  cases ad with
  | none =>
    have h0 : n = 0 := by
      rcases hr with h0 | ⟨b, o, h1, _⟩
      · exact h0
      · cases h1
    subst h0
    have hr0 : r = [] := List.eq_nil_of_length_eq_zero hl
    subst hr0
    have hrun := run_append_nothing (P := P) w base t o.type 5 i 1 ht hi v l.length c (cellsB l) hown
    refine wpList_plain hgd fun K hK' => ?_
    unfold Oper.wp
    simp [execOp, ho, resolve, invoke, builtin, hs, hx, hrun, Result.andThen]
    exact hK' _ _ (h v w (by rw [List.append_nil]; exact hown) (World.grownBy.refl _ _) (.inl rfl))
  | some ad =>
    refine wpList_append_own_at w hgd s x t ho base 5 i (.int .u8 0) 1 1 ht hi hz hsize hby rfl (by decide) v l.length (cellsB l) hs hown ad n c (cellsB r) hx (by rw [cellsB_length, hl, Nat.mul_one]) ?_ (cellsB_one r) (by unfold maxLen; omega) (by omega) hbase ?_
    · intro j u hj
      have hj' : j < r.length := by have := (List.getElem?_eq_some_iff.1 hj).1; rwa [cellsB_length] at this
      rcases hr with h0 | ⟨b, off, h1, hc⟩
      · omega
      · cases h1
        rw [Go.WideShapes.add_plain, hc j (by omega), ← cellsB_at r j hj', hj]
    · intro v' w' hown' hgrow _ hat
      refine h v' w' ?_ hgrow hat
      unfold OwnL
      rw [List.length_append, cellsB_append, hl]
      exact hown'
/-- 'append(v, x...)', v the call's own row of bytes, x any slice of bytes. -/
theorem wpList_append_bytes {w : World} {ops : Array Oper} {rest : List Oper} {o : Oper} {a : Act} {Q : Exit → Act → World → Prop} (hgd : o.guard = none) (s x : Operand) (t : TypeId)
    (ho : o.op = .call { callee := .builtin .append, args := #[s, x], argTypes := #[t, t] })
    (base : Nat) (i : TypeInfo) (ht : P.underlying t = some (.slice 5)) (hi : P.info? 5 = some i) (hz : i.zero = some (.int .u8 0)) (hsize : i.size = 1) (hby : i.bytes = 1)
    (v : Value) (l : List UInt8) (hs : a.eval s = v) (hown : OwnL w base v l)
    (ad : Option Addr) (n c : Nat) (r : List UInt8) (hx : a.eval x = .slice ad n c) (hr : Row w ad n r) (h47 : l.length + n ≤ 140737488355328) (hbase : base ≤ w.heap.size)
    (h : ∀ v' w', OwnL w' base v' (l ++ r) → w.grownBy w' v.ownBlock → wpList P ops Q rest (a.put o.dst v') w') : wpList P ops Q (o :: rest) a w :=
  wpList_append_bytes_at hgd s x t ho base i ht hi hz hsize hby v l hs hown ad n c r hx hr h47 hbase fun v' w' h1 h2 _ => h v' w' h1 h2
end
end Go.Proofs.YtanlnfcmmfmofaaDoor
