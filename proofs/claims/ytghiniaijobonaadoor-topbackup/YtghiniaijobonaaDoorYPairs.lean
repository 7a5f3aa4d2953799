/- A region that draws its order and makes two new variables of the answers of two calls ('x, y := f(..), g(..)'): every order at once. No theorem of the program yet. -/
import Derived.Test.YtghiniaijobonaaDoorJ01
import Derived.Deep.RegionHeld
namespace Go.Proofs.YtghiniaijobonaaDoor
open Go.RowKit
set_option linter.unusedVariables false
set_option linter.unusedSimpArgs false

/-- Which of the eight operations have come up: the two that are taken first, c calls, the new variables. -/
def pairL (c : Nat) (p q : Bool) : Array Bool := #[true, decide (1 ≤ c), true, decide (2 ≤ c), p, q, false, false]
def pairR (c : Nat) (p q : Bool) : List Nat := (if c = 0 then [1] else if c = 1 then [3] else []) ++ (if p then [] else [4]) ++ (if q then [] else [5])
def left1 (p : Option Nat) : Nat := if p.isSome then 0 else 1
section
variable {P : Program} {ops : Array Oper} {Q : Exit → Act → World → Prop} {md : Region.Mode} {S : World → Prop}
theorem pairs_any (act : Nat → Option Nat → Option Nat → Act) (M : World → Option Nat → Option Nat → Prop)
    (hr : ∀ c p q, c ≤ 2 → pairR c p q ≠ [] → Region.ready md ops (pairL c p q) = pairR c p q)
    (hS : ∀ w p q, M w p q → S w)
    (s1 : ∀ p q w (K : Act → World → Prop), M w p q → (∀ w', M w' p q → K (act 1 p q) w') → wpOp P ops Q 1 K (act 0 p q) w)
    (s3 : ∀ p q w (K : Act → World → Prop), M w p q → (∀ w', M w' p q → K (act 2 p q) w') → wpOp P ops Q 3 K (act 1 p q) w)
    (s4 : ∀ c q w (K : Act → World → Prop), M w none q → (∀ g w', M w' (some g) q → K (act c (some g) q) w') → wpOp P ops Q 4 K (act c none q) w)
    (s5 : ∀ c p w (K : Act → World → Prop), M w p none → (∀ g w', M w' p (some g) → K (act c p (some g)) w') → wpOp P ops Q 5 K (act c p none) w)
    (fin : ∀ g g' w, M w (some g) (some g') → wpAnyH P md ops Q S 2 (pairL 2 true true) (act 2 (some g) (some g')) w) :
    ∀ k c p q w, (2 - c) + left1 p + left1 q = k → c ≤ 2 → M w p q → wpAnyH P md ops Q S (k + 2) (pairL c p.isSome q.isSome) (act c p q) w := by
  intro k
  induction k with
  | zero =>
    intro c p q w hk hc hM
    cases p with
    | none => simp [left1] at hk
    | some g =>
      cases q with
      | none => simp [left1] at hk
      | some g' =>
        simp [left1] at hk
        obtain rfl : c = 2 := by omega
        exact fin g g' w hM
  | succ k ih =>
    intro c p q w hk hc hM
    have hne : pairR c p.isSome q.isSome ≠ [] := by
      unfold pairR
      unfold left1 at hk
      cases p with
      | none => cases q <;> simp
      | some g =>
        cases q with
        | none => simp
        | some g' =>
          simp at hk
          have : c = 0 ∨ c = 1 := by omega
          rcases this with rfl | rfl <;> simp
    refine wpAnyH_all (fuel := k + 2) (hr c p.isSome q.isSome hc hne) hne ?_
    intro i hi
    unfold pairR at hi
    rw [List.append_assoc, List.mem_append, List.mem_append] at hi
    rcases hi with hi | hi | hi
    · by_cases h0 : c = 0
      · subst h0
        simp at hi
        subst hi
        exact s1 p q w _ hM fun w' hM' => ⟨hS _ _ _ hM', ih 1 p q w' (by omega) (by omega) hM'⟩
      · rw [if_neg h0] at hi
        by_cases h1 : c = 1
        · subst h1
          simp at hi
          subst hi
          exact s3 p q w _ hM fun w' hM' => ⟨hS _ _ _ hM', ih 2 p q w' (by omega) (by omega) hM'⟩
        · rw [if_neg h1] at hi
          cases hi
    · cases p with
      | some g => simp at hi
      | none =>
        simp at hi
        subst hi
        exact s4 c q w _ hM fun g w' hM' => ⟨hS _ _ _ hM', ih c (some g) q w' (by simp [left1] at hk ⊢; omega) hc hM'⟩
    · cases q with
      | some g => simp at hi
      | none =>
        simp at hi
        subst hi
        exact s5 c p w _ hM fun g w' hM' => ⟨hS _ _ _ hM', ih c p (some g) w' (by simp [left1] at hk ⊢; omega) hc hM'⟩
/-- A new variable, whose cells are told, as a step. -/
theorem wp_allocE {o : Oper} {a : Act} {w : World} {K : Act → World → Prop} (t : TypeId) (ho : o.op = .alloc t) (cells : Array Value) (hz : (P.info? t).map (·.zero) = some (some (.agg cells)))
    (h : K (a.put o.dst (.pointer (some ⟨w.heap.size, 0, none⟩))) (w.alloc (.cells cells t))) : o.wp P a w K Q := by
  cases hi : P.info? t with
  | none => simp [hi] at hz
  | some i =>
    have hz' : i.zero = some (.agg cells) := by simpa [hi] using hz
    unfold Oper.wp
    simp [execOp, ho, Instr.alloc, zeroValue, typeInfo, hi, hz', newVar, newRow, newObj, Value.cells, Result.andThen, Sem.run_bind]
    exact h
end
end Go.Proofs.YtghiniaijobonaaDoor
