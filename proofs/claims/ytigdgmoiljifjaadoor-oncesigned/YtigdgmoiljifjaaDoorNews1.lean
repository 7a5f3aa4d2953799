/- A region that draws its order: operations in a row, and one new variable anywhere among them: every order at once. No theorem of the program yet. -/
import Derived.Test.YtigdgmoiljifjaaDoorPairs
namespace Go.Proofs.YtigdgmoiljifjaaDoor
open Go.RowKit
set_option linter.unusedVariables false
set_option linter.unusedSimpArgs false
section
variable {P : Program} {ops : Array Oper} {Q : Exit → Act → World → Prop} {md : Region.Mode} {S : World → Prop}
theorem news1_any (N f0 : Nat) (St : Nat → Option Nat → Act → World → Prop) (L : Nat → Bool → Array Bool)
    (step : ∀ k p a w fuel, k < N → St k p a w → (∀ a' w', St (k + 1) p a' w' → wpAnyH P md ops Q S fuel (L (k + 1) p.isSome) a' w') → (∀ g a' w', p = none → St k (some g) a' w' → wpAnyH P md ops Q S fuel (L k true) a' w') → wpAnyH P md ops Q S (fuel + 1) (L k p.isSome) a w)
    (last : ∀ a w fuel, St N none a w → (∀ g a' w', St N (some g) a' w' → wpAnyH P md ops Q S fuel (L N true) a' w') → wpAnyH P md ops Q S (fuel + 1) (L N false) a w)
    (fin : ∀ g a w, St N (some g) a w → wpAnyH P md ops Q S f0 (L N true) a w) :
    ∀ n k p a w, (N - k) + left1 p = n → k ≤ N → St k p a w → wpAnyH P md ops Q S (f0 + n) (L k p.isSome) a w := by
  intro n
  induction n with
  | zero =>
    intro k p a w hn hk hSt
    cases p with
    | none => simp [left1] at hn
    | some g =>
      simp [left1] at hn
      obtain rfl : k = N := by omega
      exact fin g a w hSt
  | succ n ih =>
    intro k p a w hn hk hSt
    rw [← Nat.add_assoc]
    by_cases hkN : k < N
    · refine step k p a w (f0 + n) hkN hSt (fun a' w' h' => ih (k + 1) p a' w' (by omega) (by omega) h') (fun g a' w' hp h' => ?_)
      subst hp
      exact ih k (some g) a' w' (by simp [left1] at hn ⊢; omega) hk h'
    · obtain rfl : k = N := by omega
      cases p with
      | some g => simp [left1] at hn
      | none => exact last a w (f0 + n) hSt fun g a' w' h' => ih k (some g) a' w' (by simp [left1] at hn ⊢; omega) hk h'
end
end Go.Proofs.YtigdgmoiljifjaaDoor
