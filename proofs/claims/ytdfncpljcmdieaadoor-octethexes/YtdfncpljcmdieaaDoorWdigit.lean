/- The contract of octet.digit: what a digit counts, and whether it is one. -/
import Derived.Test.YtdfncpljcmdieaaDoorMath
namespace Go.Proofs.YtdfncpljcmdieaaDoor
open Go.RowKit
set_option linter.unusedVariables false

theorem ret_dig {a c : Int} {b d : Bool} (h : a = c) (k : b = d) : Ending.returned (.tuple #[.int .u8 a, .bool b]) = .returned (.tuple #[.int .u8 c, .bool d]) := by rw [h, k]

set_option maxHeartbeats 400000 in
theorem digit_any (c : Int) (w : World) (h0 : 0 ≤ c) (h1 : c ≤ 255) :
    Calls Tryd.prog 16 #[.int .u8 c] w fun e w' => e = .returned (.tuple #[.int .u8 (digV c), .bool (digK c)]) ∧ w' = w := by
  by_cases k1 : 48 ≤ c
  · by_cases k2 : c ≤ 57
    · go_enter Tryd.func16, Tryd.ntmps16
      go_wp2
      go_ret2
      exact ⟨ret_dig (by unfold digV; rw [if_pos ⟨k1, k2⟩]) (by unfold digK; symm; rw [decide_eq_true_iff]; exact .inl ⟨k1, k2⟩), rfl⟩
    · by_cases k3 : 97 ≤ c
      · by_cases k4 : c ≤ 102
        · go_enter Tryd.func16, Tryd.ntmps16
          go_wp2
          go_ret2
          exact ⟨ret_dig (by unfold digV; rw [if_neg (by omega), if_pos ⟨k3, k4⟩]; omega) (by unfold digK; symm; rw [decide_eq_true_iff]; exact .inr ⟨k3, k4⟩), rfl⟩
        · go_enter Tryd.func16, Tryd.ntmps16
          go_wp2
          go_ret2
          exact ⟨ret_dig (by unfold digV; rw [if_neg (by omega), if_neg (by omega)]) (by unfold digK; symm; rw [decide_eq_false_iff_not]; omega), rfl⟩
      · go_enter Tryd.func16, Tryd.ntmps16
        go_wp2
        go_ret2
        exact ⟨ret_dig (by unfold digV; rw [if_neg (by omega), if_neg (by omega)]) (by unfold digK; symm; rw [decide_eq_false_iff_not]; omega), rfl⟩
  · go_enter Tryd.func16, Tryd.ntmps16
    go_wp2
    go_ret2
    exact ⟨ret_dig (by unfold digV; rw [if_neg (by omega), if_neg (by omega)]) (by unfold digK; symm; rw [decide_eq_false_iff_not]; omega), rfl⟩
end Go.Proofs.YtdfncpljcmdieaaDoor
