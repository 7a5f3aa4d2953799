/- The contracts of plain.Told and of oathbooksame.Error: an error that is nil, or an Errno, is told. -/
import Derived.Test.YtanlnfcmmfmofaaDoorAs
namespace Go.Proofs.YtanlnfcmmfmofaaDoor
open Go.RowKit
set_option linter.unusedVariables false
set_option linter.unusedSimpArgs false

theorem told_nil (w : World) : Calls Tryd.prog 13 #[.nilIface] w fun e w' => e = .returned (.int .i64 0) ∧ Below w.heap.size w w' := by
  go_enter Tryd.func13, Tryd.ntmps13
  go_wp2
  go_ret
  exact ⟨rfl, Below.refl _ _⟩

set_option maxHeartbeats 1000000 in
theorem told_errno (n : Int) (w : World) (hg : Handle w) : Calls Tryd.prog 13 #[.iface 23 (.int .i64 n)] w fun e w' => e = .returned (.int .i64 n) ∧ Below w.heap.size w w' := by
  have hgA : Handle (w.alloc (.cells #[.int .i64 0] 23)) := hg.below ((Below.refl _ _).alloc (Nat.le_refl _) _)
  have htA : (w.alloc (.cells #[.int .i64 0] 23)).cell? ⟨w.heap.size, 0, none⟩ = some (.int .i64 0) := by simp
  have hfA : (w.alloc (.cells #[.int .i64 0] 23)).frozen? ⟨w.heap.size, 0, none⟩ = false := by simp
  go_enter Tryd.func13, Tryd.ntmps13
  go_wp2_with fail
  refine (as_hit n ⟨w.heap.size, 0, none⟩ (.int .i64 0) _ hgA htA hfA).mono ?_
  rintro e w' ⟨rfl, rfl⟩
  go_wp2
  go_ret
  exact ⟨rfl, (((((Below.refl _ _).alloc (Nat.le_refl _) _).alloc (by simp) _).alloc (by simp; omega) _).alloc (by simp; omega) _).alloc (by simp; omega) _⟩
theorem error_nil (n : Int) (w : World) : Calls Tryd.prog 5 #[.nilIface, .int .i64 n] w fun e w' => e = .returned (.bool (decide (0 = n))) ∧ Below w.heap.size w w' := by
  by_cases h : 0 = n
  · have hb : ((0 : Int) == n) = true := by simp [h]
    go_enter Tryd.func5, Tryd.ntmps5
    go_wp2_with fail
    refine (told_nil _).mono ?_
    rintro e w' ⟨rfl, b⟩
    go_wp2
    go_ret
    exact ⟨ret_bool (by simp [h]), b⟩
  · have hb : ((0 : Int) == n) = false := by simp [h]
    go_enter Tryd.func5, Tryd.ntmps5
    go_wp2_with fail
    refine (told_nil _).mono ?_
    rintro e w' ⟨rfl, b⟩
    go_wp2
    go_ret
    exact ⟨ret_bool (by simp [h]), b⟩
theorem error_errno (m n : Int) (w : World) (hg : Handle w) : Calls Tryd.prog 5 #[.iface 23 (.int .i64 m), .int .i64 n] w fun e w' => e = .returned (.bool (decide (m = n))) ∧ Below w.heap.size w w' := by
  by_cases h : m = n
  · subst h
    have hb : (m == m) = true := by simp
    go_enter Tryd.func5, Tryd.ntmps5
    go_wp2_with fail
    refine (told_errno m _ hg).mono ?_
    rintro e w' ⟨rfl, b⟩
    go_wp2
    go_ret
    exact ⟨ret_bool (by simp), b⟩
  · have hb : (m == n) = false := by simp [h]
    go_enter Tryd.func5, Tryd.ntmps5
    go_wp2_with fail
    refine (told_errno m _ hg).mono ?_
    rintro e w' ⟨rfl, b⟩
    go_wp2
    go_ret
    exact ⟨ret_bool (by simp [h]), b⟩
end Go.Proofs.YtanlnfcmmfmofaaDoor
