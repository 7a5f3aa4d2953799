/- The contracts of oathbookref2.ClockFault, Seen and Shortened. -/
import Derived.Test.YtanlnfcmmfmofaaClockp
import Derived.WalkKit
namespace Go.Proofs.Ytanlnfcmmfmofaa
open Go.RowKit
set_option linter.unusedVariables false
set_option linter.unusedSimpArgs false

set_option maxRecDepth 100000 in
set_option maxHeartbeats 4000000 in
theorem rshort_any (a : Option Addr) (n c : Nat) (l : List Int) (w : World) (R : IRow w a n l) (hc : n ≤ c) (hn : n ≤ 140737488351232) :
    Calls Try.prog 10 #[.slice a n c] w fun r w' => r = .returned (.slice a (shortL l).length c) ∧ w' = w := by
  have HL : Hid (l.length = n) := R.1
  have HR : Hid (n = 0 ∨ ∃ b o, a = some ⟨b, o, none⟩ ∧ ∀ i, i < n → w.cell? ⟨b, o + i, none⟩ = some (.int .i64 (l.getD i 0))) := R.2
  have HS : Hid ((shortL l).length = shortN l n) := by unfold Hid; rw [shortL_length, R.1]
  clear R
  go_enter Try.func10, Try.ntmps10
  go_wp2_with fail
  go_loopw [3] (fun kv wr => ∃ k : Nat, kv = .int .i64 (k : Int) ∧ k ≤ n ∧ Hid (shortN l k = shortN l n) ∧ Hid (wr = w)) (fun kv _ => (intOf kv).toNat)
  case atStart => exact ⟨n, rfl, Nat.le_refl _, rfl, rfl⟩
  case round =>
    obtain ⟨k, rfl, hk, HK, HW⟩ := hrel
    have hw : w = wr := HW.out.symm
    subst hw
    by_cases hz : k = 0
    · subst hz
      have HE : Hid ((shortL l).length = 0) := by rw [HS.out, ← HK.out]; rfl
      clear HR HK
      go_wp2_with fail
      go_ret
      rw [HE.out]
      exact ⟨rfl, by trivial⟩
    obtain ⟨j, rfl⟩ : ∃ j, k = j + 1 := ⟨k - 1, by omega⟩
    obtain ⟨b, o, rfl, hc'⟩ : ∃ b o, a = some ⟨b, o, none⟩ ∧ ∀ i, i < n → w.cell? ⟨b, o + i, none⟩ = some (.int .i64 (l.getD i 0)) := by
      rcases HR.out with h0 | h
      · omega
      · exact h
    have g1 : (0 : Int) < ((j + 1 : Nat) : Int) := by omega
    have k0 := hc' j (by omega)
    have e1 : ((j + 1 : Nat) : Int) - 1 = (j : Int) := by omega
    have j0 : (0 : Int) ≤ (j : Int) := by omega
    have j1 : (j : Int) < (n : Int) := by omega
    have HKL : Hid (j + 1 ≤ n ∧ n ≤ c) := ⟨hk, hc⟩
    have jc : ((j + 1 : Nat) : Int) ≤ (c : Int) := by omega
    by_cases cz : l.getD j 0 = 0
    · have HK2 : Hid (shortN l j = shortN l n) := by
        rw [← HK.out]
        exact (if_pos cz : shortN l (j + 1) = shortN l j).symm
      rw [cz] at k0
      clear cz hc' HK
      go_wp2_with fail
      go_roundw
      case rel => exact ⟨j, by first | rfl | go_num, by have := HKL.out; omega, HK2.out, by first | exact True.intro | exact rfl⟩
      case measure => simp [intOf]
    · have HE : Hid ((shortL l).length = j + 1) := by
        rw [HS.out, ← HK.out]
        exact (if_neg cz : shortN l (j + 1) = j + 1)
      obtain ⟨z, hz'⟩ : ∃ z, l.getD j 0 = z := ⟨_, rfl⟩
      rw [hz'] at k0 cz
      have cz' : (z == (0 : Int)) = false := beq_eq_false_iff_ne.2 cz
      clear hz' hc' HK hz HR
      go_wp2_with fail
      go_ret
      rw [HE.out]
      exact ⟨by first | rfl | simp, by trivial⟩
end Go.Proofs.Ytanlnfcmmfmofaa
