/- The contract of oathbookref1.digit. -/
import Derived.Test.YtdfncpljcmdieaaDoorMath
namespace Go.Proofs.YtdfncpljcmdieaaDoor
open Go.RowKit
set_option linter.unusedVariables false
/-- What a digit counts; below 0: it is none. -/
def digR (c : Int) : Int := if digK c = true then digV c else -1
theorem digR_hexd (k : Int) (h0 : 0 ≤ k) (h1 : k < 16) : digR (hexd k) = k := by
  have h := digV_hexd k h0 h1
  unfold digR
  rw [if_pos h.2.1, h.1]
theorem digR_none (c : Int) (h : ∀ j : Nat, j < 16 → ¬ hexd j = c) : digR c = -1 := by
  unfold digR
  by_cases hk : digK c = true
  · have b := digV_bd c
    have := h (digV c).toNat (by omega)
    rw [show (((digV c).toNat : Nat) : Int) = digV c from by omega] at this
    exact absurd (hexd_digV c hk) this
  · rw [if_neg hk]
theorem hexlitN (k : Nat) (h1 : k < 16) : ∀ p, (((⟨#[48, 49, 50, 51, 52, 53, 54, 55, 56, 57, 97, 98, 99, 100, 101, 102]⟩ : ByteArray)[k]'p).toNat : Int) = hexd k := by
  intro p
  have hn : k = 0 ∨ k = 1 ∨ k = 2 ∨ k = 3 ∨ k = 4 ∨ k = 5 ∨ k = 6 ∨ k = 7 ∨ k = 8 ∨ k = 9 ∨ k = 10 ∨ k = 11 ∨ k = 12 ∨ k = 13 ∨ k = 14 ∨ k = 15 := by omega
  rcases hn with rfl | rfl | rfl | rfl | rfl | rfl | rfl | rfl | rfl | rfl | rfl | rfl | rfl | rfl | rfl | rfl <;> rfl

set_option maxRecDepth 100000 in
set_option maxHeartbeats 400000 in
theorem rdigit_any (c : Int) (w : World) (h0 : 0 ≤ c) (h1 : c ≤ 255) :
    Calls Tryd.prog 15 #[.int .u8 c] w fun e w' => e = .returned (.int .i64 (digR c)) ∧ w' = w := by
  go_enter Tryd.func15, Tryd.ntmps15
  go_wp2
  go_loop [3] (fun i => ∃ k : Nat, k ≤ 16 ∧ i = .int .i64 k ∧ ∀ j : Nat, j < k → ¬ hexd j = c) (fun i => 16 - (intOf i).toNat)
  case atStart => exact ⟨0, Nat.zero_le _, rfl, fun j hj => by omega⟩
  case round =>
    obtain ⟨k, hk, rfl, hall⟩ := hrel
    have HA : Hid (∀ j : Nat, j < k → ¬ hexd j = c) := hall
    clear hall
    by_cases hlt : k < 16
    · have x1 := hexlitN k hlt
      have hlt' : (k : Int) < 16 := by omega
      have hk0 : (0 : Int) ≤ (k : Int) := by omega
      by_cases hq : hexd k = c
      · have hb : (hexd k == c) = true := by simp [hq]
        have HQ : Hid (hexd k = c) := hq
        clear hq
        go_wp2
        go_ret
        exact ⟨ret_int (by rw [← HQ.out, digR_hexd _ hk0 hlt']), rfl⟩
      · have hb : (hexd k == c) = false := by simp [hq]
        have HQ : Hid (¬ hexd k = c) := hq
        clear hq
        go_wp2
        go_round
        case rel => exact ⟨k + 1, by omega, by go_num, fun j hj => by
          by_cases hjk : j = k
          · subst hjk; exact HQ.out
          · exact HA.out j (by omega)⟩
        case measure => simp [intOf]; omega
    · obtain rfl : k = 16 := by omega
      go_wp2
      go_ret
      exact ⟨ret_int (by rw [digR_none _ HA.out]), rfl⟩
end Go.Proofs.YtdfncpljcmdieaaDoor
