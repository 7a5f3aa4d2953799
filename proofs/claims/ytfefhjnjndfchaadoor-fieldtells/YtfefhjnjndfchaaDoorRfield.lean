/- The contracts of oathbookref2.bit, flip, Mul, Inv and Pow. -/
import Derived.Test.YtfefhjnjndfchaaDoorFieldb
namespace Go.Proofs.YtfefhjnjndfchaaDoor
open Go.RowKit
set_option linter.unusedVariables false
set_option linter.unusedSimpArgs false

set_option maxRecDepth 100000 in
set_option maxHeartbeats 1000000 in
theorem rbit_any (n i : Nat) (w : World) (hn : n ≤ 1000000) (hi : i ≤ 100) :
    Calls Tryd.prog 13 #[.int .i64 (n : Int), .int .i64 (i : Int)] w fun e w' => e = .returned (.int .i64 ((n / 2 ^ i % 2 : Nat) : Int)) ∧ w' = w := by
  go_enter Tryd.func13, Tryd.ntmps13
  go_wp2_with fail
  go_loopw [0, 5] (fun nv kv wr => ∃ m k : Nat, nv = .int .i64 (m : Int) ∧ kv = .int .i64 (k : Int) ∧ m ≤ 1000000 ∧ k ≤ i ∧ Hid (m = n / 2 ^ k) ∧ Hid (wr = w)) (fun _ kv _ => i - (intOf kv).toNat)
  case atStart => exact ⟨n, 0, rfl, rfl, hn, Nat.zero_le _, by show n = n / 2 ^ 0; simp, rfl⟩
  case round =>
    obtain ⟨m, k, rfl, rfl, hm, hk, HM, HW⟩ := hrel
    by_cases hlt : k < i
    · have g1 : (k : Int) < (i : Int) := by omega
      have HM2 : Hid (m / 2 = n / 2 ^ (k + 1)) := by unfold Hid; rw [HM.out, Nat.div_div_eq_div_mul, Nat.pow_succ]
      have d1 : (m : Int).tdiv 2 = ((m / 2 : Nat) : Int) := by rw [Int.tdiv_eq_ediv_of_nonneg (by omega)]; omega
      have d2 : (m : Int) / 2 = ((m / 2 : Nat) : Int) := by omega
      have hb : m / 2 ≤ 1000000 := by omega
      have HI : Hid (k + 1 ≤ i) := hlt
      clear HM
      generalize m / 2 = m' at *
      go_wp2_with fail
      go_roundw
      case rel => exact ⟨m', k + 1, by go_num, by go_num, hb, HI.out, HM2, HW⟩
      case measure => have := HI.out; simp [intOf]; omega
    · obtain rfl : k = i := by omega
      have g1 : ¬ (k : Int) < (k : Int) := by omega
      have d3 : (m : Int).tmod 2 = ((m % 2 : Nat) : Int) := by rw [Int.tmod_eq_emod_of_nonneg (by omega)]; omega
      have d4 : (m : Int) % 2 = ((m % 2 : Nat) : Int) := by omega
      have HR : Hid (m % 2 = n / 2 ^ k % 2) := by unfold Hid; rw [HM.out]
      have hb : m % 2 ≤ 1 := by omega
      clear HM
      generalize m % 2 = m' at *
      go_wp2_with fail
      go_ret
      rw [HR.out]
      exact ⟨rfl, HW.out⟩
set_option maxRecDepth 100000 in
set_option maxHeartbeats 1000000 in
theorem rflip_any (n i : Nat) (w : World) (hn : n < 65536) (hi : i < 16) :
    Calls Tryd.prog 14 #[.int .i64 (n : Int), .int .i64 (i : Int)] w fun e w' => e = .returned (.int .i64 ((n ^^^ 2 ^ i : Nat) : Int)) ∧ w' = w := by
  have HFX : Hid (n ^^^ 2 ^ i = if n / 2 ^ i % 2 = 1 then n - 2 ^ i else n + 2 ^ i) := flip_xor i n
  have HPB : Hid (∀ k, k ≤ i → 2 ^ k ≤ 65536) := fun k hk => Nat.pow_le_pow_right (n := 2) (by omega) (show k ≤ 16 by omega)
  have HLE : Hid (n / 2 ^ i % 2 = 1 → 2 ^ i ≤ n) := fun h => by
    have : 0 < n / 2 ^ i := Nat.pos_of_ne_zero fun e => by rw [e] at h; exact absurd h (by decide)
    exact (Nat.div_pos_iff.1 this).2
  go_enter Tryd.func14, Tryd.ntmps14
  go_wp2_with fail
  go_loopw [5, 6] (fun av kv wr => ∃ m k : Nat, av = .int .i64 (m : Int) ∧ kv = .int .i64 (k : Int) ∧ m ≤ 65536 ∧ k ≤ i ∧ Hid (m = 2 ^ k) ∧ Hid (wr = w)) (fun _ kv _ => i - (intOf kv).toNat)
  case atStart => exact ⟨1, 0, rfl, rfl, by omega, Nat.zero_le _, rfl, rfl⟩
  case round =>
    obtain ⟨m, k, rfl, rfl, hm, hk, HM, HW⟩ := hrel
    by_cases hlt : k < i
    · have g1 : (k : Int) < (i : Int) := by omega
      have HM2 : Hid (2 * m = 2 ^ (k + 1)) := by unfold Hid; rw [HM.out, Nat.pow_succ, Nat.mul_comm]
      have hb : 2 * m ≤ 65536 := by rw [HM2.out]; exact HPB.out (k + 1) hlt
      have HI : Hid (k + 1 ≤ i) := hlt
      clear HM
      go_wp2_with fail
      go_roundw
      case rel => exact ⟨2 * m, k + 1, by go_num, by go_num, hb, HI.out, HM2, HW⟩
      case measure => have := HI.out; simp [intOf]; omega
    · obtain rfl : k = i := by omega
      have g1 : ¬ (k : Int) < (k : Int) := by omega
      have hw := HW.out
      subst hw
      go_wp2_with fail
      refine (rbit_any n k wr (by omega) (by omega)).mono ?_
      rintro e wq ⟨rfl, hq⟩
      have hq' : wr = wq := hq.symm
      subst hq'
      by_cases c : n / 2 ^ k % 2 = 1
      · have HE : Hid (n ^^^ 2 ^ k = n - m) := by unfold Hid; rw [HFX.out, if_pos c, HM.out]
        have hle : m ≤ n := by rw [HM.out]; exact HLE.out c
        rw [c]
        clear HFX HLE HPB HM c
        have k1 : IntKind.i64.wrap ((n : Int) - (m : Int)) = ((n - m : Nat) : Int) := by rw [IntKind.wrap_i64]; omega
        have k2 : wrap64 ((n : Int) - (m : Int)) = ((n - m : Nat) : Int) := by simp only [wrap64]; omega
        generalize n - m = d at *
        go_wp2_with fail
        go_ret
        rw [HE.out]
        exact ⟨rfl, rfl⟩
      · have HE : Hid (n ^^^ 2 ^ k = n + m) := by unfold Hid; rw [HFX.out, if_neg c, HM.out]
        have hc : n / 2 ^ k % 2 = 0 := by omega
        rw [hc]
        clear HFX HLE HPB HM c hc
        go_wp2_with fail
        go_ret
        rw [HE.out]
        exact ⟨by go_num, rfl⟩
end Go.Proofs.YtfefhjnjndfchaaDoor
