/- The contracts of oathbookref2.Inv and Pow. -/
import Derived.Test.YtfefhjnjndfchaaDoorRfieldm
namespace Go.Proofs.YtfefhjnjndfchaaDoor
open Go.RowKit
set_option linter.unusedVariables false
set_option linter.unusedSimpArgs false

theorem gpow_z (n : Nat) (h : n ≠ 0) : gpow 0 n = 0 := by
  obtain ⟨m, rfl⟩ : ∃ m, n = m + 1 := ⟨n - 1, by omega⟩
  exact gpow_zero m
set_option maxRecDepth 100000 in
set_option maxHeartbeats 1000000 in
theorem rinv_any (a : Nat) (w : World) (ha : a < 256) (h0 : a ≠ 0) :
    Calls Tryd.prog 7 #[.int .u8 (a : Int)] w fun e w' => e = .returned (.int .u8 ((ginv a : Nat) : Int)) ∧ w' = w := by
  have HA : Hid (a < 256 ∧ a ≠ 0) := ⟨ha, h0⟩
  have hg := ginv_lt a
  have HG : Hid (∀ b, b < 256 → gm a b = 1 → b = ginv a) := fun b hb h => ginv_only ha hb h
  have HG1 : Hid (gm a (ginv a) = 1 ∧ ginv a ≠ 0) := ⟨gm_ginv ha h0, ginv_ne a⟩
  obtain ⟨v, hv⟩ : ∃ v, ginv a = v := ⟨_, rfl⟩
  have HV : Hid (ginv a = v) := hv
  rw [hv] at hg HG HG1
  simp only [hv]
  clear hv h0
  go_enter Tryd.func7, Tryd.ntmps7
  go_wp2_with fail
  go_loopw [3] (fun bv wr => ∃ b : Nat, bv = .int .i64 (b : Int) ∧ b ≤ v ∧ Hid (wr = w)) (fun bv _ => 256 - (intOf bv).toNat)
  case atStart => exact ⟨1, rfl, by have := HG1.out.2; omega, rfl⟩
  case round =>
    obtain ⟨b, rfl, hb, HW⟩ := hrel
    have hw := HW.out
    subst hw
    have g1 : (b : Int) < 256 := by omega
    have b8 : b < 256 := by omega
    have HM : Hid (∀ wx, Calls Tryd.prog 6 #[.int .u8 (a : Int), .int .u8 (b : Int)] wx fun e w' => e = .returned (.int .u8 ((gm a b : Nat) : Int)) ∧ w' = wx) := fun wx => rmul_any a b wx ha b8
    have hm8 := gm_lt a b
    have HB := HG.out b b8
    have HNE : Hid (gm a b ≠ 1 → b < v) := fun h => by
      rcases Nat.lt_or_ge b v with q | q
      · exact q
      · have : b = v := by omega
        exact absurd (this ▸ HG1.out.1) h
    have HBD : Hid (b < 256) := b8
    generalize gm a b = m at *
    go_wp2_with fail
    refine (HM.out wr).mono ?_
    rintro e wx ⟨rfl, hq⟩
    have hq' : wr = wx := hq.symm
    subst hq'
    by_cases c : m = 1
    · subst c
      have HBV : Hid (b = v) := HB rfl
      clear HB
      go_wp2_with fail
      go_ret
      rw [HBV.out]
      exact ⟨rfl, rfl⟩
    · have c1 : ((m : Int) == 1) = false := beq_eq_false_iff_ne.2 (by omega)
      have HLT : Hid (b + 1 ≤ v) := HNE.out c
      clear HB
      go_wp2_with fail
      go_roundw
      case rel => exact ⟨b + 1, by go_num, HLT.out, by trivial⟩
      case measure => have := HBD.out; simp [intOf]; omega
set_option maxRecDepth 100000 in
set_option maxHeartbeats 1000000 in
theorem rpow_any (a n : Nat) (w : World) (ha : a < 256) (hn : n ≤ 9223372036854775807) :
    Calls Tryd.prog 10 #[.int .u8 (a : Int), .int .i64 (n : Int)] w fun e w' => e = .returned (.int .u8 ((gpow a n : Nat) : Int)) ∧ w' = w := by
  by_cases h0 : a = 0
  · subst h0
    by_cases hz : n = 0
    · subst hz
      go_enter Tryd.func10, Tryd.ntmps10
      go_wp2_with fail
      go_ret
      exact ⟨rfl, rfl⟩
    · have c1 : ((n : Int) == 0) = false := beq_eq_false_iff_ne.2 (by omega)
      have HZ : Hid (gpow 0 n = 0) := gpow_z n hz
      go_enter Tryd.func10, Tryd.ntmps10
      go_wp2_with fail
      go_ret
      rw [HZ.out]
      exact ⟨rfl, rfl⟩
  · have c1 : ((a : Int) == 0) = false := beq_eq_false_iff_ne.2 (by omega)
    have HP : Hid (gpow a (n % 255) = gpow a n) := (gpow_mod ha h0 n).symm
    have d3 : (n : Int).tmod 255 = ((n % 255 : Nat) : Int) := by rw [Int.tmod_eq_emod_of_nonneg (by omega)]; omega
    have d4 : (n : Int) % 255 = ((n % 255 : Nat) : Int) := by omega
    have hr : n % 255 < 255 := Nat.mod_lt _ (by omega)
    generalize n % 255 = r at *
    go_enter Tryd.func10, Tryd.ntmps10
    go_wp2_with fail
    go_loopw [5, 6] (fun pv kv wr => ∃ p k : Nat, pv = .int .u8 (p : Int) ∧ kv = .int .i64 (k : Int) ∧ p < 256 ∧ k ≤ r ∧ Hid (p = gpow a k) ∧ Hid (wr = w)) (fun _ kv _ => r - (intOf kv).toNat)
    case atStart => exact ⟨1, 0, rfl, rfl, by omega, Nat.zero_le _, rfl, rfl⟩
    case round =>
      obtain ⟨p, k, rfl, rfl, hp, hk, HE, HW⟩ := hrel
      have hw := HW.out
      subst hw
      by_cases hlt : k < r
      · have g1 : (k : Int) < (r : Int) := by omega
        have HM : Hid (∀ wx, Calls Tryd.prog 6 #[.int .u8 (p : Int), .int .u8 (a : Int)] wx fun e w' => e = .returned (.int .u8 ((gm p a : Nat) : Int)) ∧ w' = wx) := fun wx => rmul_any p a wx hp ha
        have hm8 := gm_lt p a
        have HE2 : Hid (gm p a = gpow a (k + 1)) := by unfold Hid; rw [HE.out]; rfl
        have HI : Hid (k + 1 ≤ r) := hlt
        clear HE
        generalize gm p a = m at *
        go_wp2_with fail
        refine (HM.out wr).mono ?_
        rintro e wx ⟨rfl, hq⟩
        have hq' : wr = wx := hq.symm
        subst hq'
        go_wp2_with fail
        go_roundw
        case rel => exact ⟨m, k + 1, rfl, by go_num, hm8, HI.out, HE2, by trivial⟩
        case measure => have := HI.out; simp [intOf]; omega
      · obtain rfl : k = r := by omega
        have g1 : ¬ (k : Int) < (k : Int) := by omega
        go_wp2_with fail
        go_ret
        rw [← HP.out, ← HE.out]
        exact ⟨rfl, rfl⟩
end Go.Proofs.YtfefhjnjndfchaaDoor
