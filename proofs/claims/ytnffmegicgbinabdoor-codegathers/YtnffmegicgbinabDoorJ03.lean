/- Texts of this claim, joined: Rfieldi. -/
import Derived.Test.YtnffmegicgbinabDoorJ02
/- The contracts of oathbookref2.Inv and Pow. -/
namespace Go.Proofs.YtnffmegicgbinabDoor
open Go.RowKit
set_option linter.unusedVariables false
set_option linter.unusedSimpArgs false

theorem gpow_z (n : Nat) (h : n ≠ 0) : gpow 0 n = 0 := by
  obtain ⟨m, rfl⟩ : ∃ m, n = m + 1 := ⟨n - 1, by omega⟩
  exact gpow_zero m
set_option maxRecDepth 100000 in
set_option maxHeartbeats 1000000 in
theorem rinv_any (a : Nat) (w : World) (ha : a < 256) (h0 : a ≠ 0) :
    Calls Tryd.prog 15 #[.int .u8 (a : Int)] w fun e w' => e = .returned (.int .u8 ((ginv a : Nat) : Int)) ∧ w' = w := by
  have HA : Hid (a < 256 ∧ a ≠ 0) := ⟨ha, h0⟩
  have hg := ginv_lt a
  have HG : Hid (∀ b, b < 256 → gm a b = 1 → b = ginv a) := fun b hb h => ginv_only ha hb h
  have HG1 : Hid (gm a (ginv a) = 1 ∧ ginv a ≠ 0) := ⟨gm_ginv ha h0, ginv_ne a⟩
  obtain ⟨v, hv⟩ : ∃ v, ginv a = v := ⟨_, rfl⟩
  have HV : Hid (ginv a = v) := hv
  rw [hv] at hg HG HG1
  simp only [hv]
  clear hv h0
  go_enter Tryd.func15, Tryd.ntmps15
  go_wp2_with fail
  go_loopw [3] (fun bv wr => ∃ b : Nat, bv = .int .i64 (b : Int) ∧ b ≤ v ∧ Hid (wr = w)) (fun bv _ => 256 - (intOf bv).toNat)
  case atStart => exact ⟨1, rfl, by have := HG1.out.2; omega, rfl⟩
  case round =>
    obtain ⟨b, rfl, hb, HW⟩ := hrel
    have hw := HW.out
    subst hw
    have g1 : (b : Int) < 256 := by omega
    have b8 : b < 256 := by omega
    have HM : Hid (∀ wx, Calls Tryd.prog 14 #[.int .u8 (a : Int), .int .u8 (b : Int)] wx fun e w' => e = .returned (.int .u8 ((gm a b : Nat) : Int)) ∧ w' = wx) := fun wx => rmul_any a b wx ha b8
    have hm8 := gm_lt a b
    have HB := HG.out b b8
    have HNE : Hid (gm a b ≠ 1 → b < v) := fun h => by
      rcases Nat.lt_or_ge b v with q | q
      · exact q
      · have : b = v := by omega
        exact absurd (this ▸ HG1.out.1) h
    have HBD : Hid (b < 256) := b8
    generalize gm a b = m at *
    go_wp2_with fail
    refine (HM.out wr).mono ?_
    rintro e wx ⟨rfl, hq⟩
    have hq' : wr = wx := hq.symm
    subst hq'
    by_cases c : m = 1
    · subst c
      have HBV : Hid (b = v) := HB rfl
      clear HB
      go_wp2_with fail
      go_ret
      rw [HBV.out]
      exact ⟨rfl, rfl⟩
    · have c1 : ((m : Int) == 1) = false := beq_eq_false_iff_ne.2 (by omega)
      have HLT : Hid (b + 1 ≤ v) := HNE.out c
      clear HB
      go_wp2_with fail
      go_roundw
      case rel => exact ⟨b + 1, by go_num, HLT.out, by trivial⟩
      case measure => have := HBD.out; simp [intOf]; omega
end Go.Proofs.YtnffmegicgbinabDoor
