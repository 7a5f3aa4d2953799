/- Texts of this claim, joined: Rfieldm, Rvalue, Rfieldi, Till. -/
import Derived.Test.YtnffmegicgbinaaJ08
import Derived.Test.YtnffmegicgbinaaJ04
import Derived.Laws.BitsAllLaws
import Derived.Test.YtnffmegicgbinaaJ01
import Derived.Deep.RegionHeld
/- The contracts of oathbookref2.Mul, Inv and Pow. -/
namespace Go.Proofs.Ytnffmegicgbinaa
open Go.RowKit
set_option linter.unusedVariables false
set_option linter.unusedSimpArgs false

set_option maxRecDepth 100000 in
set_option maxHeartbeats 1000000 in
theorem rmul_any (a b : Nat) (w : World) (ha : a < 256) (hb : b < 256) :
    Calls Try.prog 17 #[.int .u8 (a : Int), .int .u8 (b : Int)] w fun e w' => e = .returned (.int .u8 ((gm a b : Nat) : Int)) ∧ w' = w := by
  have HGM : Hid (mulT a b = gm a b) := (gm_mulT ha hb).symm
  go_enter Try.func17, Try.ntmps17
  go_wp2_with fail
  go_loopw [5, 6] (fun pv iv wr => ∃ p i : Nat, pv = .int .i64 (p : Int) ∧ iv = .int .i64 (i : Int) ∧ p < 65536 ∧ i ≤ 8 ∧ Hid (p = clm a b i) ∧ Hid (wr = w)) (fun _ iv _ => 8 - (intOf iv).toNat)
  case atStart => exact ⟨0, 0, rfl, rfl, by omega, Nat.zero_le _, rfl, rfl⟩
  case round =>
    obtain ⟨p, i, rfl, rfl, hp, hi, HP, HW⟩ := hrel
    have hw := HW.out
    subst hw
    by_cases hlt : i < 8
    · have g1 : (i : Int) < 8 := by omega
      have HI : Hid (i < 8) := hlt
      go_wp2_with fail
      rename World => wo
      go_loopw [5, 7] (fun pv jv wq => ∃ q j : Nat, pv = .int .i64 (q : Int) ∧ jv = .int .i64 (j : Int) ∧ q < 65536 ∧ j ≤ 8 ∧ Hid (q = rowm a b i j) ∧ Hid (wq = wo)) (fun _ jv _ => 8 - (intOf jv).toNat)
      case atStart => exact ⟨p, 0, rfl, rfl, hp, Nat.zero_le _, by show p = rowm a b i 0; rw [rowm_zero]; exact HP.out, rfl⟩
      case round =>
        clear HP
        obtain ⟨q, j, rfl, rfl, hq, hj, HQ, HW2⟩ := hrel
        have hw := HW2.out
        subst hw
        by_cases hlj : j < 8
        · have g2 : (j : Int) < 8 := by omega
          have HST := rowm_step a b i j
          have HJ : Hid (j < 8) := hlj
          have hrl := rowm_lt a b i (j + 1) hb HI.out
          have HFL : Hid (∀ wx, Calls Try.prog 24 #[.int .i64 (q : Int), .int .i64 ((i : Int) + (j : Int))] wx fun e w' => e = .returned (.int .i64 ((q ^^^ 2 ^ (i + j) : Nat) : Int)) ∧ w' = wx) := fun wx => by
            have h := rflip_any q (i + j) wx hq (by omega)
            rwa [Int.natCast_add] at h
          have HB1 : Hid (∀ wx, Calls Try.prog 23 #[.int .i64 (a : Int), .int .i64 (i : Int)] wx fun e w' => e = .returned (.int .i64 ((a / 2 ^ i % 2 : Nat) : Int)) ∧ w' = wx) := fun wx => rbit_any a i wx (by omega) (by omega)
          have HB2 : Hid (∀ wx, Calls Try.prog 23 #[.int .i64 (b : Int), .int .i64 (j : Int)] wx fun e w' => e = .returned (.int .i64 ((b / 2 ^ j % 2 : Nat) : Int)) ∧ w' = wx) := fun wx => rbit_any b j wx (by omega) (by omega)
          have hx2 : a / 2 ^ i % 2 < 2 := Nat.mod_lt _ (by omega)
          have hy2 : b / 2 ^ j % 2 < 2 := Nat.mod_lt _ (by omega)
          rw [← HQ.out] at HST
          obtain ⟨q2, hq2⟩ : ∃ q2, rowm a b i (j + 1) = q2 := ⟨_, rfl⟩
          have HQ2 : Hid (q2 = rowm a b i (j + 1)) := hq2.symm
          rw [hq2] at HST hrl
          clear hq2 HQ
          generalize a / 2 ^ i % 2 = x at *
          generalize b / 2 ^ j % 2 = y at *
          generalize q ^^^ 2 ^ (i + j) = q3 at *
          by_cases c1 : x = 1
          · subst c1
            by_cases c2 : y = 1
            · subst c2
              rw [if_pos ⟨rfl, rfl⟩] at HST
              subst HST
              go_wp2_with fail
              refine (HB1.out wr).mono ?_
              rintro e wx ⟨rfl, hq'⟩
              have hq'' : wr = wx := hq'.symm
              subst hq''
              go_wp2_with fail
              refine (HB2.out wr).mono ?_
              rintro e wx ⟨rfl, hq'⟩
              have hq'' : wr = wx := hq'.symm
              subst hq''
              go_wp2_with fail
              refine (HFL.out wr).mono ?_
              rintro e wx ⟨rfl, hq'⟩
              have hq'' : wr = wx := hq'.symm
              subst hq''
              go_wp2_with fail
              go_roundw
              case rel => exact ⟨q2, j + 1, rfl, by go_num, hrl, HJ.out, HQ2, by trivial⟩
              case measure => have := HJ.out; simp [intOf]; omega
            · obtain rfl : y = 0 := by omega
              rw [if_neg (fun h => c2 h.2)] at HST
              subst HST
              go_wp2_with fail
              refine (HB1.out wr).mono ?_
              rintro e wx ⟨rfl, hq'⟩
              have hq'' : wr = wx := hq'.symm
              subst hq''
              go_wp2_with fail
              refine (HB2.out wr).mono ?_
              rintro e wx ⟨rfl, hq'⟩
              have hq'' : wr = wx := hq'.symm
              subst hq''
              go_wp2_with fail
              go_roundw
              case rel => exact ⟨q2, j + 1, rfl, by go_num, hrl, HJ.out, HQ2, by trivial⟩
              case measure => have := HJ.out; simp [intOf]; omega
          · obtain rfl : x = 0 := by omega
            rw [if_neg (fun h => c1 h.1)] at HST
            subst HST
            go_wp2_with fail
            refine (HB1.out wr).mono ?_
            rintro e wx ⟨rfl, hq'⟩
            have hq'' : wr = wx := hq'.symm
            subst hq''
            go_wp2_with fail
            go_roundw
            case rel => exact ⟨q2, j + 1, rfl, by go_num, hrl, HJ.out, HQ2, by trivial⟩
            case measure => have := HJ.out; simp [intOf]; omega
        · obtain rfl : j = 8 := by omega
          have HC : Hid (q = clm a b (i + 1)) := by rw [← rowm_end a b i hb]; exact HQ.out
          clear HQ
          go_wp2_with fail
          go_roundw
          case rel => exact ⟨q, i + 1, rfl, by go_num, hq, HI.out, HC, by trivial⟩
          case measure => have := HI.out; simp [intOf]; omega
    · obtain rfl : i = 8 := by omega
      have HR0 : Hid (redk p 7 = mulT a b) := by unfold Hid; rw [HP.out]; rfl
      clear HP
      go_wp2_with fail
      rename World => wo
      go_loopw [5, 8] (fun pv kv wq => ∃ q k : Nat, pv = .int .i64 (q : Int) ∧ kv = .int .i64 (k : Int) ∧ q < 65536 ∧ 7 ≤ k ∧ k ≤ 14 ∧ Hid (redk q (k - 7) = mulT a b) ∧ Hid (wq = wo)) (fun _ kv _ => (intOf kv).toNat)
      case atStart => exact ⟨p, 14, rfl, rfl, hp, by omega, by omega, HR0.out, rfl⟩
      case round =>
        clear HR0
        obtain ⟨q, k, rfl, rfl, hq, hk7, hk14, HR, HW2⟩ := hrel
        have hw := HW2.out
        subst hw
        by_cases hk : k = 7
        · subst hk
          have HQ : Hid (q = gm a b) := by rw [← HGM.out]; exact HR.out
          have hq8 : q < 256 := by rw [HQ.out]; exact gm_lt _ _
          clear HR
          go_wp2_with fail
          go_ret
          rw [← HQ.out]
          exact ⟨rfl, by trivial⟩
        · have h8 : 8 ≤ k := by omega
          obtain ⟨m, hm⟩ : ∃ m, k = m + 8 := ⟨k - 8, by omega⟩
          have hm7 : m < 7 := by omega
          have g1 : (8 : Int) ≤ (k : Int) := by omega
          have HK : Hid (8 ≤ k ∧ k ≤ 14) := ⟨h8, hk14⟩
          have HST : Hid (redk (if q / 2 ^ k % 2 = 1 then q ^^^ (283 <<< m) else q) (k - 1 - 7) = mulT a b) := by
            have h := HR.out
            rw [hm, show m + 8 - 7 = m + 1 by omega, redk_step] at h
            rw [hm, show m + 8 - 1 - 7 = m by omega]
            exact h
          have HPF : Hid (((((q ^^^ 2 ^ k) ^^^ 2 ^ (k - 4)) ^^^ 2 ^ (k - 5)) ^^^ 2 ^ (k - 7)) ^^^ 2 ^ (k - 8) = q ^^^ (283 <<< m)) := by
            have h := poly_flips m hm7 q
            rw [hm, show m + 8 - 4 = m + 4 by omega, show m + 8 - 5 = m + 3 by omega, show m + 8 - 7 = m + 1 by omega, show m + 8 - 8 = m by omega]
            exact h
          have hpl : q ^^^ (283 <<< m) < 65536 := Nat.xor_lt_two_pow (n := 16) hq (poly_lt m hm7)
          have xlt : ∀ (u t : Nat), u < 65536 → t < 16 → u ^^^ 2 ^ t < 65536 := fun u t hu ht => Nat.xor_lt_two_pow (n := 16) hu (Nat.pow_lt_pow_right (by omega) ht)
          have HF0 : Hid (∀ wx, Calls Try.prog 24 #[.int .i64 (q : Int), .int .i64 (k : Int)] wx fun e w' => e = .returned (.int .i64 ((q ^^^ 2 ^ k : Nat) : Int)) ∧ w' = wx) := fun wx => rflip_any q k wx hq (by omega)
          have l0 := xlt q k hq (by omega)
          have HF1 : Hid (∀ wx, Calls Try.prog 24 #[.int .i64 ((q ^^^ 2 ^ k : Nat) : Int), .int .i64 ((k - 4 : Nat) : Int)] wx fun e w' => e = .returned (.int .i64 (((q ^^^ 2 ^ k) ^^^ 2 ^ (k - 4) : Nat) : Int)) ∧ w' = wx) := fun wx => rflip_any _ (k - 4) wx l0 (by omega)
          have l1 := xlt _ (k - 4) l0 (by omega)
          have HF2 : Hid (∀ wx, Calls Try.prog 24 #[.int .i64 (((q ^^^ 2 ^ k) ^^^ 2 ^ (k - 4) : Nat) : Int), .int .i64 ((k - 5 : Nat) : Int)] wx fun e w' => e = .returned (.int .i64 ((((q ^^^ 2 ^ k) ^^^ 2 ^ (k - 4)) ^^^ 2 ^ (k - 5) : Nat) : Int)) ∧ w' = wx) := fun wx => rflip_any _ (k - 5) wx l1 (by omega)
          have l2 := xlt _ (k - 5) l1 (by omega)
          have HF3 : Hid (∀ wx, Calls Try.prog 24 #[.int .i64 ((((q ^^^ 2 ^ k) ^^^ 2 ^ (k - 4)) ^^^ 2 ^ (k - 5) : Nat) : Int), .int .i64 ((k - 7 : Nat) : Int)] wx fun e w' => e = .returned (.int .i64 (((((q ^^^ 2 ^ k) ^^^ 2 ^ (k - 4)) ^^^ 2 ^ (k - 5)) ^^^ 2 ^ (k - 7) : Nat) : Int)) ∧ w' = wx) := fun wx => rflip_any _ (k - 7) wx l2 (by omega)
          have l3 := xlt _ (k - 7) l2 (by omega)
          have HF4 : Hid (∀ wx, Calls Try.prog 24 #[.int .i64 (((((q ^^^ 2 ^ k) ^^^ 2 ^ (k - 4)) ^^^ 2 ^ (k - 5)) ^^^ 2 ^ (k - 7) : Nat) : Int), .int .i64 ((k - 8 : Nat) : Int)] wx fun e w' => e = .returned (.int .i64 ((q ^^^ (283 <<< m) : Nat) : Int)) ∧ w' = wx) := fun wx => by
            have h := rflip_any _ (k - 8) wx l3 (by omega)
            rw [HPF.out] at h
            exact h
          have HBT : Hid (∀ wx, Calls Try.prog 23 #[.int .i64 (q : Int), .int .i64 (k : Int)] wx fun e w' => e = .returned (.int .i64 ((q / 2 ^ k % 2 : Nat) : Int)) ∧ w' = wx) := fun wx => rbit_any q k wx (by omega) (by omega)
          have hy2 : q / 2 ^ k % 2 < 2 := Nat.mod_lt _ (by omega)
          have HN : Hid (7 ≤ k - 1 ∧ k - 1 ≤ 14 ∧ k - 1 < k) := by unfold Hid; omega
          have e1 : (k : Int) - 1 = ((k - 1 : Nat) : Int) := by omega
          have e4 : (k : Int) - 4 = ((k - 4 : Nat) : Int) := by omega
          have e5 : (k : Int) - 5 = ((k - 5 : Nat) : Int) := by omega
          have e7 : (k : Int) - 7 = ((k - 7 : Nat) : Int) := by omega
          have e8 : (k : Int) - 8 = ((k - 8 : Nat) : Int) := by omega
          have b1 : k - 1 ≤ 14 := by omega
          have b4 : k - 4 ≤ 14 := by omega
          have b5 : k - 5 ≤ 14 := by omega
          have b7 : k - 7 ≤ 14 := by omega
          have b8 : k - 8 ≤ 14 := by omega
          clear hm hm7 HPF HR l0 l1 l2 l3 xlt hk hk7
          generalize q ^^^ (283 <<< m) = q5 at *
          generalize q / 2 ^ k % 2 = y at *
          generalize (((q ^^^ 2 ^ k) ^^^ 2 ^ (k - 4)) ^^^ 2 ^ (k - 5)) ^^^ 2 ^ (k - 7) = q4 at *
          generalize ((q ^^^ 2 ^ k) ^^^ 2 ^ (k - 4)) ^^^ 2 ^ (k - 5) = q3 at *
          generalize (q ^^^ 2 ^ k) ^^^ 2 ^ (k - 4) = q2 at *
          generalize q ^^^ 2 ^ k = q1 at *
          generalize k - 1 = k1 at *
          generalize k - 4 = k4 at *
          generalize k - 5 = k5 at *
          generalize k - 7 = k7 at *
          generalize k - 8 = k8 at *
          by_cases c : y = 1
          · subst c
            have HS2 : Hid (redk q5 (k1 - 7) = mulT a b) := by have h := HST.out; rw [if_pos rfl] at h; exact h
            clear HST
            go_wp2_with fail
            refine (HBT.out wr).mono ?_
            rintro e wx ⟨rfl, hq'⟩
            have hq'' : wr = wx := hq'.symm
            subst hq''
            go_wp2_with fail
            refine (HF0.out wr).mono ?_
            rintro e wx ⟨rfl, hq'⟩
            have hq'' : wr = wx := hq'.symm
            subst hq''
            go_wp2_with fail
            refine (HF1.out wr).mono ?_
            rintro e wx ⟨rfl, hq'⟩
            have hq'' : wr = wx := hq'.symm
            subst hq''
            go_wp2_with fail
            refine (HF2.out wr).mono ?_
            rintro e wx ⟨rfl, hq'⟩
            have hq'' : wr = wx := hq'.symm
            subst hq''
            go_wp2_with fail
            refine (HF3.out wr).mono ?_
            rintro e wx ⟨rfl, hq'⟩
            have hq'' : wr = wx := hq'.symm
            subst hq''
            go_wp2_with fail
            refine (HF4.out wr).mono ?_
            rintro e wx ⟨rfl, hq'⟩
            have hq'' : wr = wx := hq'.symm
            subst hq''
            go_wp2_with fail
            go_roundw
            case rel => exact ⟨q5, k1, rfl, by go_num, hpl, HN.out.1, HN.out.2.1, HS2, by trivial⟩
            case measure => have := HN.out; simp [intOf]; omega
          · have HS2 : Hid (redk q (k1 - 7) = mulT a b) := by have h := HST.out; rw [if_neg c] at h; exact h
            obtain rfl : y = 0 := by omega
            clear HST c
            go_wp2_with fail
            refine (HBT.out wr).mono ?_
            rintro e wx ⟨rfl, hq'⟩
            have hq'' : wr = wx := hq'.symm
            subst hq''
            go_wp2_with fail
            go_roundw
            case rel => exact ⟨q, k1, rfl, by go_num, hq, HN.out.1, HN.out.2.1, HS2, by trivial⟩
            case measure => have := HN.out; simp [intOf]; omega
end Go.Proofs.Ytnffmegicgbinaa
/- The contract of oathbookref2.Value. -/
namespace Go.Proofs.Ytnffmegicgbinaa
open Go.RowKit
set_option linter.unusedVariables false
set_option linter.unusedSimpArgs false

end Go.Proofs.Ytnffmegicgbinaa
/- The contracts of oathbookref2.Inv and Pow. -/
namespace Go.Proofs.Ytnffmegicgbinaa
open Go.RowKit
set_option linter.unusedVariables false
set_option linter.unusedSimpArgs false

theorem gpow_z (n : Nat) (h : n ≠ 0) : gpow 0 n = 0 := by
  obtain ⟨m, rfl⟩ : ∃ m, n = m + 1 := ⟨n - 1, by omega⟩
  exact gpow_zero m
set_option maxRecDepth 100000 in
set_option maxHeartbeats 1000000 in
theorem rinv_any (a : Nat) (w : World) (ha : a < 256) (h0 : a ≠ 0) :
    Calls Try.prog 18 #[.int .u8 (a : Int)] w fun e w' => e = .returned (.int .u8 ((ginv a : Nat) : Int)) ∧ w' = w := by
  have HA : Hid (a < 256 ∧ a ≠ 0) := ⟨ha, h0⟩
  have hg := ginv_lt a
  have HG : Hid (∀ b, b < 256 → gm a b = 1 → b = ginv a) := fun b hb h => ginv_only ha hb h
  have HG1 : Hid (gm a (ginv a) = 1 ∧ ginv a ≠ 0) := ⟨gm_ginv ha h0, ginv_ne a⟩
  obtain ⟨v, hv⟩ : ∃ v, ginv a = v := ⟨_, rfl⟩
  have HV : Hid (ginv a = v) := hv
  rw [hv] at hg HG HG1
  simp only [hv]
  clear hv h0
  go_enter Try.func18, Try.ntmps18
  go_wp2_with fail
  go_loopw [3] (fun bv wr => ∃ b : Nat, bv = .int .i64 (b : Int) ∧ b ≤ v ∧ Hid (wr = w)) (fun bv _ => 256 - (intOf bv).toNat)
  case atStart => exact ⟨1, rfl, by have := HG1.out.2; omega, rfl⟩
  case round =>
    obtain ⟨b, rfl, hb, HW⟩ := hrel
    have hw := HW.out
    subst hw
    have g1 : (b : Int) < 256 := by omega
    have b8 : b < 256 := by omega
    have HM : Hid (∀ wx, Calls Try.prog 17 #[.int .u8 (a : Int), .int .u8 (b : Int)] wx fun e w' => e = .returned (.int .u8 ((gm a b : Nat) : Int)) ∧ w' = wx) := fun wx => rmul_any a b wx ha b8
    have hm8 := gm_lt a b
    have HB := HG.out b b8
    have HNE : Hid (gm a b ≠ 1 → b < v) := fun h => by
      rcases Nat.lt_or_ge b v with q | q
      · exact q
      · have : b = v := by omega
        exact absurd (this ▸ HG1.out.1) h
    have HBD : Hid (b < 256) := b8
    generalize gm a b = m at *
    go_wp2_with fail
    refine (HM.out wr).mono ?_
    rintro e wx ⟨rfl, hq⟩
    have hq' : wr = wx := hq.symm
    subst hq'
    by_cases c : m = 1
    · subst c
      have HBV : Hid (b = v) := HB rfl
      clear HB
      go_wp2_with fail
      go_ret
      rw [HBV.out]
      exact ⟨rfl, rfl⟩
    · have c1 : ((m : Int) == 1) = false := beq_eq_false_iff_ne.2 (by omega)
      have HLT : Hid (b + 1 ≤ v) := HNE.out c
      clear HB
      go_wp2_with fail
      go_roundw
      case rel => exact ⟨b + 1, by go_num, HLT.out, by trivial⟩
      case measure => have := HBD.out; simp [intOf]; omega
end Go.Proofs.Ytnffmegicgbinaa
/- A region that draws its order, and whose last operation (it waits for all others) writes what was loaded: a condition on the world that holds behind each operation but the last. No theorem of the program. -/
namespace Go.Proofs.Ytnffmegicgbinaa
open Go.RowKit
set_option linter.unusedVariables false
set_option linter.unusedSimpArgs false
section
variable {P : Program} {ops : Array Oper} {Q : Exit → Act → World → Prop} {md : Region.Mode} {S : World → Prop} {last : Nat}

def wpAnyT (P : Program) (md : Region.Mode) (ops : Array Oper) (Q : Exit → Act → World → Prop) (S : World → Prop) (last : Nat) : Nat → Array Bool → Act → World → Prop
  | 0, listed, a, w => Region.ready md ops listed = [] ∧ Q .normal a w
  | fuel + 1, listed, a, w =>
    (Region.ready md ops listed = [] → Q .normal a w) ∧
    ∀ i ∈ Region.ready md ops listed, wpOp P ops Q i (fun a' w' => (i ≠ last → S w') ∧ wpAnyT P md ops Q S last fuel (listed.setIfInBounds i true) a' w') a w
theorem wpAny_of_till : ∀ (fuel : Nat) (listed : Array Bool) (a : Act) (w : World), wpAnyT P md ops Q S last fuel listed a w → wpAny P md ops Q fuel listed a w
  | 0, _, _, _, h => h
  | fuel + 1, _, _, _, h => ⟨h.1, fun i hi => wpOp_mono (fun a' w' h' => wpAny_of_till fuel _ a' w' h'.2) (h.2 i hi)⟩
/-- The last one waits for i. -/
def lastWaits (md : Region.Mode) (ops : Array Oper) (last i : Nat) : Bool := match ops[last]? with
  | none => false
  | some o => o.after.toList.any fun e => Region.binds md e && e.on == i
theorem lastWaits_spec {i : Nat} {listed : Array Bool} (h : lastWaits md ops last i = true) (hi : listed.getD i true = false) : last ∉ Region.ready md ops listed := by
  intro hl
  obtain ⟨_, o, ho, hall⟩ := mem_ready.1 hl
  unfold lastWaits at h
  rw [ho] at h
  obtain ⟨e, he, hb⟩ := List.any_eq_true.1 h
  simp only [Bool.and_eq_true, beq_iff_eq] at hb
  have := hall e (Array.mem_toList_iff.1 he) hb.1
  rw [hb.2] at this
  rcases Nat.lt_or_ge i listed.size with h' | h'
  · simp [h'] at hi this; rw [hi] at this; cases this
  · simp [Array.getElem?_eq_none h'] at this
theorem wpAnyT_first {i : Nat} {oi : Oper} {v : Value} (hi : ops[i]? = some oi) (hsel : ∀ (j : Nat) (o : Oper) cs b, ops[j]? = some o → o.op ≠ .select cs b)
    (hQ : ∀ c a w, Q (.panic c) (a.put oi.dst v) w → Q (.panic c) a w) (hw8 : lastWaits md ops last i = true) :
    ∀ (fuel : Nat) (listed : Array Bool) (a : Act) (w : World),
      (∀ j oj, ops[j]? = some oj → j ≠ i → listed.getD j true = false → (∀ e ∈ oj.after, Region.binds md e = true → e.on ≠ i) → oi.apart ops oj = true) →
      i ∈ Region.ready md ops listed → YieldsIf P ops S oi v a → S w →
      wpAnyT P md ops Q S last fuel (listed.setIfInBounds i true) (a.put oi.dst v) w → wpAnyT P md ops Q S last (fuel + 1) listed a w := by
  intro fuel
  induction fuel with
  | zero =>
    intro listed a w _ hr hy hS H
    refine ⟨fun h => (by rw [h] at hr; cases hr), fun j hj => ?_⟩
    by_cases hji : j = i
    · subst hji; exact hy.wpOp hi hS ⟨fun _ => hS, H⟩
    · have := ready_mono hj hji
      rw [H.1] at this
      cases this
  | succ fuel ih =>
    intro listed a w hfree hr hy hS H
    refine ⟨fun h => (by rw [h] at hr; cases hr), fun j hj => ?_⟩
    by_cases hji : j = i
    · subst hji; exact hy.wpOp hi hS ⟨fun _ => hS, H⟩
    · have hjl : j ≠ last := fun e => lastWaits_spec hw8 (mem_ready.1 hr).1 (e ▸ hj)
      have h1 := H.2 j (ready_mono hj hji)
      obtain ⟨hjun, oj, hoj, hall⟩ := mem_ready.1 hj
      have hnot : ∀ e ∈ oj.after, Region.binds md e = true → e.on ≠ i := fun e he hb heq => by
        have h1 := hall e he hb
        have h0 := (mem_ready.1 hr).1
        rw [heq] at h1
        rcases Nat.lt_or_ge i listed.size with h' | h'
        · simp [h'] at h0 h1; rw [h0] at h1; cases h1
        · simp [Array.getElem?_eq_none h'] at h1
      have h2 := wpOp_putIf hoj (hfree j oj hoj hji hjun hnot) (fun cs b => hsel i oi cs b hi) (fun cs b => hsel j oj cs b hoj) hQ hy h1
      have hfree' : ∀ k ok, ops[k]? = some ok → k ≠ i → (listed.setIfInBounds j true).getD k true = false →
          (∀ e ∈ ok.after, Region.binds md e = true → e.on ≠ i) → oi.apart ops ok = true := fun k ok hk hki hun hno => by
        refine hfree k ok hk hki ?_ hno
        by_cases hjk : j = k
        · subst hjk; exact hjun
        · rw [getD_set_ne true hjk] at hun; exact hun
      refine wpOp_mono (fun a' w' h3 => ⟨h3.2.1, ih (listed.setIfInBounds j true) a' w' hfree' (ready_mono hr (Ne.symm hji)) h3.1 (h3.2.1 hjl) ?_⟩) h2
      rw [Array.setIfInBounds_comm _ _ hji]
      exact h3.2.2
theorem wpAnyT_take {i : Nat} {oi : Oper} {v : Value} {fuel : Nat} {listed : Array Bool} {a : Act} {w : World} (hi : ops[i]? = some oi)
    (hs : Region.noSelect ops = true) (hf : Region.free md ops listed i = true) (hr : (Region.ready md ops listed).contains i = true) (hw8 : lastWaits md ops last i = true)
    (hQ : ∀ c a w, Q (.panic c) (a.put oi.dst v) w → Q (.panic c) a w) (hy : YieldsIf P ops S oi v a) (hS : S w)
    (h : wpAnyT P md ops Q S last fuel (listed.setIfInBounds i true) (a.put oi.dst v) w) : wpAnyT P md ops Q S last (fuel + 1) listed a w :=
  wpAnyT_first hi (Region.noSelect_spec hs) hQ hw8 fuel listed a w (Region.free_spec hi hf) (by simpa using hr) hy hS h
def AllReadyT (P : Program) (md : Region.Mode) (ops : Array Oper) (Q : Exit → Act → World → Prop) (S : World → Prop) (last : Nat) (fuel : Nat) (listed : Array Bool) (a : Act) (w : World) (rs : List Nat) : Prop :=
  ∀ i ∈ rs, wpOp P ops Q i (fun a' w' => (i ≠ last → S w') ∧ wpAnyT P md ops Q S last fuel (listed.setIfInBounds i true) a' w') a w
theorem AllReadyT.nil {fuel : Nat} {listed : Array Bool} {a : Act} {w : World} : AllReadyT P md ops Q S last fuel listed a w [] := fun _ h => by cases h
theorem AllReadyT.cons {fuel : Nat} {listed : Array Bool} {a : Act} {w : World} {i : Nat} {o : Oper} {rs : List Nat} (ho : ops[i]? = some o)
    (h : ∀ K' : Act → World → Prop, Shut (∀ a w, S w → (S w → wpAnyT P md ops Q S last fuel (listed.setIfInBounds i true) a w) → K' a w) → if Region.wanted o (yielded ops a.tmps) = true then Oper.wp P o a w K' Q else K' (a.put o.dst undef) w)
    (hs : AllReadyT P md ops Q S last fuel listed a w rs) : AllReadyT P md ops Q S last fuel listed a w (i :: rs) := fun j hj => by
  rcases List.mem_cons.1 hj with rfl | hj
  · exact wpOp_step ho (fun K' hK => h K' (fun a w hS hW => hK a w ⟨fun _ => hS, hW hS⟩))
  · exact hs j hj
/-- The last one: behind it nothing is asked of the world. -/
theorem AllReadyT.lastly {fuel : Nat} {listed : Array Bool} {a : Act} {w : World} {i : Nat} {o : Oper} {rs : List Nat} (ho : ops[i]? = some o) (hl : last = i)
    (h : ∀ K' : Act → World → Prop, Shut (∀ a w, wpAnyT P md ops Q S last fuel (listed.setIfInBounds i true) a w → K' a w) → if Region.wanted o (yielded ops a.tmps) = true then Oper.wp P o a w K' Q else K' (a.put o.dst undef) w)
    (hs : AllReadyT P md ops Q S last fuel listed a w rs) : AllReadyT P md ops Q S last fuel listed a w (i :: rs) := fun j hj => by
  rcases List.mem_cons.1 hj with rfl | hj
  · exact wpOp_step ho (fun K' hK => h K' (fun a w hW => hK a w ⟨fun hn => absurd hl.symm hn, hW⟩))
  · exact hs j hj
theorem wpAnyT_ready {rs : List Nat} {fuel : Nat} {listed : Array Bool} {a : Act} {w : World} (hr : Region.ready md ops listed = rs) (hne : rs ≠ [])
    (h : AllReadyT P md ops Q S last fuel listed a w rs) : wpAnyT P md ops Q S last (fuel + 1) listed a w := ⟨fun h0 => absurd (hr ▸ h0) hne, hr ▸ h⟩
theorem wpAnyT_done {listed : Array Bool} {a : Act} {w : World} (hr : Region.ready md ops listed = []) (h : Q .normal a w) :
    ∀ fuel, wpAnyT P md ops Q S last fuel listed a w
  | 0 => ⟨hr, h⟩
  | _ + 1 => ⟨fun _ => h, by rw [hr]; simp⟩
theorem wp_region_till {id : Nat} {a : Act} {w : World} (last : Nat) (hm : P.follows .mixedOrders = true) (hS : S w.drew)
    (h : S w.drew → wpAnyT P .any ops Q S last ops.size (Array.replicate ops.size false) a w.drew) : (Code.region id ops true).wp P Q a w :=
  wp_region_any hm (wpAny_of_till _ _ _ _ (h hS))
theorem wpIn_round_till {id : Nat} {a : Act} {w : World} (last : Nat) (l n : Nat) (hm : P.follows .mixedOrders = true) (hd : noDefer ops = true) (hQ : ¬ LetsOut Q) (hS : S w.drew)
    (h : S w.drew → wpAnyT P .any ops Q S last ops.size (Array.replicate ops.size false) a w.drew) : (Code.region id ops true).wpIn (Fence.wide.inRound l) n P Q a w :=
  wpIn_region_draw fun t => by
    refine wpOps_round l n hd hQ _ _ _ ?_
    simp only [Region.schedule, hm, Bool.true_or, if_true]
    exact wpAny_sound ops.size t _ a _ (wpAny_of_till _ _ _ _ (h hS))
end
end Go.Proofs.Ytnffmegicgbinaa
