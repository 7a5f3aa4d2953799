/- The contracts of oathbookref2.Mul, Inv and Pow. -/
import Derived.Test.YtfefhjnjndfchaaDoorRfield
namespace Go.Proofs.YtfefhjnjndfchaaDoor
open Go.RowKit
set_option linter.unusedVariables false
set_option linter.unusedSimpArgs false

set_option maxRecDepth 100000 in
set_option maxHeartbeats 1000000 in
theorem rmul_any (a b : Nat) (w : World) (ha : a < 256) (hb : b < 256) :
    Calls Tryd.prog 6 #[.int .u8 (a : Int), .int .u8 (b : Int)] w fun e w' => e = .returned (.int .u8 ((gm a b : Nat) : Int)) ∧ w' = w := by
  have HGM : Hid (mulT a b = gm a b) := (gm_mulT ha hb).symm
  go_enter Tryd.func6, Tryd.ntmps6
  go_wp2_with fail
  go_loopw [5, 6] (fun pv iv wr => ∃ p i : Nat, pv = .int .i64 (p : Int) ∧ iv = .int .i64 (i : Int) ∧ p < 65536 ∧ i ≤ 8 ∧ Hid (p = clm a b i) ∧ Hid (wr = w)) (fun _ iv _ => 8 - (intOf iv).toNat)
  case atStart => exact ⟨0, 0, rfl, rfl, by omega, Nat.zero_le _, rfl, rfl⟩
  case round =>
    obtain ⟨p, i, rfl, rfl, hp, hi, HP, HW⟩ := hrel
    have hw := HW.out
    subst hw
    by_cases hlt : i < 8
    · have g1 : (i : Int) < 8 := by omega
      have HI : Hid (i < 8) := hlt
      go_wp2_with fail
      rename World => wo
      go_loopw [5, 7] (fun pv jv wq => ∃ q j : Nat, pv = .int .i64 (q : Int) ∧ jv = .int .i64 (j : Int) ∧ q < 65536 ∧ j ≤ 8 ∧ Hid (q = rowm a b i j) ∧ Hid (wq = wo)) (fun _ jv _ => 8 - (intOf jv).toNat)
      case atStart => exact ⟨p, 0, rfl, rfl, hp, Nat.zero_le _, by show p = rowm a b i 0; rw [rowm_zero]; exact HP.out, rfl⟩
      case round =>
        clear HP
        obtain ⟨q, j, rfl, rfl, hq, hj, HQ, HW2⟩ := hrel
        have hw := HW2.out
        subst hw
        by_cases hlj : j < 8
        · have g2 : (j : Int) < 8 := by omega
          have HST := rowm_step a b i j
          have HJ : Hid (j < 8) := hlj
          have hrl := rowm_lt a b i (j + 1) hb HI.out
          have HFL : Hid (∀ wx, Calls Tryd.prog 14 #[.int .i64 (q : Int), .int .i64 ((i : Int) + (j : Int))] wx fun e w' => e = .returned (.int .i64 ((q ^^^ 2 ^ (i + j) : Nat) : Int)) ∧ w' = wx) := fun wx => by
            have h := rflip_any q (i + j) wx hq (by omega)
            rwa [Int.natCast_add] at h
          have HB1 : Hid (∀ wx, Calls Tryd.prog 13 #[.int .i64 (a : Int), .int .i64 (i : Int)] wx fun e w' => e = .returned (.int .i64 ((a / 2 ^ i % 2 : Nat) : Int)) ∧ w' = wx) := fun wx => rbit_any a i wx (by omega) (by omega)
          have HB2 : Hid (∀ wx, Calls Tryd.prog 13 #[.int .i64 (b : Int), .int .i64 (j : Int)] wx fun e w' => e = .returned (.int .i64 ((b / 2 ^ j % 2 : Nat) : Int)) ∧ w' = wx) := fun wx => rbit_any b j wx (by omega) (by omega)
          have hx2 : a / 2 ^ i % 2 < 2 := Nat.mod_lt _ (by omega)
          have hy2 : b / 2 ^ j % 2 < 2 := Nat.mod_lt _ (by omega)
          rw [← HQ.out] at HST
          obtain ⟨q2, hq2⟩ : ∃ q2, rowm a b i (j + 1) = q2 := ⟨_, rfl⟩
          have HQ2 : Hid (q2 = rowm a b i (j + 1)) := hq2.symm
          rw [hq2] at HST hrl
          clear hq2 HQ
          generalize a / 2 ^ i % 2 = x at *
          generalize b / 2 ^ j % 2 = y at *
          generalize q ^^^ 2 ^ (i + j) = q3 at *
          by_cases c1 : x = 1
          · subst c1
            by_cases c2 : y = 1
            · subst c2
              rw [if_pos ⟨rfl, rfl⟩] at HST
              subst HST
              go_wp2_with fail
              refine (HB1.out wr).mono ?_
              rintro e wx ⟨rfl, hq'⟩
              have hq'' : wr = wx := hq'.symm
              subst hq''
              go_wp2_with fail
              refine (HB2.out wr).mono ?_
              rintro e wx ⟨rfl, hq'⟩
              have hq'' : wr = wx := hq'.symm
              subst hq''
              go_wp2_with fail
              refine (HFL.out wr).mono ?_
              rintro e wx ⟨rfl, hq'⟩
              have hq'' : wr = wx := hq'.symm
              subst hq''
              go_wp2_with fail
              go_roundw
              case rel => exact ⟨q2, j + 1, rfl, by go_num, hrl, HJ.out, HQ2, by trivial⟩
              case measure => have := HJ.out; simp [intOf]; omega
            · obtain rfl : y = 0 := by omega
              rw [if_neg (fun h => c2 h.2)] at HST
              subst HST
              go_wp2_with fail
              refine (HB1.out wr).mono ?_
              rintro e wx ⟨rfl, hq'⟩
              have hq'' : wr = wx := hq'.symm
              subst hq''
              go_wp2_with fail
              refine (HB2.out wr).mono ?_
              rintro e wx ⟨rfl, hq'⟩
              have hq'' : wr = wx := hq'.symm
              subst hq''
              go_wp2_with fail
              go_roundw
              case rel => exact ⟨q2, j + 1, rfl, by go_num, hrl, HJ.out, HQ2, by trivial⟩
              case measure => have := HJ.out; simp [intOf]; omega
          · obtain rfl : x = 0 := by omega
            rw [if_neg (fun h => c1 h.1)] at HST
            subst HST
            go_wp2_with fail
            refine (HB1.out wr).mono ?_
            rintro e wx ⟨rfl, hq'⟩
            have hq'' : wr = wx := hq'.symm
            subst hq''
            go_wp2_with fail
            go_roundw
            case rel => exact ⟨q2, j + 1, rfl, by go_num, hrl, HJ.out, HQ2, by trivial⟩
            case measure => have := HJ.out; simp [intOf]; omega
        · obtain rfl : j = 8 := by omega
          have HC : Hid (q = clm a b (i + 1)) := by rw [← rowm_end a b i hb]; exact HQ.out
          clear HQ
          go_wp2_with fail
          go_roundw
          case rel => exact ⟨q, i + 1, rfl, by go_num, hq, HI.out, HC, by trivial⟩
          case measure => have := HI.out; simp [intOf]; omega
    · obtain rfl : i = 8 := by omega
      have HR0 : Hid (redk p 7 = mulT a b) := by unfold Hid; rw [HP.out]; rfl
      clear HP
      go_wp2_with fail
      rename World => wo
      go_loopw [5, 8] (fun pv kv wq => ∃ q k : Nat, pv = .int .i64 (q : Int) ∧ kv = .int .i64 (k : Int) ∧ q < 65536 ∧ 7 ≤ k ∧ k ≤ 14 ∧ Hid (redk q (k - 7) = mulT a b) ∧ Hid (wq = wo)) (fun _ kv _ => (intOf kv).toNat)
      case atStart => exact ⟨p, 14, rfl, rfl, hp, by omega, by omega, HR0.out, rfl⟩
      case round =>
        clear HR0
        obtain ⟨q, k, rfl, rfl, hq, hk7, hk14, HR, HW2⟩ := hrel
        have hw := HW2.out
        subst hw
        by_cases hk : k = 7
        · subst hk
          have HQ : Hid (q = gm a b) := by rw [← HGM.out]; exact HR.out
          have hq8 : q < 256 := by rw [HQ.out]; exact gm_lt _ _
          clear HR
          go_wp2_with fail
          go_ret
          rw [← HQ.out]
          exact ⟨rfl, by trivial⟩
        · have h8 : 8 ≤ k := by omega
          obtain ⟨m, hm⟩ : ∃ m, k = m + 8 := ⟨k - 8, by omega⟩
          have hm7 : m < 7 := by omega
          have g1 : (8 : Int) ≤ (k : Int) := by omega
          have HK : Hid (8 ≤ k ∧ k ≤ 14) := ⟨h8, hk14⟩
          have HST : Hid (redk (if q / 2 ^ k % 2 = 1 then q ^^^ (283 <<< m) else q) (k - 1 - 7) = mulT a b) := by
            have h := HR.out
            rw [hm, show m + 8 - 7 = m + 1 by omega, redk_step] at h
            rw [hm, show m + 8 - 1 - 7 = m by omega]
            exact h
          have HPF : Hid (((((q ^^^ 2 ^ k) ^^^ 2 ^ (k - 4)) ^^^ 2 ^ (k - 5)) ^^^ 2 ^ (k - 7)) ^^^ 2 ^ (k - 8) = q ^^^ (283 <<< m)) := by
            have h := poly_flips m hm7 q
            rw [hm, show m + 8 - 4 = m + 4 by omega, show m + 8 - 5 = m + 3 by omega, show m + 8 - 7 = m + 1 by omega, show m + 8 - 8 = m by omega]
            exact h
          have hpl : q ^^^ (283 <<< m) < 65536 := Nat.xor_lt_two_pow (n := 16) hq (poly_lt m hm7)
          have xlt : ∀ (u t : Nat), u < 65536 → t < 16 → u ^^^ 2 ^ t < 65536 := fun u t hu ht => Nat.xor_lt_two_pow (n := 16) hu (Nat.pow_lt_pow_right (by omega) ht)
          have HF0 : Hid (∀ wx, Calls Tryd.prog 14 #[.int .i64 (q : Int), .int .i64 (k : Int)] wx fun e w' => e = .returned (.int .i64 ((q ^^^ 2 ^ k : Nat) : Int)) ∧ w' = wx) := fun wx => rflip_any q k wx hq (by omega)
          have l0 := xlt q k hq (by omega)
          have HF1 : Hid (∀ wx, Calls Tryd.prog 14 #[.int .i64 ((q ^^^ 2 ^ k : Nat) : Int), .int .i64 ((k - 4 : Nat) : Int)] wx fun e w' => e = .returned (.int .i64 (((q ^^^ 2 ^ k) ^^^ 2 ^ (k - 4) : Nat) : Int)) ∧ w' = wx) := fun wx => rflip_any _ (k - 4) wx l0 (by omega)
          have l1 := xlt _ (k - 4) l0 (by omega)
          have HF2 : Hid (∀ wx, Calls Tryd.prog 14 #[.int .i64 (((q ^^^ 2 ^ k) ^^^ 2 ^ (k - 4) : Nat) : Int), .int .i64 ((k - 5 : Nat) : Int)] wx fun e w' => e = .returned (.int .i64 ((((q ^^^ 2 ^ k) ^^^ 2 ^ (k - 4)) ^^^ 2 ^ (k - 5) : Nat) : Int)) ∧ w' = wx) := fun wx => rflip_any _ (k - 5) wx l1 (by omega)
          have l2 := xlt _ (k - 5) l1 (by omega)
          have HF3 : Hid (∀ wx, Calls Tryd.prog 14 #[.int .i64 ((((q ^^^ 2 ^ k) ^^^ 2 ^ (k - 4)) ^^^ 2 ^ (k - 5) : Nat) : Int), .int .i64 ((k - 7 : Nat) : Int)] wx fun e w' => e = .returned (.int .i64 (((((q ^^^ 2 ^ k) ^^^ 2 ^ (k - 4)) ^^^ 2 ^ (k - 5)) ^^^ 2 ^ (k - 7) : Nat) : Int)) ∧ w' = wx) := fun wx => rflip_any _ (k - 7) wx l2 (by omega)
          have l3 := xlt _ (k - 7) l2 (by omega)
          have HF4 : Hid (∀ wx, Calls Tryd.prog 14 #[.int .i64 (((((q ^^^ 2 ^ k) ^^^ 2 ^ (k - 4)) ^^^ 2 ^ (k - 5)) ^^^ 2 ^ (k - 7) : Nat) : Int), .int .i64 ((k - 8 : Nat) : Int)] wx fun e w' => e = .returned (.int .i64 ((q ^^^ (283 <<< m) : Nat) : Int)) ∧ w' = wx) := fun wx => by
            have h := rflip_any _ (k - 8) wx l3 (by omega)
            rw [HPF.out] at h
            exact h
          have HBT : Hid (∀ wx, Calls Tryd.prog 13 #[.int .i64 (q : Int), .int .i64 (k : Int)] wx fun e w' => e = .returned (.int .i64 ((q / 2 ^ k % 2 : Nat) : Int)) ∧ w' = wx) := fun wx => rbit_any q k wx (by omega) (by omega)
          have hy2 : q / 2 ^ k % 2 < 2 := Nat.mod_lt _ (by omega)
          have HN : Hid (7 ≤ k - 1 ∧ k - 1 ≤ 14 ∧ k - 1 < k) := by unfold Hid; omega
          have e1 : (k : Int) - 1 = ((k - 1 : Nat) : Int) := by omega
          have e4 : (k : Int) - 4 = ((k - 4 : Nat) : Int) := by omega
          have e5 : (k : Int) - 5 = ((k - 5 : Nat) : Int) := by omega
          have e7 : (k : Int) - 7 = ((k - 7 : Nat) : Int) := by omega
          have e8 : (k : Int) - 8 = ((k - 8 : Nat) : Int) := by omega
          have b1 : k - 1 ≤ 14 := by omega
          have b4 : k - 4 ≤ 14 := by omega
          have b5 : k - 5 ≤ 14 := by omega
          have b7 : k - 7 ≤ 14 := by omega
          have b8 : k - 8 ≤ 14 := by omega
          clear hm hm7 HPF HR l0 l1 l2 l3 xlt hk hk7
          generalize q ^^^ (283 <<< m) = q5 at *
          generalize q / 2 ^ k % 2 = y at *
          generalize (((q ^^^ 2 ^ k) ^^^ 2 ^ (k - 4)) ^^^ 2 ^ (k - 5)) ^^^ 2 ^ (k - 7) = q4 at *
          generalize ((q ^^^ 2 ^ k) ^^^ 2 ^ (k - 4)) ^^^ 2 ^ (k - 5) = q3 at *
          generalize (q ^^^ 2 ^ k) ^^^ 2 ^ (k - 4) = q2 at *
          generalize q ^^^ 2 ^ k = q1 at *
          generalize k - 1 = k1 at *
          generalize k - 4 = k4 at *
          generalize k - 5 = k5 at *
          generalize k - 7 = k7 at *
          generalize k - 8 = k8 at *
          by_cases c : y = 1
          · subst c
            have HS2 : Hid (redk q5 (k1 - 7) = mulT a b) := by have h := HST.out; rw [if_pos rfl] at h; exact h
            clear HST
            go_wp2_with fail
            refine (HBT.out wr).mono ?_
            rintro e wx ⟨rfl, hq'⟩
            have hq'' : wr = wx := hq'.symm
            subst hq''
            go_wp2_with fail
            refine (HF0.out wr).mono ?_
            rintro e wx ⟨rfl, hq'⟩
            have hq'' : wr = wx := hq'.symm
            subst hq''
            go_wp2_with fail
            refine (HF1.out wr).mono ?_
            rintro e wx ⟨rfl, hq'⟩
            have hq'' : wr = wx := hq'.symm
            subst hq''
            go_wp2_with fail
            refine (HF2.out wr).mono ?_
            rintro e wx ⟨rfl, hq'⟩
            have hq'' : wr = wx := hq'.symm
            subst hq''
            go_wp2_with fail
            refine (HF3.out wr).mono ?_
            rintro e wx ⟨rfl, hq'⟩
            have hq'' : wr = wx := hq'.symm
            subst hq''
            go_wp2_with fail
            refine (HF4.out wr).mono ?_
            rintro e wx ⟨rfl, hq'⟩
            have hq'' : wr = wx := hq'.symm
            subst hq''
            go_wp2_with fail
            go_roundw
            case rel => exact ⟨q5, k1, rfl, by go_num, hpl, HN.out.1, HN.out.2.1, HS2, by trivial⟩
            case measure => have := HN.out; simp [intOf]; omega
          · have HS2 : Hid (redk q (k1 - 7) = mulT a b) := by have h := HST.out; rw [if_neg c] at h; exact h
            obtain rfl : y = 0 := by omega
            clear HST c
            go_wp2_with fail
            refine (HBT.out wr).mono ?_
            rintro e wx ⟨rfl, hq'⟩
            have hq'' : wr = wx := hq'.symm
            subst hq''
            go_wp2_with fail
            go_roundw
            case rel => exact ⟨q, k1, rfl, by go_num, hq, HN.out.1, HN.out.2.1, HS2, by trivial⟩
            case measure => have := HN.out; simp [intOf]; omega
end Go.Proofs.YtfefhjnjndfchaaDoor
