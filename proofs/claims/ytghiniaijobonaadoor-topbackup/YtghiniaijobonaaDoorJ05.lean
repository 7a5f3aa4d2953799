/- Texts of this claim, joined: Wfield. -/
import Derived.Test.YtghiniaijobonaaDoorJ04
import Derived.Laws.BitsAllLaws
import Derived.WalkKit
/- The contracts of package field: Add, Mul, Inv, Pow. -/
namespace Go.Proofs.YtghiniaijobonaaDoor
open Go.RowKit
set_option linter.unusedVariables false
set_option linter.unusedSimpArgs false
theorem fu8_bit (x s : Nat) (hx : x < 256) : bits .and .u8 ((x : Int) / 2 ^ s) 1 = ((x / 2 ^ s % 2 : Nat) : Int) := by
  have h : x / 2 ^ s < 256 := Nat.lt_of_le_of_lt (Nat.div_le_self _ _) hx
  have e : (x : Int) / 2 ^ s = ((x / 2 ^ s : Nat) : Int) := by simp
  rw [e, show (1 : Int) = ((1 : Nat) : Int) from rfl, u8_and_nat _ _ h (by omega), Nat.and_one_is_mod]
theorem fi64_bit (n : Nat) (hn : n ≤ 9223372036854775807) : bits .and .i64 (n : Int) 1 = ((n % 2 : Nat) : Int) := by
  show IntKind.i64.wrap ((BitVec.ofInt 64 (n : Int) &&& BitVec.ofInt 64 (1 : Int)).toNat : Int) = _
  rw [BitVec.toNat_and, ofInt_u64 _ (by omega), show (BitVec.ofInt 64 (1 : Int)).toNat = 1 by decide, Nat.and_one_is_mod]
  simp only [IntKind.wrap, IntKind.bits, IntKind.signed, Bool.true_and]
  rw [if_neg (by simp; omega)]
  omega

set_option maxRecDepth 100000 in
set_option maxHeartbeats 1000000 in
theorem wfield_add0 (a b : Nat) (w : World) (ha : a < 256) (hb : b < 256) :
    Calls Tryd.prog 28 #[.int .u8 (a : Int), .int .u8 (b : Int)] w fun e w' => e = .returned (.int .u8 ((a ^^^ b : Nat) : Int)) ∧ w' = w := by
  have hx := u8_xor_nat a b ha hb
  go_enter Tryd.func28, Tryd.ntmps28
  go_wp2_with fail
  go_ret
  exact ⟨rfl, rfl⟩
theorem wfield_add (a b : Nat) (w : World) (G : Env w) (ha : a < 256) (hb : b < 256) :
    Calls Tryd.prog 28 #[.int .u8 (a : Int), .int .u8 (b : Int)] w fun e w' => e = .returned (.int .u8 ((a ^^^ b : Nat) : Int)) ∧ Below w.heap.size w w' :=
  (wfield_add0 a b w ha hb).mono fun e w' h => ⟨h.1, by rw [h.2]; exact Below.refl _ _⟩
set_option maxRecDepth 100000 in
set_option maxHeartbeats 1000000 in
theorem wfield_tx (a : Nat) (w : World) (ha : a < 256) :
    Calls Tryd.prog 47 #[.int .u8 (a : Int)] w fun e w' => e = .returned (.int .u8 ((gm a 2 : Nat) : Int)) ∧ w' = w := by
  have HG : Hid (gm a 2 = if a / 128 = 1 then (a * 2 % 256) ^^^ 27 else a * 2 % 256) := gm_two a ha
  have d1 : (a : Int) * 2 % 256 = ((a * 2 % 256 : Nat) : Int) := by omega
  have d2 : (a : Int) / 128 = ((a / 128 : Nat) : Int) := by omega
  have hu : a * 2 % 256 < 256 := Nat.mod_lt _ (by omega)
  have HU : Hid (a / 128 = 0 → ((a * 2 % 256 : Nat) : Int) = (a : Int) * 2) := fun h => by omega
  have ht : a / 128 < 2 := by omega
  obtain ⟨v, hv⟩ : ∃ v, gm a 2 = v := ⟨_, rfl⟩
  rw [hv] at HG
  simp only [hv]
  clear hv
  generalize a * 2 % 256 = u at *
  generalize a / 128 = t at *
  have HA : Hid (∀ wx, Calls Tryd.prog 28 #[.int .u8 (u : Int), .int .u8 (27 : Int)] wx fun e w' => e = .returned (.int .u8 ((u ^^^ 27 : Nat) : Int)) ∧ w' = wx) := fun wx => wfield_add0 u 27 wx hu (by omega)
  generalize u ^^^ 27 = x at *
  by_cases c : t = 1
  · subst c
    have HV : Hid (v = x) := by have h := HG.out; rwa [if_pos rfl] at h
    clear HG
    go_enter Tryd.func47, Tryd.ntmps47
    go_wp2_with fail
    refine (HA.out w).mono ?_
    rintro e wx ⟨rfl, hq⟩
    have hq' : w = wx := hq.symm
    subst hq'
    go_wp2_with fail
    go_ret
    rw [HV.out]
    exact ⟨rfl, rfl⟩
  · obtain rfl : t = 0 := by omega
    have HV : Hid ((v : Int) = (a : Int) * 2) := by
      have h := HG.out
      rw [if_neg c] at h
      rw [h]
      exact HU.out rfl
    clear HG HU
    go_enter Tryd.func47, Tryd.ntmps47
    go_wp2_with fail
    go_ret
    rw [HV.out]
    exact ⟨rfl, rfl⟩
set_option maxRecDepth 100000 in
set_option maxHeartbeats 1000000 in
theorem wfield_mul0 (a b : Nat) (w : World) (ha : a < 256) (hb : b < 256) :
    Calls Tryd.prog 29 #[.int .u8 (a : Int), .int .u8 (b : Int)] w fun e w' => e = .returned (.int .u8 ((gm a b : Nat) : Int)) ∧ w' = w := by
  have HA : Hid (a < 256) := ha
  have HE : Hid (pm a b 8 = gm a b) := pm_end a b hb
  go_enter Tryd.func29, Tryd.ntmps29
  go_wp2_with fail
  go_loopw [0, 5, 7] (fun av pv iv wr => ∃ x p i : Nat, av = .int .u8 (x : Int) ∧ pv = .int .u8 (p : Int) ∧ iv = .int .i64 (i : Int) ∧ x < 256 ∧ p < 256 ∧ i ≤ 8 ∧ Hid (x = txn a i) ∧ Hid (p = pm a b i) ∧ Hid (wr = w)) (fun _ _ iv _ => 8 - (intOf iv).toNat)
  case atStart => exact ⟨a, 0, 0, rfl, rfl, rfl, ha, by omega, Nat.zero_le _, rfl, (pm_zero a b).symm, rfl⟩
  case round =>
    obtain ⟨x, p, i, rfl, rfl, rfl, hx, hp, hi, HX, HP, HW⟩ := hrel
    have hw := HW.out
    subst hw
    by_cases hlt : i < 8
    · have g1 : (i : Int) < 8 := by omega
      have HI : Hid (i < 8) := hlt
      have HS := pm_step a b i HA.out hlt
      rw [← txn_is a HA.out i hlt, ← HX.out, ← HP.out] at HS
      have HX2 : Hid (gm x 2 = txn a (i + 1)) := by rw [HX.out]; exact rfl
      have hpl := pm_lt a b (i + 1)
      obtain ⟨p2, hp2⟩ : ∃ p2, pm a b (i + 1) = p2 := ⟨_, rfl⟩
      have HP2 : Hid (p2 = pm a b (i + 1)) := hp2.symm
      rw [hp2] at HS hpl
      clear hp2 HP HX
      have hbit := fu8_bit b i hb
      have hz2 : b / 2 ^ i % 2 < 2 := Nat.mod_lt _ (by omega)
      have HT : Hid (∀ wx, Calls Tryd.prog 47 #[.int .u8 (x : Int)] wx fun e w' => e = .returned (.int .u8 ((gm x 2 : Nat) : Int)) ∧ w' = wx) := fun wx => wfield_tx x wx hx
      have HD : Hid (∀ wx, Calls Tryd.prog 28 #[.int .u8 (p : Int), .int .u8 (x : Int)] wx fun e w' => e = .returned (.int .u8 ((p ^^^ x : Nat) : Int)) ∧ w' = wx) := fun wx => wfield_add0 p x wx hp hx
      have hx2 := gm_lt x 2
      generalize gm x 2 = y at *
      generalize b / 2 ^ i % 2 = z at *
      generalize p ^^^ x = q at *
      by_cases c : z = 1
      · subst c
        rw [if_pos rfl] at HS
        subst HS
        go_wp2_with fail
        refine (HD.out wr).mono ?_
        rintro e wx ⟨rfl, hq⟩
        have hq' : wr = wx := hq.symm
        subst hq'
        go_wp2_with fail
        refine (HT.out wr).mono ?_
        rintro e wx ⟨rfl, hq⟩
        have hq' : wr = wx := hq.symm
        subst hq'
        go_wp2_with fail
        go_roundw
        case rel => exact ⟨y, p2, i + 1, rfl, rfl, by go_num, hx2, hpl, HI.out, HX2, HP2, by trivial⟩
        case measure => have := HI.out; simp [intOf]; omega
      · obtain rfl : z = 0 := by omega
        rw [if_neg c] at HS
        subst HS
        go_wp2_with fail
        refine (HT.out wr).mono ?_
        rintro e wx ⟨rfl, hq⟩
        have hq' : wr = wx := hq.symm
        subst hq'
        go_wp2_with fail
        go_roundw
        case rel => exact ⟨y, p2, i + 1, rfl, rfl, by go_num, hx2, hpl, HI.out, HX2, HP2, by trivial⟩
        case measure => have := HI.out; simp [intOf]; omega
    · obtain rfl : i = 8 := by omega
      have HR : Hid (p = gm a b) := by rw [← HE.out]; exact HP.out
      clear HP HX
      go_wp2_with fail
      go_ret
      rw [HR.out]
      exact ⟨rfl, by trivial⟩
theorem wfield_mul (a b : Nat) (w : World) (G : Env w) (ha : a < 256) (hb : b < 256) :
    Calls Tryd.prog 29 #[.int .u8 (a : Int), .int .u8 (b : Int)] w fun e w' => e = .returned (.int .u8 ((gm a b : Nat) : Int)) ∧ Below w.heap.size w w' :=
  (wfield_mul0 a b w ha hb).mono fun e w' h => ⟨h.1, by rw [h.2]; exact Below.refl _ _⟩
set_option maxRecDepth 100000 in
set_option maxHeartbeats 1000000 in
theorem wfield_power (a n : Nat) (w : World) (ha : a < 256) (hn : n ≤ 9223372036854775807) :
    Calls Tryd.prog 57 #[.int .u8 (a : Int), .int .i64 (n : Int)] w fun e w' => e = .returned (.int .u8 ((gpow a n : Nat) : Int)) ∧ w' = w := by
  go_enter Tryd.func57, Tryd.ntmps57
  go_wp2_with fail
  go_loopw [0, 1, 5] (fun av nv pv wr => ∃ x m p : Nat, av = .int .u8 (x : Int) ∧ nv = .int .i64 (m : Int) ∧ pv = .int .u8 (p : Int) ∧ x < 256 ∧ m ≤ 9223372036854775807 ∧ p < 256 ∧ Hid (gm p (gpow x m) = gpow a n) ∧ Hid (wr = w)) (fun _ nv _ _ => (intOf nv).toNat)
  case atStart => exact ⟨a, n, 1, rfl, rfl, rfl, ha, hn, by omega, one_gm (gpow_lt a n), rfl⟩
  case round =>
    obtain ⟨x, m, p, rfl, rfl, rfl, hx, hm, hp, HR, HW⟩ := hrel
    have hw := HW.out
    subst hw
    by_cases hlt : 0 < m
    · have g1 : (0 : Int) < (m : Int) := by omega
      have HM0 : Hid (0 < m ∧ m ≤ 9223372036854775807) := ⟨hlt, hm⟩
      have hbit := fi64_bit m hm
      have d2 : (m : Int) / 2 = ((m / 2 : Nat) : Int) := by omega
      have HH : Hid (m / 2 < m) := by show m / 2 < m; omega
      have hh : m / 2 ≤ 9223372036854775807 := by omega
      have hz2 : m % 2 < 2 := Nat.mod_lt _ (by omega)
      have HX : Hid (∀ wx, Calls Tryd.prog 29 #[.int .u8 (x : Int), .int .u8 (x : Int)] wx fun e w' => e = .returned (.int .u8 ((gm x x : Nat) : Int)) ∧ w' = wx) := fun wx => wfield_mul0 x x wx hx hx
      have HP : Hid (∀ wx, Calls Tryd.prog 29 #[.int .u8 (p : Int), .int .u8 (x : Int)] wx fun e w' => e = .returned (.int .u8 ((gm p x : Nat) : Int)) ∧ w' = wx) := fun wx => wfield_mul0 p x wx hp hx
      have hxx := gm_lt x x
      have hpx := gm_lt p x
      have HO : Hid (m % 2 = 1 → gm (gm p x) (gpow (gm x x) (m / 2)) = gpow a n) := fun h => by rw [gpow_odd p x m hx h]; exact HR.out
      have HV : Hid (m % 2 = 0 → gm p (gpow (gm x x) (m / 2)) = gpow a n) := fun h => by rw [gpow_even p x m hx h]; exact HR.out
      clear HR
      generalize gm x x = y at *
      generalize gm p x = q at *
      generalize m % 2 = z at *
      generalize m / 2 = k at *
      by_cases c : z = 1
      · subst c
        have HF : Hid (gm q (gpow y k) = gpow a n) := HO.out rfl
        clear HO HV
        go_wp2_with fail
        refine (HP.out wr).mono ?_
        rintro e wx ⟨rfl, hq⟩
        have hq' : wr = wx := hq.symm
        subst hq'
        go_wp2_with fail
        refine (HX.out wr).mono ?_
        rintro e wx ⟨rfl, hq⟩
        have hq' : wr = wx := hq.symm
        subst hq'
        go_wp2_with fail
        go_roundw
        case rel => exact ⟨y, k, q, rfl, rfl, rfl, hxx, hh, hpx, HF, by trivial⟩
        case measure => have := HH.out; simp [intOf]; omega
      · obtain rfl : z = 0 := by omega
        have HF : Hid (gm p (gpow y k) = gpow a n) := HV.out rfl
        clear HO HV
        go_wp2_with fail
        refine (HX.out wr).mono ?_
        rintro e wx ⟨rfl, hq⟩
        have hq' : wr = wx := hq.symm
        subst hq'
        go_wp2_with fail
        go_roundw
        case rel => exact ⟨y, k, p, rfl, rfl, rfl, hxx, hh, hp, HF, by trivial⟩
        case measure => have := HH.out; simp [intOf]; omega
    · obtain rfl : m = 0 := by omega
      have HF : Hid (p = gpow a n) := by
        have h := HR.out
        rwa [show gpow x 0 = 1 from rfl, gm_one hp] at h
      clear HR
      go_wp2_with fail
      go_ret
      rw [HF.out]
      exact ⟨rfl, by trivial⟩
set_option maxRecDepth 100000 in
set_option maxHeartbeats 1000000 in
theorem wfield_inv0 (a : Nat) (w : World) (ha : a < 256) (h0 : a ≠ 0) :
    Calls Tryd.prog 46 #[.int .u8 (a : Int)] w fun e w' => e = .returned (.tuple #[.int .u8 ((ginv a : Nat) : Int), .nilIface]) ∧ w' = w := by
  have HP : Hid (∀ wx, Calls Tryd.prog 57 #[.int .u8 (a : Int), .int .i64 254] wx fun e w' => e = .returned (.int .u8 ((ginv a : Nat) : Int)) ∧ w' = wx) := fun wx => by
    have h := wfield_power a 254 wx ha (by omega)
    rw [gpow_254 a ha h0] at h
    exact h
  have c1 : ((a : Int) == 0) = false := beq_eq_false_iff_ne.2 (by omega)
  generalize ginv a = v at *
  go_enter Tryd.func46, Tryd.ntmps46
  go_wp2_with fail
  refine (HP.out w).mono ?_
  rintro e wx ⟨rfl, hq⟩
  have hq' : w = wx := hq.symm
  subst hq'
  go_wp2_with fail
  go_ret2
  exact ⟨rfl, rfl⟩
theorem wfield_inv (a : Nat) (w : World) (G : Env w) (ha : a < 256) (h0 : a ≠ 0) :
    Calls Tryd.prog 46 #[.int .u8 (a : Int)] w fun e w' => e = .returned (.tuple #[.int .u8 ((ginv a : Nat) : Int), .nilIface]) ∧ Below w.heap.size w w' :=
  (wfield_inv0 a w ha h0).mono fun e w' h => ⟨h.1, by rw [h.2]; exact Below.refl _ _⟩
set_option maxRecDepth 100000 in
set_option maxHeartbeats 1000000 in
theorem wfield_invout (w : World) (G : Env w) :
    Calls Tryd.prog 46 #[.int .u8 0] w fun e w' => e = .returned (.tuple #[.int .u8 0, .iface 51 (.int .i64 2)]) ∧ Below w.heap.size w w' := by
  go_enter Tryd.func46, Tryd.ntmps46
  go_wp2_with fail
  go_ret2
  exact ⟨rfl, Below.refl _ _⟩
end Go.Proofs.YtghiniaijobonaaDoor
