/- Texts of this claim, joined: Joinw, Fieldx, Wfield, Wweight. -/
import Derived.Test.YtnffmegicgbinabDoorJ05
import Derived.Test.YtnffmegicgbinabDoorJ10
import Derived.Test.YtnffmegicgbinabDoorJ02
import Derived.Test.YtnffmegicgbinabDoorJ01
import Derived.Laws.BitsAllLaws
import Derived.WalkKit
import Derived.OrdersHeld
import Derived.Deep.RegionHeld3
/- What Join's sums hold between two shares: plain facts. -/
namespace Go.Proofs.YtnffmegicgbinabDoor
open Go.RowKit
set_option linter.unusedVariables false
set_option linter.unusedSimpArgs false

def placeA (ss : List Shr) (i : Nat) : Nat := (ss.map (·.1)).getD i 0
theorem placeA_at {ss : List Shr} {i : Nat} (h : i < ss.length) : placeA ss i = (ss.getD i noS).1 := by
  unfold placeA
  rw [List.getD_eq_getElem?_getD, List.getD_eq_getElem?_getD, List.getElem?_map, List.getElem?_eq_getElem h]
  rfl
theorem placeA_lt {ss : List Shr} (hp : ∀ s ∈ ss, s.1 < 256) (i : Nat) : placeA ss i < 256 := getD_bys (places_bys hp) i
theorem colNw_at {ss : List Shr} {i k : Nat} (h : i < ss.length) : (colN ss k).getD i 0 = ((ss.getD i noS).2.getD k 0).toNat := by
  unfold colN
  rw [List.getD_eq_getElem?_getD, List.getElem?_map, List.getD_eq_getElem?_getD (l := ss), List.getElem?_eq_getElem h]
  rfl
/-- What share k counts for. -/
def wtS (ss : List Shr) (x k : Nat) : Nat := lwt (placeA ss) x ss.length k
theorem wtS_lt (ss : List Shr) (x k : Nat) : wtS ss x k < 256 := lwt_lt _ _ _ _
/-- The sum at place i, of the first k shares. -/
def accN (ss : List Shr) (x k i : Nat) : Nat := lsum (placeA ss) (fun j => (colN ss i).getD j 0) x ss.length k
theorem accN_lt (ss : List Shr) (x k i : Nat) : accN ss x k i < 256 := lsum_lt _ _ _ _ _
theorem accN_zero (ss : List Shr) (x i : Nat) : accN ss x 0 i = 0 := rfl
theorem accN_succ {ss : List Shr} {k : Nat} (h : k < ss.length) (x i : Nat) : accN ss x (k + 1) i = accN ss x k i ^^^ gm (wtS ss x k) ((ss.getD k noS).2.getD i 0).toNat := by
  show lsum _ _ _ _ (k + 1) = _
  rw [← colNw_at h]
  rfl
/-- The row: below i of k + 1 shares, else of k. -/
def mixL (ss : List Shr) (x F k i : Nat) : List UInt8 := (List.range F).map fun j => UInt8.ofNat (accN ss x (if j < i then k + 1 else k) j)
theorem mixL_length (ss : List Shr) (x F k i : Nat) : (mixL ss x F k i).length = F := by simp [mixL]
theorem mixL_at (ss : List Shr) {x F k i j : Nat} (h : j < F) : (mixL ss x F k i).getD j 0 = UInt8.ofNat (accN ss x (if j < i then k + 1 else k) j) := by
  unfold mixL
  rw [List.getD_eq_getElem?_getD, List.getElem?_map, List.getElem?_range h]
  rfl
/-- At the end it is what the shares tell at x. -/
theorem mixL_joined {ss : List Shr} {x : Nat} (hx : x < 256) (hp : ∀ s ∈ ss, s.1 < 256) (hd : (ss.map (·.1)).Nodup) : joinedP ss x (mixL ss x (ss.getD 0 noS).2.length ss.length 0) := by
  refine ⟨mixL_length _ _ _ _ _, fun k hk => ?_⟩
  rw [mixL_length] at hk
  have e : (nb (mixL ss x (ss.getD 0 noS).2.length ss.length 0)).getD k 0 = accN ss x ss.length k := by
    rw [nb_at, mixL_at ss hk, if_neg (by omega)]
    have := accN_lt ss x ss.length k
    rw [UInt8.toNat_ofNat']
    omega
  rw [e]
  have hv : bys (colN ss k) := fun y hy => by
    obtain ⟨s, _, rfl⟩ := List.mem_map.1 hy
    exact UInt8.toNat_lt _
  have h := lsum_interp (at' := ss.map (·.1)) (v := colN ss k) (x := x) (places_bys hp) hv hd hx
  rw [List.length_map] at h
  exact h
/-- Products on the way to a share's weight. -/
def overN (ss : List Shr) (x k m : Nat) : Nat := np (placeA ss) x k m
def underN (ss : List Shr) (k m : Nat) : Nat := np (placeA ss) (placeA ss k) k m
theorem overN_lt (ss : List Shr) (x k m : Nat) : overN ss x k m < 256 := np_lt _ _ _ _
theorem underN_lt (ss : List Shr) (k m : Nat) : underN ss k m < 256 := np_lt _ _ _ _
theorem overN_skip (ss : List Shr) (x k : Nat) : overN ss x k (k + 1) = overN ss x k k := if_pos rfl
theorem underN_skip (ss : List Shr) (k : Nat) : underN ss k (k + 1) = underN ss k k := if_pos rfl
theorem overN_step (ss : List Shr) (x : Nat) {k m : Nat} (h : m ≠ k) : overN ss x k (m + 1) = gm (overN ss x k m) (placeA ss m ^^^ x) := by
  have e : overN ss x k (m + 1) = gm (np (placeA ss) x k m) (x ^^^ placeA ss m) := if_neg h
  rw [e, Nat.xor_comm]
  rfl
theorem underN_step (ss : List Shr) {k m : Nat} (h : m ≠ k) : underN ss k (m + 1) = gm (underN ss k m) (placeA ss m ^^^ placeA ss k) := by
  have e : underN ss k (m + 1) = gm (np (placeA ss) (placeA ss k) k m) (placeA ss k ^^^ placeA ss m) := if_neg h
  rw [e, Nat.xor_comm]
  rfl
theorem wtS_is (ss : List Shr) (x k : Nat) : wtS ss x k = gm (overN ss x k ss.length) (ginv (underN ss k ss.length)) := rfl
theorem underN_ne {ss : List Shr} (hp : ∀ s ∈ ss, s.1 < 256) (hd : (ss.map (·.1)).Nodup) {k : Nat} (hk : k < ss.length) : underN ss k ss.length ≠ 0 := by
  refine np_ne (placeA_lt hp) (placeA_lt hp k) _ fun j hj hjk e => ?_
  unfold placeA at e
  have hl : (ss.map (·.1)).length = ss.length := List.length_map _
  rw [List.getD_eq_getElem?_getD, List.getD_eq_getElem?_getD, List.getElem?_eq_getElem (by rw [hl]; exact hj), List.getElem?_eq_getElem (by rw [hl]; exact hk)] at e
  have hq := List.pairwise_iff_getElem.1 (List.nodup_iff_pairwise_ne.1 hd)
  rcases Nat.lt_or_gt_of_ne hjk with q | q
  · exact hq j k (by rw [hl]; exact hj) (by rw [hl]; exact hk) q e
  · exact hq k j (by rw [hl]; exact hk) (by rw [hl]; exact hj) q e.symm
end Go.Proofs.YtnffmegicgbinabDoor
/- How the program's product and power go: plain facts (no theorem of the program). -/
namespace Go.Proofs.YtnffmegicgbinabDoor
set_option linter.unusedVariables false
set_option linter.unusedSimpArgs false

theorem gm_two : ∀ a, a < 256 → gm a 2 = if a / 128 = 1 then (a * 2 % 256) ^^^ 27 else a * 2 % 256 := by decide +kernel
theorem two_gm : ∀ i, i < 7 → gm (2 ^ i) 2 = 2 ^ (i + 1) := by decide +kernel
theorem two_pow_lt : ∀ i, i < 8 → 2 ^ i < 256 := by decide
/-- The product by the places of b below i. -/
def pm (a b i : Nat) : Nat := gm a (b % 2 ^ i)
theorem pm_zero (a b : Nat) : pm a b 0 = 0 := by
  unfold pm
  rw [Nat.pow_zero, Nat.mod_one, gm_zero]
theorem pm_end (a b : Nat) (hb : b < 256) : pm a b 8 = gm a b := by
  unfold pm
  rw [Nat.mod_eq_of_lt (by omega)]
theorem pm_lt (a b i : Nat) : pm a b i < 256 := gm_lt _ _
theorem pm_step (a b i : Nat) (ha : a < 256) (hi : i < 8) :
    pm a b (i + 1) = if b / 2 ^ i % 2 = 1 then pm a b i ^^^ gm a (2 ^ i) else pm a b i := by
  have hp := two_pow_lt i hi
  have h0 : b % 2 ^ i < 256 := Nat.lt_trans (Nat.mod_lt _ (Nat.two_pow_pos i)) hp
  unfold pm
  rw [mod_step]
  rcases Nat.mod_two_eq_zero_or_one (b / 2 ^ i) with h | h
  · rw [h, if_neg (by omega), Nat.zero_mul, Nat.xor_zero]
  · rw [h, if_pos rfl, Nat.one_mul, gm_xor ha h0 hp]
/-- A byte, i times x (behind the last place of b nobody asks). -/
def txn (a : Nat) : Nat → Nat
  | 0 => a
  | n + 1 => gm (txn a n) 2
theorem txn_lt (a n : Nat) (ha : a < 256) : txn a n < 256 := by
  cases n with
  | zero => exact ha
  | succ n => exact gm_lt _ _
theorem txn_is (a : Nat) (ha : a < 256) : ∀ i, i < 8 → txn a i = gm a (2 ^ i) := by
  intro i
  induction i with
  | zero => intro _; exact (gm_one ha).symm
  | succ i ih =>
    intro h
    show gm (txn a i) 2 = _
    rw [ih (by omega), gm_assoc, two_gm i (by omega)]
theorem gpow_two (a : Nat) (ha : a < 256) : gpow a 2 = gm a a := by
  show gm (gm 1 a) a = _
  rw [one_gm ha]
theorem gpow_half (a n : Nat) (ha : a < 256) : gpow (gm a a) (n / 2) = gpow a (2 * (n / 2)) := by
  rw [← gpow_two a ha, gpow_mul]
theorem gpow_even (p a n : Nat) (ha : a < 256) (h : n % 2 = 0) : gm p (gpow (gm a a) (n / 2)) = gm p (gpow a n) := by
  rw [gpow_half a n ha, show 2 * (n / 2) = n by omega]
theorem gpow_odd (p a n : Nat) (ha : a < 256) (h : n % 2 = 1) : gm (gm p a) (gpow (gm a a) (n / 2)) = gm p (gpow a n) := by
  rw [gpow_half a n ha, gm_assoc]
  obtain ⟨m, hm⟩ : ∃ m, n = 2 * m + 1 := ⟨n / 2, by omega⟩
  subst hm
  rw [show (2 * m + 1) / 2 = m by omega, show gpow a (2 * m + 1) = gm (gpow a (2 * m)) a from rfl, gm_comm a]
theorem gpow_254 (a : Nat) (ha : a < 256) (h0 : a ≠ 0) : gpow a 254 = ginv a := by
  refine ginv_only ha (gpow_lt _ _) ?_
  rw [gm_comm]
  exact gpow_255 ha h0
end Go.Proofs.YtnffmegicgbinabDoor
/- The contracts of package field: Add, Mul, Inv, Pow. -/
namespace Go.Proofs.YtnffmegicgbinabDoor
open Go.RowKit
set_option linter.unusedVariables false
set_option linter.unusedSimpArgs false
theorem fu8_bit (x s : Nat) (hx : x < 256) : bits .and .u8 ((x : Int) / 2 ^ s) 1 = ((x / 2 ^ s % 2 : Nat) : Int) := by
  have h : x / 2 ^ s < 256 := Nat.lt_of_le_of_lt (Nat.div_le_self _ _) hx
  have e : (x : Int) / 2 ^ s = ((x / 2 ^ s : Nat) : Int) := by simp
  rw [e, show (1 : Int) = ((1 : Nat) : Int) from rfl, u8_and_nat _ _ h (by omega), Nat.and_one_is_mod]
theorem fi64_bit (n : Nat) (hn : n ≤ 9223372036854775807) : bits .and .i64 (n : Int) 1 = ((n % 2 : Nat) : Int) := by
  show IntKind.i64.wrap ((BitVec.ofInt 64 (n : Int) &&& BitVec.ofInt 64 (1 : Int)).toNat : Int) = _
  rw [BitVec.toNat_and, ofInt_u64 _ (by omega), show (BitVec.ofInt 64 (1 : Int)).toNat = 1 by decide, Nat.and_one_is_mod]
  simp only [IntKind.wrap, IntKind.bits, IntKind.signed, Bool.true_and]
  rw [if_neg (by simp; omega)]
  omega

set_option maxRecDepth 100000 in
set_option maxHeartbeats 1000000 in
theorem wfield_add0 (a b : Nat) (w : World) (ha : a < 256) (hb : b < 256) :
    Calls Tryd.prog 24 #[.int .u8 (a : Int), .int .u8 (b : Int)] w fun e w' => e = .returned (.int .u8 ((a ^^^ b : Nat) : Int)) ∧ w' = w := by
  have hx := u8_xor_nat a b ha hb
  go_enter Tryd.func24, Tryd.ntmps24
  go_wp2_with fail
  go_ret
  exact ⟨rfl, rfl⟩
theorem wfield_add (a b : Nat) (w : World) (G : Env w) (ha : a < 256) (hb : b < 256) :
    Calls Tryd.prog 24 #[.int .u8 (a : Int), .int .u8 (b : Int)] w fun e w' => e = .returned (.int .u8 ((a ^^^ b : Nat) : Int)) ∧ Below w.heap.size w w' :=
  (wfield_add0 a b w ha hb).mono fun e w' h => ⟨h.1, by rw [h.2]; exact Below.refl _ _⟩
set_option maxRecDepth 100000 in
set_option maxHeartbeats 1000000 in
theorem wfield_tx (a : Nat) (w : World) (ha : a < 256) :
    Calls Tryd.prog 32 #[.int .u8 (a : Int)] w fun e w' => e = .returned (.int .u8 ((gm a 2 : Nat) : Int)) ∧ w' = w := by
  have HG : Hid (gm a 2 = if a / 128 = 1 then (a * 2 % 256) ^^^ 27 else a * 2 % 256) := gm_two a ha
  have d1 : (a : Int) * 2 % 256 = ((a * 2 % 256 : Nat) : Int) := by omega
  have d2 : (a : Int) / 128 = ((a / 128 : Nat) : Int) := by omega
  have hu : a * 2 % 256 < 256 := Nat.mod_lt _ (by omega)
  have HU : Hid (a / 128 = 0 → ((a * 2 % 256 : Nat) : Int) = (a : Int) * 2) := fun h => by omega
  have ht : a / 128 < 2 := by omega
  obtain ⟨v, hv⟩ : ∃ v, gm a 2 = v := ⟨_, rfl⟩
  rw [hv] at HG
  simp only [hv]
  clear hv
  generalize a * 2 % 256 = u at *
  generalize a / 128 = t at *
  have HA : Hid (∀ wx, Calls Tryd.prog 24 #[.int .u8 (u : Int), .int .u8 (27 : Int)] wx fun e w' => e = .returned (.int .u8 ((u ^^^ 27 : Nat) : Int)) ∧ w' = wx) := fun wx => wfield_add0 u 27 wx hu (by omega)
  generalize u ^^^ 27 = x at *
  by_cases c : t = 1
  · subst c
    have HV : Hid (v = x) := by have h := HG.out; rwa [if_pos rfl] at h
    clear HG
    go_enter Tryd.func32, Tryd.ntmps32
    go_wp2_with fail
    refine (HA.out w).mono ?_
    rintro e wx ⟨rfl, hq⟩
    have hq' : w = wx := hq.symm
    subst hq'
    go_wp2_with fail
    go_ret
    rw [HV.out]
    exact ⟨rfl, rfl⟩
  · obtain rfl : t = 0 := by omega
    have HV : Hid ((v : Int) = (a : Int) * 2) := by
      have h := HG.out
      rw [if_neg c] at h
      rw [h]
      exact HU.out rfl
    clear HG HU
    go_enter Tryd.func32, Tryd.ntmps32
    go_wp2_with fail
    go_ret
    rw [HV.out]
    exact ⟨rfl, rfl⟩
set_option maxRecDepth 100000 in
set_option maxHeartbeats 1000000 in
theorem wfield_mul0 (a b : Nat) (w : World) (ha : a < 256) (hb : b < 256) :
    Calls Tryd.prog 25 #[.int .u8 (a : Int), .int .u8 (b : Int)] w fun e w' => e = .returned (.int .u8 ((gm a b : Nat) : Int)) ∧ w' = w := by
  have HA : Hid (a < 256) := ha
  have HE : Hid (pm a b 8 = gm a b) := pm_end a b hb
  go_enter Tryd.func25, Tryd.ntmps25
  go_wp2_with fail
  go_loopw [0, 5, 7] (fun av pv iv wr => ∃ x p i : Nat, av = .int .u8 (x : Int) ∧ pv = .int .u8 (p : Int) ∧ iv = .int .i64 (i : Int) ∧ x < 256 ∧ p < 256 ∧ i ≤ 8 ∧ Hid (x = txn a i) ∧ Hid (p = pm a b i) ∧ Hid (wr = w)) (fun _ _ iv _ => 8 - (intOf iv).toNat)
  case atStart => exact ⟨a, 0, 0, rfl, rfl, rfl, ha, by omega, Nat.zero_le _, rfl, (pm_zero a b).symm, rfl⟩
  case round =>
    obtain ⟨x, p, i, rfl, rfl, rfl, hx, hp, hi, HX, HP, HW⟩ := hrel
    have hw := HW.out
    subst hw
    by_cases hlt : i < 8
    · have g1 : (i : Int) < 8 := by omega
      have HI : Hid (i < 8) := hlt
      have HS := pm_step a b i HA.out hlt
      rw [← txn_is a HA.out i hlt, ← HX.out, ← HP.out] at HS
      have HX2 : Hid (gm x 2 = txn a (i + 1)) := by rw [HX.out]; exact rfl
      have hpl := pm_lt a b (i + 1)
      obtain ⟨p2, hp2⟩ : ∃ p2, pm a b (i + 1) = p2 := ⟨_, rfl⟩
      have HP2 : Hid (p2 = pm a b (i + 1)) := hp2.symm
      rw [hp2] at HS hpl
      clear hp2 HP HX
      have hbit := fu8_bit b i hb
      have hz2 : b / 2 ^ i % 2 < 2 := Nat.mod_lt _ (by omega)
      have HT : Hid (∀ wx, Calls Tryd.prog 32 #[.int .u8 (x : Int)] wx fun e w' => e = .returned (.int .u8 ((gm x 2 : Nat) : Int)) ∧ w' = wx) := fun wx => wfield_tx x wx hx
      have HD : Hid (∀ wx, Calls Tryd.prog 24 #[.int .u8 (p : Int), .int .u8 (x : Int)] wx fun e w' => e = .returned (.int .u8 ((p ^^^ x : Nat) : Int)) ∧ w' = wx) := fun wx => wfield_add0 p x wx hp hx
      have hx2 := gm_lt x 2
      generalize gm x 2 = y at *
      generalize b / 2 ^ i % 2 = z at *
      generalize p ^^^ x = q at *
      by_cases c : z = 1
      · subst c
        rw [if_pos rfl] at HS
        subst HS
        go_wp2_with fail
        refine (HD.out wr).mono ?_
        rintro e wx ⟨rfl, hq⟩
        have hq' : wr = wx := hq.symm
        subst hq'
        go_wp2_with fail
        refine (HT.out wr).mono ?_
        rintro e wx ⟨rfl, hq⟩
        have hq' : wr = wx := hq.symm
        subst hq'
        go_wp2_with fail
        go_roundw
        case rel => exact ⟨y, p2, i + 1, rfl, rfl, by go_num, hx2, hpl, HI.out, HX2, HP2, by trivial⟩
        case measure => have := HI.out; simp [intOf]; omega
      · obtain rfl : z = 0 := by omega
        rw [if_neg c] at HS
        subst HS
        go_wp2_with fail
        refine (HT.out wr).mono ?_
        rintro e wx ⟨rfl, hq⟩
        have hq' : wr = wx := hq.symm
        subst hq'
        go_wp2_with fail
        go_roundw
        case rel => exact ⟨y, p2, i + 1, rfl, rfl, by go_num, hx2, hpl, HI.out, HX2, HP2, by trivial⟩
        case measure => have := HI.out; simp [intOf]; omega
    · obtain rfl : i = 8 := by omega
      have HR : Hid (p = gm a b) := by rw [← HE.out]; exact HP.out
      clear HP HX
      go_wp2_with fail
      go_ret
      rw [HR.out]
      exact ⟨rfl, by trivial⟩
theorem wfield_mul (a b : Nat) (w : World) (G : Env w) (ha : a < 256) (hb : b < 256) :
    Calls Tryd.prog 25 #[.int .u8 (a : Int), .int .u8 (b : Int)] w fun e w' => e = .returned (.int .u8 ((gm a b : Nat) : Int)) ∧ Below w.heap.size w w' :=
  (wfield_mul0 a b w ha hb).mono fun e w' h => ⟨h.1, by rw [h.2]; exact Below.refl _ _⟩
set_option maxRecDepth 100000 in
set_option maxHeartbeats 1000000 in
theorem wfield_power (a n : Nat) (w : World) (ha : a < 256) (hn : n ≤ 9223372036854775807) :
    Calls Tryd.prog 36 #[.int .u8 (a : Int), .int .i64 (n : Int)] w fun e w' => e = .returned (.int .u8 ((gpow a n : Nat) : Int)) ∧ w' = w := by
  go_enter Tryd.func36, Tryd.ntmps36
  go_wp2_with fail
  go_loopw [0, 1, 5] (fun av nv pv wr => ∃ x m p : Nat, av = .int .u8 (x : Int) ∧ nv = .int .i64 (m : Int) ∧ pv = .int .u8 (p : Int) ∧ x < 256 ∧ m ≤ 9223372036854775807 ∧ p < 256 ∧ Hid (gm p (gpow x m) = gpow a n) ∧ Hid (wr = w)) (fun _ nv _ _ => (intOf nv).toNat)
  case atStart => exact ⟨a, n, 1, rfl, rfl, rfl, ha, hn, by omega, one_gm (gpow_lt a n), rfl⟩
  case round =>
    obtain ⟨x, m, p, rfl, rfl, rfl, hx, hm, hp, HR, HW⟩ := hrel
    have hw := HW.out
    subst hw
    by_cases hlt : 0 < m
    · have g1 : (0 : Int) < (m : Int) := by omega
      have HM0 : Hid (0 < m ∧ m ≤ 9223372036854775807) := ⟨hlt, hm⟩
      have hbit := fi64_bit m hm
      have d2 : (m : Int) / 2 = ((m / 2 : Nat) : Int) := by omega
      have HH : Hid (m / 2 < m) := by show m / 2 < m; omega
      have hh : m / 2 ≤ 9223372036854775807 := by omega
      have hz2 : m % 2 < 2 := Nat.mod_lt _ (by omega)
      have HX : Hid (∀ wx, Calls Tryd.prog 25 #[.int .u8 (x : Int), .int .u8 (x : Int)] wx fun e w' => e = .returned (.int .u8 ((gm x x : Nat) : Int)) ∧ w' = wx) := fun wx => wfield_mul0 x x wx hx hx
      have HP : Hid (∀ wx, Calls Tryd.prog 25 #[.int .u8 (p : Int), .int .u8 (x : Int)] wx fun e w' => e = .returned (.int .u8 ((gm p x : Nat) : Int)) ∧ w' = wx) := fun wx => wfield_mul0 p x wx hp hx
      have hxx := gm_lt x x
      have hpx := gm_lt p x
      have HO : Hid (m % 2 = 1 → gm (gm p x) (gpow (gm x x) (m / 2)) = gpow a n) := fun h => by rw [gpow_odd p x m hx h]; exact HR.out
      have HV : Hid (m % 2 = 0 → gm p (gpow (gm x x) (m / 2)) = gpow a n) := fun h => by rw [gpow_even p x m hx h]; exact HR.out
      clear HR
      generalize gm x x = y at *
      generalize gm p x = q at *
      generalize m % 2 = z at *
      generalize m / 2 = k at *
      by_cases c : z = 1
      · subst c
        have HF : Hid (gm q (gpow y k) = gpow a n) := HO.out rfl
        clear HO HV
        go_wp2_with fail
        refine (HP.out wr).mono ?_
        rintro e wx ⟨rfl, hq⟩
        have hq' : wr = wx := hq.symm
        subst hq'
        go_wp2_with fail
        refine (HX.out wr).mono ?_
        rintro e wx ⟨rfl, hq⟩
        have hq' : wr = wx := hq.symm
        subst hq'
        go_wp2_with fail
        go_roundw
        case rel => exact ⟨y, k, q, rfl, rfl, rfl, hxx, hh, hpx, HF, by trivial⟩
        case measure => have := HH.out; simp [intOf]; omega
      · obtain rfl : z = 0 := by omega
        have HF : Hid (gm p (gpow y k) = gpow a n) := HV.out rfl
        clear HO HV
        go_wp2_with fail
        refine (HX.out wr).mono ?_
        rintro e wx ⟨rfl, hq⟩
        have hq' : wr = wx := hq.symm
        subst hq'
        go_wp2_with fail
        go_roundw
        case rel => exact ⟨y, k, p, rfl, rfl, rfl, hxx, hh, hp, HF, by trivial⟩
        case measure => have := HH.out; simp [intOf]; omega
    · obtain rfl : m = 0 := by omega
      have HF : Hid (p = gpow a n) := by
        have h := HR.out
        rwa [show gpow x 0 = 1 from rfl, gm_one hp] at h
      clear HR
      go_wp2_with fail
      go_ret
      rw [HF.out]
      exact ⟨rfl, by trivial⟩
set_option maxRecDepth 100000 in
set_option maxHeartbeats 1000000 in
theorem wfield_inv0 (a : Nat) (w : World) (ha : a < 256) (h0 : a ≠ 0) :
    Calls Tryd.prog 31 #[.int .u8 (a : Int)] w fun e w' => e = .returned (.tuple #[.int .u8 ((ginv a : Nat) : Int), .nilIface]) ∧ w' = w := by
  have HP : Hid (∀ wx, Calls Tryd.prog 36 #[.int .u8 (a : Int), .int .i64 254] wx fun e w' => e = .returned (.int .u8 ((ginv a : Nat) : Int)) ∧ w' = wx) := fun wx => by
    have h := wfield_power a 254 wx ha (by omega)
    rw [gpow_254 a ha h0] at h
    exact h
  have c1 : ((a : Int) == 0) = false := beq_eq_false_iff_ne.2 (by omega)
  generalize ginv a = v at *
  go_enter Tryd.func31, Tryd.ntmps31
  go_wp2_with fail
  refine (HP.out w).mono ?_
  rintro e wx ⟨rfl, hq⟩
  have hq' : w = wx := hq.symm
  subst hq'
  go_wp2_with fail
  go_ret2
  exact ⟨rfl, rfl⟩
theorem wfield_inv (a : Nat) (w : World) (G : Env w) (ha : a < 256) (h0 : a ≠ 0) :
    Calls Tryd.prog 31 #[.int .u8 (a : Int)] w fun e w' => e = .returned (.tuple #[.int .u8 ((ginv a : Nat) : Int), .nilIface]) ∧ Below w.heap.size w w' :=
  (wfield_inv0 a w ha h0).mono fun e w' h => ⟨h.1, by rw [h.2]; exact Below.refl _ _⟩
set_option maxRecDepth 100000 in
set_option maxHeartbeats 1000000 in
theorem wfield_invout (w : World) (G : Env w) :
    Calls Tryd.prog 31 #[.int .u8 0] w fun e w' => e = .returned (.tuple #[.int .u8 0, .iface 23 (.int .i64 2)]) ∧ Below w.heap.size w w' := by
  go_enter Tryd.func31, Tryd.ntmps31
  go_wp2_with fail
  go_ret2
  exact ⟨rfl, Below.refl _ _⟩
end Go.Proofs.YtnffmegicgbinabDoor
/- The contract of share.weight. -/
namespace Go.Proofs.YtnffmegicgbinabDoor
open Go.RowKit
set_option linter.unusedVariables false
set_option linter.unusedSimpArgs false

set_option maxRecDepth 100000 in
set_option maxHeartbeats 2000000 in
theorem wweight_any (b o n c k : Nat) (ss : List Shr) (w : World) (R : SRow w (some ⟨b, o, none⟩) n ss) (hn : n ≤ 20) (hk : k < n) (hd : (ss.map (·.1)).Nodup) (x : Nat) (hx : x < 256) :
    Calls Tryd.prog 23 #[.slice (some ⟨b, o, none⟩) n c, .int .i64 (k : Int), .int .u8 (x : Int)] w fun e w' => e = .returned (.int .u8 ((wtS ss x k : Nat) : Int)) ∧ Below w.heap.size w w' := by
  have HL : Hid (ss.length = n) := R.1
  have HR : Hid (SRow w (some ⟨b, o, none⟩) n ss) := R
  have HP : Hid (∀ s ∈ ss, s.1 < 256) := R.place
  have HND : Hid ((ss.map (·.1)).Nodup) := hd
  have HKN : Hid (k < n) := hk
  obtain ⟨r, hr⟩ : ∃ r, placeA ss k = r := ⟨_, rfl⟩
  have HRK : Hid (placeA ss k = r) := hr
  have hr8 : r < 256 := by rw [← hr]; exact placeA_lt R.place k
  have HPK : Hid (∀ wx, Below w.heap.size w wx → wx.cell? ⟨b, o + k * 2, none⟩ = some (.int .u8 (r : Int))) := fun wx hx => by
    have := (R.at k hk).2.1
    rw [← placeA_at (by rw [R.1]; exact hk), hr] at this
    exact (hx.cell (p := ⟨b, o + k * 2, none⟩) (cell_block this)).trans this
  have kk0 : (0 : Int) ≤ (k : Int) := by omega
  have kk1 : (k : Int) < (n : Int) := by omega
  clear R hd hr hk
  go_enter Tryd.func23, Tryd.ntmps23
  go_wp2_with fail
  go_loopw [15, 7, 8] (fun iv ov uv wr => ∃ i : Nat, iv = .int .i64 (i : Int) ∧ i ≤ n ∧ ov = .int .u8 ((overN ss x k i : Nat) : Int) ∧ uv = .int .u8 ((underN ss k i : Nat) : Int) ∧ Hid (Below w.heap.size w wr)) (fun iv _ _ _ => n - (intOf iv).toNat)
  case atStart => exact ⟨0, rfl, Nat.zero_le _, rfl, rfl, Below.refl _ _⟩
  case round =>
    obtain ⟨i, rfl, hi, rfl, rfl, HB⟩ := hrel
    by_cases hlt : i < n
    · obtain ⟨ai, ni, ci, hp8, hnc, hn47, hni, HC⟩ := HR.out.hdr i hlt
      have HX : Hid (wr.rangeAt b (o + i * 2) (hdC ((ss.getD i noS).1, ai, ni, ci))) := (HC wr HB.out).1
      have i0 : (0 : Int) ≤ (i : Int) := by omega
      have i1 : (i : Int) < (n : Int) := by omega
      have HLT : Hid (i < n) := hlt
      have HPI : Hid (placeA ss i = (ss.getD i noS).1) := placeA_at (by rw [HL.out]; exact hlt)
      obtain ⟨p, hp⟩ : ∃ p, (ss.getD i noS).1 = p := ⟨_, rfl⟩
      rw [hp] at HX hp8 HPI
      clear HC hlt hi hni hp
      obtain ⟨g, hg⟩ : ∃ g, wr.heap.size = g := ⟨_, rfl⟩
      obtain ⟨w2, hw2⟩ : ∃ w2, wr.alloc (.cells (hdC noH).toArray 36) = w2 := ⟨_, rfl⟩
      obtain ⟨w3, hw3⟩ : ∃ w3, w2.setCells g 0 (hdC (p, ai, ni, ci)) = w3 := ⟨_, rfl⟩
      have q3 := SVar.new hg hw2 hw3
      have HT2 : Hid (w2.there g 0 2) := q3.1
      have k0 : w3.cell? ⟨g, 0, none⟩ = some (.int .u8 (p : Int)) := q3.2.1.1
      have HV3 : Hid (SVar w3 g p (.slice ai ni ci)) := q3.2.1
      have HB3 : Hid (Below w.heap.size w w3) := HB.out.trans (q3.2.2.mono (by have := HB.out.size; omega))
      clear q3 HB
      by_cases ce : i = k
      · subst ce
        have HO : Hid (overN ss x i (i + 1) = overN ss x i i) := overN_skip ss x i
        have HU : Hid (underN ss i (i + 1) = underN ss i i) := underN_skip ss i
        have e1 : ((i : Int) == (i : Int)) = true := by simp
        go_wp2_with (first
          | (refine wpList_loadSh (by rfl) (.tmp 18) (by rfl) b (o + i * 2) (p, ai, ni, ci) (by rfl) HX.out ?_)
          | (refine wpList_allocSh (by rfl) (by rfl) g hg w2 hw2 ?_)
          | (refine wpList_storeSh (by rfl) (.tmp 10) (.tmp 19) (by rfl) g (p, ai, ni, ci) (by rfl) (by rfl) HT2.out w3 hw3 ?_))
        go_roundw
        case rel => exact ⟨i + 1, by go_num, by have := HLT.out; omega, by rw [HO.out], by rw [HU.out], HB3.out⟩
        case measure => have := HLT.out; simp [intOf]; omega
      · have HO : Hid (overN ss x k (i + 1) = gm (overN ss x k i) (p ^^^ x)) := by rw [← HPI.out]; exact overN_step ss x ce
        have HU : Hid (underN ss k (i + 1) = gm (underN ss k i) (p ^^^ r)) := by rw [← HPI.out, ← HRK.out]; exact underN_step ss ce
        have e1 : ((i : Int) == (k : Int)) = false := by simp; omega
        have e2 : ¬ (i : Int) = (k : Int) := by omega
        have hv8 := overN_lt ss x k i
        have hu8 := underN_lt ss k i
        obtain ⟨v2, hv2⟩ : ∃ v, overN ss x k (i + 1) = v := ⟨_, rfl⟩
        obtain ⟨u2, hu2⟩ : ∃ v, underN ss k (i + 1) = v := ⟨_, rfl⟩
        have HV2 : Hid (overN ss x k (i + 1) = v2) := hv2
        have HU2 : Hid (underN ss k (i + 1) = u2) := hu2
        rw [hv2] at HO
        rw [hu2] at HU
        generalize overN ss x k i = v at *
        generalize underN ss k i = u at *
        have hx8 := xor_lt256 hp8 hr8
        have hy8 := xor_lt256 hp8 hx
        have HMV : Hid (∀ wx, Calls Tryd.prog 25 #[.int .u8 (v : Int), .int .u8 ((p ^^^ x : Nat) : Int)] wx fun e w' => e = .returned (.int .u8 (v2 : Int)) ∧ w' = wx) := fun wx => by rw [HO.out]; exact wfield_mul0 v (p ^^^ x) wx hv8 hy8
        have HAX : Hid (∀ wx, Calls Tryd.prog 24 #[.int .u8 (p : Int), .int .u8 (x : Int)] wx fun e w' => e = .returned (.int .u8 ((p ^^^ x : Nat) : Int)) ∧ w' = wx) := fun wx => wfield_add0 p x wx hp8 hx
        have HAD : Hid (∀ wx, Calls Tryd.prog 24 #[.int .u8 (p : Int), .int .u8 (r : Int)] wx fun e w' => e = .returned (.int .u8 ((p ^^^ r : Nat) : Int)) ∧ w' = wx) := fun wx => wfield_add0 p r wx hp8 hr8
        have HMU : Hid (∀ wx, Calls Tryd.prog 25 #[.int .u8 (u : Int), .int .u8 ((p ^^^ r : Nat) : Int)] wx fun e w' => e = .returned (.int .u8 (u2 : Int)) ∧ w' = wx) := fun wx => by rw [HU.out]; exact wfield_mul0 u (p ^^^ r) wx hu8 hx8
        generalize p ^^^ r = xr at *
        generalize p ^^^ x = xx at *
        clear ce hv2 hu2
        go_wp2_with (first
          | (refine wpList_loadSh (by rfl) (.tmp 18) (by rfl) b (o + i * 2) (p, ai, ni, ci) (by rfl) HX.out ?_)
          | (refine wpList_allocSh (by rfl) (by rfl) g hg w2 hw2 ?_)
          | (refine wpList_storeSh (by rfl) (.tmp 10) (.tmp 19) (by rfl) g (p, ai, ni, ci) (by rfl) (by rfl) HT2.out w3 hw3 ?_))
        refine (HAX.out w3).mono ?_
        rintro e w4 ⟨rfl, hq⟩
        have hq' : w3 = w4 := hq.symm
        subst hq'
        clear hq
        go_wp2_with fail
        refine (HMV.out w3).mono ?_
        rintro e w4 ⟨rfl, hq⟩
        have hq' : w3 = w4 := hq.symm
        subst hq'
        clear k0 hw3 hw2 hg HT2 HX hq
        go_upto_region 7 with fail
        try simp only [Act.put, List.setIfInBounds_toArray, List.set_cons_zero, List.set_cons_succ]
        refine wp_region_noPanic ?_
        refine wp_region_held_drew (S := fun wx => wx.cell? ⟨g, 0, none⟩ = some (.int .u8 (p : Int)) ∧ wx.cell? ⟨b, o + k * 2, none⟩ = some (.int .u8 (r : Int))) (by kernel_rfl) ⟨(HV3.out.below (below_drewN w3 1) HV3.out.lt).1, HPK.out _ (HB3.out.trans ((below_drewN w3 1).mono HB3.out.size))⟩ (fun hHeld => ?_)
        try simp only [Act.put, List.setIfInBounds_toArray, List.set_cons_zero, List.set_cons_succ]
        have HBd : Hid (Below w.heap.size w w3.drew) := HB3.out.trans ((below_drewN w3 1).mono HB3.out.size)
        generalize w3.drew = wd at *
        refine wpAnyH_take (i := 0) (v := .int .u8 (u : Int)) (by simp only [List.getElem?_toArray, List.getElem?_cons_zero, List.getElem?_cons_succ]; rfl) (by kernel_rfl) (by kernel_rfl) (by kernel_rfl) (fun _ _ _ h => h) (Or.inl ⟨by rfl, ?_⟩) hHeld ?_
        · intro w hSw
          obtain ⟨hSw0, hSw1⟩ := hSw
          go_simp
        try simp only [Act.put, List.setIfInBounds_toArray, List.set_cons_zero, List.set_cons_succ]
        refine wpAnyH_take (i := 1) (v := .pointer (some ⟨g, 0, none⟩)) (by simp only [List.getElem?_toArray, List.getElem?_cons_zero, List.getElem?_cons_succ]; rfl) (by kernel_rfl) (by kernel_rfl) (by kernel_rfl) (fun _ _ _ h => h) (Or.inl ⟨by rfl, ?_⟩) hHeld ?_
        · intro w hSw
          obtain ⟨hSw0, hSw1⟩ := hSw
          go_simp
        try simp only [Act.put, List.setIfInBounds_toArray, List.set_cons_zero, List.set_cons_succ]
        refine wpAnyH_take (i := 2) (v := .int .u8 (p : Int)) (by simp only [List.getElem?_toArray, List.getElem?_cons_zero, List.getElem?_cons_succ]; rfl) (by kernel_rfl) (by kernel_rfl) (by kernel_rfl) (fun _ _ _ h => h) (Or.inl ⟨by rfl, ?_⟩) hHeld ?_
        · intro w hSw
          obtain ⟨hSw0, hSw1⟩ := hSw
          go_simp
        try simp only [Act.put, List.setIfInBounds_toArray, List.set_cons_zero, List.set_cons_succ]
        refine wpAnyH_take (i := 3) (v := .slice (some ⟨b, o, none⟩) n c) (by simp only [List.getElem?_toArray, List.getElem?_cons_zero, List.getElem?_cons_succ]; rfl) (by kernel_rfl) (by kernel_rfl) (by kernel_rfl) (fun _ _ _ h => h) (Or.inl ⟨by rfl, ?_⟩) hHeld ?_
        · intro w hSw
          obtain ⟨hSw0, hSw1⟩ := hSw
          go_simp
        try simp only [Act.put, List.setIfInBounds_toArray, List.set_cons_zero, List.set_cons_succ]
        refine wpAnyH_take (i := 4) (v := .int .i64 (k : Int)) (by simp only [List.getElem?_toArray, List.getElem?_cons_zero, List.getElem?_cons_succ]; rfl) (by kernel_rfl) (by kernel_rfl) (by kernel_rfl) (fun _ _ _ h => h) (Or.inl ⟨by rfl, ?_⟩) hHeld ?_
        · intro w hSw
          obtain ⟨hSw0, hSw1⟩ := hSw
          go_simp
        try simp only [Act.put, List.setIfInBounds_toArray, List.set_cons_zero, List.set_cons_succ]
        refine wpAnyH_take (i := 5) (v := .pointer (some ⟨b, o + k * 2, none⟩)) (by simp only [List.getElem?_toArray, List.getElem?_cons_zero, List.getElem?_cons_succ]; rfl) (by kernel_rfl) (by kernel_rfl) (by kernel_rfl) (fun _ _ _ h => h) (Or.inl ⟨by rfl, ?_⟩) hHeld ?_
        · intro w hSw
          obtain ⟨hSw0, hSw1⟩ := hSw
          go_simp
        try simp only [Act.put, List.setIfInBounds_toArray, List.set_cons_zero, List.set_cons_succ]
        refine wpAnyH_take (i := 6) (v := .pointer (some ⟨b, o + k * 2, none⟩)) (by simp only [List.getElem?_toArray, List.getElem?_cons_zero, List.getElem?_cons_succ]; rfl) (by kernel_rfl) (by kernel_rfl) (by kernel_rfl) (fun _ _ _ h => h) (Or.inl ⟨by rfl, ?_⟩) hHeld ?_
        · intro w hSw
          obtain ⟨hSw0, hSw1⟩ := hSw
          go_simp
        try simp only [Act.put, List.setIfInBounds_toArray, List.set_cons_zero, List.set_cons_succ]
        refine wpAnyH_take (i := 7) (v := .int .u8 (r : Int)) (by simp only [List.getElem?_toArray, List.getElem?_cons_zero, List.getElem?_cons_succ]; rfl) (by kernel_rfl) (by kernel_rfl) (by kernel_rfl) (fun _ _ _ h => h) (Or.inl ⟨by rfl, ?_⟩) hHeld ?_
        · intro w hSw
          obtain ⟨hSw0, hSw1⟩ := hSw
          go_simp
        try simp only [Act.put, List.setIfInBounds_toArray, List.set_cons_zero, List.set_cons_succ]
        refine wpAnyH_ready (rs := [8]) (by kernel_rfl) (by simp) ?_
        refine AllReadyH.cons (by simp only [List.getElem?_toArray, List.getElem?_cons_zero, List.getElem?_cons_succ]; rfl) (fun K hK => ?_) AllReadyH.nil
        rw [if_pos (by rfl)]
        go_simp
        refine (HAD.out wd).mono ?_
        rintro e wn ⟨rfl, hq⟩
        have hq' : wd = wn := hq.symm
        subst hq'
        go_wp2_with fail
        refine hK.out _ _ hHeld (fun hHeld => ?_)
        clear hK K
        try simp only [Act.put, List.setIfInBounds_toArray, List.set_cons_zero, List.set_cons_succ]
        refine wpAnyH_ready (rs := [9]) (by kernel_rfl) (by simp) ?_
        refine AllReadyH.cons (by simp only [List.getElem?_toArray, List.getElem?_cons_zero, List.getElem?_cons_succ]; rfl) (fun K hK => ?_) AllReadyH.nil
        rw [if_pos (by rfl)]
        go_simp
        refine (HMU.out wd).mono ?_
        rintro e wn ⟨rfl, hq⟩
        have hq' : wd = wn := hq.symm
        subst hq'
        go_wp2_with fail
        refine hK.out _ _ hHeld (fun hHeld => ?_)
        clear hK K
        try simp only [Act.put, List.setIfInBounds_toArray, List.set_cons_zero, List.set_cons_succ]
        refine wpAnyH_take (i := 10) (v := .int .u8 (u2 : Int)) (by simp only [List.getElem?_toArray, List.getElem?_cons_zero, List.getElem?_cons_succ]; rfl) (by kernel_rfl) (by kernel_rfl) (by kernel_rfl) (fun _ _ _ h => h) (Or.inl ⟨by rfl, ?_⟩) hHeld ?_
        · intro w hSw
          obtain ⟨hSw0, hSw1⟩ := hSw
          go_simp
        try simp only [Act.put, List.setIfInBounds_toArray, List.set_cons_zero, List.set_cons_succ]
        refine wpAnyH_done (by kernel_rfl) (NoPanic.normal ?_) _
        clear hHeld
        go_wp2_with fail
        go_roundw
        case rel => exact ⟨i + 1, by go_num, by have := HLT.out; omega, by rw [HV2.out], by rw [HU2.out], HBd.out⟩
        case measure => have := HLT.out; simp [intOf]; omega
    · have hin : i = n := by omega
      subst hin
      have g5 : ¬ (i : Int) < (i : Int) := by omega
      clear hlt
      have HN : Hid (underN ss k i ≠ 0) := by have := underN_ne HP.out HND.out (k := k) (by rw [HL.out]; exact HKN.out); rwa [HL.out] at this
      have HW : Hid (wtS ss x k = gm (overN ss x k i) (ginv (underN ss k i))) := by have := wtS_is ss x k; rwa [HL.out] at this
      have hv8 := overN_lt ss x k i
      have hu8 := underN_lt ss k i
      have hw8 := ginv_lt (underN ss k i)
      have HIV : Hid (∀ wx, Calls Tryd.prog 31 #[.int .u8 ((underN ss k i : Nat) : Int)] wx fun e w' => e = .returned (.tuple #[.int .u8 ((ginv (underN ss k i) : Nat) : Int), .nilIface]) ∧ w' = wx) := fun wx => wfield_inv0 _ wx hu8 HN.out
      have HMV : Hid (∀ wx, Calls Tryd.prog 25 #[.int .u8 ((overN ss x k i : Nat) : Int), .int .u8 ((ginv (underN ss k i) : Nat) : Int)] wx fun e w' => e = .returned (.int .u8 ((wtS ss x k : Nat) : Int)) ∧ w' = wx) := fun wx => by rw [HW.out]; exact wfield_mul0 _ _ wx hv8 hw8
      generalize overN ss x k i = v at *
      generalize ginv (underN ss k i) = y at *
      generalize underN ss k i = u at *
      go_wp2_with fail
      refine (HIV.out wr).mono ?_
      rintro e w4 ⟨rfl, hq⟩
      have hq' : wr = w4 := hq.symm
      subst hq'
      clear hq
      go_wp2_with fail
      refine (HMV.out wr).mono ?_
      rintro e w4 ⟨rfl, hq⟩
      have hq' : wr = w4 := hq.symm
      subst hq'
      clear hq
      go_wp2_with fail
      go_ret
      exact ⟨rfl, HB.out⟩
end Go.Proofs.YtnffmegicgbinabDoor
