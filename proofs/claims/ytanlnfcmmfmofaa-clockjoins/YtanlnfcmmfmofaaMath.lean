/- Plain arithmetic for package octet: no theorem of the program yet. -/
import Derived.Test.YtanlnfcmmfmofaaBase
import Derived.Laws.BitsAllLaws
namespace Go.Proofs.Ytanlnfcmmfmofaa
open Go.RowKit
set_option linter.unusedVariables false
set_option linter.unusedSimpArgs false

theorem i64_or_add (a b : Int) (h1 : 0 ≤ a) (h2 : a < 36028797018963968) (h3 : 0 ≤ b) (h4 : b < 256) : bits .or .i64 (a * 256) b = a * 256 + b := by
  obtain ⟨n, rfl⟩ := Int.eq_ofNat_of_zero_le h1
  obtain ⟨m, rfl⟩ := Int.eq_ofNat_of_zero_le h3
  have e : ((n : Int) * 256) = ((n * 256 : Nat) : Int) := by omega
  rw [e]
  have j : n * 256 ||| m = n * 256 + m := nat_join 8 _ _ (by omega) (by omega)
  show IntKind.i64.wrap ((BitVec.ofInt 64 ((n * 256 : Nat) : Int) ||| BitVec.ofInt 64 (m : Int)).toNat : Int) = _
  rw [BitVec.toNat_or, ofInt_u64 _ (by omega), ofInt_u64 _ (by omega), j]
  simp only [IntKind.wrap, IntKind.bits, IntKind.signed, Bool.true_and]
  rw [if_neg (by simp; omega)]
  omega

theorem u8_or_add (a b : Int) (h1 : 0 ≤ a) (h2 : a < 16) (h3 : 0 ≤ b) (h4 : b < 16) : bits .or .u8 (a * 16) b = a * 16 + b := by
  obtain ⟨n, rfl⟩ := Int.eq_ofNat_of_zero_le h1
  obtain ⟨m, rfl⟩ := Int.eq_ofNat_of_zero_le h3
  have e : ((n : Int) * 16) = ((n * 16 : Nat) : Int) := by omega
  have j : n * 16 ||| m = n * 16 + m := nat_join 4 _ _ (by omega) (by omega)
  rw [e, u8_or_nat _ _ (by omega) (by omega), j]
  omega

/-- The number that the first k bytes are, the highest one first. -/
def numTo (l : List UInt8) : Nat → Int
  | 0 => 0
  | k + 1 => numTo l k * 256 + nth l k
theorem numTo_succ (l : List UInt8) (k : Nat) : numTo l (k + 1) = numTo l k * 256 + nth l k := rfl
theorem numTo_bd (l : List UInt8) : ∀ k, 0 ≤ numTo l k ∧ numTo l k < 256 ^ k
  | 0 => by simp [numTo]
  | k + 1 => by
    have h := numTo_bd l k
    have b := nth_bd l k
    rw [numTo_succ, Int.pow_succ]
    omega
/-- .. where the first one is below 128: k bytes are below 128 * 256^(k - 1). -/
theorem numTo_lo (l : List UInt8) (h0 : nth l 0 < 128) : ∀ k, numTo l (k + 1) < 128 * 256 ^ k
  | 0 => by simp [numTo]; omega
  | k + 1 => by
    have h := numTo_lo l h0 k
    have b := nth_bd l (k + 1)
    rw [numTo_succ, Int.pow_succ]
    omega
theorem numTo_room (l : List UInt8) (n k : Nat) (hk : k < n) (hn : n ≤ 8) (h8 : n = 8 → nth l 0 < 128) : numTo l k < 36028797018963968 := by
  by_cases h7 : k = 7
  · subst h7
    have := numTo_lo l (h8 (by omega)) 6
    simpa using this
  · have h := (numTo_bd l k).2
    have : k = 0 ∨ k = 1 ∨ k = 2 ∨ k = 3 ∨ k = 4 ∨ k = 5 ∨ k = 6 := by omega
    rcases this with rfl | rfl | rfl | rfl | rfl | rfl | rfl <;> simp at h <;> omega
/-- Whether bytes are a number: there are some, no more than 8, and it is no greater than an int. -/
def numOk (l : List UInt8) : Bool := decide (1 ≤ l.length ∧ l.length ≤ 8 ∧ (l.length = 8 → nth l 0 < 128))

/-- The byte at place i of a number in so many bytes. -/
def putB (n : Int) (size i : Nat) : Int := n / 256 ^ (size - 1 - i) % 256
def putL (n : Int) (size : Nat) : List UInt8 := (List.range size).map fun i => UInt8.ofNat (putB n size i).toNat
theorem putL_length (n : Int) (size : Nat) : (putL n size).length = size := by simp [putL]
theorem putB_bd (n : Int) (size i : Nat) : 0 ≤ putB n size i ∧ putB n size i < 256 := by unfold putB; omega
theorem nth_putL (n : Int) (size i : Nat) (h : i < size) : nth (putL n size) i = putB n size i := by
  unfold putL
  rw [nth_map_range _ _ _ h]
  have := putB_bd n size i
  simp [UInt8.toNat_ofNat']
  omega
theorem put_step (n : Int) (size q : Nat) (h : q + 1 ≤ size) : n / 256 ^ (size - q) = n / 256 ^ (size - (q + 1)) / 256 := by
  have e : size - q = (size - (q + 1)) + 1 := by omega
  rw [e, Int.pow_succ, Int.ediv_ediv_of_nonneg (Int.pow_nonneg (by decide))]
theorem put_bd (n : Int) (k : Nat) (h0 : 0 ≤ n) (h1 : n ≤ 9223372036854775807) : 0 ≤ n / 256 ^ k ∧ n / 256 ^ k ≤ 9223372036854775807 := by
  have hp : (0 : Int) < 256 ^ k := Int.pow_pos (by decide)
  refine ⟨Int.ediv_nonneg h0 (Int.le_of_lt hp), Int.le_trans (Int.ediv_le_self _ h0) h1⟩
theorem putB_at (n : Int) (size q : Nat) : putB n size q = n / 256 ^ (size - (q + 1)) % 256 := by
  unfold putB
  have e : size - 1 - q = size - (q + 1) := by omega
  rw [e]
theorem ediv_zero (n m : Int) (h0 : 0 ≤ n) (hm : 0 < m) : n / m = 0 ↔ n < m := by
  constructor
  · intro h
    have := Int.lt_ediv_add_one_mul_self n hm
    rw [h] at this
    omega
  · intro h
    exact Int.ediv_eq_zero_of_lt h0 h

/-! digits -/
def digV (c : Int) : Int := if 48 ≤ c ∧ c ≤ 57 then c - 48 else if 97 ≤ c ∧ c ≤ 102 then c - 87 else 0
def digK (c : Int) : Bool := decide ((48 ≤ c ∧ c ≤ 57) ∨ (97 ≤ c ∧ c ≤ 102))
def hexd (x : Int) : Int := if x < 10 then x + 48 else x + 87
theorem digV_bd (c : Int) : 0 ≤ digV c ∧ digV c < 16 := by unfold digV; split <;> (try split) <;> omega
theorem hexd_digV (c : Int) (h : digK c = true) : hexd (digV c) = c := by
  unfold digK at h
  rw [decide_eq_true_iff] at h
  unfold hexd digV
  split <;> split <;> (try split) <;> omega
theorem digV_hexd (x : Int) (h0 : 0 ≤ x) (h1 : x < 16) : digV (hexd x) = x ∧ digK (hexd x) = true ∧ 0 ≤ hexd x ∧ hexd x ≤ 255 := by
  unfold hexd digV digK
  rw [decide_eq_true_iff]
  by_cases h : x < 10
  · rw [if_pos h, if_pos (by omega)]; omega
  · rw [if_neg h, if_neg (by omega), if_pos (by omega)]; omega
def unhB (s : List UInt8) (i : Nat) : Int := digV (nth s (2 * i)) * 16 + digV (nth s (2 * i + 1))
theorem unhB_bd (s : List UInt8) (i : Nat) : 0 ≤ unhB s i ∧ unhB s i < 256 := by
  have a := digV_bd (nth s (2 * i))
  have b := digV_bd (nth s (2 * i + 1))
  unfold unhB
  omega
def unhL (s : List UInt8) : List UInt8 := (List.range (s.length / 2)).map fun i => UInt8.ofNat (unhB s i).toNat
theorem unhL_length (s : List UInt8) : (unhL s).length = s.length / 2 := by simp [unhL]
theorem nth_unhL (s : List UInt8) (i : Nat) (h : i < s.length / 2) : nth (unhL s) i = unhB s i := by
  unfold unhL
  rw [nth_map_range _ _ _ h]
  have := unhB_bd s i
  simp [UInt8.toNat_ofNat']
  omega
def unhOk (s : List UInt8) : Bool := decide (s.length % 2 = 0 ∧ ∀ i, i < s.length → digK (nth s i) = true)
def hexB (l : List UInt8) (j : Nat) : Int := if j % 2 = 0 then hexd (nth l (j / 2) / 16) else hexd (nth l (j / 2) % 16)
theorem hexB_dig (l : List UInt8) (j : Nat) : digK (hexB l j) = true ∧ 0 ≤ hexB l j ∧ hexB l j ≤ 255 := by
  have b := nth_bd l (j / 2)
  unfold hexB
  split
  · exact (digV_hexd _ (by omega) (by omega)).2
  · exact (digV_hexd _ (by omega) (by omega)).2
def hexL (l : List UInt8) : List UInt8 := (List.range (2 * l.length)).map fun j => UInt8.ofNat (hexB l j).toNat
theorem hexL_length (l : List UInt8) : (hexL l).length = 2 * l.length := by simp [hexL]
theorem nth_hexL (l : List UInt8) (j : Nat) (h : j < 2 * l.length) : nth (hexL l) j = hexB l j := by
  unfold hexL
  rw [nth_map_range _ _ _ h]
  have := hexB_dig l j
  simp [UInt8.toNat_ofNat']
  omega
/-- Digits of bytes are digits, and they are those bytes'. -/
theorem unhOk_hexL (l : List UInt8) : unhOk (hexL l) = true := by
  unfold unhOk
  rw [decide_eq_true_iff, hexL_length]
  exact ⟨by omega, fun i hi => by rw [nth_hexL _ _ hi]; exact (hexB_dig l i).1⟩
theorem unhL_hexL (l : List UInt8) : unhL (hexL l) = l := by
  have e : (unhL (hexL l)).length = l.length := by rw [unhL_length, hexL_length]; omega
  refine nth_inj e fun j hj => ?_
  rw [nth_unhL _ _ (by rw [hexL_length]; omega)]
  unfold unhB
  rw [nth_hexL _ _ (by omega), nth_hexL _ _ (by omega)]
  have b := nth_bd l j
  unfold hexB
  rw [if_pos (by omega), if_neg (by omega)]
  have e1 : 2 * j / 2 = j := by omega
  have e2 : (2 * j + 1) / 2 = j := by omega
  rw [e1, e2, (digV_hexd _ (by omega) (by omega)).1, (digV_hexd _ (by omega) (by omega)).1]
  omega
theorem hexL_unhL (s : List UInt8) (h : unhOk s = true) : hexL (unhL s) = s := by
  unfold unhOk at h
  rw [decide_eq_true_iff] at h
  have e : (hexL (unhL s)).length = s.length := by rw [hexL_length, unhL_length]; omega
  refine nth_inj e fun j hj => ?_
  rw [nth_hexL _ _ (by rw [unhL_length]; omega)]
  have a := digV_bd (nth s (2 * (j / 2)))
  have b := digV_bd (nth s (2 * (j / 2) + 1))
  unfold hexB
  rw [nth_unhL _ _ (by omega)]
  unfold unhB
  by_cases hp : j % 2 = 0
  · rw [if_pos hp]
    have e1 : 2 * (j / 2) = j := by omega
    rw [e1] at a b ⊢
    rw [show (digV (nth s j) * 16 + digV (nth s (j + 1))) / 16 = digV (nth s j) from by omega, hexd_digV _ (h.2 j (by omega))]
  · rw [if_neg hp]
    have e1 : 2 * (j / 2) + 1 = j := by omega
    rw [e1] at b ⊢
    rw [show (digV (nth s (2 * (j / 2))) * 16 + digV (nth s j)) % 16 = digV (nth s j) from by omega, hexd_digV _ (h.2 j (by omega))]
/-- A number from its bytes, and its bytes from it. -/
theorem numTo_putL (n : Int) (size : Nat) (h0 : 0 ≤ n) : ∀ k, k ≤ size → numTo (putL n size) k = n / 256 ^ (size - k) - n / 256 ^ size * 256 ^ k
  | 0, _ => by simp [numTo]
  | k + 1, hk => by
    rw [numTo_succ, numTo_putL n size h0 k (by omega), nth_putL _ _ _ (by omega), putB_at, put_step n size k hk, Int.pow_succ, Int.sub_mul, Int.mul_assoc]
    omega
def putOk (n : Int) (size : Int) : Bool := decide (1 ≤ size ∧ size ≤ 8 ∧ 0 ≤ n ∧ n < 256 ^ size.toNat)
theorem putOk_iff (n : Int) (k : Nat) (h : putOk n k = true) : 1 ≤ k ∧ k ≤ 8 ∧ 0 ≤ n ∧ n < 256 ^ k := by
  unfold putOk at h
  rw [decide_eq_true_iff, Int.toNat_natCast] at h
  omega
theorem numTo_put (n : Int) (k : Nat) (h : putOk n k = true) : numTo (putL n k) k = n := by
  obtain ⟨h1, h8, h0, hn⟩ := putOk_iff n k h
  rw [numTo_putL n k h0 k (Nat.le_refl _), Nat.sub_self, (ediv_zero n _ h0 (Int.pow_pos (by decide))).2 hn]
  simp
theorem numOk_putL (n : Int) (k : Nat) (h : putOk n k = true) (hm : n ≤ 9223372036854775807) : numOk (putL n k) = true := by
  obtain ⟨h1, h8, h0, hn⟩ := putOk_iff n k h
  unfold numOk
  rw [decide_eq_true_iff, putL_length]
  refine ⟨h1, h8, fun e => ?_⟩
  subst e
  rw [nth_putL _ _ _ (by omega)]
  unfold putB
  simp
  omega
theorem numTo_div (l : List UInt8) (k : Nat) : ∀ d, numTo l (k + d) / 256 ^ d = numTo l k
  | 0 => by simp
  | d + 1 => by
    have b := nth_bd l (k + d)
    have e : numTo l (k + (d + 1)) / 256 = numTo l (k + d) := by
      show (numTo l (k + d) * 256 + nth l (k + d)) / 256 = _
      omega
    rw [Int.pow_succ, Int.mul_comm, ← Int.ediv_ediv_of_nonneg (by decide), e, numTo_div l k d]
theorem putL_numTo (l : List UInt8) : putL (numTo l l.length) l.length = l := by
  refine nth_inj (putL_length _ _) fun j hj => ?_
  rw [putL_length] at hj
  rw [nth_putL _ _ _ hj, putB_at]
  have e : l.length = (j + 1) + (l.length - (j + 1)) := by omega
  have d := numTo_div l (j + 1) (l.length - (j + 1))
  rw [← e] at d
  rw [d, numTo_succ]
  have b := nth_bd l j
  omega
theorem putOk_numTo (l : List UInt8) (h : numOk l = true) : putOk (numTo l l.length) l.length = true := by
  unfold numOk at h
  rw [decide_eq_true_iff] at h
  unfold putOk
  rw [decide_eq_true_iff, Int.toNat_natCast]
  have b := numTo_bd l l.length
  omega
theorem numTo_max (l : List UInt8) (h : numOk l = true) : numTo l l.length ≤ 9223372036854775807 := by
  unfold numOk at h
  rw [decide_eq_true_iff] at h
  obtain ⟨h1, h8, h7⟩ := h
  obtain ⟨k, hk⟩ : ∃ k, l.length = k + 1 := ⟨l.length - 1, by omega⟩
  have r := numTo_room l l.length k (by omega) h8 h7
  have r0 := (numTo_bd l k).1
  have b := nth_bd l k
  rw [hk, numTo_succ]
  omega
end Go.Proofs.Ytanlnfcmmfmofaa
