/- Texts of this claim, joined: Math, Sha, Wturn, Bytes. -/
import Derived.Test.YtghiniaijobonaaDoorJ01
import Derived.Laws.BitsAllLaws
import Derived.Deep.QuietTactic
import Derived.BigQuiet
import Derived.Laws.AppendOwnNone
import Derived.Maps.AppendAt
/- Plain arithmetic for package octet: no theorem of the program yet. -/
namespace Go.Proofs.YtghiniaijobonaaDoor
open Go.RowKit
set_option linter.unusedVariables false
set_option linter.unusedSimpArgs false

theorem i64_or_add (a b : Int) (h1 : 0 ≤ a) (h2 : a < 36028797018963968) (h3 : 0 ≤ b) (h4 : b < 256) : bits .or .i64 (a * 256) b = a * 256 + b := by
  obtain ⟨n, rfl⟩ := Int.eq_ofNat_of_zero_le h1
  obtain ⟨m, rfl⟩ := Int.eq_ofNat_of_zero_le h3
  have e : ((n : Int) * 256) = ((n * 256 : Nat) : Int) := by omega
  rw [e]
  have j : n * 256 ||| m = n * 256 + m := nat_join 8 _ _ (by omega) (by omega)
  show IntKind.i64.wrap ((BitVec.ofInt 64 ((n * 256 : Nat) : Int) ||| BitVec.ofInt 64 (m : Int)).toNat : Int) = _
  rw [BitVec.toNat_or, ofInt_u64 _ (by omega), ofInt_u64 _ (by omega), j]
  simp only [IntKind.wrap, IntKind.bits, IntKind.signed, Bool.true_and]
  rw [if_neg (by simp; omega)]
  omega

theorem u8_or_add (a b : Int) (h1 : 0 ≤ a) (h2 : a < 16) (h3 : 0 ≤ b) (h4 : b < 16) : bits .or .u8 (a * 16) b = a * 16 + b := by
  obtain ⟨n, rfl⟩ := Int.eq_ofNat_of_zero_le h1
  obtain ⟨m, rfl⟩ := Int.eq_ofNat_of_zero_le h3
  have e : ((n : Int) * 16) = ((n * 16 : Nat) : Int) := by omega
  have j : n * 16 ||| m = n * 16 + m := nat_join 4 _ _ (by omega) (by omega)
  rw [e, u8_or_nat _ _ (by omega) (by omega), j]
  omega

/-- The number that the first k bytes are, the highest one first. -/
def numTo (l : List UInt8) : Nat → Int
  | 0 => 0
  | k + 1 => numTo l k * 256 + nth l k
theorem numTo_succ (l : List UInt8) (k : Nat) : numTo l (k + 1) = numTo l k * 256 + nth l k := rfl
theorem numTo_bd (l : List UInt8) : ∀ k, 0 ≤ numTo l k ∧ numTo l k < 256 ^ k
  | 0 => by simp [numTo]
  | k + 1 => by
    have h := numTo_bd l k
    have b := nth_bd l k
    rw [numTo_succ, Int.pow_succ]
    omega
/-- .. where the first one is below 128: k bytes are below 128 * 256^(k - 1). -/
theorem numTo_lo (l : List UInt8) (h0 : nth l 0 < 128) : ∀ k, numTo l (k + 1) < 128 * 256 ^ k
  | 0 => by simp [numTo]; omega
  | k + 1 => by
    have h := numTo_lo l h0 k
    have b := nth_bd l (k + 1)
    rw [numTo_succ, Int.pow_succ]
    omega
theorem numTo_room (l : List UInt8) (n k : Nat) (hk : k < n) (hn : n ≤ 8) (h8 : n = 8 → nth l 0 < 128) : numTo l k < 36028797018963968 := by
  by_cases h7 : k = 7
  · subst h7
    have := numTo_lo l (h8 (by omega)) 6
    simpa using this
  · have h := (numTo_bd l k).2
    have : k = 0 ∨ k = 1 ∨ k = 2 ∨ k = 3 ∨ k = 4 ∨ k = 5 ∨ k = 6 := by omega
    rcases this with rfl | rfl | rfl | rfl | rfl | rfl | rfl <;> simp at h <;> omega
/-- Whether bytes are a number: there are some, no more than 8, and it is no greater than an int. -/
def numOk (l : List UInt8) : Bool := decide (1 ≤ l.length ∧ l.length ≤ 8 ∧ (l.length = 8 → nth l 0 < 128))

/-- The byte at place i of a number in so many bytes. -/
def putB (n : Int) (size i : Nat) : Int := n / 256 ^ (size - 1 - i) % 256
def putL (n : Int) (size : Nat) : List UInt8 := (List.range size).map fun i => UInt8.ofNat (putB n size i).toNat
theorem putL_length (n : Int) (size : Nat) : (putL n size).length = size := by simp [putL]
theorem putB_bd (n : Int) (size i : Nat) : 0 ≤ putB n size i ∧ putB n size i < 256 := by unfold putB; omega
theorem nth_putL (n : Int) (size i : Nat) (h : i < size) : nth (putL n size) i = putB n size i := by
  unfold putL
  rw [nth_map_range _ _ _ h]
  have := putB_bd n size i
  simp [UInt8.toNat_ofNat']
  omega
theorem put_step (n : Int) (size q : Nat) (h : q + 1 ≤ size) : n / 256 ^ (size - q) = n / 256 ^ (size - (q + 1)) / 256 := by
  have e : size - q = (size - (q + 1)) + 1 := by omega
  rw [e, Int.pow_succ, Int.ediv_ediv_of_nonneg (Int.pow_nonneg (by decide))]
theorem put_bd (n : Int) (k : Nat) (h0 : 0 ≤ n) (h1 : n ≤ 9223372036854775807) : 0 ≤ n / 256 ^ k ∧ n / 256 ^ k ≤ 9223372036854775807 := by
  have hp : (0 : Int) < 256 ^ k := Int.pow_pos (by decide)
  refine ⟨Int.ediv_nonneg h0 (Int.le_of_lt hp), Int.le_trans (Int.ediv_le_self _ h0) h1⟩
theorem putB_at (n : Int) (size q : Nat) : putB n size q = n / 256 ^ (size - (q + 1)) % 256 := by
  unfold putB
  have e : size - 1 - q = size - (q + 1) := by omega
  rw [e]
theorem ediv_zero (n m : Int) (h0 : 0 ≤ n) (hm : 0 < m) : n / m = 0 ↔ n < m := by
  constructor
  · intro h
    have := Int.lt_ediv_add_one_mul_self n hm
    rw [h] at this
    omega
  · intro h
    exact Int.ediv_eq_zero_of_lt h0 h

/-! digits -/
def digV (c : Int) : Int := if 48 ≤ c ∧ c ≤ 57 then c - 48 else if 97 ≤ c ∧ c ≤ 102 then c - 87 else 0
def digK (c : Int) : Bool := decide ((48 ≤ c ∧ c ≤ 57) ∨ (97 ≤ c ∧ c ≤ 102))
def hexd (x : Int) : Int := if x < 10 then x + 48 else x + 87
theorem digV_bd (c : Int) : 0 ≤ digV c ∧ digV c < 16 := by unfold digV; split <;> (try split) <;> omega
theorem hexd_digV (c : Int) (h : digK c = true) : hexd (digV c) = c := by
  unfold digK at h
  rw [decide_eq_true_iff] at h
  unfold hexd digV
  split <;> split <;> (try split) <;> omega
theorem digV_hexd (x : Int) (h0 : 0 ≤ x) (h1 : x < 16) : digV (hexd x) = x ∧ digK (hexd x) = true ∧ 0 ≤ hexd x ∧ hexd x ≤ 255 := by
  unfold hexd digV digK
  rw [decide_eq_true_iff]
  by_cases h : x < 10
  · rw [if_pos h, if_pos (by omega)]; omega
  · rw [if_neg h, if_neg (by omega), if_pos (by omega)]; omega
def unhB (s : List UInt8) (i : Nat) : Int := digV (nth s (2 * i)) * 16 + digV (nth s (2 * i + 1))
theorem unhB_bd (s : List UInt8) (i : Nat) : 0 ≤ unhB s i ∧ unhB s i < 256 := by
  have a := digV_bd (nth s (2 * i))
  have b := digV_bd (nth s (2 * i + 1))
  unfold unhB
  omega
def unhL (s : List UInt8) : List UInt8 := (List.range (s.length / 2)).map fun i => UInt8.ofNat (unhB s i).toNat
theorem unhL_length (s : List UInt8) : (unhL s).length = s.length / 2 := by simp [unhL]
theorem nth_unhL (s : List UInt8) (i : Nat) (h : i < s.length / 2) : nth (unhL s) i = unhB s i := by
  unfold unhL
  rw [nth_map_range _ _ _ h]
  have := unhB_bd s i
  simp [UInt8.toNat_ofNat']
  omega
def unhOk (s : List UInt8) : Bool := decide (s.length % 2 = 0 ∧ ∀ i, i < s.length → digK (nth s i) = true)
def hexB (l : List UInt8) (j : Nat) : Int := if j % 2 = 0 then hexd (nth l (j / 2) / 16) else hexd (nth l (j / 2) % 16)
theorem hexB_dig (l : List UInt8) (j : Nat) : digK (hexB l j) = true ∧ 0 ≤ hexB l j ∧ hexB l j ≤ 255 := by
  have b := nth_bd l (j / 2)
  unfold hexB
  split
  · exact (digV_hexd _ (by omega) (by omega)).2
  · exact (digV_hexd _ (by omega) (by omega)).2
def hexL (l : List UInt8) : List UInt8 := (List.range (2 * l.length)).map fun j => UInt8.ofNat (hexB l j).toNat
theorem hexL_length (l : List UInt8) : (hexL l).length = 2 * l.length := by simp [hexL]
theorem nth_hexL (l : List UInt8) (j : Nat) (h : j < 2 * l.length) : nth (hexL l) j = hexB l j := by
  unfold hexL
  rw [nth_map_range _ _ _ h]
  have := hexB_dig l j
  simp [UInt8.toNat_ofNat']
  omega
/-- Digits of bytes are digits, and they are those bytes'. -/
theorem unhOk_hexL (l : List UInt8) : unhOk (hexL l) = true := by
  unfold unhOk
  rw [decide_eq_true_iff, hexL_length]
  exact ⟨by omega, fun i hi => by rw [nth_hexL _ _ hi]; exact (hexB_dig l i).1⟩
theorem unhL_hexL (l : List UInt8) : unhL (hexL l) = l := by
  have e : (unhL (hexL l)).length = l.length := by rw [unhL_length, hexL_length]; omega
  refine nth_inj e fun j hj => ?_
  rw [nth_unhL _ _ (by rw [hexL_length]; omega)]
  unfold unhB
  rw [nth_hexL _ _ (by omega), nth_hexL _ _ (by omega)]
  have b := nth_bd l j
  unfold hexB
  rw [if_pos (by omega), if_neg (by omega)]
  have e1 : 2 * j / 2 = j := by omega
  have e2 : (2 * j + 1) / 2 = j := by omega
  rw [e1, e2, (digV_hexd _ (by omega) (by omega)).1, (digV_hexd _ (by omega) (by omega)).1]
  omega
theorem hexL_unhL (s : List UInt8) (h : unhOk s = true) : hexL (unhL s) = s := by
  unfold unhOk at h
  rw [decide_eq_true_iff] at h
  have e : (hexL (unhL s)).length = s.length := by rw [hexL_length, unhL_length]; omega
  refine nth_inj e fun j hj => ?_
  rw [nth_hexL _ _ (by rw [unhL_length]; omega)]
  have a := digV_bd (nth s (2 * (j / 2)))
  have b := digV_bd (nth s (2 * (j / 2) + 1))
  unfold hexB
  rw [nth_unhL _ _ (by omega)]
  unfold unhB
  by_cases hp : j % 2 = 0
  · rw [if_pos hp]
    have e1 : 2 * (j / 2) = j := by omega
    rw [e1] at a b ⊢
    rw [show (digV (nth s j) * 16 + digV (nth s (j + 1))) / 16 = digV (nth s j) from by omega, hexd_digV _ (h.2 j (by omega))]
  · rw [if_neg hp]
    have e1 : 2 * (j / 2) + 1 = j := by omega
    rw [e1] at b ⊢
    rw [show (digV (nth s (2 * (j / 2))) * 16 + digV (nth s j)) % 16 = digV (nth s j) from by omega, hexd_digV _ (h.2 j (by omega))]
/-- A number from its bytes, and its bytes from it. -/
theorem numTo_putL (n : Int) (size : Nat) (h0 : 0 ≤ n) : ∀ k, k ≤ size → numTo (putL n size) k = n / 256 ^ (size - k) - n / 256 ^ size * 256 ^ k
  | 0, _ => by simp [numTo]
  | k + 1, hk => by
    rw [numTo_succ, numTo_putL n size h0 k (by omega), nth_putL _ _ _ (by omega), putB_at, put_step n size k hk, Int.pow_succ, Int.sub_mul, Int.mul_assoc]
    omega
def putOk (n : Int) (size : Int) : Bool := decide (1 ≤ size ∧ size ≤ 8 ∧ 0 ≤ n ∧ n < 256 ^ size.toNat)
theorem putOk_iff (n : Int) (k : Nat) (h : putOk n k = true) : 1 ≤ k ∧ k ≤ 8 ∧ 0 ≤ n ∧ n < 256 ^ k := by
  unfold putOk at h
  rw [decide_eq_true_iff, Int.toNat_natCast] at h
  omega
theorem numTo_put (n : Int) (k : Nat) (h : putOk n k = true) : numTo (putL n k) k = n := by
  obtain ⟨h1, h8, h0, hn⟩ := putOk_iff n k h
  rw [numTo_putL n k h0 k (Nat.le_refl _), Nat.sub_self, (ediv_zero n _ h0 (Int.pow_pos (by decide))).2 hn]
  simp
theorem numOk_putL (n : Int) (k : Nat) (h : putOk n k = true) (hm : n ≤ 9223372036854775807) : numOk (putL n k) = true := by
  obtain ⟨h1, h8, h0, hn⟩ := putOk_iff n k h
  unfold numOk
  rw [decide_eq_true_iff, putL_length]
  refine ⟨h1, h8, fun e => ?_⟩
  subst e
  rw [nth_putL _ _ _ (by omega)]
  unfold putB
  simp
  omega
theorem numTo_div (l : List UInt8) (k : Nat) : ∀ d, numTo l (k + d) / 256 ^ d = numTo l k
  | 0 => by simp
  | d + 1 => by
    have b := nth_bd l (k + d)
    have e : numTo l (k + (d + 1)) / 256 = numTo l (k + d) := by
      show (numTo l (k + d) * 256 + nth l (k + d)) / 256 = _
      omega
    rw [Int.pow_succ, Int.mul_comm, ← Int.ediv_ediv_of_nonneg (by decide), e, numTo_div l k d]
theorem putL_numTo (l : List UInt8) : putL (numTo l l.length) l.length = l := by
  refine nth_inj (putL_length _ _) fun j hj => ?_
  rw [putL_length] at hj
  rw [nth_putL _ _ _ hj, putB_at]
  have e : l.length = (j + 1) + (l.length - (j + 1)) := by omega
  have d := numTo_div l (j + 1) (l.length - (j + 1))
  rw [← e] at d
  rw [d, numTo_succ]
  have b := nth_bd l j
  omega
theorem putOk_numTo (l : List UInt8) (h : numOk l = true) : putOk (numTo l l.length) l.length = true := by
  unfold numOk at h
  rw [decide_eq_true_iff] at h
  unfold putOk
  rw [decide_eq_true_iff, Int.toNat_natCast]
  have b := numTo_bd l l.length
  omega
theorem numTo_max (l : List UInt8) (h : numOk l = true) : numTo l l.length ≤ 9223372036854775807 := by
  unfold numOk at h
  rw [decide_eq_true_iff] at h
  obtain ⟨h1, h8, h7⟩ := h
  obtain ⟨k, hk⟩ : ∃ k, l.length = k + 1 := ⟨l.length - 1, by omega⟩
  have r := numTo_room l l.length k (by omega) h8 h7
  have r0 := (numTo_bd l k).1
  have b := nth_bd l k
  rw [hk, numTo_succ]
  omega
end Go.Proofs.YtghiniaijobonaaDoor
/- Plain definitions and arithmetic for digests: no theorem of the program yet. -/
namespace Go.Proofs.YtghiniaijobonaaDoor
open Go.RowKit
set_option linter.unusedVariables false
set_option linter.unusedSimpArgs false

/-! words of 32 bits, as numbers -/
def rotr (x n : Nat) : Nat := (x >>> n) ||| ((x <<< (32 - n)) &&& 4294967295)
def ss0 (x : Nat) : Nat := rotr x 7 ^^^ rotr x 18 ^^^ (x >>> 3)
def ss1 (x : Nat) : Nat := rotr x 17 ^^^ rotr x 19 ^^^ (x >>> 10)
def bs0 (x : Nat) : Nat := rotr x 2 ^^^ rotr x 13 ^^^ rotr x 22
def bs1 (x : Nat) : Nat := rotr x 6 ^^^ rotr x 11 ^^^ rotr x 25
def chW (e f g : Nat) : Nat := (e &&& f) ^^^ ((4294967295 - e) &&& g)
def mjW (a b c : Nat) : Nat := (a &&& b) ^^^ (a &&& c) ^^^ (b &&& c)
def kW : List Nat := [0x428a2f98, 0x71374491, 0xb5c0fbcf, 0xe9b5dba5, 0x3956c25b, 0x59f111f1, 0x923f82a4, 0xab1c5ed5,
  0xd807aa98, 0x12835b01, 0x243185be, 0x550c7dc3, 0x72be5d74, 0x80deb1fe, 0x9bdc06a7, 0xc19bf174,
  0xe49b69c1, 0xefbe4786, 0x0fc19dc6, 0x240ca1cc, 0x2de92c6f, 0x4a7484aa, 0x5cb0a9dc, 0x76f988da,
  0x983e5152, 0xa831c66d, 0xb00327c8, 0xbf597fc7, 0xc6e00bf3, 0xd5a79147, 0x06ca6351, 0x14292967,
  0x27b70a85, 0x2e1b2138, 0x4d2c6dfc, 0x53380d13, 0x650a7354, 0x766a0abb, 0x81c2c92e, 0x92722c85,
  0xa2bfe8a1, 0xa81a664b, 0xc24b8b70, 0xc76c51a3, 0xd192e819, 0xd6990624, 0xf40e3585, 0x106aa070,
  0x19a4c116, 0x1e376c08, 0x2748774c, 0x34b0bcb5, 0x391c0cb3, 0x4ed8aa4a, 0x5b9cca4f, 0x682e6ff3,
  0x748f82ee, 0x78a5636f, 0x84c87814, 0x8cc70208, 0x90befffa, 0xa4506ceb, 0xbef9a3f7, 0xc67178f2]
def hW : List Nat := [0x6a09e667, 0xbb67ae85, 0x3c6ef372, 0xa54ff53a, 0x510e527f, 0x9b05688c, 0x1f83d9ab, 0x5be0cd19]
/-- The t-th word of 64 bytes. -/
def wordB (m : List UInt8) (t : Nat) : Nat := (((m.getD (4 * t) 0).toNat * 256 + (m.getD (4 * t + 1) 0).toNat) * 256 + (m.getD (4 * t + 2) 0).toNat) * 256 + (m.getD (4 * t + 3) 0).toNat
/-- The first t words that 64 bytes are spread to. -/
def wTo (m : List UInt8) : Nat → List Nat
  | 0 => []
  | t + 1 => wTo m t ++ [if t < 16 then wordB m t else (ss1 (at' (wTo m t) (t - 2)) + at' (wTo m t) (t - 7) + ss0 (at' (wTo m t) (t - 15)) + at' (wTo m t) (t - 16)) % 4294967296]
def pW (v : List Nat) (k w : Nat) : Nat := at' v 7 + bs1 (at' v 4) + chW (at' v 4) (at' v 5) (at' v 6) + k + w
def qW (v : List Nat) : Nat := bs0 (at' v 0) + mjW (at' v 0) (at' v 1) (at' v 2)
/-- One round. -/
def stepW (v : List Nat) (k w : Nat) : List Nat := [(pW v k w + qW v) % 4294967296, at' v 0, at' v 1, at' v 2, (at' v 3 + pW v k w) % 4294967296, at' v 4, at' v 5, at' v 6]
/-- The first t rounds. -/
def rTo (h : List Nat) (ws : List Nat) : Nat → List Nat
  | 0 => h
  | t + 1 => stepW (rTo h ws t) (at' kW t) (at' ws t)
def addW (u v : List Nat) : List Nat := (List.range 8).map fun i => (at' u i + at' v i) % 4294967296
def blockW (h : List Nat) (m : List UInt8) : List Nat := addW (rTo h (wTo m 64) 64) h
/-- The words after b times 64 bytes. -/
def hTo (p : List UInt8) : Nat → List Nat
  | 0 => hW
  | b + 1 => blockW (hTo p b) ((p.drop (64 * b)).take 64)
def padL (l : List UInt8) : List UInt8 := l ++ [128] ++ List.replicate ((119 - l.length % 64) % 64) 0 ++ putL (8 * l.length) 8
def outL (h : List Nat) : List UInt8 := (List.range 32).map fun i => UInt8.ofNat (at' h (i / 4) >>> (24 - i % 4 * 8))
def shaL (l : List UInt8) : List UInt8 := outL (hTo (padL l) ((padL l).length / 64))

theorem sha_abc : (shaL [97, 98, 99]).take 2 = [186, 120] ∧ (shaL [97, 98, 99]).getD 31 0 = 173 := by decide +kernel

/-! bit operations of a signed word of 64 bits, on numbers that are not negative -/
theorem wrap_i64_in (n : Nat) (h : n < 9223372036854775808) : IntKind.i64.wrap (n : Int) = n := by
  simp only [IntKind.wrap, IntKind.bits, IntKind.signed, Bool.true_and]
  rw [if_neg (by simp; omega)]
  omega
theorem i64_and_nat (a b : Nat) (ha : a < 9223372036854775808) (hb : b < 9223372036854775808) : bits .and .i64 (a : Int) (b : Int) = ((a &&& b : Nat) : Int) := by
  have hx : a &&& b < 2 ^ 63 := Nat.and_lt_two_pow _ (by omega)
  show IntKind.i64.wrap ((BitVec.ofInt 64 (a : Int) &&& BitVec.ofInt 64 (b : Int)).toNat : Int) = _
  rw [BitVec.toNat_and, ofInt_u64 a (by omega), ofInt_u64 b (by omega), wrap_i64_in _ (by omega)]
theorem i64_or_nat (a b : Nat) (ha : a < 9223372036854775808) (hb : b < 9223372036854775808) : bits .or .i64 (a : Int) (b : Int) = ((a ||| b : Nat) : Int) := by
  have hx : a ||| b < 2 ^ 63 := Nat.or_lt_two_pow (by omega) (by omega)
  show IntKind.i64.wrap ((BitVec.ofInt 64 (a : Int) ||| BitVec.ofInt 64 (b : Int)).toNat : Int) = _
  rw [BitVec.toNat_or, ofInt_u64 a (by omega), ofInt_u64 b (by omega), wrap_i64_in _ (by omega)]
theorem i64_xor_nat (a b : Nat) (ha : a < 9223372036854775808) (hb : b < 9223372036854775808) : bits .xor .i64 (a : Int) (b : Int) = ((a ^^^ b : Nat) : Int) := by
  have hx : a ^^^ b < 2 ^ 63 := Nat.xor_lt_two_pow (by omega) (by omega)
  show IntKind.i64.wrap ((BitVec.ofInt 64 (a : Int) ^^^ BitVec.ofInt 64 (b : Int)).toNat : Int) = _
  rw [BitVec.toNat_xor, ofInt_u64 a (by omega), ofInt_u64 b (by omega), wrap_i64_in _ (by omega)]
theorem and_all (x : Nat) : x &&& 4294967295 = x % 4294967296 := Nat.and_two_pow_sub_one_eq_mod x 32
theorem rotr_lt (x n : Nat) (h : x < 4294967296) : rotr x n < 4294967296 := by
  unfold rotr
  have h1 : x >>> n < 2 ^ 32 := by rw [Nat.shiftRight_eq_div_pow]; exact Nat.lt_of_le_of_lt (Nat.div_le_self _ _) h
  have h2 : (x <<< (32 - n)) &&& 4294967295 < 2 ^ 32 := by rw [and_all]; omega
  exact Nat.or_lt_two_pow h1 h2
theorem xor_lt32 {a b : Nat} (ha : a < 4294967296) (hb : b < 4294967296) : a ^^^ b < 4294967296 := Nat.xor_lt_two_pow (n := 32) ha hb
theorem and_lt32 {a b : Nat} (hb : b < 4294967296) : a &&& b < 4294967296 := Nat.and_lt_two_pow (n := 32) _ hb
theorem shr_lt32 {x : Nat} (n : Nat) (h : x < 4294967296) : x >>> n < 4294967296 := by rw [Nat.shiftRight_eq_div_pow]; exact Nat.lt_of_le_of_lt (Nat.div_le_self _ _) h
theorem ss0_lt {x : Nat} (h : x < 4294967296) : ss0 x < 4294967296 := xor_lt32 (xor_lt32 (rotr_lt _ _ h) (rotr_lt _ _ h)) (shr_lt32 _ h)
theorem ss1_lt {x : Nat} (h : x < 4294967296) : ss1 x < 4294967296 := xor_lt32 (xor_lt32 (rotr_lt _ _ h) (rotr_lt _ _ h)) (shr_lt32 _ h)
theorem bs0_lt {x : Nat} (h : x < 4294967296) : bs0 x < 4294967296 := xor_lt32 (xor_lt32 (rotr_lt _ _ h) (rotr_lt _ _ h)) (rotr_lt _ _ h)
theorem bs1_lt {x : Nat} (h : x < 4294967296) : bs1 x < 4294967296 := xor_lt32 (xor_lt32 (rotr_lt _ _ h) (rotr_lt _ _ h)) (rotr_lt _ _ h)
theorem chW_lt {e f g : Nat} (hf : f < 4294967296) (hg : g < 4294967296) : chW e f g < 4294967296 := xor_lt32 (and_lt32 hf) (and_lt32 hg)
theorem mjW_lt {a b c : Nat} (hb : b < 4294967296) (hc : c < 4294967296) : mjW a b c < 4294967296 := xor_lt32 (xor_lt32 (and_lt32 hb) (and_lt32 hc)) (and_lt32 hc)
/-- All words fit. -/
def Fit (l : List Nat) : Prop := ∀ i, at' l i < 4294967296
theorem fit_of_all {l : List Nat} (h : ∀ x ∈ l, x < 4294967296) : Fit l := by
  intro i
  unfold at'
  rw [List.getD_eq_getElem?_getD]
  rcases hi : l[i]? with _ | x
  · simp
  · exact h x (List.mem_of_getElem? hi)
theorem fit_kW : Fit kW := fit_of_all (by decide +kernel)
theorem fit_hW : Fit hW := fit_of_all (by decide +kernel)
theorem wordB_lt (m : List UInt8) (t : Nat) : wordB m t < 4294967296 := by
  unfold wordB
  have a := (m.getD (4 * t) 0).toNat_lt
  have b := (m.getD (4 * t + 1) 0).toNat_lt
  have c := (m.getD (4 * t + 2) 0).toNat_lt
  have d := (m.getD (4 * t + 3) 0).toNat_lt
  omega
theorem wTo_length (m : List UInt8) : ∀ t, (wTo m t).length = t
  | 0 => rfl
  | t + 1 => by rw [wTo, List.length_append, wTo_length m t]; rfl
theorem at_append_left {l r : List Nat} {i : Nat} (h : i < l.length) : at' (l ++ r) i = at' l i := by
  unfold at'; rw [List.getD_eq_getElem?_getD, List.getD_eq_getElem?_getD, List.getElem?_append_left h]
theorem at_snoc {l : List Nat} {x : Nat} : at' (l ++ [x]) l.length = x := by
  unfold at'; simp
theorem fit_snoc {l : List Nat} {x : Nat} (h : Fit l) (hx : x < 4294967296) : Fit (l ++ [x]) := by
  intro i
  by_cases hi : i < l.length
  · rw [at_append_left hi]; exact h i
  · by_cases he : i = l.length
    · subst he; rw [at_snoc]; exact hx
    · unfold at'; rw [List.getD_eq_getElem?_getD, List.getElem?_eq_none (by simp; omega)]; simp
theorem fit_wTo (m : List UInt8) : ∀ t, Fit (wTo m t)
  | 0 => fit_of_all (by intro x hx; cases hx)
  | t + 1 => by
    rw [wTo]
    refine fit_snoc (fit_wTo m t) ?_
    split
    · exact wordB_lt m t
    · omega
/-- A word once laid stays. -/
theorem wTo_at (m : List UInt8) (i t : Nat) (h : i < t) : at' (wTo m t) i = at' (wTo m (i + 1)) i := by
  induction t with
  | zero => omega
  | succ t ih =>
    by_cases e : i = t
    · subst e; rfl
    · rw [wTo, at_append_left (by rw [wTo_length]; omega), ih (by omega)]
theorem fit_stepW {v : List Nat} {k w : Nat} (h : Fit v) : Fit (stepW v k w) := fit_of_all (by
  intro x hx
  unfold stepW at hx
  simp only [List.mem_cons, List.not_mem_nil, or_false] at hx
  rcases hx with rfl | rfl | rfl | rfl | rfl | rfl | rfl | rfl
  · omega
  · exact h 0
  · exact h 1
  · exact h 2
  · omega
  · exact h 4
  · exact h 5
  · exact h 6)
theorem fit_rTo {h ws : List Nat} (hf : Fit h) : ∀ t, Fit (rTo h ws t)
  | 0 => hf
  | t + 1 => fit_stepW (fit_rTo hf t)
theorem fit_addW (u v : List Nat) : Fit (addW u v) := fit_of_all (by
  intro x hx
  unfold addW at hx
  obtain ⟨i, _, rfl⟩ := List.mem_map.1 hx
  omega)
theorem fit_hTo (p : List UInt8) : ∀ b, Fit (hTo p b)
  | 0 => fit_hW
  | b + 1 => fit_addW _ _
theorem at_map_range (f : Nat → Nat) (n i : Nat) (h : i < n) : at' ((List.range n).map f) i = f i := by
  unfold at'; simp [List.getD_eq_getElem?_getD, h]
theorem wTo_rec (m : List UInt8) (t : Nat) (h : t < 64) : at' (wTo m 64) t = if t < 16 then wordB m t else (ss1 (at' (wTo m 64) (t - 2)) + at' (wTo m 64) (t - 7) + ss0 (at' (wTo m 64) (t - 15)) + at' (wTo m 64) (t - 16)) % 4294967296 := by
  have e : ∀ i, i < t → at' (wTo m 64) i = at' (wTo m t) i := fun i hi => by rw [wTo_at m i 64 (by omega), wTo_at m i t hi]
  rw [wTo_at m t 64 h]
  have hs : at' (wTo m (t + 1)) t = if t < 16 then wordB m t else (ss1 (at' (wTo m t) (t - 2)) + at' (wTo m t) (t - 7) + ss0 (at' (wTo m t) (t - 15)) + at' (wTo m t) (t - 16)) % 4294967296 := by
    have := @at_snoc (wTo m t) (if t < 16 then wordB m t else (ss1 (at' (wTo m t) (t - 2)) + at' (wTo m t) (t - 7) + ss0 (at' (wTo m t) (t - 15)) + at' (wTo m t) (t - 16)) % 4294967296)
    rw [wTo_length] at this
    exact this
  rw [hs]
  by_cases h16 : t < 16
  · rw [if_pos h16, if_pos h16]
  · rw [if_neg h16, if_neg h16, e _ (by omega), e _ (by omega), e _ (by omega), e _ (by omega)]
/-- The number of four bytes. -/
theorem numTo_word (m : List UInt8) (t : Nat) : numTo ((m.drop (4 * t)).take 4) 4 = ((wordB m t : Nat) : Int) := by
  have g : ∀ i, i < 4 → nth ((m.drop (4 * t)).take 4) i = (((m.getD (4 * t + i) 0).toNat : Nat) : Int) := fun i hi => by
    unfold nth
    simp [List.getD_eq_getElem?_getD, List.getElem?_take, hi, List.getElem?_drop]
  simp only [numTo, g 0 (by omega), g 1 (by omega), g 2 (by omega), g 3 (by omega), wordB]
  simp only [Nat.add_zero]
  omega
theorem outL_length (h : List Nat) : (outL h).length = 32 := by simp [outL]
theorem nth_outL (h : List Nat) (i : Nat) (hi : i < 32) : nth (outL h) i = ((at' h (i / 4) >>> (24 - i % 4 * 8) % 256 : Nat) : Int) := by
  unfold outL
  rw [nth_map_range _ _ _ hi, UInt8.toNat_ofNat']
theorem shaL_length (l : List UInt8) : (shaL l).length = 32 := outL_length _
end Go.Proofs.YtghiniaijobonaaDoor
/- The contract of sha.turn: a word turned down. -/
namespace Go.Proofs.YtghiniaijobonaaDoor
open Go.RowKit
set_option linter.unusedVariables false
set_option linter.unusedSimpArgs false

/-! bit operations of a word of 32 bits -/
theorem ofInt_u32 (a : Nat) (h : a < 4294967296) : (BitVec.ofInt 32 (a : Int)).toNat = a := by
  rw [BitVec.ofInt_natCast, BitVec.toNat_ofNat]
  omega
theorem wrap_u32_in (n : Nat) (h : n < 4294967296) : IntKind.u32.wrap (n : Int) = n := by
  simp only [IntKind.wrap, IntKind.bits, IntKind.signed, Bool.false_and]
  rw [if_neg (by simp)]
  omega
theorem u32_and_nat (a b : Nat) (ha : a < 4294967296) (hb : b < 4294967296) : bits .and .u32 (a : Int) (b : Int) = ((a &&& b : Nat) : Int) := by
  have hx : a &&& b < 2 ^ 32 := Nat.and_lt_two_pow _ (by omega)
  show IntKind.u32.wrap ((BitVec.ofInt 32 (a : Int) &&& BitVec.ofInt 32 (b : Int)).toNat : Int) = _
  rw [BitVec.toNat_and, ofInt_u32 a ha, ofInt_u32 b hb, wrap_u32_in _ (by omega)]
theorem u32_or_nat (a b : Nat) (ha : a < 4294967296) (hb : b < 4294967296) : bits .or .u32 (a : Int) (b : Int) = ((a ||| b : Nat) : Int) := by
  have hx : a ||| b < 2 ^ 32 := Nat.or_lt_two_pow (by omega) (by omega)
  show IntKind.u32.wrap ((BitVec.ofInt 32 (a : Int) ||| BitVec.ofInt 32 (b : Int)).toNat : Int) = _
  rw [BitVec.toNat_or, ofInt_u32 a ha, ofInt_u32 b hb, wrap_u32_in _ (by omega)]
theorem u32_xor_nat (a b : Nat) (ha : a < 4294967296) (hb : b < 4294967296) : bits .xor .u32 (a : Int) (b : Int) = ((a ^^^ b : Nat) : Int) := by
  have hx : a ^^^ b < 2 ^ 32 := Nat.xor_lt_two_pow (by omega) (by omega)
  show IntKind.u32.wrap ((BitVec.ofInt 32 (a : Int) ^^^ BitVec.ofInt 32 (b : Int)).toNat : Int) = _
  rw [BitVec.toNat_xor, ofInt_u32 a ha, ofInt_u32 b hb, wrap_u32_in _ (by omega)]

theorem and31 : ∀ n : Nat, n < 32 → 1 ≤ n → bits BinOp.and IntKind.u64 (IntKind.u64.wrap (-(n : Int))) 31 = ((32 - n : Nat) : Int) := by decide +kernel
theorem rot_eq (x n : Nat) (hx : x < 4294967296) (h1 : 1 ≤ n) (h2 : n ≤ 31) : bits .or .u32 ((x : Int) * 2 ^ (32 - n) % 4294967296) ((x : Int) / 2 ^ (32 - (32 - n))) = ((rotr x n : Nat) : Int) := by
  have e0 : 32 - (32 - n) = n := by omega
  have e1 : (x : Int) / 2 ^ n = ((x >>> n : Nat) : Int) := by rw [Nat.shiftRight_eq_div_pow, Int.natCast_ediv, Int.natCast_pow]; rfl
  have e2 : (x : Int) * 2 ^ (32 - n) % 4294967296 = ((x <<< (32 - n) &&& 4294967295 : Nat) : Int) := by rw [and_all, Nat.shiftLeft_eq, Int.natCast_emod, Int.natCast_mul, Int.natCast_pow]; rfl
  have hs := shr_lt32 n hx
  have hc : x <<< (32 - n) &&& 4294967295 < 4294967296 := by rw [and_all]; omega
  rw [e0, e1, e2, u32_or_nat _ _ hc hs, Nat.or_comm]
  rfl

set_option maxRecDepth 100000 in
set_option maxHeartbeats 400000 in
theorem wrot_any (x n : Nat) (w : World) (hx : x < 4294967296) (h1 : 1 ≤ n) (h2 : n ≤ 31) :
    Calls Tryd.prog 71 #[.int .u32 x, .int .i64 (-(n : Int))] w fun e w' => e = .returned (.int .u32 (rotr x n : Nat)) ∧ w' = w := by
  have he := and31 n (by omega) h1
  go_enter Tryd.func71, Tryd.ntmps71
  go_wp2
  go_ret
  exact ⟨ret_int (rot_eq x n hx h1 h2), rfl⟩
set_option maxRecDepth 100000 in
theorem wturn_any (x n : Nat) (z : Int) (w : World) (hx : x < 4294967296) (hz : z = (n : Int)) (h1 : 1 ≤ n) (h2 : n ≤ 31) :
    Calls Tryd.prog 70 #[.int .u32 x, .int .i64 z] w fun e w' => e = .returned (.int .u32 (rotr x n : Nat)) ∧ w' = w := by
  subst hz
  go_enter Tryd.func70, Tryd.ntmps70
  go_wp2_with fail
  refine (wrot_any x n _ hx h1 h2).mono ?_
  rintro e w' ⟨rfl, rfl⟩
  go_wp2
  go_ret
  exact ⟨rfl, rfl⟩
theorem wturn_z (x : Nat) (z : Int) (w : World) (hx : x < 4294967296) (h1 : 1 ≤ z) (h2 : z ≤ 31) :
    Calls Tryd.prog 70 #[.int .u32 x, .int .i64 z] w fun e w' => e = .returned (.int .u32 (rotr x z.toNat : Nat)) ∧ ∃ q, w' = w.drewN q :=
  (wturn_any x z.toNat z w hx (by omega) (by omega) (by omega)).mono fun e w' h => ⟨h.1, 0, h.2⟩
/-! the sums of turned words -/
theorem wxor3 {a b c : Nat} (ha : a < 4294967296) (hb : b < 4294967296) (hc : c < 4294967296) : bits .xor .u32 (bits .xor .u32 (a : Int) (b : Int)) (c : Int) = ((a ^^^ b ^^^ c : Nat) : Int) := by
  have hx := xor_lt32 ha hb
  rw [u32_xor_nat _ _ ha hb, u32_xor_nat _ _ hx hc]
theorem wshr3 (x : Nat) : (x : Int) / (8 : Int) = ((x >>> 3 : Nat) : Int) := by rw [Nat.shiftRight_eq_div_pow]; rfl
theorem wshr10 (x : Nat) : (x : Int) / (1024 : Int) = ((x >>> 10 : Nat) : Int) := by rw [Nat.shiftRight_eq_div_pow]; rfl
theorem wss0_eq {x : Nat} (h : x < 4294967296) : bits .xor .u32 (bits .xor .u32 ((rotr x 7 : Nat) : Int) ((rotr x 18 : Nat) : Int)) ((x : Int) / (8 : Int)) = ((ss0 x : Nat) : Int) := by
  rw [wshr3, wxor3 (rotr_lt _ _ h) (rotr_lt _ _ h) (shr_lt32 _ h)]; rfl
theorem wss1_eq {x : Nat} (h : x < 4294967296) : bits .xor .u32 (bits .xor .u32 ((rotr x 17 : Nat) : Int) ((rotr x 19 : Nat) : Int)) ((x : Int) / (1024 : Int)) = ((ss1 x : Nat) : Int) := by
  rw [wshr10, wxor3 (rotr_lt _ _ h) (rotr_lt _ _ h) (shr_lt32 _ h)]; rfl
theorem wbs0_eq {x : Nat} (h : x < 4294967296) : bits .xor .u32 (bits .xor .u32 ((rotr x 2 : Nat) : Int) ((rotr x 13 : Nat) : Int)) ((rotr x 22 : Nat) : Int) = ((bs0 x : Nat) : Int) := by
  rw [wxor3 (rotr_lt _ _ h) (rotr_lt _ _ h) (rotr_lt _ _ h)]; rfl
theorem wbs1_eq {x : Nat} (h : x < 4294967296) : bits .xor .u32 (bits .xor .u32 ((rotr x 6 : Nat) : Int) ((rotr x 11 : Nat) : Int)) ((rotr x 25 : Nat) : Int) = ((bs1 x : Nat) : Int) := by
  rw [wxor3 (rotr_lt _ _ h) (rotr_lt _ _ h) (rotr_lt _ _ h)]; rfl
theorem wch_eq {e f g : Nat} (he : e < 4294967296) (hf : f < 4294967296) (hg : g < 4294967296) : bits .xor .u32 (bits .and .u32 (e : Int) (f : Int)) (bits .and .u32 (4294967295 - (e : Int)) (g : Int)) = ((chW e f g : Nat) : Int) := by
  have e1 : (4294967295 - (e : Int)) = ((4294967295 - e : Nat) : Int) := by omega
  rw [e1, u32_and_nat _ _ he hf, u32_and_nat _ _ (by omega) hg, u32_xor_nat _ _ (and_lt32 hf) (and_lt32 hg)]
  rfl
theorem wmj_eq {a b c : Nat} (ha : a < 4294967296) (hb : b < 4294967296) (hc : c < 4294967296) : bits .xor .u32 (bits .xor .u32 (bits .and .u32 (a : Int) (b : Int)) (bits .and .u32 (a : Int) (c : Int))) (bits .and .u32 (b : Int) (c : Int)) = ((mjW a b c : Nat) : Int) := by
  rw [u32_and_nat _ _ ha hb, u32_and_nat _ _ ha hc, u32_and_nat _ _ hb hc, wxor3 (and_lt32 hb) (and_lt32 hc) (and_lt32 hc)]
  rfl
theorem wnot_eq {x : Nat} (h : x < 4294967296) : bits .xor .u32 (if IntKind.u32.signed = true then -1 else IntKind.u32.max) (x : Int) = 4294967295 - (x : Int) := by
  have e : (if IntKind.u32.signed = true then (-1 : Int) else IntKind.u32.max) = ((4294967295 : Nat) : Int) := by rfl
  rw [e, u32_xor_nat _ _ (by omega) h]
  have : 4294967295 ^^^ x = 4294967295 - x := by
    have h1 : (BitVec.allOnes 32 ^^^ BitVec.ofNat 32 x) = ~~~ (BitVec.ofNat 32 x) := by rw [BitVec.allOnes_xor]
    have h2 := congrArg BitVec.toNat h1
    rw [BitVec.toNat_xor, BitVec.toNat_not, BitVec.toNat_allOnes, BitVec.toNat_ofNat, Nat.mod_eq_of_lt (by omega)] at h2
    simpa using h2
  rw [this]
  omega
end Go.Proofs.YtghiniaijobonaaDoor
/- Rows of bytes that grow by append. -/
namespace Go.Proofs.YtghiniaijobonaaDoor
open Go.RowKit
set_option linter.unusedVariables false
set_option linter.unusedSimpArgs false

def cellsB (l : List UInt8) : List Value := l.map fun b => Value.int .u8 (b.toNat : Int)
theorem cellsB_append (l r : List UInt8) : cellsB (l ++ r) = cellsB l ++ cellsB r := by simp [cellsB]
theorem cellsB_length (l : List UInt8) : (cellsB l).length = l.length := by simp [cellsB]
theorem cellsB_at (l : List UInt8) (i : Nat) (h : i < l.length) : (cellsB l)[i]? = some (.int .u8 (nth l i)) := by
  unfold cellsB nth
  simp [List.getElem?_eq_getElem h]
theorem cellsB_one (l : List UInt8) : ∀ u ∈ cellsB l, u.oneCell' = true := by
  intro u hu
  obtain ⟨i, _, rfl⟩ := List.mem_map.1 hu
  rfl
/-- The call's own slice of bytes v reads as l. -/
def OwnL (w : World) (B : Nat) (v : Value) (l : List UInt8) : Prop := w.ownsRow B 5 1 v l.length (cellsB l)
theorem OwnL.form {w : World} {B : Nat} {v : Value} {l : List UInt8} (h : OwnL w B v l) : ∃ a cap, v = .slice a l.length cap ∧ Row w a l.length l ∧ l.length ≤ cap := by
  rcases h.2 with ⟨rfl, h0⟩ | ⟨g, cap, cur, rfl, h1, h2, h3, _⟩
  · exact ⟨none, 0, by rw [h0], ⟨rfl, .inl h0⟩, by omega⟩
  · refine ⟨_, cap, rfl, ⟨rfl, .inr ⟨g, 0, rfl, fun i hi => ?_⟩⟩, h3⟩
    rw [Nat.zero_add, World.ownsRow.cellAt h i (by omega), cellsB_at l i hi]
theorem OwnL.formSome {w : World} {B : Nat} {v : Value} {l : List UInt8} (h : OwnL w B v l) (hl : 0 < l.length) : ∃ g cap, v = .slice (some ⟨g, 0, none⟩) l.length cap ∧ Row w (some ⟨g, 0, none⟩) l.length l ∧ l.length ≤ cap ∧ B ≤ g ∧ g < w.heap.size := by
  have hlt := World.ownsRow.lt h
  rcases h.2 with ⟨rfl, h0⟩ | ⟨g, cap, cur, rfl, h1, h2, h3, _⟩
  · omega
  · refine ⟨g, cap, rfl, ⟨rfl, .inr ⟨g, 0, rfl, fun i hi => ?_⟩⟩, h3, (hlt g rfl).1, (hlt g rfl).2⟩
    rw [Nat.zero_add, World.ownsRow.cellAt h i (by omega), cellsB_at l i hi]
theorem OwnL.nil (w : World) (B : Nat) : OwnL w B (.slice none 0 0) [] := World.ownsRow_nil _ _ _ _
theorem OwnL.lit0 (w : World) (B : Nat) (hB : B ≤ w.heap.size) : OwnL (w.alloc (.cells #[] 5)) B (.slice (some ⟨w.heap.size, 0, none⟩) 0 0) [] :=
  World.ownsRow_lit w #[] 0 hB (by unfold maxLen; omega) rfl
theorem OwnL.lit0' (w : World) (B s : Nat) (hs : w.heap.size = s) (hB : B ≤ s) : OwnL (w.alloc (.cells #[] 5)) B (.slice (some ⟨s, 0, none⟩) 0 0) [] := by
  subst hs
  exact OwnL.lit0 w B hB
theorem OwnL.drewN {w : World} {B : Nat} {v : Value} {l : List UInt8} (h : OwnL w B v l) (q : Nat) : OwnL (w.drewN q) B v l := by
  induction q with
  | zero => exact h
  | succ q ih => exact World.ownsRow.drew ih
theorem OwnL.below {w w' : World} {B : Nat} {v : Value} {l : List UInt8} (h : OwnL w B v l) (hb : Below w.heap.size w w') : OwnL w' B v l := by
  rcases h.2 with ⟨h1, h0⟩ | ⟨g, cap, cur, e1, e2, e3, e4⟩
  · exact ⟨h.1, .inl ⟨h1, h0⟩⟩
  · have hg : g < w.heap.size := (World.ownsRow.lt h g (by rw [e1]; rfl)).2
    exact ⟨h.1, .inr ⟨g, cap, cur, e1, e2, (hb.block g hg).trans e3, e4⟩⟩

theorem OwnL.grown {w w0 w' : World} {B B0 : Nat} {v : Value} {l : List UInt8} (h : OwnL w B v l) (hb : Below B0 w0 w) (hg : w.grownBy w' v.ownBlock) (h0 : B0 ≤ B) (hs : B0 ≤ w.heap.size) : Below B0 w0 w' :=
  hb.grown hg hs (fun k hk => Nat.le_trans h0 (World.ownsRow.lt h k hk).1)
/-- Two slices that lie apart. -/
def Sep (v v' : Value) : Prop := v.ownBlock = none ∨ v'.ownBlock = none ∨ v.ownBlock ≠ v'.ownBlock
theorem Sep.symm {v v' : Value} (h : Sep v v') : Sep v' v := by
  rcases h with h | h | h
  · exact .inr (.inl h)
  · exact .inl h
  · exact .inr (.inr fun e => h e.symm)
theorem OwnL.other {w w1 : World} {B : Nat} {v v' : Value} {l' : List UInt8} (h' : OwnL w B v' l') (hg : w.grownBy w1 v.ownBlock) (hs : Sep v v') : OwnL w1 B v' l' := by
  refine World.ownsRow.kept h' hg ?_
  rcases hs with h | h | h
  · by_cases hn : v'.ownBlock = none
    · exact .inl hn
    · rw [h]; exact .inr hn
  · exact .inl h
  · exact .inr fun e => h e.symm
theorem Sep.next {w : World} {B : Nat} {v v1 v' : Value} {l' : List UInt8} (hs : Sep v v') (hat : v1.ownBlock = v.ownBlock ∨ v1.ownBlock = some w.heap.size) (h' : OwnL w B v' l') : Sep v1 v' := by
  rcases hat with h | h
  · unfold Sep at *; rw [h]; exact hs
  · by_cases hn : v'.ownBlock = none
    · exact .inr (.inl hn)
    · refine .inr (.inr fun e => ?_)
      have := (World.ownsRow.lt h' w.heap.size (by rw [← e, h])).2
      omega
section
variable {P : Program}
theorem run_append_nothing (w : World) (base : Nat) (t ty e : TypeId) (i : TypeInfo) (size : Nat) (ht : P.underlying t = some (.slice e)) (hi : P.info? e = some i)
    (v : Value) (n c : Nat) (xs : List Value) (hown : w.ownsRow base e size v n xs) :
    (Builtin.append_ #[t, t] ty #[v, .slice none 0 c]).run P w = .ok v w := by
  rcases hown.2 with ⟨rfl, rfl⟩ | ⟨g, cap, cur, rfl, _, _, hnc, _⟩
  · simp [Builtin.append_, run_underlying ht, sizeOf, typeInfo, hi, Builtin.lenOf, Builtin.firstCells]
  · simp [Builtin.append_, run_underlying ht, sizeOf, typeInfo, hi, Builtin.lenOf, Builtin.firstCells, hnc, storeCells]

/-- 'append(v, x...)', v the call's own row of bytes, x any slice of bytes. -/
theorem wpList_append_bytes_at {w : World} {ops : Array Oper} {rest : List Oper} {o : Oper} {a : Act} {Q : Exit → Act → World → Prop} (hgd : o.guard = none) (s x : Operand) (t : TypeId)
    (ho : o.op = .call { callee := .builtin .append, args := #[s, x], argTypes := #[t, t] })
    (base : Nat) (i : TypeInfo) (ht : P.underlying t = some (.slice 5)) (hi : P.info? 5 = some i) (hz : i.zero = some (.int .u8 0)) (hsize : i.size = 1) (hby : i.bytes = 1)
    (v : Value) (l : List UInt8) (hs : a.eval s = v) (hown : OwnL w base v l)
    (ad : Option Addr) (n c : Nat) (r : List UInt8) (hx : a.eval x = .slice ad n c) (hr : Row w ad n r) (h47 : l.length + n ≤ 140737488355328) (hbase : base ≤ w.heap.size)
    (h : ∀ v' w', OwnL w' base v' (l ++ r) → w.grownBy w' v.ownBlock → (v'.ownBlock = v.ownBlock ∨ v'.ownBlock = some w.heap.size) → wpList P ops Q rest (a.put o.dst v') w') : wpList P ops Q (o :: rest) a w := by
  obtain ⟨hl, hr⟩ := hr
  cases ad with
  | none =>
    have h0 : n = 0 := by
      rcases hr with h0 | ⟨b, o, h1, _⟩
      · exact h0
      · cases h1
    subst h0
    have hr0 : r = [] := List.eq_nil_of_length_eq_zero hl
    subst hr0
    have hrun := run_append_nothing (P := P) w base t o.type 5 i 1 ht hi v l.length c (cellsB l) hown
    refine wpList_plain hgd fun K hK' => ?_
    unfold Oper.wp
    simp [execOp, ho, resolve, invoke, builtin, hs, hx, hrun, Result.andThen]
    exact hK' _ _ (h v w (by rw [List.append_nil]; exact hown) (World.grownBy.refl _ _) (.inl rfl))
  | some ad =>
    refine wpList_append_own_at w hgd s x t ho base 5 i (.int .u8 0) 1 1 ht hi hz hsize hby rfl (by decide) v l.length (cellsB l) hs hown ad n c (cellsB r) hx (by rw [cellsB_length, hl, Nat.mul_one]) ?_ (cellsB_one r) (by unfold maxLen; omega) (by omega) hbase ?_
    · intro j u hj
      have hj' : j < r.length := by have := (List.getElem?_eq_some_iff.1 hj).1; rwa [cellsB_length] at this
      rcases hr with h0 | ⟨b, off, h1, hc⟩
      · omega
      · cases h1
        rw [Go.WideShapes.add_plain, hc j (by omega), ← cellsB_at r j hj', hj]
    · intro v' w' hown' hgrow _ hat
      refine h v' w' ?_ hgrow hat
      unfold OwnL
      rw [List.length_append, cellsB_append, hl]
      exact hown'
/-- 'append(v, x...)', v the call's own row of bytes, x any slice of bytes. -/
theorem wpList_append_bytes {w : World} {ops : Array Oper} {rest : List Oper} {o : Oper} {a : Act} {Q : Exit → Act → World → Prop} (hgd : o.guard = none) (s x : Operand) (t : TypeId)
    (ho : o.op = .call { callee := .builtin .append, args := #[s, x], argTypes := #[t, t] })
    (base : Nat) (i : TypeInfo) (ht : P.underlying t = some (.slice 5)) (hi : P.info? 5 = some i) (hz : i.zero = some (.int .u8 0)) (hsize : i.size = 1) (hby : i.bytes = 1)
    (v : Value) (l : List UInt8) (hs : a.eval s = v) (hown : OwnL w base v l)
    (ad : Option Addr) (n c : Nat) (r : List UInt8) (hx : a.eval x = .slice ad n c) (hr : Row w ad n r) (h47 : l.length + n ≤ 140737488355328) (hbase : base ≤ w.heap.size)
    (h : ∀ v' w', OwnL w' base v' (l ++ r) → w.grownBy w' v.ownBlock → wpList P ops Q rest (a.put o.dst v') w') : wpList P ops Q (o :: rest) a w :=
  wpList_append_bytes_at hgd s x t ho base i ht hi hz hsize hby v l hs hown ad n c r hx hr h47 hbase fun v' w' h1 h2 _ => h v' w' h1 h2
end
end Go.Proofs.YtghiniaijobonaaDoor
