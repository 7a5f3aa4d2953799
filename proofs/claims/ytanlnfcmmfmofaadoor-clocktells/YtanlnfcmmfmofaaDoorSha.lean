/- Plain definitions and arithmetic for digests: no theorem of the program yet. -/
import Derived.Test.YtanlnfcmmfmofaaDoorMath
import Derived.Test.YtanlnfcmmfmofaaDoorInts
namespace Go.Proofs.YtanlnfcmmfmofaaDoor
open Go.RowKit
set_option linter.unusedVariables false
set_option linter.unusedSimpArgs false

/-! words of 32 bits, as numbers -/
def rotr (x n : Nat) : Nat := (x >>> n) ||| ((x <<< (32 - n)) &&& 4294967295)
def ss0 (x : Nat) : Nat := rotr x 7 ^^^ rotr x 18 ^^^ (x >>> 3)
def ss1 (x : Nat) : Nat := rotr x 17 ^^^ rotr x 19 ^^^ (x >>> 10)
def bs0 (x : Nat) : Nat := rotr x 2 ^^^ rotr x 13 ^^^ rotr x 22
def bs1 (x : Nat) : Nat := rotr x 6 ^^^ rotr x 11 ^^^ rotr x 25
def chW (e f g : Nat) : Nat := (e &&& f) ^^^ ((4294967295 - e) &&& g)
def mjW (a b c : Nat) : Nat := (a &&& b) ^^^ (a &&& c) ^^^ (b &&& c)
def kW : List Nat := [0x428a2f98, 0x71374491, 0xb5c0fbcf, 0xe9b5dba5, 0x3956c25b, 0x59f111f1, 0x923f82a4, 0xab1c5ed5,
  0xd807aa98, 0x12835b01, 0x243185be, 0x550c7dc3, 0x72be5d74, 0x80deb1fe, 0x9bdc06a7, 0xc19bf174,
  0xe49b69c1, 0xefbe4786, 0x0fc19dc6, 0x240ca1cc, 0x2de92c6f, 0x4a7484aa, 0x5cb0a9dc, 0x76f988da,
  0x983e5152, 0xa831c66d, 0xb00327c8, 0xbf597fc7, 0xc6e00bf3, 0xd5a79147, 0x06ca6351, 0x14292967,
  0x27b70a85, 0x2e1b2138, 0x4d2c6dfc, 0x53380d13, 0x650a7354, 0x766a0abb, 0x81c2c92e, 0x92722c85,
  0xa2bfe8a1, 0xa81a664b, 0xc24b8b70, 0xc76c51a3, 0xd192e819, 0xd6990624, 0xf40e3585, 0x106aa070,
  0x19a4c116, 0x1e376c08, 0x2748774c, 0x34b0bcb5, 0x391c0cb3, 0x4ed8aa4a, 0x5b9cca4f, 0x682e6ff3,
  0x748f82ee, 0x78a5636f, 0x84c87814, 0x8cc70208, 0x90befffa, 0xa4506ceb, 0xbef9a3f7, 0xc67178f2]
def hW : List Nat := [0x6a09e667, 0xbb67ae85, 0x3c6ef372, 0xa54ff53a, 0x510e527f, 0x9b05688c, 0x1f83d9ab, 0x5be0cd19]
/-- The t-th word of 64 bytes. -/
def wordB (m : List UInt8) (t : Nat) : Nat := (((m.getD (4 * t) 0).toNat * 256 + (m.getD (4 * t + 1) 0).toNat) * 256 + (m.getD (4 * t + 2) 0).toNat) * 256 + (m.getD (4 * t + 3) 0).toNat
/-- The first t words that 64 bytes are spread to. -/
def wTo (m : List UInt8) : Nat → List Nat
  | 0 => []
  | t + 1 => wTo m t ++ [if t < 16 then wordB m t else (ss1 (at' (wTo m t) (t - 2)) + at' (wTo m t) (t - 7) + ss0 (at' (wTo m t) (t - 15)) + at' (wTo m t) (t - 16)) % 4294967296]
def pW (v : List Nat) (k w : Nat) : Nat := at' v 7 + bs1 (at' v 4) + chW (at' v 4) (at' v 5) (at' v 6) + k + w
def qW (v : List Nat) : Nat := bs0 (at' v 0) + mjW (at' v 0) (at' v 1) (at' v 2)
/-- One round. -/
def stepW (v : List Nat) (k w : Nat) : List Nat := [(pW v k w + qW v) % 4294967296, at' v 0, at' v 1, at' v 2, (at' v 3 + pW v k w) % 4294967296, at' v 4, at' v 5, at' v 6]
/-- The first t rounds. -/
def rTo (h : List Nat) (ws : List Nat) : Nat → List Nat
  | 0 => h
  | t + 1 => stepW (rTo h ws t) (at' kW t) (at' ws t)
def addW (u v : List Nat) : List Nat := (List.range 8).map fun i => (at' u i + at' v i) % 4294967296
def blockW (h : List Nat) (m : List UInt8) : List Nat := addW (rTo h (wTo m 64) 64) h
/-- The words after b times 64 bytes. -/
def hTo (p : List UInt8) : Nat → List Nat
  | 0 => hW
  | b + 1 => blockW (hTo p b) ((p.drop (64 * b)).take 64)
def padL (l : List UInt8) : List UInt8 := l ++ [128] ++ List.replicate ((119 - l.length % 64) % 64) 0 ++ putL (8 * l.length) 8
def outL (h : List Nat) : List UInt8 := (List.range 32).map fun i => UInt8.ofNat (at' h (i / 4) >>> (24 - i % 4 * 8))
def shaL (l : List UInt8) : List UInt8 := outL (hTo (padL l) ((padL l).length / 64))

theorem sha_abc : (shaL [97, 98, 99]).take 2 = [186, 120] ∧ (shaL [97, 98, 99]).getD 31 0 = 173 := by decide +kernel

/-! bit operations of a signed word of 64 bits, on numbers that are not negative -/
theorem wrap_i64_in (n : Nat) (h : n < 9223372036854775808) : IntKind.i64.wrap (n : Int) = n := by
  simp only [IntKind.wrap, IntKind.bits, IntKind.signed, Bool.true_and]
  rw [if_neg (by simp; omega)]
  omega
theorem i64_and_nat (a b : Nat) (ha : a < 9223372036854775808) (hb : b < 9223372036854775808) : bits .and .i64 (a : Int) (b : Int) = ((a &&& b : Nat) : Int) := by
  have hx : a &&& b < 2 ^ 63 := Nat.and_lt_two_pow _ (by omega)
  show IntKind.i64.wrap ((BitVec.ofInt 64 (a : Int) &&& BitVec.ofInt 64 (b : Int)).toNat : Int) = _
  rw [BitVec.toNat_and, ofInt_u64 a (by omega), ofInt_u64 b (by omega), wrap_i64_in _ (by omega)]
theorem i64_or_nat (a b : Nat) (ha : a < 9223372036854775808) (hb : b < 9223372036854775808) : bits .or .i64 (a : Int) (b : Int) = ((a ||| b : Nat) : Int) := by
  have hx : a ||| b < 2 ^ 63 := Nat.or_lt_two_pow (by omega) (by omega)
  show IntKind.i64.wrap ((BitVec.ofInt 64 (a : Int) ||| BitVec.ofInt 64 (b : Int)).toNat : Int) = _
  rw [BitVec.toNat_or, ofInt_u64 a (by omega), ofInt_u64 b (by omega), wrap_i64_in _ (by omega)]
theorem i64_xor_nat (a b : Nat) (ha : a < 9223372036854775808) (hb : b < 9223372036854775808) : bits .xor .i64 (a : Int) (b : Int) = ((a ^^^ b : Nat) : Int) := by
  have hx : a ^^^ b < 2 ^ 63 := Nat.xor_lt_two_pow (by omega) (by omega)
  show IntKind.i64.wrap ((BitVec.ofInt 64 (a : Int) ^^^ BitVec.ofInt 64 (b : Int)).toNat : Int) = _
  rw [BitVec.toNat_xor, ofInt_u64 a (by omega), ofInt_u64 b (by omega), wrap_i64_in _ (by omega)]
theorem and_all (x : Nat) : x &&& 4294967295 = x % 4294967296 := Nat.and_two_pow_sub_one_eq_mod x 32
theorem rotr_lt (x n : Nat) (h : x < 4294967296) : rotr x n < 4294967296 := by
  unfold rotr
  have h1 : x >>> n < 2 ^ 32 := by rw [Nat.shiftRight_eq_div_pow]; exact Nat.lt_of_le_of_lt (Nat.div_le_self _ _) h
  have h2 : (x <<< (32 - n)) &&& 4294967295 < 2 ^ 32 := by rw [and_all]; omega
  exact Nat.or_lt_two_pow h1 h2
theorem xor_lt32 {a b : Nat} (ha : a < 4294967296) (hb : b < 4294967296) : a ^^^ b < 4294967296 := Nat.xor_lt_two_pow (n := 32) ha hb
theorem and_lt32 {a b : Nat} (hb : b < 4294967296) : a &&& b < 4294967296 := Nat.and_lt_two_pow (n := 32) _ hb
theorem shr_lt32 {x : Nat} (n : Nat) (h : x < 4294967296) : x >>> n < 4294967296 := by rw [Nat.shiftRight_eq_div_pow]; exact Nat.lt_of_le_of_lt (Nat.div_le_self _ _) h
theorem ss0_lt {x : Nat} (h : x < 4294967296) : ss0 x < 4294967296 := xor_lt32 (xor_lt32 (rotr_lt _ _ h) (rotr_lt _ _ h)) (shr_lt32 _ h)
theorem ss1_lt {x : Nat} (h : x < 4294967296) : ss1 x < 4294967296 := xor_lt32 (xor_lt32 (rotr_lt _ _ h) (rotr_lt _ _ h)) (shr_lt32 _ h)
theorem bs0_lt {x : Nat} (h : x < 4294967296) : bs0 x < 4294967296 := xor_lt32 (xor_lt32 (rotr_lt _ _ h) (rotr_lt _ _ h)) (rotr_lt _ _ h)
theorem bs1_lt {x : Nat} (h : x < 4294967296) : bs1 x < 4294967296 := xor_lt32 (xor_lt32 (rotr_lt _ _ h) (rotr_lt _ _ h)) (rotr_lt _ _ h)
theorem chW_lt {e f g : Nat} (hf : f < 4294967296) (hg : g < 4294967296) : chW e f g < 4294967296 := xor_lt32 (and_lt32 hf) (and_lt32 hg)
theorem mjW_lt {a b c : Nat} (hb : b < 4294967296) (hc : c < 4294967296) : mjW a b c < 4294967296 := xor_lt32 (xor_lt32 (and_lt32 hb) (and_lt32 hc)) (and_lt32 hc)
/-- All words fit. -/
def Fit (l : List Nat) : Prop := ∀ i, at' l i < 4294967296
theorem fit_of_all {l : List Nat} (h : ∀ x ∈ l, x < 4294967296) : Fit l := by
  intro i
  unfold at'
  rw [List.getD_eq_getElem?_getD]
  rcases hi : l[i]? with _ | x
  · simp
  · exact h x (List.mem_of_getElem? hi)
theorem fit_kW : Fit kW := fit_of_all (by decide +kernel)
theorem fit_hW : Fit hW := fit_of_all (by decide +kernel)
theorem wordB_lt (m : List UInt8) (t : Nat) : wordB m t < 4294967296 := by
  unfold wordB
  have a := (m.getD (4 * t) 0).toNat_lt
  have b := (m.getD (4 * t + 1) 0).toNat_lt
  have c := (m.getD (4 * t + 2) 0).toNat_lt
  have d := (m.getD (4 * t + 3) 0).toNat_lt
  omega
theorem wTo_length (m : List UInt8) : ∀ t, (wTo m t).length = t
  | 0 => rfl
  | t + 1 => by rw [wTo, List.length_append, wTo_length m t]; rfl
theorem at_append_left {l r : List Nat} {i : Nat} (h : i < l.length) : at' (l ++ r) i = at' l i := by
  unfold at'; rw [List.getD_eq_getElem?_getD, List.getD_eq_getElem?_getD, List.getElem?_append_left h]
theorem at_snoc {l : List Nat} {x : Nat} : at' (l ++ [x]) l.length = x := by
  unfold at'; simp
theorem fit_snoc {l : List Nat} {x : Nat} (h : Fit l) (hx : x < 4294967296) : Fit (l ++ [x]) := by
  intro i
  by_cases hi : i < l.length
  · rw [at_append_left hi]; exact h i
  · by_cases he : i = l.length
    · subst he; rw [at_snoc]; exact hx
    · unfold at'; rw [List.getD_eq_getElem?_getD, List.getElem?_eq_none (by simp; omega)]; simp
theorem fit_wTo (m : List UInt8) : ∀ t, Fit (wTo m t)
  | 0 => fit_of_all (by intro x hx; cases hx)
  | t + 1 => by
    rw [wTo]
    refine fit_snoc (fit_wTo m t) ?_
    split
    · exact wordB_lt m t
    · omega
/-- A word once laid stays. -/
theorem wTo_at (m : List UInt8) (i t : Nat) (h : i < t) : at' (wTo m t) i = at' (wTo m (i + 1)) i := by
  induction t with
  | zero => omega
  | succ t ih =>
    by_cases e : i = t
    · subst e; rfl
    · rw [wTo, at_append_left (by rw [wTo_length]; omega), ih (by omega)]
theorem fit_stepW {v : List Nat} {k w : Nat} (h : Fit v) : Fit (stepW v k w) := fit_of_all (by
  intro x hx
  unfold stepW at hx
  simp only [List.mem_cons, List.not_mem_nil, or_false] at hx
  rcases hx with rfl | rfl | rfl | rfl | rfl | rfl | rfl | rfl
  · omega
  · exact h 0
  · exact h 1
  · exact h 2
  · omega
  · exact h 4
  · exact h 5
  · exact h 6)
theorem fit_rTo {h ws : List Nat} (hf : Fit h) : ∀ t, Fit (rTo h ws t)
  | 0 => hf
  | t + 1 => fit_stepW (fit_rTo hf t)
theorem fit_addW (u v : List Nat) : Fit (addW u v) := fit_of_all (by
  intro x hx
  unfold addW at hx
  obtain ⟨i, _, rfl⟩ := List.mem_map.1 hx
  omega)
theorem fit_hTo (p : List UInt8) : ∀ b, Fit (hTo p b)
  | 0 => fit_hW
  | b + 1 => fit_addW _ _
theorem at_map_range (f : Nat → Nat) (n i : Nat) (h : i < n) : at' ((List.range n).map f) i = f i := by
  unfold at'; simp [List.getD_eq_getElem?_getD, h]
theorem wTo_rec (m : List UInt8) (t : Nat) (h : t < 64) : at' (wTo m 64) t = if t < 16 then wordB m t else (ss1 (at' (wTo m 64) (t - 2)) + at' (wTo m 64) (t - 7) + ss0 (at' (wTo m 64) (t - 15)) + at' (wTo m 64) (t - 16)) % 4294967296 := by
  have e : ∀ i, i < t → at' (wTo m 64) i = at' (wTo m t) i := fun i hi => by rw [wTo_at m i 64 (by omega), wTo_at m i t hi]
  rw [wTo_at m t 64 h]
  have hs : at' (wTo m (t + 1)) t = if t < 16 then wordB m t else (ss1 (at' (wTo m t) (t - 2)) + at' (wTo m t) (t - 7) + ss0 (at' (wTo m t) (t - 15)) + at' (wTo m t) (t - 16)) % 4294967296 := by
    have := @at_snoc (wTo m t) (if t < 16 then wordB m t else (ss1 (at' (wTo m t) (t - 2)) + at' (wTo m t) (t - 7) + ss0 (at' (wTo m t) (t - 15)) + at' (wTo m t) (t - 16)) % 4294967296)
    rw [wTo_length] at this
    exact this
  rw [hs]
  by_cases h16 : t < 16
  · rw [if_pos h16, if_pos h16]
  · rw [if_neg h16, if_neg h16, e _ (by omega), e _ (by omega), e _ (by omega), e _ (by omega)]
/-- The number of four bytes. -/
theorem numTo_word (m : List UInt8) (t : Nat) : numTo ((m.drop (4 * t)).take 4) 4 = ((wordB m t : Nat) : Int) := by
  have g : ∀ i, i < 4 → nth ((m.drop (4 * t)).take 4) i = (((m.getD (4 * t + i) 0).toNat : Nat) : Int) := fun i hi => by
    unfold nth
    simp [List.getD_eq_getElem?_getD, List.getElem?_take, hi, List.getElem?_drop]
  simp only [numTo, g 0 (by omega), g 1 (by omega), g 2 (by omega), g 3 (by omega), wordB]
  simp only [Nat.add_zero]
  omega
theorem outL_length (h : List Nat) : (outL h).length = 32 := by simp [outL]
theorem nth_outL (h : List Nat) (i : Nat) (hi : i < 32) : nth (outL h) i = ((at' h (i / 4) >>> (24 - i % 4 * 8) % 256 : Nat) : Int) := by
  unfold outL
  rw [nth_map_range _ _ _ hi, UInt8.toNat_ofNat']
theorem shaL_length (l : List UInt8) : (shaL l).length = 32 := outL_length _
end Go.Proofs.YtanlnfcmmfmofaaDoor
