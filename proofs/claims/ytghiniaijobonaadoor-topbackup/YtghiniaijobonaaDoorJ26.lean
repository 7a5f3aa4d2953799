/- Texts of this claim, joined: Once, Rbit, Rturn, Rnum. -/
import Derived.Test.YtghiniaijobonaaDoorJ16
import Derived.Test.YtghiniaijobonaaDoorJ03
import Derived.Test.YtghiniaijobonaaDoorJ02
import Derived.Deep.QuietTactic
import Derived.BigQuiet
/- Plain definitions for keys that sign once: no theorem of the program yet. -/
namespace Go.Proofs.YtghiniaijobonaaDoor
open Go.RowKit
set_option linter.unusedVariables false
set_option linter.unusedSimpArgs false
/-- The i-th bit of a digest, the highest one of a byte first. -/
def bitL (m : List UInt8) (i : Nat) : Nat := (m.getD (i / 8) 0).toNat / 2 ^ (7 - i % 8) % 2
theorem bitL_lt (m : List UInt8) (i : Nat) : bitL m i < 2 := Nat.mod_lt _ (by omega)
def onceSecL (seed : List UInt8) (i bit : Nat) : List UInt8 := macL seed [2, UInt8.ofNat i, UInt8.ofNat bit]
theorem onceSecL_length (seed : List UInt8) (i bit : Nat) : (onceSecL seed i bit).length = 32 := macL_length _ _
def onceLeafL (d : List UInt8) : List UInt8 := shaL (3 :: d)
theorem onceLeafL_length (d : List UInt8) : (onceLeafL d).length = 32 := shaL_length _
def onceLeavesL (seed : List UInt8) (n : Nat) : List (List UInt8) := (List.range n).map fun k => onceLeafL (onceSecL seed (k / 2) (k % 2))
def oncePubL (seed : List UInt8) : List UInt8 := shaL (4 :: (onceLeavesL seed 512).flatten)
def onceSigL (seed m : List UInt8) : Nat → List (List UInt8)
  | 0 => []
  | i + 1 => onceSigL seed m i ++ [onceSecL seed i (bitL m i)] ++ [onceLeafL (onceSecL seed i (1 - bitL m i))]
def onceAt (m : List UInt8) (sig : List (List UInt8)) (k : Nat) : List UInt8 := if bitL m (k / 2) = k % 2 then onceLeafL (sig.getD (k - k % 2) []) else sig.getD (k - k % 2 + 1) []
def onceToldL (m : List UInt8) (sig : List (List UInt8)) (n : Nat) : List (List UInt8) := (List.range n).map (onceAt m sig)
def onceKeyL (m : List UInt8) (sig : List (List UInt8)) : List UInt8 := shaL (4 :: (onceToldL m sig 512).flatten)
theorem onceLeavesL_succ (seed : List UInt8) (n : Nat) : onceLeavesL seed n ++ [onceLeafL (onceSecL seed (n / 2) (n % 2))] = onceLeavesL seed (n + 1) := by
  unfold onceLeavesL; rw [List.range_succ, List.map_append]; rfl
theorem onceLeavesL_len (seed : List UInt8) (n : Nat) : (onceLeavesL seed n).length = n := by simp [onceLeavesL]
theorem onceToldL_succ (m : List UInt8) (sig : List (List UInt8)) (n : Nat) : onceToldL m sig n ++ [onceAt m sig n] = onceToldL m sig (n + 1) := by
  unfold onceToldL; rw [List.range_succ, List.map_append]; rfl
theorem onceToldL_len (m : List UInt8) (sig : List (List UInt8)) (n : Nat) : (onceToldL m sig n).length = n := by simp [onceToldL]
theorem onceSigL_len (seed m : List UInt8) : ∀ n, (onceSigL seed m n).length = 2 * n
  | 0 => rfl
  | n + 1 => by rw [onceSigL, List.length_append, List.length_append, onceSigL_len seed m n]; simp; omega
theorem onceSigL_32 (seed m : List UInt8) : ∀ n, ∀ l ∈ onceSigL seed m n, l.length = 32
  | 0, l, h => by cases h
  | n + 1, l, h => by
    rw [onceSigL, List.mem_append, List.mem_append] at h
    rcases h with (h | h) | h
    · exact onceSigL_32 seed m n l h
    · rw [List.mem_singleton.1 h]; exact onceSecL_length _ _ _
    · rw [List.mem_singleton.1 h]; exact onceLeafL_length _
/-- What stands at a place of a signature. -/
theorem onceSigL_at (seed m : List UInt8) : ∀ n i, i < n → (onceSigL seed m n).getD (2 * i) [] = onceSecL seed i (bitL m i) ∧ (onceSigL seed m n).getD (2 * i + 1) [] = onceLeafL (onceSecL seed i (1 - bitL m i))
  | 0, i, h => by omega
  | n + 1, i, h => by
    have hl := onceSigL_len seed m n
    by_cases hi : i < n
    · obtain ⟨h1, h2⟩ := onceSigL_at seed m n i hi
      rw [onceSigL, List.append_assoc]
      simp only [List.getD_eq_getElem?_getD] at h1 h2 ⊢
      rw [List.getElem?_append_left (by omega), List.getElem?_append_left (by omega)]
      exact ⟨h1, h2⟩
    · obtain rfl : i = n := by omega
      rw [onceSigL, List.append_assoc]
      simp only [List.getD_eq_getElem?_getD]
      refine ⟨?_, ?_⟩
      · rw [List.getElem?_append_right (by omega), hl, Nat.sub_self]
        rfl
      · rw [List.getElem?_append_right (by omega), hl, show 2 * i + 1 - 2 * i = 1 by omega]
        rfl
/-- A signature tells the leaves of its seed. -/
theorem onceTold_signed (seed m : List UInt8) (k : Nat) (hk : k < 512) : onceAt m (onceSigL seed m 256) k = onceLeafL (onceSecL seed (k / 2) (k % 2)) := by
  obtain ⟨h1, h2⟩ := onceSigL_at seed m 256 (k / 2) (by omega)
  have e : k - k % 2 = 2 * (k / 2) := by omega
  have hb := bitL_lt m (k / 2)
  unfold onceAt
  rw [e]
  by_cases h : bitL m (k / 2) = k % 2
  · rw [if_pos h, h1, h]
  · rw [if_neg h, h2, show 1 - bitL m (k / 2) = k % 2 by omega]
theorem onceKey_signed (seed m : List UInt8) : onceKeyL m (onceSigL seed m 256) = oncePubL seed := by
  have e : onceToldL m (onceSigL seed m 256) 512 = onceLeavesL seed 512 := by
    unfold onceToldL onceLeavesL
    exact List.map_congr_left fun k hk => onceTold_signed seed m k (List.mem_range.1 hk)
  unfold onceKeyL oncePubL
  rw [e]
/-- Two digests that differ differ in a bit. -/
theorem byte_bits {x y : UInt8} (h : ∀ t, t < 8 → x.toNat / 2 ^ t % 2 = y.toNat / 2 ^ t % 2) : x = y := by
  apply UInt8.toNat_inj.1
  apply Nat.eq_of_testBit_eq
  intro t
  have hx := x.toNat_lt
  have hy := y.toNat_lt
  by_cases ht : t < 8
  · have := h t ht
    rw [Nat.testBit_eq_decide_div_mod_eq, Nat.testBit_eq_decide_div_mod_eq, this]
  · have hp : 2 ^ 8 ≤ 2 ^ t := Nat.pow_le_pow_right (by omega) (by omega)
    rw [Nat.testBit_lt_two_pow (by omega), Nat.testBit_lt_two_pow (by omega)]
theorem bits_apart {m o : List UInt8} (hm : m.length = 32) (ho : o.length = 32) (h : m ≠ o) : ∃ i, i < 256 ∧ bitL m i ≠ bitL o i := by
  apply Classical.byContradiction
  intro hn
  refine h (nth_inj (by omega) fun j hj => ?_)
  have hb : m.getD j 0 = o.getD j 0 := by
    refine byte_bits fun t ht => ?_
    have hi : ¬ (8 * j + (7 - t) < 256 ∧ bitL m (8 * j + (7 - t)) ≠ bitL o (8 * j + (7 - t))) := fun h' => hn ⟨_, h'.1, h'.2⟩
    have hlt : 8 * j + (7 - t) < 256 := by omega
    have e : bitL m (8 * j + (7 - t)) = bitL o (8 * j + (7 - t)) := Classical.byContradiction fun h' => hi ⟨hlt, h'⟩
    unfold bitL at e
    rw [show (8 * j + (7 - t)) / 8 = j by omega, show 7 - (8 * j + (7 - t)) % 8 = t by omega] at e
    exact e
  unfold nth
  rw [hb]
/-- Whoever signs another digest shows a secret, or leaves that differ. -/
theorem onceForged (seed m o : List UInt8) (sig : List (List UInt8)) (hm : m.length = 32) (ho : o.length = 32) (h : m ≠ o)
    (hno : ∀ i, i < 256 → bitL m i ≠ bitL o i → onceLeafL (sig.getD (2 * i) []) ≠ onceLeafL (onceSecL seed i (1 - bitL m i))) : onceLeavesL seed 512 ≠ onceToldL o sig 512 := by
  obtain ⟨i, hi, hb⟩ := bits_apart hm ho h
  intro e
  refine hno i hi hb ?_
  have b1 := bitL_lt m i
  have b2 := bitL_lt o i
  have hk : 2 * i + bitL o i < 512 := by omega
  have e2 := congrArg (fun l => l.getD (2 * i + bitL o i) []) e
  simp only [onceLeavesL, onceToldL, List.getD_eq_getElem?_getD, List.getElem?_map, List.getElem?_range hk, Option.map_some, Option.getD_some] at e2
  unfold onceAt at e2
  rw [show (2 * i + bitL o i) / 2 = i by omega, show (2 * i + bitL o i) % 2 = bitL o i by omega, if_pos rfl, show 2 * i + bitL o i - bitL o i = 2 * i by omega, show bitL o i = 1 - bitL m i by omega] at e2
  exact e2.symm
end Go.Proofs.YtghiniaijobonaaDoor
/- The contract of oathbookref1.Bit. -/
namespace Go.Proofs.YtghiniaijobonaaDoor
open Go.RowKit
set_option linter.unusedVariables false
set_option linter.unusedSimpArgs false

end Go.Proofs.YtghiniaijobonaaDoor
/- The contract of oathbookref1.turn. -/
namespace Go.Proofs.YtghiniaijobonaaDoor
open Go.RowKit
set_option linter.unusedVariables false
set_option linter.unusedSimpArgs false

theorem turn_eq (x n : Nat) (hx : x < 4294967296) (h1 : 1 ≤ n) (h2 : n ≤ 31) : bits .or .i64 ((x : Int) / 2 ^ n) (bits .and .i64 (wrap64 ((x : Int) * 2 ^ (32 - n))) 4294967295) = ((rotr x n : Nat) : Int) := by
  have e1 : (x : Int) / 2 ^ n = ((x >>> n : Nat) : Int) := by rw [Nat.shiftRight_eq_div_pow, Int.natCast_ediv, Int.natCast_pow]; rfl
  have e2 : (x : Int) * 2 ^ (32 - n) = ((x <<< (32 - n) : Nat) : Int) := by rw [Nat.shiftLeft_eq, Int.natCast_mul, Int.natCast_pow]; rfl
  have hp : 2 ^ (32 - n) ≤ 2 ^ 31 := Nat.pow_le_pow_right (by omega) (by omega)
  have hb : x <<< (32 - n) < 9223372036854775808 := by
    rw [Nat.shiftLeft_eq]
    have : x * 2 ^ (32 - n) ≤ x * 2 ^ 31 := Nat.mul_le_mul_left _ hp
    omega
  have hs := shr_lt32 n hx
  rw [e1, e2]
  unfold rotr
  clear e1 e2 hp
  generalize x >>> n = u at *
  generalize x <<< (32 - n) = v at *
  rw [IntWalk.wrap64_in _ ⟨by omega, by omega⟩]
  have e3 : (4294967295 : Int) = ((4294967295 : Nat) : Int) := rfl
  rw [e3, i64_and_nat _ _ hb (by omega)]
  have hc : v &&& 4294967295 < 4294967296 := by rw [and_all]; omega
  rw [i64_or_nat _ _ (by omega) (by omega)]

theorem shr3 (x : Nat) : (x : Int) / (8 : Int) = ((x >>> 3 : Nat) : Int) := by rw [Nat.shiftRight_eq_div_pow]; rfl
theorem shr10 (x : Nat) : (x : Int) / (1024 : Int) = ((x >>> 10 : Nat) : Int) := by rw [Nat.shiftRight_eq_div_pow]; rfl
theorem xor3 {a b c : Nat} (ha : a < 4294967296) (hb : b < 4294967296) (hc : c < 4294967296) : bits .xor .i64 (bits .xor .i64 (a : Int) (b : Int)) (c : Int) = ((a ^^^ b ^^^ c : Nat) : Int) := by
  have hx := xor_lt32 ha hb
  rw [i64_xor_nat _ _ (by omega) (by omega), i64_xor_nat _ _ (by omega) (by omega)]
theorem ss0_eq {x : Nat} (h : x < 4294967296) : bits .xor .i64 (bits .xor .i64 ((rotr x 7 : Nat) : Int) ((rotr x 18 : Nat) : Int)) ((x : Int) / (8 : Int)) = ((ss0 x : Nat) : Int) := by
  rw [shr3, xor3 (rotr_lt _ _ h) (rotr_lt _ _ h) (shr_lt32 _ h)]; rfl
theorem ss1_eq {x : Nat} (h : x < 4294967296) : bits .xor .i64 (bits .xor .i64 ((rotr x 17 : Nat) : Int) ((rotr x 19 : Nat) : Int)) ((x : Int) / (1024 : Int)) = ((ss1 x : Nat) : Int) := by
  rw [shr10, xor3 (rotr_lt _ _ h) (rotr_lt _ _ h) (shr_lt32 _ h)]; rfl
theorem bs0_eq {x : Nat} (h : x < 4294967296) : bits .xor .i64 (bits .xor .i64 ((rotr x 2 : Nat) : Int) ((rotr x 13 : Nat) : Int)) ((rotr x 22 : Nat) : Int) = ((bs0 x : Nat) : Int) := by
  rw [xor3 (rotr_lt _ _ h) (rotr_lt _ _ h) (rotr_lt _ _ h)]; rfl
theorem bs1_eq {x : Nat} (h : x < 4294967296) : bits .xor .i64 (bits .xor .i64 ((rotr x 6 : Nat) : Int) ((rotr x 11 : Nat) : Int)) ((rotr x 25 : Nat) : Int) = ((bs1 x : Nat) : Int) := by
  rw [xor3 (rotr_lt _ _ h) (rotr_lt _ _ h) (rotr_lt _ _ h)]; rfl
theorem and_all_i64 (x : Nat) (h : x < 9223372036854775808) : bits .and .i64 (x : Int) 4294967295 = ((x % 4294967296 : Nat) : Int) := by
  have e3 : (4294967295 : Int) = ((4294967295 : Nat) : Int) := rfl
  rw [e3, i64_and_nat _ _ h (by omega), and_all]
theorem ch_eq {e f g : Nat} (he : e < 4294967296) (hf : f < 4294967296) (hg : g < 4294967296) : bits .xor .i64 (bits .and .i64 (e : Int) (f : Int)) (bits .and .i64 (4294967295 - (e : Int)) (g : Int)) = ((chW e f g : Nat) : Int) := by
  have e1 : (4294967295 - (e : Int)) = ((4294967295 - e : Nat) : Int) := by omega
  have a := and_lt32 (a := e) hf
  have b := and_lt32 (a := 4294967295 - e) hg
  rw [e1, i64_and_nat _ _ (by omega) (by omega), i64_and_nat _ _ (by omega) (by omega), i64_xor_nat _ _ (by omega) (by omega)]
  rfl
theorem mj_eq {a b c : Nat} (ha : a < 4294967296) (hb : b < 4294967296) (hc : c < 4294967296) : bits .xor .i64 (bits .xor .i64 (bits .and .i64 (a : Int) (b : Int)) (bits .and .i64 (a : Int) (c : Int))) (bits .and .i64 (b : Int) (c : Int)) = ((mjW a b c : Nat) : Int) := by
  rw [i64_and_nat _ _ (by omega) (by omega), i64_and_nat _ _ (by omega) (by omega), i64_and_nat _ _ (by omega) (by omega), xor3 (and_lt32 hb) (and_lt32 hc) (and_lt32 hc)]
  rfl
end Go.Proofs.YtghiniaijobonaaDoor
/- The contract of oathbookref1.Num. -/
namespace Go.Proofs.YtghiniaijobonaaDoor
open Go.RowKit
set_option linter.unusedVariables false
set_option linter.unusedSimpArgs false

end Go.Proofs.YtghiniaijobonaaDoor
