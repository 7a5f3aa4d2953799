/- Plain definitions for digests with keys: no theorem of the program yet. -/
import Derived.Test.YtdplajhebapkgaaSha
namespace Go.Proofs.Ytdplajhebapkgaa
open Go.RowKit
set_option linter.unusedVariables false
set_option linter.unusedSimpArgs false
def xorB (k : List UInt8) (i : Nat) (x : UInt8) : UInt8 := k.getD i 0 ^^^ x
/-- The first bytes of a key, each unlike x. -/
def padX (k : List UInt8) (x : UInt8) (n : Nat) : List UInt8 := (List.range n).map fun i => xorB k i x
theorem padX_length (k : List UInt8) (x : UInt8) (n : Nat) : (padX k x n).length = n := by simp [padX]
theorem padX_succ (k : List UInt8) (x : UInt8) (n : Nat) : padX k x n ++ [xorB k n x] = padX k x (n + 1) := by
  unfold padX; rw [List.range_succ, List.map_append]; rfl
def keyL (key : List UInt8) : List UInt8 := if 64 < key.length then shaL key else key
def macL (key b : List UInt8) : List UInt8 := shaL (padX (keyL key) 92 64 ++ shaL (padX (keyL key) 54 64 ++ b))
theorem macL_length (key b : List UInt8) : (macL key b).length = 32 := shaL_length _
theorem xor_byte (k : List UInt8) (i : Nat) (x : UInt8) : bits .xor .u8 (nth k i) (x.toNat : Int) = (((xorB k i x).toNat : Nat) : Int) := by
  unfold nth xorB
  have a := (k.getD i 0).toNat_lt
  have b := x.toNat_lt
  rw [u8_xor_nat _ _ (by omega) (by omega), UInt8.toNat_xor]
theorem nth_out (k : List UInt8) (i : Nat) (h : k.length ≤ i) : nth k i = 0 := by
  unfold nth
  rw [List.getD_eq_getElem?_getD, List.getElem?_eq_none h]
  rfl
/-- The k-th digest of an expansion, and the first k of them. -/
def expT (key info : List UInt8) : Nat → List UInt8
  | 0 => []
  | k + 1 => macL key (expT key info k ++ info ++ [UInt8.ofNat (k + 1)])
def outTo (key info : List UInt8) : Nat → List UInt8
  | 0 => []
  | k + 1 => outTo key info k ++ expT key info (k + 1)
def expL (key info : List UInt8) (n : Nat) : List UInt8 := (outTo key info ((n + 31) / 32)).take n
theorem expT_length (key info : List UInt8) (k : Nat) : (expT key info (k + 1)).length = 32 := macL_length _ _
theorem expT_le (key info : List UInt8) : ∀ k, (expT key info k).length ≤ 32
  | 0 => by simp [expT]
  | k + 1 => by rw [expT_length]; omega
theorem outTo_length (key info : List UInt8) : ∀ k, (outTo key info k).length = 32 * k
  | 0 => rfl
  | k + 1 => by rw [outTo, List.length_append, outTo_length key info k, expT_length]; omega
theorem expL_length (key info : List UInt8) (n : Nat) : (expL key info n).length = n := by
  unfold expL
  rw [List.length_take, outTo_length]
  omega
end Go.Proofs.Ytdplajhebapkgaa
