/- Plain facts on the digits that a digest is signed by, as lists of numbers. -/
import Derived.Test.YtdplajhebapkgaaOwnI
import Derived.Test.YtdplajhebapkgaaWots
namespace Go.Proofs.Ytdplajhebapkgaa
open Go.RowKit
set_option linter.unusedVariables false
set_option linter.unusedSimpArgs false

/-- The first n digits that a digest is signed by. -/
def digsL (m : List UInt8) (n : Nat) : List Int := (List.range n).map fun i => (digL m i : Int)
theorem digsL_len (m : List UInt8) (n : Nat) : (digsL m n).length = n := by simp [digsL]
theorem digsL_at (m : List UInt8) (n i : Nat) (h : i < n) : (digsL m n).getD i 0 = (digL m i : Int) := by
  simp [digsL, List.getD_eq_getElem?_getD, h]
def nibsL (m : List UInt8) (n : Nat) : List Int := (List.range n).map fun i => (nibL m i : Int)
theorem nibsL_len (m : List UInt8) (n : Nat) : (nibsL m n).length = n := by simp [nibsL]
theorem nibsL_succ (m : List UInt8) (n : Nat) : nibsL m n ++ [(nibL m n : Int)] = nibsL m (n + 1) := by
  unfold nibsL; rw [List.range_succ, List.map_append]; rfl
theorem digs_nibs (m : List UInt8) : nibsL m 64 ++ [((lackL m 64 / 256 : Nat) : Int), ((lackL m 64 / 16 % 16 : Nat) : Int), ((lackL m 64 % 16 : Nat) : Int)] = digsL m 67 := by
  have e : nibsL m 64 = digsL m 64 := by
    unfold nibsL digsL
    refine List.map_congr_left fun i hi => ?_
    have hi' : i < 64 := List.mem_range.1 hi
    unfold digL
    rw [if_pos hi']
  rw [e]
  unfold digsL
  rw [show (67 : Nat) = 64 + 1 + 1 + 1 from rfl, List.range_succ, List.range_succ, List.range_succ, List.map_append, List.map_append, List.map_append, List.append_assoc, List.append_assoc]
  rfl
end Go.Proofs.Ytdplajhebapkgaa
