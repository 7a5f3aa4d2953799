/- A literal of an array under a guard; the digest that the laws of peaks begin with. -/
import Derived.Test.YtbpkhpkllokbhaaDoorSameH
import Derived.Test.YtbpkhpkllokbhaaDoorZd
import Derived.Test.YtbpkhpkllokbhaaDoorPeaks
import Derived.Test.YtbpkhpkllokbhaaDoorDsub
namespace Go.Proofs.YtbpkhpkllokbhaaDoor
open Go.RowKit
set_option linter.unusedVariables false
set_option linter.unusedSimpArgs false

theorem wpList_buildG {P : Program} {ops : Array Oper} {rest : List Oper} {o : Oper} {a : Act} {w : World} {Q : Exit → Act → World → Prop} (hw : Region.wanted o (yielded ops a.tmps) = true) (t : TypeId) (parts : Array (Nat × Operand)) (ho : o.op = .build t parts) (cells : Array Value)
    (hf : P.built t (parts.map fun (i, x) => (i, a.eval x)).toList = some cells)
    (h : wpList P ops Q rest (a.put o.dst (.agg cells)) w) : wpList P ops Q (o :: rest) a w := by
  refine wpList_step fun K hK => ?_
  rw [if_pos hw]
  exact wp_build t parts ho (by rw [hf]; rfl) (by rw [hf]; exact hK _ _ h)
def dSeven : List UInt8 := 7 :: List.replicate 31 0
theorem dSeven_len : dSeven.length = 32 := rfl
theorem Tryd.builtSeven : Tryd.prog.built 24 [(0, .int .u8 7)] = some (cellsB dSeven).toArray := by kernel_rfl
theorem onesT_one : onesT 1 = 1 := by rw [onesT_step (by omega), show 1 / 2 = 0 from rfl, onesT_zero]
theorem peaks_first (l : List UInt8) : grownT 0 [] l = [l] := by rw [grownT_even (by omega)]; rfl
theorem take_succ_getD {ls : List (List UInt8)} {k : Nat} (h : k < ls.length) : ls.take (k + 1) = ls.take k ++ [ls.getD k []] := by
  rw [List.take_succ_eq_append_getElem h, List.getD_eq_getElem?_getD, List.getElem?_eq_getElem h]
  rfl
theorem peaks_next {ls : List (List UInt8)} {k : Nat} (h : k < ls.length) : grownT k (peaksT (ls.take k)) (ls.getD k []) = peaksT (ls.take (k + 1)) := by
  have := peaks_add (ls.take k) (ls.getD k [])
  rw [List.length_take, Nat.min_eq_left (by omega)] at this
  rw [this, take_succ_getD h]
end Go.Proofs.YtbpkhpkllokbhaaDoor
