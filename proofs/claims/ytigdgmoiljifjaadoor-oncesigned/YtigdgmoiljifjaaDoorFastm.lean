/- A digest with the key of bytes 0, in a form that the kernel reckons fast. -/
import Derived.Test.YtigdgmoiljifjaaDoorFast
import Derived.Test.YtigdgmoiljifjaaDoorMac
namespace Go.Proofs.YtigdgmoiljifjaaDoor
open Go.RowKit
set_option linter.unusedVariables false
set_option linter.unusedSimpArgs false

def zS : List UInt8 := List.replicate 32 0
def p92 : List UInt8 := List.replicate 64 92
def p54 : List UInt8 := List.replicate 64 54
theorem pad92 : padX (keyL zS) 92 64 = p92 := by decide +kernel
theorem pad54 : padX (keyL zS) 54 64 = p54 := by decide +kernel
theorem shaW_len (l : List UInt8) : (shaW l).length = 8 := hTo_len _ _
def macK {α : Type} (k : List Nat → α) (n : Nat) (b : List Nat) : α := shaK (fun hi => shaK k 96 (List.replicate 64 92 ++ outN hi [])) (64 + n) (List.replicate 64 54 ++ b)
def macW (b : List UInt8) : List Nat := shaW (p92 ++ outL (shaW (p54 ++ b)))
theorem macW_len (b : List UInt8) : (macW b).length = 8 := shaW_len _
theorem macK_eq {α : Type} (k : List Nat → α) (b : List UInt8) (n : Nat) (hn : b.length = n) : macK k n (nums b) = k (macW b) := by
  have e1 : List.replicate 64 54 ++ nums b = nums (p54 ++ b) := by rw [nums_append]; rfl
  unfold macK
  rw [e1, shaK_eq _ _ (64 + n) (by rw [List.length_append, hn]; rfl), outN_eq _ (shaW_len _), List.append_nil]
  have e2 : List.replicate 64 92 ++ nums (outL (shaW (p54 ++ b))) = nums (p92 ++ outL (shaW (p54 ++ b))) := by rw [nums_append]; rfl
  rw [e2, shaK_eq _ _ 96 (by rw [List.length_append, outL_length]; rfl)]
  rfl
theorem macW_eq (b : List UInt8) : outL (macW b) = macL zS b := by
  unfold macW macL
  rw [pad92, pad54, ← shaL_words, ← shaL_words]
end Go.Proofs.YtigdgmoiljifjaaDoor
