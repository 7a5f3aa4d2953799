/- What the public key of the seed of bytes 0 is, of a key of chains: not bytes 0. -/
import Derived.Test.YtdplajhebapkgaaDoorYFactw0
import Derived.Test.YtdplajhebapkgaaDoorYFactw1
import Derived.Test.YtdplajhebapkgaaDoorYFactw2
import Derived.Test.YtdplajhebapkgaaDoorYFactw3
namespace Go.Proofs.YtdplajhebapkgaaDoor
open Go.RowKit
set_option linter.unusedVariables false
set_option linter.unusedSimpArgs false
def allE : List (List Nat) := ends0 ++ (ends1 ++ (ends2 ++ (ends3 ++ (ends4 ++ (ends5 ++ (ends6 ++ (ends7)))))))
theorem chwAll : checkW allE 0 = true := by
  unfold allE
  rw [checkW_append, chw0, Bool.true_and, show 0 + ends0.length = 9 from rfl]
  rw [checkW_append, chw1, Bool.true_and, show 9 + ends1.length = 18 from rfl]
  rw [checkW_append, chw2, Bool.true_and, show 18 + ends2.length = 27 from rfl]
  rw [checkW_append, chw3, Bool.true_and, show 27 + ends3.length = 36 from rfl]
  rw [checkW_append, chw4, Bool.true_and, show 36 + ends4.length = 45 from rfl]
  rw [checkW_append, chw5, Bool.true_and, show 45 + ends5.length = 54 from rfl]
  rw [checkW_append, chw6, Bool.true_and, show 54 + ends6.length = 61 from rfl]
  exact chw7
theorem allE_length : allE.length = 67 := by decide +kernel
theorem wots_ends : wotsEndsL zS 67 = allE.map outL := by
  have h := checkW_eq allE 0 chwAll
  rw [h, allE_length]
  unfold wotsEndsL
  rw [List.map_map]
  refine List.map_congr_left fun k hk => ?_
  rw [Function.comp_apply, Nat.zero_add, endW_eq]
theorem wots_word : shaK (fun h => at' h 0) 2145 (7 :: outEnds allE) = 3285992725 := by decide +kernel
theorem wots_pub_word : at' (shaW (7 :: (wotsEndsL zS 67).flatten)) 0 = 3285992725 := by
  rw [← wots_word, wots_ends]
  have h8 : ∀ l ∈ allE, l.length = 8 := checkW_len allE 0 chwAll
  have hlen : (allE.map outL).flatten.length = 2144 := by
    have : ∀ ls : List (List Nat), (ls.map outL).flatten.length = 32 * ls.length := by
      intro ls
      induction ls with
      | nil => rfl
      | cons l r ih => rw [List.map_cons, List.flatten_cons, List.length_append, outL_length, ih, List.length_cons]; omega
    rw [this, allE_length]
  have e : 7 :: outEnds allE = nums (7 :: (allE.map outL).flatten) := by rw [outEnds_eq allE h8]; rfl
  rw [e]
  exact (shaK_eq (fun h => at' h 0) (7 :: (allE.map outL).flatten) 2145 (by rw [List.length_cons, hlen])).symm
theorem wots_pub_ne : wotsPubL zS ≠ zS := by
  intro h
  have e : wotsPubL zS = outL (shaW (7 :: (wotsEndsL zS 67).flatten)) := rfl
  have hn := nth_outL (shaW (7 :: (wotsEndsL zS 67).flatten)) 0 (by omega)
  rw [← e, h] at hn
  have e0 : at' (shaW (7 :: (wotsEndsL zS 67).flatten)) (0 / 4) = at' (shaW (7 :: (wotsEndsL zS 67).flatten)) 0 := rfl
  rw [e0, wots_pub_word] at hn
  exact absurd hn (by decide)
end Go.Proofs.YtdplajhebapkgaaDoor
