/- What the public key of the seed of bytes 0 is, of a key that signs once: not bytes 0. -/
import Derived.Test.YtigdgmoiljifjaaDoorYFacto0
import Derived.Test.YtigdgmoiljifjaaDoorYFacto1
import Derived.Test.YtigdgmoiljifjaaDoorYFacto2
import Derived.Test.YtigdgmoiljifjaaDoorYFacto3
namespace Go.Proofs.YtigdgmoiljifjaaDoor
open Go.RowKit
set_option linter.unusedVariables false
set_option linter.unusedSimpArgs false
def allL : List (List Nat) := lits0 ++ (lits1 ++ (lits2 ++ (lits3 ++ (lits4 ++ (lits5 ++ (lits6 ++ (lits7 ++ (lits8 ++ (lits9 ++ (lits10 ++ (lits11 ++ (lits12 ++ (lits13 ++ (lits14 ++ (lits15)))))))))))))))
theorem chkAll : checkF allL 0 = true := by
  unfold allL
  rw [checkF_append, chk0, Bool.true_and, show 0 + lits0.length = 32 from rfl]
  rw [checkF_append, chk1, Bool.true_and, show 32 + lits1.length = 64 from rfl]
  rw [checkF_append, chk2, Bool.true_and, show 64 + lits2.length = 96 from rfl]
  rw [checkF_append, chk3, Bool.true_and, show 96 + lits3.length = 128 from rfl]
  rw [checkF_append, chk4, Bool.true_and, show 128 + lits4.length = 160 from rfl]
  rw [checkF_append, chk5, Bool.true_and, show 160 + lits5.length = 192 from rfl]
  rw [checkF_append, chk6, Bool.true_and, show 192 + lits6.length = 224 from rfl]
  rw [checkF_append, chk7, Bool.true_and, show 224 + lits7.length = 256 from rfl]
  rw [checkF_append, chk8, Bool.true_and, show 256 + lits8.length = 288 from rfl]
  rw [checkF_append, chk9, Bool.true_and, show 288 + lits9.length = 320 from rfl]
  rw [checkF_append, chk10, Bool.true_and, show 320 + lits10.length = 352 from rfl]
  rw [checkF_append, chk11, Bool.true_and, show 352 + lits11.length = 384 from rfl]
  rw [checkF_append, chk12, Bool.true_and, show 384 + lits12.length = 416 from rfl]
  rw [checkF_append, chk13, Bool.true_and, show 416 + lits13.length = 448 from rfl]
  rw [checkF_append, chk14, Bool.true_and, show 448 + lits14.length = 480 from rfl]
  exact chk15
theorem allL_length : allL.length = 512 := by decide +kernel
theorem once_leaves : onceLeavesL zS 512 = allL.map outL := by
  have h := checkF_eq allL 0 chkAll
  rw [h, allL_length]
  unfold onceLeavesL
  rw [List.map_map]
  refine List.map_congr_left fun k hk => ?_
  rw [Function.comp_apply, Nat.zero_add, leafW_eq]
theorem once_word : shaK (fun h => at' h 0) 16385 (4 :: outAll allL) = 2374587817 := by decide +kernel
theorem once_pub_word : at' (shaW (4 :: (onceLeavesL zS 512).flatten)) 0 = 2374587817 := by
  rw [← once_word, once_leaves]
  have h8 : ∀ l ∈ allL, l.length = 8 := checkF_len allL 0 chkAll
  have hlen : (allL.map outL).flatten.length = 16384 := by
    have : ∀ ls : List (List Nat), (ls.map outL).flatten.length = 32 * ls.length := by
      intro ls
      induction ls with
      | nil => rfl
      | cons l r ih => rw [List.map_cons, List.flatten_cons, List.length_append, outL_length, ih, List.length_cons]; omega
    rw [this, allL_length]
  have e : 4 :: outAll allL = nums (4 :: (allL.map outL).flatten) := by rw [outAll_eq allL h8]; rfl
  rw [e]
  exact (shaK_eq (fun h => at' h 0) (4 :: (allL.map outL).flatten) 16385 (by rw [List.length_cons, hlen])).symm
theorem once_pub_ne : oncePubL zS ≠ zS := by
  intro h
  have e : oncePubL zS = outL (shaW (4 :: (onceLeavesL zS 512).flatten)) := rfl
  have hn := nth_outL (shaW (4 :: (onceLeavesL zS 512).flatten)) 0 (by omega)
  rw [← e, h] at hn
  have e0 : at' (shaW (4 :: (onceLeavesL zS 512).flatten)) (0 / 4) = at' (shaW (4 :: (onceLeavesL zS 512).flatten)) 0 := rfl
  rw [e0, once_pub_word] at hn
  exact absurd hn (by decide)
end Go.Proofs.YtigdgmoiljifjaaDoor
