/- Texts of this claim, joined: Facttr, Lgrown. -/
import Derived.Test.YtdldkhhcicjbmabDoorJ14
import Derived.Test.YtdldkhhcicjbmabDoorJ06
import Derived.Test.YtdldkhhcicjbmabDoorJ07
import Derived.Deep.RegionHeld3
/- What the root of two leaves, {1} and {2}, is: not bytes 0. -/
namespace Go.Proofs.YtdldkhhcicjbmabDoor
open Go.RowKit
set_option linter.unusedVariables false
set_option linter.unusedSimpArgs false
def dOne : List UInt8 := 1 :: List.replicate 31 0
def dTwo : List UInt8 := 2 :: List.replicate 31 0
theorem tree_word : shaK (fun h => at' h 0) 65 (nums (1 :: (dOne ++ dTwo))) = 2135979342 := by decide +kernel
theorem tree_word2 : at' (shaW (1 :: (dOne ++ dTwo))) 0 = 2135979342 := by
  rw [← tree_word]
  exact (shaK_eq (fun h => at' h 0) (1 :: (dOne ++ dTwo)) 65 rfl).symm
theorem tree_ne : nodeT dOne dTwo ≠ zD := by
  intro h
  have e : nodeT dOne dTwo = outL (shaW (1 :: (dOne ++ dTwo))) := rfl
  have hn := nth_outL (shaW (1 :: (dOne ++ dTwo))) 0 (by omega)
  rw [← e, h] at hn
  have e0 : at' (shaW (1 :: (dOne ++ dTwo))) (0 / 4) = at' (shaW (1 :: (dOne ++ dTwo))) 0 := rfl
  rw [e0, tree_word2] at hn
  exact absurd hn (by decide)
theorem root_two : rootT [dOne, dTwo] = nodeT dOne dTwo := by
  have h2 : halfT 2 = 1 := by decide
  rw [rootT_two (by simp)]
  rw [show [dOne, dTwo].length = 2 from rfl, h2]
  rw [rootT_one (by rfl), rootT_one (by rfl)]
  rfl
end Go.Proofs.YtdldkhhcicjbmabDoor
/- The laws' grown: the proof of one of two leaves is the other one. -/
namespace Go.Proofs.YtdldkhhcicjbmabDoor
open Go.RowKit
set_option linter.unusedVariables false
set_option linter.unusedSimpArgs false

theorem proof_two : proofT [dOne, dTwo] 1 true = [dTwo] := by
  have h : halfT 2 = 1 := by decide
  rw [proofT_lo (by simp) (by simp) (by show 1 ≤ halfT 2; omega)]
  show proofT (List.take (halfT 2) [dOne, dTwo]) 1 true ++ [rootT (List.drop (halfT 2) [dOne, dTwo])] = [dTwo]
  rw [h, proofT_own (by simp), rootT_one (by simp)]
  rfl
theorem plong_two : plongT 1 2 true = 1 := by
  have h : halfT 2 = 1 := by decide
  rw [plongT_lo (by omega) (by omega) (by omega), h, plongT_own (by omega)]
set_option maxRecDepth 100000 in
set_option maxHeartbeats 1000000 in
theorem lgrown_any (w : World) (G : Env w) :
    Calls Tryd.prog 14 #[] w fun e w' => e = .returned (.bool true) ∧ Below w.heap.size w w' := by
  obtain ⟨iD, hiD, hzD0, hzD1, hzD2⟩ := info_parts Tryd.infoDg
  have l1 : dOne.length = 32 := rfl
  have l2 : dTwo.length = 32 := rfl
  have HB2 : Hid (Below w.heap.size w (w.alloc (.cells (cellsB (dOne ++ dTwo)).toArray 24))) := (Below.refl _ _).alloc (Nat.le_refl _) _
  have HCP : Hid (Calls Tryd.prog 7 #[.slice (some ⟨w.heap.size, 0, none⟩) 2 2, .int .i64 1] (w.alloc (.cells (cellsB (dOne ++ dTwo)).toArray 24)) fun e w' => (∃ a' c', e = .returned (.tuple #[.slice a' 1 c', .nilIface]) ∧ 1 ≤ c' ∧ DRow w' a' 1 [dTwo]) ∧ Below (w.alloc (.cells (cellsB (dOne ++ dTwo)).toArray 24)).heap.size (w.alloc (.cells (cellsB (dOne ++ dTwo)).toArray 24)) w') := by
    have := wgrow_proof _ 2 2 1 _ _ (G.below HB2.out) (DRow.lit2 w dOne dTwo 24 l1 l2) (Nat.le_refl _) (by omega) (by omega) (by omega)
    rw [proof_two, plong_two] at this
    exact this
  clear G
  go_enter Tryd.func14, Tryd.ntmps14
  go_wp2_with (first
    | (refine wpList_buildC (by rfl) 24 #[(0, .const (.int .u8 1))] (by rfl) (cellsB dOne).toArray (by kernel_rfl) ?_)
    | (refine wpList_buildC (by rfl) 24 #[(0, .const (.int .u8 2))] (by rfl) (cellsB dTwo).toArray (by kernel_rfl) ?_)
    | (refine wpList_build2 (by rfl) (.tmp 4) (.tmp 5) 22 (by rfl) 24 (.agg zeros32) iD dOne dTwo l1 l2 (by rfl) (by rfl) Tryd.underlying22 hiD hzD0 (by rfl) hzD1 ?_))
  refine HCP.out.mono ?_
  rintro e w3 ⟨⟨a', c', rfl, hc', R3⟩, hb3⟩
  have HB3 : Hid (Below w.heap.size w w3) := below_trans HB2.out hb3
  obtain ⟨b, o, rfl⟩ := R3.addr (by omega)
  have hX0 : DAt w3 b o dTwo := by have := R3.at 0 (by omega); simpa using this
  have HX : Hid (DAt w3 b o dTwo) := hX0
  clear hb3 HB2 HCP R3 hX0
  go_wp2_with (first
    | (refine wpList_load_midG (by rfl) 24 (.tmp 19) (by rfl) b o (by rfl) (cellsB dTwo) _ HX.out Tryd.underlying24 (by rfl) (by rw [cellsB_length, l2]; exact Tryd.sizeDg) ?_)
    | (refine wpList_eqD (.tmp 20) (.tmp 21) (by rfl) (by rfl) dTwo dTwo l2 l2 (by rfl) (by rfl) true (decide_eq_true rfl) ?_))
  go_ret
  exact ⟨rfl, HB3.out⟩
end Go.Proofs.YtdldkhhcicjbmabDoor
