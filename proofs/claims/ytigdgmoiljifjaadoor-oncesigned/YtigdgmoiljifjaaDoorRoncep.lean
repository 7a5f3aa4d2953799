/- The contract of oathbookref1.OncePublic. -/
import Derived.Test.YtigdgmoiljifjaaDoorRonce
namespace Go.Proofs.YtigdgmoiljifjaaDoor
open Go.RowKit
set_option linter.unusedVariables false
set_option linter.unusedSimpArgs false

theorem half_int (k : Nat) : (k : Int).tdiv 2 = ((k / 2 : Nat) : Int) ∧ (k : Int) / 2 = ((k / 2 : Nat) : Int) ∧ (k : Int).tmod 2 = ((k % 2 : Nat) : Int) ∧ (k : Int) % 2 = ((k % 2 : Nat) : Int) := by
  refine ⟨by rw [Int.tdiv_eq_ediv_of_nonneg (by omega)]; omega, by omega, by rw [Int.tmod_eq_emod_of_nonneg (by omega)]; omega, by omega⟩

set_option maxRecDepth 100000 in
set_option maxHeartbeats 1000000 in
theorem roncePublic_any (seed : List UInt8) (w : World) (hs : seed.length = 32) :
    Calls Tryd.prog 10 #[digestV seed] w fun e w' => e = .returned (digestV (oncePubL seed)) ∧ Below w.heap.size w w' := by
  obtain ⟨iD, hiD, hzD0, hzD1, hzD2⟩ := info_parts Tryd.infoDg
  obtain ⟨w2, hw2⟩ : ∃ w2, (w.alloc (.cells (cellsB seed).toArray 23)).alloc (.cells (cellsB zD).toArray 23) = w2 := ⟨_, rfl⟩
  have hs1 : (w.alloc (.cells (cellsB seed).toArray 23)).heap.size = w.heap.size + 1 := by simp
  have hs2 : w2.heap.size = w.heap.size + 1 + 1 := by rw [← hw2]; simp
  have HS2 : Hid (w2.heap.size = w.heap.size + 1 + 1) := hs2
  have HD2 : Hid (DAt w2 w.heap.size 0 seed) := by rw [← hw2]; exact World.rangeAt_alloc (box_dat w seed _) _
  have HT2 : Hid (w2.there (w.heap.size + 1) 0 32) := by rw [← hw2]; exact alloc_thereAt _ _ _ 32 _ hs1 zD_size.symm
  have HB2 : Hid (Below w.heap.size w w2) := by rw [← hw2]; exact ((Below.refl _ _).alloc (Nat.le_refl _) _).alloc (by simp) _
  clear hs2
  go_enter Tryd.func10, Tryd.ntmps10
  go_wp2_with (refine wpList_allocE (by rfl) 23 (by rfl) (cellsB zD).toArray Tryd.zeroDg (w.heap.size + 1) hs1 w2 hw2 ?_)
  clear hw2 hs1
  go_loopw [3, 4] (fun v i wr => ∃ k : Nat, k ≤ 512 ∧ i = .int .i64 (k : Int) ∧ OwnD wr w2.heap.size v (onceLeavesL seed k) ∧ Below w2.heap.size w2 wr) (fun _ i _ => 512 - (intOf i).toNat)
  case atStart => exact ⟨0, Nat.zero_le _, rfl, OwnD.nil _ _, Below.refl _ _⟩
  case round =>
    obtain ⟨k, hk, rfl, hO, hB⟩ := hrel
    have hs2 := HS2.out
    by_cases hlt : k < 512
    · have HO : Hid (OwnD wr w2.heap.size u3 (onceLeavesL seed k)) := hO
      have HB : Hid (Below w2.heap.size w2 wr) := hB
      have HDr : Hid (DAt wr w.heap.size 0 seed) := HD2.out.below hB (by omega)
      have HSN : Hid (onceLeavesL seed k ++ [onceLeafL (onceSecL seed (k / 2) (k % 2))] = onceLeavesL seed (k + 1)) := onceLeavesL_succ seed k
      have HLN : Hid ((onceLeavesL seed k).length = k) := onceLeavesL_len seed k
      obtain ⟨e1, e2, e3, e4⟩ := half_int k
      have hq : k / 2 < 256 := by omega
      have hr : k % 2 < 2 := by omega
      clear hO hB hs2
      generalize k / 2 = q at *
      generalize k % 2 = r at *
      have q0 : (0 : Int) ≤ (q : Int) := by omega
      have q1 : (q : Int) < 256 := by omega
      have r0 : (0 : Int) ≤ (r : Int) := by omega
      have r1 : (r : Int) < 2 := by omega
      go_wp2_with (refine wpList_load_mid (by rfl) 23 (.tmp 1) (by rfl) w.heap.size 0 (by rfl) (cellsB seed) _ HDr.out Tryd.underlying23 (by rfl) (by rw [cellsB_length, hs]; exact Tryd.sizeDg) ?_)
      refine (ronceSecret_any seed q r wr hs hq (by omega)).mono ?_
      rintro e w3 ⟨rfl, hb3⟩
      have hl3 := onceSecL_length seed q r
      have HLe : Hid (onceLeafL (onceSecL seed q r) = onceLeafL (onceSecL seed q r)) := rfl
      generalize onceSecL seed q r = X at *
      go_wp2_with fail
      refine (ronceLeaf_any X w3 hl3).mono ?_
      rintro e w4 ⟨rfl, hb4⟩
      have hl4 := onceLeafL_length X
      have b4 := below_trans hb3 hb4
      have HO4 : Hid (OwnD w4 w2.heap.size u3 (onceLeavesL seed k)) := OwnD.below HO.out b4
      have HB4 : Hid (Below w2.heap.size w2 w4) := HB.out.trans (b4.mono HB.out.size)
      clear hb3 hb4 b4 HO HB HDr HLe
      generalize onceLeafL X = Y at *
      have hs4 := HB4.out.size
      go_wp2_with (first
        | (refine wpList_build1 (by rfl) (.tmp 16) 24 (by rfl) 23 (.agg zeros32) iD Y hl4 (by rfl) Tryd.underlying24 hiD hzD0 (by rfl) hzD1 ?_)
        | (at_builtin; refine wpList_append_digests (by rfl) (.tmp 9) (.tmp 17) (by rfl) w2.heap.size u3 (onceLeavesL seed k) (by rfl) (OwnD.alloc HO4.out _) ⟨w4.heap.size, 0, none⟩ 1 1 [Y] (by rfl) (DRow.lit1 w4 Y _ hl4) (by omega) (by rw [HLN.out]; omega) (by simp; omega) ?_; intro v5 w5 ho5 hg5 _))
      have B5 := OwnD.grown (OwnD.alloc HO4.out _) (Below.alloc HB4.out hs4 _) hg5 (Nat.le_refl _) (by simp; omega)
      rw [HSN.out] at ho5
      clear hg5 HO4 HB4 HSN HLN
      go_wp2
      go_roundw
      case rel => exact ⟨k + 1, by omega, by go_num, ho5, B5⟩
      case measure => simp [intOf]; omega
    · obtain rfl : k = 512 := by omega
      obtain ⟨a5, c5, rfl, R5, hc5⟩ := OwnD.form hO
      have hl5 := onceLeavesL_len seed 512
      rw [hl5] at R5
      rw [hl5]
      have HR5 : Hid (DRow wr a5 512 (onceLeavesL seed 512)) := R5
      have HB : Hid (Below w2.heap.size w2 wr) := hB
      have hE : shaL (4 :: (onceLeavesL seed 512).flatten) = oncePubL seed := rfl
      have HE : Hid (shaL (4 :: (onceLeavesL seed 512).flatten) = oncePubL seed) := hE
      clear hO hB R5 hl5 hE hc5
      generalize onceLeavesL seed 512 = L at *
      go_wp2_with fail
      refine (rof_any 4 a5 512 c5 L wr HR5.out (by omega)).mono ?_
      rintro e w6 ⟨rfl, hb6⟩
      rw [HE.out]
      have HB6 : Hid (Below w2.heap.size w2 w6) := HB.out.trans (hb6.mono HB.out.size)
      have HT6 : Hid (w6.there (w.heap.size + 1) 0 32) := there_below HT2.out HB6.out (by omega)
      have hlen : (oncePubL seed).length = 32 := by rw [← HE.out]; exact shaL_length _
      clear hb6 HB HR5 HE
      generalize hD : oncePubL seed = D at *
      have HD : Hid (oncePubL seed = D) := hD
      clear hD
      go_wp2_with (refine wpList_store_mid (by rfl) 23 (.tmp 2) (.tmp 20) (by rfl) (w.heap.size + 1) 0 (cellsB D).toArray (by rfl) (by rfl) (by rw [cellsB_size, hlen]; exact HT6.out) (by rw [cellsB_size, hlen]; exact Tryd.sizeDg) (all_oneCell_toArray (cellsB_one _)) ?_)
      refine bodyPost_ret (v := digestV D) (run_results_row Tryd.results10 _ _ (w.heap.size + 1) 0 (by rfl) (cellsB D) (World.rangeAt_setCells_same _ _ _ _ (by rw [cellsB_length, hlen]; exact HT6.out)) _ Tryd.underlying23 (by rfl) (by rw [cellsB_length, hlen]; exact Tryd.sizeDg)) rfl ⟨by rw [HD.out], ?_⟩
      exact below_setCells _ (by omega) _ _ _ (HB2.out.trans (HB6.out.mono (by omega)))
end Go.Proofs.YtigdgmoiljifjaaDoor
