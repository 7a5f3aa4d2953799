/- The contract of oathbookref1.OnceSigned. -/
import Derived.Test.YtigdgmoiljifjaaDoorRoncep
namespace Go.Proofs.YtigdgmoiljifjaaDoor
open Go.RowKit
set_option linter.unusedVariables false
set_option linter.unusedSimpArgs false

set_option maxRecDepth 100000 in
set_option maxHeartbeats 1000000 in
theorem ronceSigned_any (seed m : List UInt8) (w : World) (hs : seed.length = 32) (hm : m.length = 32) :
    Calls Tryd.prog 8 #[digestV seed, digestV m] w fun e w' => (∃ a c, e = .returned (.slice a 512 c) ∧ 512 ≤ c ∧ DRow w' a 512 (onceSigL seed m 256)) ∧ Below w.heap.size w w' := by
  obtain ⟨iD, hiD, hzD0, hzD1, hzD2⟩ := info_parts Tryd.infoDg
  obtain ⟨w2, hw2⟩ : ∃ w2, (w.alloc (.cells (cellsB seed).toArray 23)).alloc (.cells (cellsB m).toArray 23) = w2 := ⟨_, rfl⟩
  have hs1 : (w.alloc (.cells (cellsB seed).toArray 23)).heap.size = w.heap.size + 1 := by simp
  have HS2 : Hid (w2.heap.size = w.heap.size + 1 + 1) := by unfold Hid; rw [← hw2]; simp
  have HD2 : Hid (DAt w2 w.heap.size 0 seed) := by rw [← hw2]; exact World.rangeAt_alloc (box_dat w seed _) _
  have HM2 : Hid (DAt w2 (w.heap.size + 1) 0 m) := by rw [← hw2]; exact box_rangeAt _ _ _ _ hs1
  have HB2 : Hid (Below w.heap.size w w2) := by rw [← hw2]; exact ((Below.refl _ _).alloc (Nat.le_refl _) _).alloc (by simp) _
  go_enter Tryd.func8, Tryd.ntmps8
  go_wp2_with fail
  try rw [hw2]
  clear hw2 hs1
  go_loopw [5, 6] (fun v i wr => ∃ k : Nat, k ≤ 256 ∧ i = .int .i64 (k : Int) ∧ OwnD wr w2.heap.size v (onceSigL seed m k) ∧ Below w2.heap.size w2 wr) (fun _ i _ => 256 - (intOf i).toNat)
  case atStart => exact ⟨0, Nat.zero_le _, rfl, OwnD.nil _ _, Below.refl _ _⟩
  case round =>
    obtain ⟨k, hk, rfl, hO, hB⟩ := hrel
    have hs2 := HS2.out
    by_cases hlt : k < 256
    · have HO : Hid (OwnD wr w2.heap.size u5 (onceSigL seed m k)) := hO
      have HB : Hid (Below w2.heap.size w2 wr) := hB
      have HMr : Hid (DAt wr (w.heap.size + 1) 0 m) := HM2.out.below hB (by omega)
      have HSN : Hid (onceSigL seed m k ++ [onceSecL seed k (bitL m k)] ++ [onceLeafL (onceSecL seed k (1 - bitL m k))] = onceSigL seed m (k + 1)) := rfl
      have HLN : Hid ((onceSigL seed m k).length = 2 * k) := onceSigL_len seed m k
      have hbl := bitL_lt m k
      clear hO hB
      go_wp2_with (refine wpList_load_mid (by rfl) 23 (.tmp 3) (by rfl) (w.heap.size + 1) 0 (by rfl) (cellsB m) _ HMr.out Tryd.underlying23 (by rfl) (by rw [cellsB_length, hm]; exact Tryd.sizeDg) ?_)
      refine (rbit_any m k wr hm hlt).mono ?_
      rintro e w3 ⟨rfl, hb3⟩
      have HO3 : Hid (OwnD w3 w2.heap.size u5 (onceSigL seed m k)) := OwnD.below HO.out hb3
      have HB3 : Hid (Below w2.heap.size w2 w3) := HB.out.trans (hb3.mono HB.out.size)
      have HDr : Hid (DAt w3 w.heap.size 0 seed) := HD2.out.below HB3.out (by omega)
      clear hb3 HO HB HMr
      generalize bitL m k = t at *
      have t0 : (0 : Int) ≤ (t : Int) := by omega
      have t1 : (t : Int) < 2 := by omega
      go_wp2_with (refine wpList_load_mid (by rfl) 23 (.tmp 2) (by rfl) w.heap.size 0 (by rfl) (cellsB seed) _ HDr.out Tryd.underlying23 (by rfl) (by rw [cellsB_length, hs]; exact Tryd.sizeDg) ?_)
      refine (ronceSecret_any seed k t w3 hs hlt (by omega)).mono ?_
      rintro e w4 ⟨rfl, hb4⟩
      have hl4 := onceSecL_length seed k t
      have HO4 : Hid (OwnD w4 w2.heap.size u5 (onceSigL seed m k)) := OwnD.below HO3.out hb4
      have HB4 : Hid (Below w2.heap.size w2 w4) := HB3.out.trans (hb4.mono HB3.out.size)
      clear hb4 HO3 HB3 HDr
      generalize onceSecL seed k t = X at *
      have hs4 := HB4.out.size
      go_wp2_with (first
        | (refine wpList_build1 (by rfl) (.tmp 19) 24 (by rfl) 23 (.agg zeros32) iD X hl4 (by rfl) Tryd.underlying24 hiD hzD0 (by rfl) hzD1 ?_)
        | (at_builtin; refine wpList_append_digests (by rfl) (.tmp 15) (.tmp 20) (by rfl) w2.heap.size u5 (onceSigL seed m k) (by rfl) (OwnD.alloc HO4.out _) ⟨w4.heap.size, 0, none⟩ 1 1 [X] (by rfl) (DRow.lit1 w4 X _ hl4) (by omega) (by rw [HLN.out]; omega) (by simp; omega) ?_; intro v5 w5 ho5 hg5 _; have HO5 : Hid (OwnD w5 w2.heap.size v5 (onceSigL seed m k ++ [X])) := ho5; have HB5 : Hid (Below w2.heap.size w2 w5) := OwnD.grown (OwnD.alloc HO4.out _) (Below.alloc HB4.out hs4 _) hg5 (Nat.le_refl _) (by simp; omega); have HDr : Hid (DAt w5 w.heap.size 0 seed) := HD2.out.below HB5.out (by omega); clear ho5 hg5)
        | (refine wpList_load_mid (by rfl) 23 (.tmp 2) (by rfl) w.heap.size 0 (by rfl) (cellsB seed) _ HDr.out Tryd.underlying23 (by rfl) (by rw [cellsB_length, hs]; exact Tryd.sizeDg) ?_))
      clear HO4 HB4 hs4
      have hct : (1 : Int) - (t : Int) = ((1 - t : Nat) : Int) := by omega
      rw [hct]
      refine (ronceSecret_any seed k (1 - t) w5 hs hlt (by omega)).mono ?_
      rintro e w6 ⟨rfl, hb6⟩
      have hl6 := onceSecL_length seed k (1 - t)
      generalize onceSecL seed k (1 - t) = Y at *
      clear hct
      go_wp2_with fail
      refine (ronceLeaf_any Y w6 hl6).mono ?_
      rintro e w7 ⟨rfl, hb7⟩
      have hl7 := onceLeafL_length Y
      have b7 := below_trans hb6 hb7
      have HO7 : Hid (OwnD w7 w2.heap.size v5 (onceSigL seed m k ++ [X])) := OwnD.below HO5.out b7
      have HB7 : Hid (Below w2.heap.size w2 w7) := HB5.out.trans (b7.mono HB5.out.size)
      clear hb6 hb7 b7 HO5 HB5 HDr
      generalize onceLeafL Y = Z at *
      have hs7 := HB7.out.size
      have HLM : Hid ((onceSigL seed m k ++ [X]).length = 2 * k + 1) := by unfold Hid; rw [List.length_append, HLN.out]; rfl
      go_wp2_with (first
        | (refine wpList_build1 (by rfl) (.tmp 28) 24 (by rfl) 23 (.agg zeros32) iD Z hl7 (by rfl) Tryd.underlying24 hiD hzD0 (by rfl) hzD1 ?_)
        | (at_builtin; refine wpList_append_digests (by rfl) (.tmp 22) (.tmp 29) (by rfl) w2.heap.size v5 (onceSigL seed m k ++ [X]) (by rfl) (OwnD.alloc HO7.out _) ⟨w7.heap.size, 0, none⟩ 1 1 [Z] (by rfl) (DRow.lit1 w7 Z _ hl7) (by omega) (by rw [HLM.out]; omega) (by simp; omega) ?_; intro v8 w8 ho8 hg8 _))
      have B8 := OwnD.grown (OwnD.alloc HO7.out _) (Below.alloc HB7.out hs7 _) hg8 (Nat.le_refl _) (by simp; omega)
      rw [HSN.out] at ho8
      clear hg8 HO7 HB7 HSN HLN HLM
      go_wp2
      go_roundw
      case rel => exact ⟨k + 1, by omega, by go_num, ho8, B8⟩
      case measure => simp [intOf]; omega
    · obtain rfl : k = 256 := by omega
      obtain ⟨a5, c5, rfl, R5, hc5⟩ := OwnD.form hO
      have hl5 : (onceSigL seed m 256).length = 512 := by rw [onceSigL_len]
      rw [hl5] at R5 hc5
      rw [hl5]
      have HR5 : Hid (DRow wr a5 512 (onceSigL seed m 256)) := R5
      have HB : Hid (Below w2.heap.size w2 wr) := hB
      clear hO hB R5 hl5
      generalize hL : onceSigL seed m 256 = L at *
      have HL : Hid (onceSigL seed m 256 = L) := hL
      clear hL
      go_wp2
      go_ret
      exact ⟨⟨a5, c5, rfl, hc5, by rw [HL.out]; exact HR5.out⟩, HB2.out.trans (HB.out.mono (by omega))⟩
end Go.Proofs.YtigdgmoiljifjaaDoor
