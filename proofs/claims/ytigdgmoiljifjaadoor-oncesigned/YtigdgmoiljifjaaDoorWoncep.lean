/- The contract of once.Public. -/
import Derived.Test.YtigdgmoiljifjaaDoorWleaves
namespace Go.Proofs.YtigdgmoiljifjaaDoor
open Go.RowKit
set_option linter.unusedVariables false
set_option linter.unusedSimpArgs false

def leafF (seed : List UInt8) (j : Nat) : List UInt8 := onceLeafL (onceSecL seed (j / 2) (j % 2))
theorem leafF_at (seed : List UInt8) (k t : Nat) (ht : t < 2) : leafF seed (2 * k + t) = onceLeafL (onceSecL seed k t) := by
  unfold leafF
  rw [show (2 * k + t) / 2 = k by omega, show (2 * k + t) % 2 = t by omega]
theorem leafF_all (seed : List UInt8) : (List.range 512).map (upF (leafF seed) 512) = onceLeavesL seed 512 := by
  unfold onceLeavesL
  refine List.map_congr_left fun k hk => ?_
  unfold upF
  rw [if_pos (List.mem_range.1 hk)]
  rfl

set_option maxRecDepth 100000 in
set_option maxHeartbeats 1000000 in
theorem wonce_public (seed : List UInt8) (w : World) (G : Env w) (hs : seed.length = 32) :
    Calls Tryd.prog 9 #[digestV seed] w fun e w' => e = .returned (digestV (oncePubL seed)) ∧ Below w.heap.size w w' := by
  obtain ⟨zs, hzs, hzero⟩ := zeroLeaves
  obtain ⟨w2, hw2⟩ : ∃ w2, (w.alloc (.cells (cellsB seed).toArray 23)).alloc (.cells (cellsB zD).toArray 23) = w2 := ⟨_, rfl⟩
  have hs1 : (w.alloc (.cells (cellsB seed).toArray 23)).heap.size = w.heap.size + 1 := by simp
  have hs2 : w2.heap.size = w.heap.size + 1 + 1 := by rw [← hw2]; simp
  have HB2 : Hid (Below w.heap.size w w2) := by rw [← hw2]; exact ((Below.refl _ _).alloc (Nat.le_refl _) _).alloc (by simp) _
  have HD2 : Hid (DAt w2 w.heap.size 0 seed) := by rw [← hw2]; exact World.rangeAt_alloc (box_dat w seed _) _
  have HT2 : Hid (w2.there (w.heap.size + 1) 0 32) := by rw [← hw2]; exact alloc_thereAt _ _ _ 32 _ hs1 zD_size.symm
  obtain ⟨w3, hw3⟩ : ∃ w3, w2.alloc (.cells zs 45) = w3 := ⟨_, rfl⟩
  have HA3 : Hid (Arr w3 (w.heap.size + 1 + 1) (upF (leafF seed) 0)) := by rw [upF_zero, ← hw3, ← hs2]; exact Arr.new w2 zs _ hzs
  have HB3 : Hid (Below w2.heap.size w2 w3) := by rw [← hw3]; exact (Below.refl _ _).alloc (Nat.le_refl _) _
  have HS2 : Hid (w2.heap.size = w.heap.size + 1 + 1) := hs2
  have HG : Hid (∀ wx, Below w2.heap.size w2 wx → Env wx ∧ DAt wx w.heap.size 0 seed ∧ wx.there (w.heap.size + 1) 0 32 ∧ Below w.heap.size w wx) := fun wx hx => by
    have b : Below w.heap.size w wx := HB2.out.trans (hx.mono (by omega))
    exact ⟨G.below b, HD2.out.below hx (by omega), there_below HT2.out hx (by omega), b⟩
  clear G HD2 HT2 HB2
  go_enter Tryd.func9, Tryd.ntmps9
  go_wp2_with (first
    | (refine wpList_allocE (by rfl) 23 (by rfl) (cellsB zD).toArray Tryd.zeroDg (w.heap.size + 1) hs1 w2 hw2 ?_)
    | (refine wpList_allocE (by rfl) 45 (by rfl) zs hzero (w.heap.size + 1 + 1) hs2 w3 hw3 ?_))
  clear hw2 hs1 hs2 hw3 hzero hzs
  go_loopw [6] (fun i wr => ∃ k : Nat, k ≤ 256 ∧ i = .int .i64 (k : Int) ∧ Arr wr (w.heap.size + 1 + 1) (upF (leafF seed) (2 * k)) ∧ Below w2.heap.size w2 wr) (fun i _ => 256 - (intOf i).toNat)
  case atStart => exact ⟨0, Nat.zero_le _, rfl, HA3.out, HB3.out⟩
  case round =>
    clear HA3 HB3
    obtain ⟨k, hk, rfl, hA, hB⟩ := hrel
    by_cases hlt : k < 256
    · have HA : Hid (Arr wr (w.heap.size + 1 + 1) (upF (leafF seed) (2 * k)) ∧ Below w2.heap.size w2 wr) := ⟨hA, hB⟩
      clear hA hB
      go_wp2_with fail
      try rw [decide_eq_true (show (k : Int) < 256 by omega)]
      go_loopw [9] (fun i wr => ∃ t : Nat, t ≤ 2 ∧ i = .int .i64 (t : Int) ∧ Arr wr (w.heap.size + 1 + 1) (upF (leafF seed) (2 * k + t)) ∧ Below w2.heap.size w2 wr) (fun i _ => 2 - (intOf i).toNat)
      case atStart => exact ⟨0, Nat.zero_le _, rfl, HA.out⟩
      case round =>
        clear HA
        obtain ⟨t, ht, rfl, hA, hB⟩ := hrel
        by_cases hlt2 : t < 2
        · have HA : Hid (Arr wr (w.heap.size + 1 + 1) (upF (leafF seed) (2 * k + t))) := hA
          have HB : Hid (Below w2.heap.size w2 wr) := hB
          have HK := HG.out _ hB
          clear hA hB
          go_wp2_with (refine wpList_load_mid (by rfl) 23 (.tmp 1) (by rfl) w.heap.size 0 (by rfl) (cellsB seed) _ (HG.out _ HB.out).2.1 Tryd.underlying23 (by rfl) (by rw [cellsB_length, hs]; exact Tryd.sizeDg) ?_)
          obtain ⟨q, hq⟩ : ∃ q : Nat, 2 * k + t = q := ⟨_, rfl⟩
          have eq1 : (2 : Int) * (k : Int) + (t : Int) = (q : Int) := by omega
          rw [eq1]
          have hq5 : q < 512 := by omega
          have HSN : Hid (leafF seed q = onceLeafL (onceSecL seed k t)) := by rw [← hq]; exact leafF_at seed k t hlt2
          have HQ : Hid (2 * k + t = q) := hq
          rw [hq] at HA
          clear hq eq1
          refine (wonce_secret seed k t wr HK.1 hs hlt (by omega)).mono ?_
          rintro e w4 ⟨rfl, hb4⟩
          have HE4 : Hid (Env w4) := Env.below HK.1 hb4
          have hl4 := onceSecL_length seed k t
          clear HK
          generalize onceSecL seed k t = X at *
          go_wp2_with fail
          refine (wonce_leaf X w4 HE4.out hl4).mono ?_
          rintro e w5 ⟨rfl, hb5⟩
          have hl5 := onceLeafL_length X
          have b5 := below_trans hb4 hb5
          have hAb := HA.out.block
          have HA5 : Hid (Arr w5 (w.heap.size + 1 + 1) (upF (leafF seed) q)) := HA.out.below b5 hAb
          have HT5 : Hid (w5.there (w.heap.size + 1 + 1) (q * 32) 32) := HA5.out.slot q hq5
          have HB5 : Hid (Below w2.heap.size w2 w5) := HB.out.trans (b5.mono HB.out.size)
          have HA6 : Hid (Arr (w5.setCells (w.heap.size + 1 + 1) (q * 32) (cellsB (onceLeafL X))) (w.heap.size + 1 + 1) (upF (leafF seed) (q + 1))) := by
            have := HA5.out.set q hq5 _ hl5
            rw [← HSN.out, upF_succ] at this
            rw [← HSN.out]
            exact this
          have HB6 : Hid (Below w2.heap.size w2 (w5.setCells (w.heap.size + 1 + 1) (q * 32) (cellsB (onceLeafL X)))) := below_setCells _ (by rw [HS2.out]; exact Nat.le_refl _) _ _ _ HB5.out
          clear hb4 hb5 b5 HE4 HA HB hAb HSN HA5 HB5
          generalize onceLeafL X = Y at *
          go_wp2_with (refine wpList_store_mid (by rfl) 23 (.tmp 21) (.tmp 20) (by rfl) (w.heap.size + 1 + 1) (q * 32) (cellsB Y).toArray (by rfl) (by rfl) (by rw [cellsB_size, hl5]; exact HT5.out) (by rw [cellsB_size, hl5]; exact Tryd.sizeDg) (all_oneCell_toArray (cellsB_one _)) ?_)
          go_roundw
          case rel => exact ⟨t + 1, by omega, by go_num, by rw [show 2 * k + (t + 1) = q + 1 by have := HQ.out; omega]; exact HA6.out, HB6.out⟩
          case measure => simp [intOf]; omega
        · obtain rfl : t = 2 := by omega
          have HA : Hid (Arr wr (w.heap.size + 1 + 1) (upF (leafF seed) (2 * k + 2)) ∧ Below w2.heap.size w2 wr) := ⟨hA, hB⟩
          clear hA hB
          go_wp2_with fail
          go_roundw
          case rel => exact ⟨k + 1, by omega, by go_num, HA.out⟩
          case measure => simp [intOf]; omega
    · obtain rfl : k = 256 := by omega
      have HA : Hid (Arr wr (w.heap.size + 1 + 1) (upF (leafF seed) 512)) := hA
      have HB : Hid (Below w2.heap.size w2 wr) := hB
      have HF : Hid (shaL (4 :: ((List.range 512).map (upF (leafF seed) 512)).flatten) = oncePubL seed) := by unfold Hid; rw [leafF_all]; rfl
      have H32 : Hid (∀ i, i < 512 → (upF (leafF seed) 512 i).length = 32) := fun i hi => by unfold upF; rw [if_pos hi]; exact onceLeafL_length _
      clear hA hB
      generalize upF (leafF seed) 512 = f at *
      go_wp2_with fail
      refine (wonce_leaves _ f wr (HG.out _ HB.out).1 HA.out H32.out).mono ?_
      rintro e w6 ⟨rfl, hb6⟩
      rw [HF.out]
      have HB6 : Hid (Below w2.heap.size w2 w6) := HB.out.trans (hb6.mono HB.out.size)
      have HT6 : Hid (w6.there (w.heap.size + 1) 0 32) := (HG.out _ HB6.out).2.2.1
      have hlen : (oncePubL seed).length = 32 := shaL_length _
      clear hb6 HB HA HF H32
      generalize hD : oncePubL seed = D at *
      have HD : Hid (oncePubL seed = D) := hD
      clear hD
      go_wp2_with (refine wpList_store_mid (by rfl) 23 (.tmp 2) (.tmp 24) (by rfl) (w.heap.size + 1) 0 (cellsB D).toArray (by rfl) (by rfl) (by rw [cellsB_size, hlen]; exact HT6.out) (by rw [cellsB_size, hlen]; exact Tryd.sizeDg) (all_oneCell_toArray (cellsB_one _)) ?_)
      refine bodyPost_ret (v := digestV D) (run_results_row Tryd.results9 _ _ (w.heap.size + 1) 0 (by rfl) (cellsB D) (World.rangeAt_setCells_same _ _ _ _ (by rw [cellsB_length, hlen]; exact HT6.out)) _ Tryd.underlying23 (by rfl) (by rw [cellsB_length, hlen]; exact Tryd.sizeDg)) rfl ⟨by rw [HD.out], ?_⟩
      exact below_setCells _ (by omega) _ _ _ (HG.out _ HB6.out).2.2.2
end Go.Proofs.YtigdgmoiljifjaaDoor
