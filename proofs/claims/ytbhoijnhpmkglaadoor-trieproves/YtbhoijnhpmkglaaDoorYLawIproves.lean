/- The law TrieProves: there, or not there. -/
import Derived.Test.YtbhoijnhpmkglaaDoorJ14
import Derived.Test.YtbhoijnhpmkglaaDoorJ06
namespace Go.Proofs.YtbhoijnhpmkglaaDoor
open Go.RowKit
set_option linter.unusedVariables false
set_option linter.unusedSimpArgs false

set_option maxRecDepth 100000 in
set_option maxHeartbeats 2000000 in
theorem iproves_walk (a : Option Addr) (n c : Nat) (es : List Ent) (k : Int) (w : World) (G : Env w) (R : ERow w a n es) (hc : n ≤ c) (hn : 40 * n ≤ 140737488351232) (k1 : -9223372036854775808 ≤ k) (k2 : k ≤ 9223372036854775807) :
    Calls Tryd.prog 6 #[.slice a n c, .int .i64 k] w fun r w' => r = .returned (.bool true) ∧ Below w.heap.size w w' := by
  have HALL : Hid (∀ wx, Below w.heap.size w wx → Env wx ∧ ERow wx a n es) := fun wx hx => ⟨G.below hx, R.below hx⟩
  have H0 : Hid (Below w.heap.size w w) := Below.refl _ _
  clear G R
  have lZ : zT.length = 32 := rfl
  by_cases hf : faultE es = 0
  · have lM : (mapL (gE es) 0 32).length = 32 := mapL_length (gE_length es) 32 0
    have HRT : Hid (∀ wx, Below w.heap.size w wx → Calls Tryd.prog 11 #[.slice a n c] wx fun r w' => r = .returned (.tuple #[digestV (mapL (gE es) 0 32), .nilIface]) ∧ Below wx.heap.size wx w') := fun wx hx => wtrie_root a n c es wx (HALL.out wx hx).1 (HALL.out wx hx).2 hc hn hf
    by_cases hk : isKey k = true
    · have hkb := of_decide_eq_true hk
      obtain ⟨j, rfl⟩ : ∃ j : Nat, k = (j : Int) := ⟨k.toNat, by omega⟩
      have HPT : Hid (∀ wx, Below w.heap.size w wx → Calls Tryd.prog 15 #[.slice a n c, .int .i64 (j : Int)] wx fun r w' => (∃ a' c', r = .returned (.tuple #[.slice a' 32 c', .nilIface]) ∧ 32 ≤ c' ∧ DRow w' a' 32 (pathM (gE es) j 32)) ∧ Below wx.heap.size wx w') := fun wx hx => wtrie_path a n c es j wx (HALL.out wx hx).1 (HALL.out wx hx).2 hc hn hf (by omega)
      have HAT : Hid (∀ wx, Below w.heap.size w wx → Calls Tryd.prog 25 #[.slice a n c, .int .i64 (j : Int)] wx fun r w' => r = .returned (.tuple #[digestV (gE es j), .bool true]) ∧ Below wx.heap.size wx w') := fun wx hx => wat_any a n c es j wx (HALL.out wx hx).1 (HALL.out wx hx).2 hc (by omega) (by omega) (faultE_ok hf).2.1
      have HFM : Hid (foldM j (gE es j) (pathM (gE es) j 32) = mapL (gE es) 0 32) := fold_map (gE es) j 32 (by omega)
      have lG : (gE es j).length = 32 := gE_length es j
      have HJ : Hid (j < 4294967296) := by unfold Hid; omega
      clear hf hk hkb
      generalize mapL (gE es) 0 32 = M at *
      generalize pathM (gE es) j 32 = PT at *
      generalize gE es j = D at *
      go_enter Tryd.func6, Tryd.ntmps6
      go_wp2_with fail
      refine (wleafed_any w (HALL.out w H0.out).1).mono ?_
      rintro r w3 ⟨rfl, hb3⟩
      have HB3 : Hid (Below w.heap.size w w3) := hb3
      clear hb3
      go_wp2_with fail
      refine (HRT.out w3 HB3.out).mono ?_
      rintro r w4 ⟨rfl, hb4⟩
      have HB4 : Hid (Below w.heap.size w w4) := HB3.out.trans (hb4.mono HB3.out.size)
      clear hb4
      obtain ⟨g6, hg6⟩ : ∃ g6, w4.heap.size = g6 := ⟨_, rfl⟩
      obtain ⟨w5, hw5⟩ : ∃ w5, w4.alloc (.cells (cellsB zD).toArray 24) = w5 := ⟨_, rfl⟩
      have HTw5 : Hid (w5.there g6 0 32) := by rw [← hw5]; exact alloc_thereAt _ _ _ 32 _ hg6 zD_size.symm
      have HKw5 : Hid (Below w4.heap.size w4 (w5.setCells g6 0 (cellsB M))) := below_setCells _ (by rw [hg6]; exact Nat.le_refl _) _ _ _ (by rw [← hw5]; exact (Below.refl _ _).alloc (Nat.le_refl _) _)
      have HXw5 : Hid (DAt (w5.setCells g6 0 (cellsB M)) g6 0 M) := dat_stored HTw5.out lM
      have HB6 : Hid (Below w.heap.size w (w5.setCells g6 0 (cellsB M))) := HB4.out.trans (HKw5.out.mono HB4.out.size)
      go_wp2_with (first
        | (refine wpList_allocE (by rfl) 24 (by rfl) (cellsB zD).toArray Tryd.zeroDg g6 hg6 w5 hw5 ?_)
        | (refine wpList_store_mid (by rfl) 24 (.tmp 6) (.tmp 20) (by rfl) g6 0 (cellsB M).toArray (by rfl) (by rfl) (by rw [cellsB_size, lM]; exact HTw5.out) (by rw [cellsB_size, lM]; exact Tryd.sizeDg) (all_oneCell_toArray (cellsB_one _)) ?_))
      generalize w5.setCells g6 0 (cellsB M) = w6 at *
      clear hw5 HTw5 hg6
      refine (HPT.out w6 HB6.out).mono ?_
      rintro r w7 ⟨⟨a7, c7, rfl, hc7, r7⟩, hb7⟩
      have HB7 : Hid (Below w.heap.size w w7) := HB6.out.trans (hb7.mono HB6.out.size)
      have HX7 : Hid (DAt w7 g6 0 M) := HXw5.out.below hb7 (cell_block (HXw5.out.cell 0 (by omega)))
      clear HXw5 HKw5
      have HP7 : Hid (DRow w7 a7 32 PT ∧ 32 ≤ c7) := ⟨r7, hc7⟩
      clear hb7 r7 hc7 HRT HPT
      go_wp2_with fail
      refine (HAT.out w7 HB7.out).mono ?_
      rintro r w8 ⟨rfl, hb8⟩
      have HB8 : Hid (Below w.heap.size w w8) := HB7.out.trans (hb8.mono HB7.out.size)
      have HX8 : Hid (DAt w8 g6 0 M) := HX7.out.below hb8 (cell_block (HX7.out.cell 0 (by omega)))
      have HP8 : Hid (DRow w8 a7 32 PT) := HP7.out.1.below hb8
      clear hb8 HX7 HAT
      obtain ⟨g10, hg10⟩ : ∃ g10, w8.heap.size = g10 := ⟨_, rfl⟩
      obtain ⟨w9, hw9⟩ : ∃ w9, w8.alloc (.cells (cellsB zD).toArray 24) = w9 := ⟨_, rfl⟩
      have HTw9 : Hid (w9.there g10 0 32) := by rw [← hw9]; exact alloc_thereAt _ _ _ 32 _ hg10 zD_size.symm
      have HKw9 : Hid (Below w8.heap.size w8 (w9.setCells g10 0 (cellsB D))) := below_setCells _ (by rw [hg10]; exact Nat.le_refl _) _ _ _ (by rw [← hw9]; exact (Below.refl _ _).alloc (Nat.le_refl _) _)
      have HXw9 : Hid (DAt (w9.setCells g10 0 (cellsB D)) g10 0 D) := dat_stored HTw9.out lG
      have HB10 : Hid (Below w.heap.size w (w9.setCells g10 0 (cellsB D))) := HB8.out.trans (HKw9.out.mono HB8.out.size)
      have HX10 : Hid (DAt (w9.setCells g10 0 (cellsB D)) g6 0 M) := HX8.out.below HKw9.out (cell_block (HX8.out.cell 0 (by omega)))
      have HP10 : Hid (DRow (w9.setCells g10 0 (cellsB D)) a7 32 PT) := HP8.out.below HKw9.out
      have HD10 : Hid ((w9.setCells g10 0 (cellsB D)).rangeAt g10 0 (cellsB D)) := HXw9.out
      go_wp2_with (first
        | (refine wpList_allocE (by rfl) 24 (by rfl) (cellsB zD).toArray Tryd.zeroDg g10 hg10 w9 hw9 ?_)
        | (refine wpList_store_mid (by rfl) 24 (.tmp 10) (.tmp 40) (by rfl) g10 0 (cellsB D).toArray (by rfl) (by rfl) (by rw [cellsB_size, lG]; exact HTw9.out) (by rw [cellsB_size, lG]; exact Tryd.sizeDg) (all_oneCell_toArray (cellsB_one _)) ?_)
        | (refine wpList_load_mid (by rfl) 24 (.tmp 10) (by rfl) g10 0 (by rfl) (cellsB D) _ HD10.out Tryd.underlying24 (by rfl) (by rw [cellsB_length, lG]; exact Tryd.sizeDg) ?_))
      generalize w9.setCells g10 0 (cellsB D) = w10 at *
      clear hw9 HTw9 hg10 HKw9 HXw9 HX8 HP8
      refine (wtrie_fold j D a7 c7 PT w10 (HALL.out _ HB10.out).1 HJ.out lG HP10.out HP7.out.2).mono ?_
      rintro r w11 ⟨rfl, hb11⟩
      rw [HFM.out]
      have HB11 : Hid (Below w.heap.size w w11) := HB10.out.trans (hb11.mono HB10.out.size)
      have HX11 : Hid (DAt w11 g6 0 M) := HX10.out.below hb11 (cell_block (HX10.out.cell 0 (by omega)))
      clear hb11 HX10 HD10 HP10
      obtain ⟨g12, hg12⟩ : ∃ g12, w11.heap.size = g12 := ⟨_, rfl⟩
      obtain ⟨w12, hw12⟩ : ∃ w12, w11.alloc (.cells (cellsB zD).toArray 24) = w12 := ⟨_, rfl⟩
      have HTw12 : Hid (w12.there g12 0 32) := by rw [← hw12]; exact alloc_thereAt _ _ _ 32 _ hg12 zD_size.symm
      have HKw12 : Hid (Below w11.heap.size w11 (w12.setCells g12 0 (cellsB M))) := below_setCells _ (by rw [hg12]; exact Nat.le_refl _) _ _ _ (by rw [← hw12]; exact (Below.refl _ _).alloc (Nat.le_refl _) _)
      have HXw12 : Hid (DAt (w12.setCells g12 0 (cellsB M)) g12 0 M) := dat_stored HTw12.out lM
      have HB13 : Hid (Below w.heap.size w (w12.setCells g12 0 (cellsB M))) := HB11.out.trans (HKw12.out.mono HB11.out.size)
      have HX13 : Hid ((w12.setCells g12 0 (cellsB M)).rangeAt g6 0 (cellsB M)) := HX11.out.below HKw12.out (cell_block (HX11.out.cell 0 (by omega)))
      have HY13 : Hid ((w12.setCells g12 0 (cellsB M)).rangeAt g12 0 (cellsB M)) := HXw12.out
      go_upto_region 10 with (first
        | (refine wpList_allocE (by rfl) 24 (by rfl) (cellsB zD).toArray Tryd.zeroDg g12 hg12 w12 hw12 ?_)
        | (refine wpList_store_mid (by rfl) 24 (.tmp 12) (.tmp 47) (by rfl) g12 0 (cellsB M).toArray (by rfl) (by rfl) (by rw [cellsB_size, lM]; exact HTw12.out) (by rw [cellsB_size, lM]; exact Tryd.sizeDg) (all_oneCell_toArray (cellsB_one _)) ?_))
      generalize w12.setCells g12 0 (cellsB M) = w13 at *
      clear hw12 HTw12 hg12 HKw12 HXw12
      try simp only [Act.put, List.setIfInBounds_toArray, List.set_cons_zero, List.set_cons_succ]
      go_wp2_with (first
        | (refine wpList_load_midG (by rfl) 24 (.tmp 12) (by rfl) g12 0 (by rfl) (cellsB M) _ HY13.out Tryd.underlying24 (by rfl) (by rw [cellsB_length, lM]; exact Tryd.sizeDg) ?_)
        | (refine wpList_load_midG (by rfl) 24 (.tmp 6) (by rfl) g6 0 (by rfl) (cellsB M) _ HX13.out Tryd.underlying24 (by rfl) (by rw [cellsB_length, lM]; exact Tryd.sizeDg) ?_)
        | (refine wpList_eqD (.tmp 55) (.tmp 56) (by rfl) (by rfl) M M lM lM (by rfl) (by rfl) true (decide_eq_true rfl) ?_))
      go_ret
      exact ⟨rfl, HB13.out⟩
    · have hp : pathE es k = 2 := by unfold pathE; rw [if_neg (by simp [hf]), if_pos (by simpa using hk)]
      have HPT : Hid (∀ wx, Below w.heap.size w wx → Calls Tryd.prog 15 #[.slice a n c, .int .i64 k] wx fun r w' => (∃ a' c', r = .returned (.tuple #[.slice a' 0 c', .iface 27 (.int .i64 2)])) ∧ Below wx.heap.size wx w') := fun wx hx => wtrie_pathout a n c es k 2 wx (HALL.out wx hx).1 (HALL.out wx hx).2 hc hn k1 k2 hp (by omega)
      clear hf hk hp
      generalize mapL (gE es) 0 32 = M at *
      go_enter Tryd.func6, Tryd.ntmps6
      go_wp2_with fail
      refine (wleafed_any w (HALL.out w H0.out).1).mono ?_
      rintro r w3 ⟨rfl, hb3⟩
      have HB3 : Hid (Below w.heap.size w w3) := hb3
      clear hb3
      go_wp2_with fail
      refine (HRT.out w3 HB3.out).mono ?_
      rintro r w4 ⟨rfl, hb4⟩
      have HB4 : Hid (Below w.heap.size w w4) := HB3.out.trans (hb4.mono HB3.out.size)
      clear hb4
      obtain ⟨g6, hg6⟩ : ∃ g6, w4.heap.size = g6 := ⟨_, rfl⟩
      obtain ⟨w5, hw5⟩ : ∃ w5, w4.alloc (.cells (cellsB zD).toArray 24) = w5 := ⟨_, rfl⟩
      have HTw5 : Hid (w5.there g6 0 32) := by rw [← hw5]; exact alloc_thereAt _ _ _ 32 _ hg6 zD_size.symm
      have HKw5 : Hid (Below w4.heap.size w4 (w5.setCells g6 0 (cellsB M))) := below_setCells _ (by rw [hg6]; exact Nat.le_refl _) _ _ _ (by rw [← hw5]; exact (Below.refl _ _).alloc (Nat.le_refl _) _)
      have HXw5 : Hid (DAt (w5.setCells g6 0 (cellsB M)) g6 0 M) := dat_stored HTw5.out lM
      have HB6 : Hid (Below w.heap.size w (w5.setCells g6 0 (cellsB M))) := HB4.out.trans (HKw5.out.mono HB4.out.size)
      go_wp2_with (first
        | (refine wpList_allocE (by rfl) 24 (by rfl) (cellsB zD).toArray Tryd.zeroDg g6 hg6 w5 hw5 ?_)
        | (refine wpList_store_mid (by rfl) 24 (.tmp 6) (.tmp 20) (by rfl) g6 0 (cellsB M).toArray (by rfl) (by rfl) (by rw [cellsB_size, lM]; exact HTw5.out) (by rw [cellsB_size, lM]; exact Tryd.sizeDg) (all_oneCell_toArray (cellsB_one _)) ?_))
      generalize w5.setCells g6 0 (cellsB M) = w6 at *
      clear hw5 HTw5 hg6
      refine (HPT.out w6 HB6.out).mono ?_
      rintro r w7 ⟨⟨a7, c7, rfl⟩, hb7⟩
      have HB7 : Hid (Below w.heap.size w w7) := HB6.out.trans (hb7.mono HB6.out.size)
      have HX7 : Hid (DAt w7 g6 0 M) := HXw5.out.below hb7 (cell_block (HXw5.out.cell 0 (by omega)))
      clear HXw5 HKw5
      clear hb7
      go_wp2_with fail
      go_ret
      exact ⟨rfl, HB7.out⟩
  · have hp : pathE es k = faultE es := by unfold pathE; rw [if_pos hf]
    have HRT : Hid (∀ wx, Below w.heap.size w wx → Calls Tryd.prog 11 #[.slice a n c] wx fun r w' => r = .returned (.tuple #[digestV zT, .iface 27 (.int .i64 (faultE es))]) ∧ Below wx.heap.size wx w') := fun wx hx => wtrie_rootout a n c es _ wx (HALL.out wx hx).1 (HALL.out wx hx).2 hc hn rfl hf
    have HPT : Hid (∀ wx, Below w.heap.size w wx → Calls Tryd.prog 15 #[.slice a n c, .int .i64 k] wx fun r w' => (∃ a' c', r = .returned (.tuple #[.slice a' 0 c', .iface 27 (.int .i64 (faultE es))])) ∧ Below wx.heap.size wx w') := fun wx hx => wtrie_pathout a n c es k _ wx (HALL.out wx hx).1 (HALL.out wx hx).2 hc hn k1 k2 hp hf
    clear hf hp
    generalize zT = Z at *
    generalize faultE es = q at *
    go_enter Tryd.func6, Tryd.ntmps6
    go_wp2_with fail
    refine (wleafed_any w (HALL.out w H0.out).1).mono ?_
    rintro r w3 ⟨rfl, hb3⟩
    have HB3 : Hid (Below w.heap.size w w3) := hb3
    clear hb3
    go_wp2_with fail
    refine (HRT.out w3 HB3.out).mono ?_
    rintro r w4 ⟨rfl, hb4⟩
    have HB4 : Hid (Below w.heap.size w w4) := HB3.out.trans (hb4.mono HB3.out.size)
    clear hb4
    obtain ⟨g6, hg6⟩ : ∃ g6, w4.heap.size = g6 := ⟨_, rfl⟩
    obtain ⟨w5, hw5⟩ : ∃ w5, w4.alloc (.cells (cellsB zD).toArray 24) = w5 := ⟨_, rfl⟩
    have HTw5 : Hid (w5.there g6 0 32) := by rw [← hw5]; exact alloc_thereAt _ _ _ 32 _ hg6 zD_size.symm
    have HKw5 : Hid (Below w4.heap.size w4 (w5.setCells g6 0 (cellsB Z))) := below_setCells _ (by rw [hg6]; exact Nat.le_refl _) _ _ _ (by rw [← hw5]; exact (Below.refl _ _).alloc (Nat.le_refl _) _)
    have HXw5 : Hid (DAt (w5.setCells g6 0 (cellsB Z)) g6 0 Z) := dat_stored HTw5.out lZ
    have HB6 : Hid (Below w.heap.size w (w5.setCells g6 0 (cellsB Z))) := HB4.out.trans (HKw5.out.mono HB4.out.size)
    go_wp2_with (first
      | (refine wpList_allocE (by rfl) 24 (by rfl) (cellsB zD).toArray Tryd.zeroDg g6 hg6 w5 hw5 ?_)
      | (refine wpList_store_mid (by rfl) 24 (.tmp 6) (.tmp 20) (by rfl) g6 0 (cellsB Z).toArray (by rfl) (by rfl) (by rw [cellsB_size, lZ]; exact HTw5.out) (by rw [cellsB_size, lZ]; exact Tryd.sizeDg) (all_oneCell_toArray (cellsB_one _)) ?_))
    generalize w5.setCells g6 0 (cellsB Z) = w6 at *
    clear hw5 HTw5 hg6
    refine (HPT.out w6 HB6.out).mono ?_
    rintro r w7 ⟨⟨a7, c7, rfl⟩, hb7⟩
    have HB7 : Hid (Below w.heap.size w w7) := HB6.out.trans (hb7.mono HB6.out.size)
    have HX7 : Hid (DAt w7 g6 0 Z) := HXw5.out.below hb7 (cell_block (HXw5.out.cell 0 (by omega)))
    clear HXw5 HKw5
    clear hb7
    go_wp2_with fail
    go_ret
    exact ⟨rfl, HB7.out⟩
end Go.Proofs.YtbhoijnhpmkglaaDoor
