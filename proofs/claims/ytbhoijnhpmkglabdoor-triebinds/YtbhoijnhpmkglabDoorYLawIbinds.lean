/- The law TrieBinds: two maps, two roots. -/
import Derived.Test.YtbhoijnhpmkglabDoorJ14
import Derived.Test.YtbhoijnhpmkglabDoorJ15
namespace Go.Proofs.YtbhoijnhpmkglabDoor
open Go.RowKit
set_option linter.unusedVariables false
set_option linter.unusedSimpArgs false

set_option maxRecDepth 100000 in
set_option maxHeartbeats 2000000 in
theorem ibinds_walk (a : Option Addr) (n c : Nat) (es : List Ent) (b : Option Addr) (m d : Nat) (fs : List Ent) (k : Int) (w : World) (G : Env w) (R : ERow w a n es) (hc : n ≤ c) (hn : 40 * n ≤ 140737488351232) (S : ERow w b m fs) (hd : m ≤ d) (hm : 40 * m ≤ 140737488351232) (k1 : -9223372036854775808 ≤ k) (k2 : k ≤ 9223372036854775807) :
    Calls Tryd.prog 3 #[.slice a n c, .slice b m d, .int .i64 k] w fun r w' => r = .returned (.bool true) ∧ Below w.heap.size w w' := by
  have HALL : Hid (∀ wx, Below w.heap.size w wx → Env wx ∧ ERow wx a n es ∧ ERow wx b m fs) := fun wx hx => ⟨G.below hx, R.below hx, S.below hx⟩
  have H0 : Hid (Below w.heap.size w w) := Below.refl _ _
  clear G R S
  go_enter Tryd.func3, Tryd.ntmps3
  go_wp2_with fail
  refine (wleafed_any w (HALL.out w H0.out).1).mono ?_
  rintro r w3 ⟨rfl, hb3⟩
  have HB3 : Hid (Below w.heap.size w w3) := hb3
  clear hb3
  go_wp2_with fail
  refine (wtrie_rootall a n c es w3 (HALL.out w3 HB3.out).1 (HALL.out w3 HB3.out).2.1 hc hn).mono ?_
  rintro r w4 ⟨⟨X, e1, lX, rfl, hv⟩, hb4⟩
  have HV1 : Hid ((e1 = .nilIface ∧ faultE es = 0 ∧ X = mapL (gE es) 0 32) ∨ (∃ z : Int, e1 = .iface 50 (.int .i64 z))) := hv
  have HB4 : Hid (Below w.heap.size w w4) := HB3.out.trans (hb4.mono HB3.out.size)
  clear hb4 hv
  obtain ⟨g8, hg8⟩ : ∃ g8, w4.heap.size = g8 := ⟨_, rfl⟩
  obtain ⟨w5, hw5⟩ : ∃ w5, w4.alloc (.cells (cellsB zD).toArray 25) = w5 := ⟨_, rfl⟩
  have HTw5 : Hid (w5.there g8 0 32) := by rw [← hw5]; exact alloc_thereAt _ _ _ 32 _ hg8 zD_size.symm
  have HKw5 : Hid (Below w4.heap.size w4 (w5.setCells g8 0 (cellsB X))) := below_setCells _ (by rw [hg8]; exact Nat.le_refl _) _ _ _ (by rw [← hw5]; exact (Below.refl _ _).alloc (Nat.le_refl _) _)
  have HXw5 : Hid (DAt (w5.setCells g8 0 (cellsB X)) g8 0 X) := dat_stored HTw5.out lX
  have HB6 : Hid (Below w.heap.size w (w5.setCells g8 0 (cellsB X))) := HB4.out.trans (HKw5.out.mono HB4.out.size)
  go_wp2_with (first
    | (refine wpList_allocE (by rfl) 25 (by rfl) (cellsB zD).toArray Tryd.zeroDg g8 hg8 w5 hw5 ?_)
    | (refine wpList_store_mid (by rfl) 25 (.tmp 8) (.tmp 27) (by rfl) g8 0 (cellsB X).toArray (by rfl) (by rfl) (by rw [cellsB_size, lX]; exact HTw5.out) (by rw [cellsB_size, lX]; exact Tryd.sizeDg) (all_oneCell_toArray (cellsB_one _)) ?_))
  generalize w5.setCells g8 0 (cellsB X) = w6 at *
  clear hw5 HTw5 hg8 HKw5
  refine (wtrie_rootall b m d fs w6 (HALL.out w6 HB6.out).1 (HALL.out w6 HB6.out).2.2 hd hm).mono ?_
  rintro r w7 ⟨⟨Y, e2, lY, rfl, hv⟩, hb7⟩
  have HV2 : Hid ((e2 = .nilIface ∧ faultE fs = 0 ∧ Y = mapL (gE fs) 0 32) ∨ (∃ z : Int, e2 = .iface 50 (.int .i64 z))) := hv
  have HB7 : Hid (Below w.heap.size w w7) := HB6.out.trans (hb7.mono HB6.out.size)
  have HX7 : Hid (DAt w7 g8 0 X) := HXw5.out.below hb7 (cell_block (HXw5.out.cell 0 (by omega)))
  clear hb7 hv HXw5
  obtain ⟨g10, hg10⟩ : ∃ g10, w7.heap.size = g10 := ⟨_, rfl⟩
  obtain ⟨w8, hw8⟩ : ∃ w8, w7.alloc (.cells (cellsB zD).toArray 25) = w8 := ⟨_, rfl⟩
  have HTw8 : Hid (w8.there g10 0 32) := by rw [← hw8]; exact alloc_thereAt _ _ _ 32 _ hg10 zD_size.symm
  have HKw8 : Hid (Below w7.heap.size w7 (w8.setCells g10 0 (cellsB Y))) := below_setCells _ (by rw [hg10]; exact Nat.le_refl _) _ _ _ (by rw [← hw8]; exact (Below.refl _ _).alloc (Nat.le_refl _) _)
  have HXw8 : Hid (DAt (w8.setCells g10 0 (cellsB Y)) g10 0 Y) := dat_stored HTw8.out lY
  have HB9 : Hid (Below w.heap.size w (w8.setCells g10 0 (cellsB Y))) := HB7.out.trans (HKw8.out.mono HB7.out.size)
  have HX9 : Hid (DAt (w8.setCells g10 0 (cellsB Y)) g8 0 X) := HX7.out.below HKw8.out (cell_block (HX7.out.cell 0 (by omega)))
  go_wp2_with (first
    | (refine wpList_allocE (by rfl) 25 (by rfl) (cellsB zD).toArray Tryd.zeroDg g10 hg10 w8 hw8 ?_)
    | (refine wpList_store_mid (by rfl) 25 (.tmp 10) (.tmp 32) (by rfl) g10 0 (cellsB Y).toArray (by rfl) (by rfl) (by rw [cellsB_size, lY]; exact HTw8.out) (by rw [cellsB_size, lY]; exact Tryd.sizeDg) (all_oneCell_toArray (cellsB_one _)) ?_))
  generalize w8.setCells g10 0 (cellsB Y) = w9 at *
  clear hw8 HTw8 hg10 HKw8 HX7
  refine (wtrie_pathall a n c es k w9 (HALL.out w9 HB9.out).1 (HALL.out w9 HB9.out).2.1 hc hn k1 k2).mono ?_
  rintro r w10 ⟨⟨pa, pn, pc, e3, rfl, hv⟩, hb10⟩
  have HV3 : Hid ((e3 = .nilIface ∧ faultE es = 0 ∧ isKey k = true ∧ pn = 32 ∧ 32 ≤ pc ∧ DRow w10 pa 32 (pathM (gE es) k.toNat 32)) ∨ (∃ z : Int, e3 = .iface 50 (.int .i64 z))) := hv
  have HB10 : Hid (Below w.heap.size w w10) := HB9.out.trans (hb10.mono HB9.out.size)
  have HX10 : Hid (DAt w10 g8 0 X) := HX9.out.below hb10 (cell_block (HX9.out.cell 0 (by omega)))
  have HY10 : Hid (DAt w10 g10 0 Y) := HXw8.out.below hb10 (cell_block (HXw8.out.cell 0 (by omega)))
  clear hb10 hv HX9 HXw8
  go_wp2_with fail
  refine (wtrie_pathall b m d fs k w10 (HALL.out w10 HB10.out).1 (HALL.out w10 HB10.out).2.2 hd hm k1 k2).mono ?_
  rintro r w11 ⟨⟨qa, qn, qc, e4, rfl, hv⟩, hb11⟩
  have HV4 : Hid ((e4 = .nilIface ∧ faultE fs = 0 ∧ isKey k = true ∧ qn = 32 ∧ 32 ≤ qc ∧ DRow w11 qa 32 (pathM (gE fs) k.toNat 32)) ∨ (∃ z : Int, e4 = .iface 50 (.int .i64 z))) := hv
  have HB11 : Hid (Below w.heap.size w w11) := HB10.out.trans (hb11.mono HB10.out.size)
  have HX11 : Hid (w11.rangeAt g8 0 (cellsB X)) := HX10.out.below hb11 (cell_block (HX10.out.cell 0 (by omega)))
  have HY11 : Hid (w11.rangeAt g10 0 (cellsB Y)) := HY10.out.below hb11 (cell_block (HY10.out.cell 0 (by omega)))
  have HBL : Hid (Below w10.heap.size w10 w11) := hb11
  clear hb11 hv HX10 HY10
  go_upto_region 8 with fail
  rcases HV1.out with ⟨rfl, f1, hX⟩ | ⟨z, rfl⟩
  case' inr =>
    go_wp2_with fail
    go_ret
    exact ⟨rfl, HB11.out⟩
  rcases HV2.out with ⟨rfl, f2, hY⟩ | ⟨z, rfl⟩
  case' inr =>
    go_wp2_with fail
    go_ret
    exact ⟨rfl, HB11.out⟩
  rcases HV3.out with ⟨rfl, _, hk, rfl, hpc, rp⟩ | ⟨z, rfl⟩
  case' inr =>
    go_wp2_with fail
    go_ret
    exact ⟨rfl, HB11.out⟩
  rcases HV4.out with ⟨rfl, _, _, rfl, hqc, rq⟩ | ⟨z, rfl⟩
  case' inr =>
    go_wp2_with fail
    go_ret
    exact ⟨rfl, HB11.out⟩
  have hkb := of_decide_eq_true hk
  obtain ⟨j, rfl⟩ : ∃ j : Nat, k = (j : Int) := ⟨k.toNat, by omega⟩
  rw [Int.toNat_natCast] at rp rq
  have hj : j < 2 ^ 32 := by omega
  have HRP : Hid (DRow w11 pa 32 (pathM (gE es) j 32) ∧ DRow w11 qa 32 (pathM (gE fs) j 32) ∧ 32 ≤ pc ∧ 32 ≤ qc) := ⟨rp.below HBL.out, rq, hpc, hqc⟩
  have HFE : Hid (foldM j (gE es j) (pathM (gE es) j 32) = X ∧ foldM j (gE fs j) (pathM (gE fs) j 32) = Y) := ⟨by rw [hX]; exact fold_map (gE es) j 32 hj, by rw [hY]; exact fold_map (gE fs) j 32 hj⟩
  have HA1 : Hid (∀ wx, Below w.heap.size w wx → Calls Tryd.prog 8 #[.slice a n c, .int .i64 (j : Int)] wx fun r w' => r = .returned (.tuple #[digestV (gE es j), .bool true]) ∧ Below wx.heap.size wx w') := fun wx hx => wat_any a n c es j wx (HALL.out wx hx).1 (HALL.out wx hx).2.1 hc (by omega) (by omega) (faultE_ok f1).2.1
  have HA2 : Hid (∀ wx, Below w.heap.size w wx → Calls Tryd.prog 8 #[.slice b m d, .int .i64 (j : Int)] wx fun r w' => r = .returned (.tuple #[digestV (gE fs j), .bool true]) ∧ Below wx.heap.size wx w') := fun wx hx => wat_any b m d fs j wx (HALL.out wx hx).1 (HALL.out wx hx).2.2 hd (by omega) (by omega) (faultE_ok f2).2.1
  have HPL : Hid ((pathM (gE es) j 32).length = 32 ∧ (pathM (gE fs) j 32).length = 32) := ⟨pathM_length _ _ _, pathM_length _ _ _⟩
  have lA := gE_length es j
  have lB := gE_length fs j
  have HJ : Hid (j ≤ 9223372036854775807) := by unfold Hid; omega
  clear HV1 HV2 HV3 HV4 rp rq hpc hqc hX hY f1 f2 hk hkb hj HBL
  generalize pathM (gE es) j 32 = PS at *
  generalize pathM (gE fs) j 32 = QS at *
  generalize gE es j = A at *
  generalize gE fs j = B at *
  by_cases hxy : X = Y
  case' neg =>
    have HD1 : Hid ((!decide (X = Y)) = true) := by unfold Hid; simp [hxy]
    clear hxy
    go_wp2_with (first
      | (refine wpList_load_midG (by rfl) 25 (.tmp 8) (by rfl) g8 0 (by rfl) (cellsB X) _ HX11.out Tryd.underlying25 (by rfl) (by rw [cellsB_length, lX]; exact Tryd.sizeDg) ?_)
      | (refine wpList_load_midG (by rfl) 25 (.tmp 10) (by rfl) g10 0 (by rfl) (cellsB Y) _ HY11.out Tryd.underlying25 (by rfl) (by rw [cellsB_length, lY]; exact Tryd.sizeDg) ?_)
      | (refine wpList_neqD (.tmp 61) (.tmp 62) (by rfl) (by rfl) X Y lX lY (by rfl) (by rfl) true HD1.out ?_))
    go_ret
    exact ⟨rfl, HB11.out⟩
  have HD1 : Hid ((!decide (X = Y)) = false) := by unfold Hid; simp [hxy]
  have HXY : Hid (X = Y) := hxy
  clear hxy
  go_wp2_with (first
    | (refine wpList_load_midG (by rfl) 25 (.tmp 8) (by rfl) g8 0 (by rfl) (cellsB X) _ HX11.out Tryd.underlying25 (by rfl) (by rw [cellsB_length, lX]; exact Tryd.sizeDg) ?_)
    | (refine wpList_load_midG (by rfl) 25 (.tmp 10) (by rfl) g10 0 (by rfl) (cellsB Y) _ HY11.out Tryd.underlying25 (by rfl) (by rw [cellsB_length, lY]; exact Tryd.sizeDg) ?_)
    | (refine wpList_neqD (.tmp 61) (.tmp 62) (by rfl) (by rfl) X Y lX lY (by rfl) (by rfl) false HD1.out ?_))
  refine (HA1.out w11 HB11.out).mono ?_
  rintro r w12 ⟨rfl, hb12⟩
  have HB12 : Hid (Below w.heap.size w w12) := HB11.out.trans (hb12.mono HB11.out.size)
  have HR12 : Hid (DRow w12 pa 32 PS ∧ DRow w12 qa 32 QS) := ⟨HRP.out.1.below hb12, HRP.out.2.1.below hb12⟩
  clear hb12 HX11 HY11 HA1
  obtain ⟨g16, hg16⟩ : ∃ g16, w12.heap.size = g16 := ⟨_, rfl⟩
  obtain ⟨w13, hw13⟩ : ∃ w13, w12.alloc (.cells (cellsB zD).toArray 25) = w13 := ⟨_, rfl⟩
  have HTw13 : Hid (w13.there g16 0 32) := by rw [← hw13]; exact alloc_thereAt _ _ _ 32 _ hg16 zD_size.symm
  have HKw13 : Hid (Below w12.heap.size w12 (w13.setCells g16 0 (cellsB A))) := below_setCells _ (by rw [hg16]; exact Nat.le_refl _) _ _ _ (by rw [← hw13]; exact (Below.refl _ _).alloc (Nat.le_refl _) _)
  have HXw13 : Hid (DAt (w13.setCells g16 0 (cellsB A)) g16 0 A) := dat_stored HTw13.out lA
  have HB14 : Hid (Below w.heap.size w (w13.setCells g16 0 (cellsB A))) := HB12.out.trans (HKw13.out.mono HB12.out.size)
  have HR14 : Hid (DRow (w13.setCells g16 0 (cellsB A)) pa 32 PS ∧ DRow (w13.setCells g16 0 (cellsB A)) qa 32 QS) := ⟨HR12.out.1.below HKw13.out, HR12.out.2.below HKw13.out⟩
  go_wp2_with (first
    | (refine wpList_allocE (by rfl) 25 (by rfl) (cellsB zD).toArray Tryd.zeroDg g16 hg16 w13 hw13 ?_)
    | (refine wpList_store_mid (by rfl) 25 (.tmp 16) (.tmp 69) (by rfl) g16 0 (cellsB A).toArray (by rfl) (by rfl) (by rw [cellsB_size, lA]; exact HTw13.out) (by rw [cellsB_size, lA]; exact Tryd.sizeDg) (all_oneCell_toArray (cellsB_one _)) ?_))
  generalize w13.setCells g16 0 (cellsB A) = w14 at *
  clear hw13 HTw13 hg16 HKw13 HR12
  refine (HA2.out w14 HB14.out).mono ?_
  rintro r w15 ⟨rfl, hb15⟩
  have HB15 : Hid (Below w.heap.size w w15) := HB14.out.trans (hb15.mono HB14.out.size)
  have HR15 : Hid (DRow w15 pa 32 PS ∧ DRow w15 qa 32 QS) := ⟨HR14.out.1.below hb15, HR14.out.2.below hb15⟩
  have HG15 : Hid (DAt w15 g16 0 A) := HXw13.out.below hb15 (cell_block (HXw13.out.cell 0 (by omega)))
  clear hb15 HR14 HXw13 HA2
  obtain ⟨g18, hg18⟩ : ∃ g18, w15.heap.size = g18 := ⟨_, rfl⟩
  obtain ⟨w16, hw16⟩ : ∃ w16, w15.alloc (.cells (cellsB zD).toArray 25) = w16 := ⟨_, rfl⟩
  have HTw16 : Hid (w16.there g18 0 32) := by rw [← hw16]; exact alloc_thereAt _ _ _ 32 _ hg18 zD_size.symm
  have HKw16 : Hid (Below w15.heap.size w15 (w16.setCells g18 0 (cellsB B))) := below_setCells _ (by rw [hg18]; exact Nat.le_refl _) _ _ _ (by rw [← hw16]; exact (Below.refl _ _).alloc (Nat.le_refl _) _)
  have HXw16 : Hid (DAt (w16.setCells g18 0 (cellsB B)) g18 0 B) := dat_stored HTw16.out lB
  have HB17 : Hid (Below w.heap.size w (w16.setCells g18 0 (cellsB B))) := HB15.out.trans (HKw16.out.mono HB15.out.size)
  have HR17 : Hid (DRow (w16.setCells g18 0 (cellsB B)) pa 32 PS ∧ DRow (w16.setCells g18 0 (cellsB B)) qa 32 QS) := ⟨HR15.out.1.below HKw16.out, HR15.out.2.below HKw16.out⟩
  have HGA : Hid ((w16.setCells g18 0 (cellsB B)).rangeAt g16 0 (cellsB A)) := HG15.out.below HKw16.out (cell_block (HG15.out.cell 0 (by omega)))
  have HGB : Hid ((w16.setCells g18 0 (cellsB B)).rangeAt g18 0 (cellsB B)) := HXw16.out
  go_upto_region 12 with (first
    | (refine wpList_allocE (by rfl) 25 (by rfl) (cellsB zD).toArray Tryd.zeroDg g18 hg18 w16 hw16 ?_)
    | (refine wpList_store_mid (by rfl) 25 (.tmp 18) (.tmp 75) (by rfl) g18 0 (cellsB B).toArray (by rfl) (by rfl) (by rw [cellsB_size, lB]; exact HTw16.out) (by rw [cellsB_size, lB]; exact Tryd.sizeDg) (all_oneCell_toArray (cellsB_one _)) ?_))
  generalize w16.setCells g18 0 (cellsB B) = w17 at *
  clear hw16 HTw16 hg18 HKw16 HR15 HG15 HXw16
  try simp only [Act.put, List.setIfInBounds_toArray, List.set_cons_zero, List.set_cons_succ]
  go_upto_region 14 with fail
  by_cases hab : A = B
  · have HD2 : Hid (decide (A = B) = true) := decide_eq_true hab
    clear hab
    go_wp2_with (first
      | (refine wpList_load_mid (by rfl) 25 (.tmp 16) (by rfl) g16 0 (by rfl) (cellsB A) _ HGA.out Tryd.underlying25 (by rfl) (by rw [cellsB_length, lA]; exact Tryd.sizeDg) ?_)
      | (refine wpList_load_mid (by rfl) 25 (.tmp 18) (by rfl) g18 0 (by rfl) (cellsB B) _ HGB.out Tryd.underlying25 (by rfl) (by rw [cellsB_length, lB]; exact Tryd.sizeDg) ?_)
      | (refine wpList_eqD (.tmp 93) (.tmp 94) (by rfl) (by rfl) A B lA lB (by rfl) (by rfl) true HD2.out ?_))
    go_ret
    exact ⟨rfl, HB17.out⟩
  · have HD2 : Hid (decide (A = B) = false) := decide_eq_false hab
    have hcl : clashM j A PS B QS = true := clash_is PS QS j A B (by rw [HPL.out.1, HPL.out.2]) hab (by rw [HFE.out.1, HFE.out.2]; exact HXY.out)
    have HM : Hid (Calls Tryd.prog 9 #[.int .i64 (j : Int), digestV A, .slice pa 32 pc, digestV B, .slice qa 32 qc] w17 fun r w' => r = .returned (.bool true) ∧ Below w17.heap.size w17 w') := by
      have := rmapclash_any j A pa pc PS B qa qc QS w17 HJ.out lA lB HR17.out.1 HRP.out.2.2.1 HR17.out.2 HRP.out.2.2.2
      rw [hcl] at this
      exact this
    clear hab hcl
    go_wp2_with (first
      | (refine wpList_load_mid (by rfl) 25 (.tmp 16) (by rfl) g16 0 (by rfl) (cellsB A) _ HGA.out Tryd.underlying25 (by rfl) (by rw [cellsB_length, lA]; exact Tryd.sizeDg) ?_)
      | (refine wpList_load_mid (by rfl) 25 (.tmp 18) (by rfl) g18 0 (by rfl) (cellsB B) _ HGB.out Tryd.underlying25 (by rfl) (by rw [cellsB_length, lB]; exact Tryd.sizeDg) ?_)
      | (refine wpList_eqD (.tmp 93) (.tmp 94) (by rfl) (by rfl) A B lA lB (by rfl) (by rfl) false HD2.out ?_))
    refine HM.out.mono ?_
    rintro r w18 ⟨rfl, hb18⟩
    have HB18 : Hid (Below w.heap.size w w18) := HB17.out.trans (hb18.mono HB17.out.size)
    clear hb18
    go_wp2_with fail
    go_ret
    exact ⟨rfl, HB18.out⟩
end Go.Proofs.YtbhoijnhpmkglabDoor
