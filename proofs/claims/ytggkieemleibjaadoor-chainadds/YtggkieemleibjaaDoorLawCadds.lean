/- The law ChainAdds: so many steps and then so many are as many as both. -/
import Derived.Test.YtggkieemleibjaaDoorWcstep
import Derived.Test.YtggkieemleibjaaDoorZd
import Derived.Test.YtggkieemleibjaaDoorSameH
namespace Go.Proofs.YtggkieemleibjaaDoor
open Go.RowKit
set_option linter.unusedVariables false
set_option linter.unusedSimpArgs false

theorem walk_first : (walkL zD 1).getD 0 0 ≠ 0 := by decide +kernel
theorem walk_fact : walkL zD 1 ≠ zD := by
  intro h
  have := walk_first
  rw [h] at this
  exact this (by decide)
theorem wchain_first (w : World) (G : Env w) : ∃ D0 : List UInt8, D0.length = 32 ∧ D0 ≠ zD ∧
    Calls Tryd.prog 7 #[.agg #[.int .u8 0, .int .u8 0, .int .u8 0, .int .u8 0, .int .u8 0, .int .u8 0, .int .u8 0, .int .u8 0, .int .u8 0, .int .u8 0, .int .u8 0, .int .u8 0, .int .u8 0, .int .u8 0, .int .u8 0, .int .u8 0, .int .u8 0, .int .u8 0, .int .u8 0, .int .u8 0, .int .u8 0, .int .u8 0, .int .u8 0, .int .u8 0, .int .u8 0, .int .u8 0, .int .u8 0, .int .u8 0, .int .u8 0, .int .u8 0, .int .u8 0, .int .u8 0], .int .i64 1] w fun e w' => e = .returned (.tuple #[digestV D0, .nilIface]) ∧ Below w.heap.size w w' := by
  refine ⟨walkL zD 1, walkL_length rfl 1, walk_fact, ?_⟩
  rw [← zD_lit]
  exact wchain_walk zD 1 w G rfl (by omega)

set_option maxRecDepth 100000 in
set_option maxHeartbeats 2000000 in
theorem cadds_walk (d : List UInt8) (m n : Int) (w : World) (G : Env w) (hd : d.length = 32) (m1 : -9223372036854775808 ≤ m) (m2 : m ≤ 9223372036854775807) (k1 : -9223372036854775808 ≤ n) (k2 : n ≤ 9223372036854775807) :
    Calls Tryd.prog 4 #[digestV d, .int .i64 m, .int .i64 n] w fun e w' => e = .returned (.bool true) ∧ Below w.heap.size w w' := by
  obtain ⟨w2, hw2⟩ : ∃ w2, w.alloc (.cells (cellsB d).toArray 23) = w2 := ⟨_, rfl⟩
  have HS2 : Hid (w2.heap.size = w.heap.size + 1) := by unfold Hid; rw [← hw2]; simp
  have HB2 : Hid (Below w.heap.size w w2) := by rw [← hw2]; exact (Below.refl _ _).alloc (Nat.le_refl _) _
  have HD2 : Hid (DAt w2 w.heap.size 0 d) := by rw [← hw2]; exact box_dat w d _
  have HK : Hid (∀ wx, Below w2.heap.size w2 wx → DAt wx w.heap.size 0 d ∧ Env wx ∧ Below w.heap.size w wx) := fun wx hx => by
    have b : Below w.heap.size w wx := HB2.out.trans (hx.mono (by have := HS2.out; omega))
    exact ⟨HD2.out.below hx (by have := HS2.out; omega), G.below b, b⟩
  obtain ⟨D0, hl0, hne0, C0⟩ := wchain_first w2 (G.below HB2.out)
  have HC0 : Hid (Calls Tryd.prog 7 #[.agg #[.int .u8 0, .int .u8 0, .int .u8 0, .int .u8 0, .int .u8 0, .int .u8 0, .int .u8 0, .int .u8 0, .int .u8 0, .int .u8 0, .int .u8 0, .int .u8 0, .int .u8 0, .int .u8 0, .int .u8 0, .int .u8 0, .int .u8 0, .int .u8 0, .int .u8 0, .int .u8 0, .int .u8 0, .int .u8 0, .int .u8 0, .int .u8 0, .int .u8 0, .int .u8 0, .int .u8 0, .int .u8 0, .int .u8 0, .int .u8 0, .int .u8 0, .int .u8 0], .int .i64 1] w2 fun e w' => e = .returned (.tuple #[digestV D0, .nilIface]) ∧ Below w2.heap.size w2 w') := C0
  have HNE : Hid (D0 ≠ zD) := hne0
  clear G C0 hne0 HD2 HB2
  go_enter Tryd.func4, Tryd.ntmps4
  go_wp2_with fail
  try rw [hw2]
  clear hw2 HS2
  refine HC0.out.mono ?_
  rintro e w3 ⟨rfl, hb3⟩
  clear HC0
  obtain ⟨w4, hw4⟩ : ∃ w4, w3.alloc (.cells (cellsB zD).toArray 23) = w4 := ⟨_, rfl⟩
  have ht4 : Hid (w4.there w3.heap.size 0 32) := by rw [← hw4]; exact alloc_thereAt _ _ _ 32 _ rfl zD_size.symm
  have HB5 : Hid (Below w2.heap.size w2 (w4.setCells w3.heap.size 0 (cellsB D0))) := by rw [← hw4]; exact below_trans hb3 (new_stored _ _ _)
  have HD5 : Hid (DAt (w4.setCells w3.heap.size 0 (cellsB D0)) w3.heap.size 0 D0) := dat_stored ht4.out hl0
  clear hb3
  generalize hw5 : w4.setCells w3.heap.size 0 (cellsB D0) = w5 at *
  by_cases c579 : m < 0
  · go_wp2_with (first
      | (refine wpList_allocE (by rfl) 23 (by rfl) (cellsB zD).toArray Tryd.zeroDg w3.heap.size rfl w4 hw4 ?_)
      | (refine wpList_store_mid (by rfl) 23 (.tmp 7) (.tmp 18) (by rfl) w3.heap.size 0 (cellsB D0).toArray (by rfl) (by rfl) (by rw [cellsB_size, hl0]; exact ht4.out) (by rw [cellsB_size, hl0]; exact Tryd.sizeDg) (all_oneCell_toArray (cellsB_one _)) ?_; rw [show (cellsB D0).toArray.toList = cellsB D0 from rfl, hw5])
      | (refine wpList_load_midG (by rfl) 23 (.tmp 7) (by rfl) w3.heap.size 0 (by rfl) (cellsB D0) _ HD5.out Tryd.underlying23 (by rfl) (by rw [cellsB_length, hl0]; exact Tryd.sizeDg) ?_)
      | (refine wpList_eqD (.tmp 23) (.tmp 24) (by rfl) (by rfl) D0 zD hl0 rfl (by rfl) (by rw [zD_lit]; rfl) false (decide_eq_false HNE.out) ?_)
      | (refine wpList_load_mid (by rfl) 23 (.tmp 3) (by rfl) w.heap.size 0 (by rfl) (cellsB d) _ (HK.out _ HB5.out).1 Tryd.underlying23 (by rfl) (by rw [cellsB_length, hd]; exact Tryd.sizeDg) ?_))
    go_ret
    exact ⟨rfl, (HK.out _ HB5.out).2.2⟩
  by_cases c324 : n < 0
  · go_wp2_with (first
      | (refine wpList_allocE (by rfl) 23 (by rfl) (cellsB zD).toArray Tryd.zeroDg w3.heap.size rfl w4 hw4 ?_)
      | (refine wpList_store_mid (by rfl) 23 (.tmp 7) (.tmp 18) (by rfl) w3.heap.size 0 (cellsB D0).toArray (by rfl) (by rfl) (by rw [cellsB_size, hl0]; exact ht4.out) (by rw [cellsB_size, hl0]; exact Tryd.sizeDg) (all_oneCell_toArray (cellsB_one _)) ?_; rw [show (cellsB D0).toArray.toList = cellsB D0 from rfl, hw5])
      | (refine wpList_load_midG (by rfl) 23 (.tmp 7) (by rfl) w3.heap.size 0 (by rfl) (cellsB D0) _ HD5.out Tryd.underlying23 (by rfl) (by rw [cellsB_length, hl0]; exact Tryd.sizeDg) ?_)
      | (refine wpList_eqD (.tmp 23) (.tmp 24) (by rfl) (by rfl) D0 zD hl0 rfl (by rfl) (by rw [zD_lit]; rfl) false (decide_eq_false HNE.out) ?_)
      | (refine wpList_load_mid (by rfl) 23 (.tmp 3) (by rfl) w.heap.size 0 (by rfl) (cellsB d) _ (HK.out _ HB5.out).1 Tryd.underlying23 (by rfl) (by rw [cellsB_length, hd]; exact Tryd.sizeDg) ?_))
    go_ret
    exact ⟨rfl, (HK.out _ HB5.out).2.2⟩
  by_cases c254 : 1000 < m
  · go_wp2_with (first
      | (refine wpList_allocE (by rfl) 23 (by rfl) (cellsB zD).toArray Tryd.zeroDg w3.heap.size rfl w4 hw4 ?_)
      | (refine wpList_store_mid (by rfl) 23 (.tmp 7) (.tmp 18) (by rfl) w3.heap.size 0 (cellsB D0).toArray (by rfl) (by rfl) (by rw [cellsB_size, hl0]; exact ht4.out) (by rw [cellsB_size, hl0]; exact Tryd.sizeDg) (all_oneCell_toArray (cellsB_one _)) ?_; rw [show (cellsB D0).toArray.toList = cellsB D0 from rfl, hw5])
      | (refine wpList_load_midG (by rfl) 23 (.tmp 7) (by rfl) w3.heap.size 0 (by rfl) (cellsB D0) _ HD5.out Tryd.underlying23 (by rfl) (by rw [cellsB_length, hl0]; exact Tryd.sizeDg) ?_)
      | (refine wpList_eqD (.tmp 23) (.tmp 24) (by rfl) (by rfl) D0 zD hl0 rfl (by rfl) (by rw [zD_lit]; rfl) false (decide_eq_false HNE.out) ?_)
      | (refine wpList_load_mid (by rfl) 23 (.tmp 3) (by rfl) w.heap.size 0 (by rfl) (cellsB d) _ (HK.out _ HB5.out).1 Tryd.underlying23 (by rfl) (by rw [cellsB_length, hd]; exact Tryd.sizeDg) ?_))
    go_ret
    exact ⟨rfl, (HK.out _ HB5.out).2.2⟩
  by_cases c267 : 1000 - m < n
  · go_wp2_with (first
      | (refine wpList_allocE (by rfl) 23 (by rfl) (cellsB zD).toArray Tryd.zeroDg w3.heap.size rfl w4 hw4 ?_)
      | (refine wpList_store_mid (by rfl) 23 (.tmp 7) (.tmp 18) (by rfl) w3.heap.size 0 (cellsB D0).toArray (by rfl) (by rfl) (by rw [cellsB_size, hl0]; exact ht4.out) (by rw [cellsB_size, hl0]; exact Tryd.sizeDg) (all_oneCell_toArray (cellsB_one _)) ?_; rw [show (cellsB D0).toArray.toList = cellsB D0 from rfl, hw5])
      | (refine wpList_load_midG (by rfl) 23 (.tmp 7) (by rfl) w3.heap.size 0 (by rfl) (cellsB D0) _ HD5.out Tryd.underlying23 (by rfl) (by rw [cellsB_length, hl0]; exact Tryd.sizeDg) ?_)
      | (refine wpList_eqD (.tmp 23) (.tmp 24) (by rfl) (by rfl) D0 zD hl0 rfl (by rfl) (by rw [zD_lit]; rfl) false (decide_eq_false HNE.out) ?_)
      | (refine wpList_load_mid (by rfl) 23 (.tmp 3) (by rfl) w.heap.size 0 (by rfl) (cellsB d) _ (HK.out _ HB5.out).1 Tryd.underlying23 (by rfl) (by rw [cellsB_length, hd]; exact Tryd.sizeDg) ?_))
    go_ret
    exact ⟨rfl, (HK.out _ HB5.out).2.2⟩
  obtain ⟨i, rfl⟩ : ∃ i : Nat, m = (i : Int) := Int.eq_ofNat_of_zero_le (by omega)
  obtain ⟨j, rfl⟩ : ∃ j : Nat, n = (j : Int) := Int.eq_ofNat_of_zero_le (by omega)
  have hi : i ≤ 1000 := by omega
  have hj : j ≤ 1000 := by omega
  have hij : i + j ≤ 1000 := by omega
  go_wp2_with (first
    | (refine wpList_allocE (by rfl) 23 (by rfl) (cellsB zD).toArray Tryd.zeroDg w3.heap.size rfl w4 hw4 ?_)
    | (refine wpList_store_mid (by rfl) 23 (.tmp 7) (.tmp 18) (by rfl) w3.heap.size 0 (cellsB D0).toArray (by rfl) (by rfl) (by rw [cellsB_size, hl0]; exact ht4.out) (by rw [cellsB_size, hl0]; exact Tryd.sizeDg) (all_oneCell_toArray (cellsB_one _)) ?_; rw [show (cellsB D0).toArray.toList = cellsB D0 from rfl, hw5])
    | (refine wpList_load_midG (by rfl) 23 (.tmp 7) (by rfl) w3.heap.size 0 (by rfl) (cellsB D0) _ HD5.out Tryd.underlying23 (by rfl) (by rw [cellsB_length, hl0]; exact Tryd.sizeDg) ?_)
    | (refine wpList_eqD (.tmp 23) (.tmp 24) (by rfl) (by rfl) D0 zD hl0 rfl (by rfl) (by rw [zD_lit]; rfl) false (decide_eq_false HNE.out) ?_)
    | (refine wpList_load_mid (by rfl) 23 (.tmp 3) (by rfl) w.heap.size 0 (by rfl) (cellsB d) _ (HK.out _ HB5.out).1 Tryd.underlying23 (by rfl) (by rw [cellsB_length, hd]; exact Tryd.sizeDg) ?_))
  clear hw4 hw5 ht4 HD5 HNE
  refine (wchain_walk d (i) w5 (HK.out _ HB5.out).2.1 hd hi).mono ?_
  rintro e wa1 ⟨rfl, hba1⟩
  have hX1 := walkL_length hd (i)
  generalize hXe1 : walkL d (i) = X1 at *
  have HXE1 : Hid (walkL d (i) = X1) := hXe1
  clear hXe1
  obtain ⟨wb1, hwb1⟩ : ∃ wb, wa1.alloc (.cells (cellsB zD).toArray 23) = wb := ⟨_, rfl⟩
  have htb1 : Hid (wb1.there wa1.heap.size 0 32) := by rw [← hwb1]; exact alloc_thereAt _ _ _ 32 _ rfl zD_size.symm
  have hbc1 : Below w5.heap.size w5 (wb1.setCells wa1.heap.size 0 (cellsB X1)) := by rw [← hwb1]; exact below_trans hba1 (new_stored _ _ _)
  have HBC1 : Hid (Below w2.heap.size w2 (wb1.setCells wa1.heap.size 0 (cellsB X1))) := HB5.out.trans (hbc1.mono HB5.out.size)
  have HDC1 : Hid (DAt (wb1.setCells wa1.heap.size 0 (cellsB X1)) wa1.heap.size 0 X1 ∧ wa1.heap.size < (wb1.setCells wa1.heap.size 0 (cellsB X1)).heap.size) := ⟨dat_stored htb1.out hX1, cell_block ((dat_stored htb1.out hX1).cell 0 (by omega))⟩
  clear hba1 hbc1
  generalize hwc1 : wb1.setCells wa1.heap.size 0 (cellsB X1) = wc1 at *
  go_wp2_with (first
    | (refine wpList_allocE (by rfl) 23 (by rfl) (cellsB zD).toArray Tryd.zeroDg wa1.heap.size rfl wb1 hwb1 ?_)
    | (refine wpList_store_mid (by rfl) 23 (.tmp 9) (.tmp 47) (by rfl) wa1.heap.size 0 (cellsB X1).toArray (by rfl) (by rfl) (by rw [cellsB_size, hX1]; exact htb1.out) (by rw [cellsB_size, hX1]; exact Tryd.sizeDg) (all_oneCell_toArray (cellsB_one _)) ?_; rw [show (cellsB X1).toArray.toList = cellsB X1 from rfl, hwc1])
    | (refine wpList_load_mid (by rfl) 23 (.tmp 9) (by rfl) wa1.heap.size 0 (by rfl) (cellsB X1) _ HDC1.out.1 Tryd.underlying23 (by rfl) (by rw [cellsB_length, hX1]; exact Tryd.sizeDg) ?_))
  clear hwb1 hwc1 htb1
  generalize wa1.heap.size = g1 at *
  refine (wchain_walk X1 (j) wc1 (HK.out _ HBC1.out).2.1 hX1 hj).mono ?_
  rintro e wa2 ⟨rfl, hba2⟩
  have hX2 := walkL_length hX1 (j)
  generalize hXe2 : walkL X1 (j) = X2 at *
  have HXE2 : Hid (walkL X1 (j) = X2) := hXe2
  clear hXe2
  obtain ⟨wb2, hwb2⟩ : ∃ wb, wa2.alloc (.cells (cellsB zD).toArray 23) = wb := ⟨_, rfl⟩
  have htb2 : Hid (wb2.there wa2.heap.size 0 32) := by rw [← hwb2]; exact alloc_thereAt _ _ _ 32 _ rfl zD_size.symm
  have hbc2 : Below wc1.heap.size wc1 (wb2.setCells wa2.heap.size 0 (cellsB X2)) := by rw [← hwb2]; exact below_trans hba2 (new_stored _ _ _)
  have HBC2 : Hid (Below w2.heap.size w2 (wb2.setCells wa2.heap.size 0 (cellsB X2))) := HBC1.out.trans (hbc2.mono HBC1.out.size)
  have HDC2 : Hid (DAt (wb2.setCells wa2.heap.size 0 (cellsB X2)) wa2.heap.size 0 X2 ∧ wa2.heap.size < (wb2.setCells wa2.heap.size 0 (cellsB X2)).heap.size) := ⟨dat_stored htb2.out hX2, cell_block ((dat_stored htb2.out hX2).cell 0 (by omega))⟩
  have HDC12 : Hid (DAt (wb2.setCells wa2.heap.size 0 (cellsB X2)) g1 0 X1 ∧ g1 < (wb2.setCells wa2.heap.size 0 (cellsB X2)).heap.size) := ⟨HDC1.out.1.below hbc2 HDC1.out.2, Nat.lt_of_lt_of_le HDC1.out.2 hbc2.size⟩
  clear hba2 hbc2
  generalize hwc2 : wb2.setCells wa2.heap.size 0 (cellsB X2) = wc2 at *
  go_wp2_with (first
    | (refine wpList_allocE (by rfl) 23 (by rfl) (cellsB zD).toArray Tryd.zeroDg wa2.heap.size rfl wb2 hwb2 ?_)
    | (refine wpList_store_mid (by rfl) 23 (.tmp 11) (.tmp 53) (by rfl) wa2.heap.size 0 (cellsB X2).toArray (by rfl) (by rfl) (by rw [cellsB_size, hX2]; exact htb2.out) (by rw [cellsB_size, hX2]; exact Tryd.sizeDg) (all_oneCell_toArray (cellsB_one _)) ?_; rw [show (cellsB X2).toArray.toList = cellsB X2 from rfl, hwc2])
    | (refine wpList_load_mid (by rfl) 23 (.tmp 3) (by rfl) w.heap.size 0 (by rfl) (cellsB d) _ (HK.out _ HBC2.out).1 Tryd.underlying23 (by rfl) (by rw [cellsB_length, hd]; exact Tryd.sizeDg) ?_))
  clear hwb2 hwc2 htb2
  generalize wa2.heap.size = g2 at *
  have hcast : (i : Int) + (j : Int) = ((i + j : Nat) : Int) := by omega
  rw [hcast]
  clear hcast
  refine (wchain_walk d (i + j) wc2 (HK.out _ HBC2.out).2.1 hd hij).mono ?_
  rintro e wa3 ⟨rfl, hba3⟩
  have hX3 := walkL_length hd (i + j)
  generalize hXe3 : walkL d (i + j) = X3 at *
  have HXE3 : Hid (walkL d (i + j) = X3) := hXe3
  clear hXe3
  obtain ⟨wb3, hwb3⟩ : ∃ wb, wa3.alloc (.cells (cellsB zD).toArray 23) = wb := ⟨_, rfl⟩
  have htb3 : Hid (wb3.there wa3.heap.size 0 32) := by rw [← hwb3]; exact alloc_thereAt _ _ _ 32 _ rfl zD_size.symm
  have hbc3 : Below wc2.heap.size wc2 (wb3.setCells wa3.heap.size 0 (cellsB X3)) := by rw [← hwb3]; exact below_trans hba3 (new_stored _ _ _)
  have HBC3 : Hid (Below w2.heap.size w2 (wb3.setCells wa3.heap.size 0 (cellsB X3))) := HBC2.out.trans (hbc3.mono HBC2.out.size)
  have HDC3 : Hid (DAt (wb3.setCells wa3.heap.size 0 (cellsB X3)) wa3.heap.size 0 X3 ∧ wa3.heap.size < (wb3.setCells wa3.heap.size 0 (cellsB X3)).heap.size) := ⟨dat_stored htb3.out hX3, cell_block ((dat_stored htb3.out hX3).cell 0 (by omega))⟩
  have HDC23 : Hid (DAt (wb3.setCells wa3.heap.size 0 (cellsB X3)) g2 0 X2 ∧ g2 < (wb3.setCells wa3.heap.size 0 (cellsB X3)).heap.size) := ⟨HDC2.out.1.below hbc3 HDC2.out.2, Nat.lt_of_lt_of_le HDC2.out.2 hbc3.size⟩
  clear hba3 hbc3
  generalize hwc3 : wb3.setCells wa3.heap.size 0 (cellsB X3) = wc3 at *
  go_wp2_with (first
    | (refine wpList_allocE (by rfl) 23 (by rfl) (cellsB zD).toArray Tryd.zeroDg wa3.heap.size rfl wb3 hwb3 ?_)
    | (refine wpList_store_mid (by rfl) 23 (.tmp 13) (.tmp 61) (by rfl) wa3.heap.size 0 (cellsB X3).toArray (by rfl) (by rfl) (by rw [cellsB_size, hX3]; exact htb3.out) (by rw [cellsB_size, hX3]; exact Tryd.sizeDg) (all_oneCell_toArray (cellsB_one _)) ?_; rw [show (cellsB X3).toArray.toList = cellsB X3 from rfl, hwc3])
    | (refine wpList_load_midG (by rfl) 23 (.tmp 11) (by rfl) g2 0 (by rfl) (cellsB X2) _ HDC23.out.1 Tryd.underlying23 (by rfl) (by rw [cellsB_length, hX2]; exact Tryd.sizeDg) ?_)
    | (refine wpList_load_midG (by rfl) 23 (.tmp 13) (by rfl) wa3.heap.size 0 (by rfl) (cellsB X3) _ HDC3.out.1 Tryd.underlying23 (by rfl) (by rw [cellsB_length, hX3]; exact Tryd.sizeDg) ?_)
    | (refine wpList_eqD (.tmp 74) (.tmp 75) (by rfl) (by rfl) X2 X3 hX2 hX3 (by rfl) (by rfl) true (decide_eq_true (by rw [← HXE2.out, ← HXE3.out, ← HXE1.out, walkL_add])) ?_))
  clear hwb3 hwc3 htb3
  generalize wa3.heap.size = g3 at *
  go_ret
  exact ⟨rfl, (HK.out _ HBC3.out).2.2⟩
end Go.Proofs.YtggkieemleibjaaDoor
