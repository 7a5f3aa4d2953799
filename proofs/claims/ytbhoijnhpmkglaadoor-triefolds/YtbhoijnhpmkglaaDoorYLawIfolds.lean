/- The law TrieFolds: the program's Fold is the document's. -/
import Derived.Test.YtbhoijnhpmkglaaDoorJ14
import Derived.Test.YtbhoijnhpmkglaaDoorJ15
import Derived.Test.YtbhoijnhpmkglaaDoorJ16
namespace Go.Proofs.YtbhoijnhpmkglaaDoor
open Go.RowKit
set_option linter.unusedVariables false
set_option linter.unusedSimpArgs false

set_option maxRecDepth 100000 in
set_option maxHeartbeats 2000000 in
theorem ifolds_walk (k : Int) (l : List UInt8) (a : Option Addr) (p c : Nat) (path : List (List UInt8)) (w : World) (G : Env w) (HH : Handle w) (k1 : -9223372036854775808 ≤ k) (k2 : k ≤ 9223372036854775807) (hl : l.length = 32) (R : DRow w a p path) (hc : p ≤ c) (hp : 32 * p ≤ 140737488351232) :
    Calls Tryd.prog 4 #[.int .i64 k, digestV l, .slice a p c] w fun r w' => r = .returned (.bool true) ∧ Below w.heap.size w w' := by
  obtain ⟨L, M, lL, lM, hLZ, hMZ, hL, hM⟩ := leaf_fact
  obtain ⟨w2, hw2⟩ : ∃ w2, w.alloc (.cells (cellsB l).toArray 24) = w2 := ⟨_, rfl⟩
  have HS2 : Hid (w2.heap.size = w.heap.size + 1) := by unfold Hid; rw [← hw2]; simp
  have HB2 : Hid (Below w.heap.size w w2) := by rw [← hw2]; exact (Below.refl _ _).alloc (Nat.le_refl _) _
  have hx2 : w2.rangeAt w.heap.size 0 (cellsB l) := by rw [← hw2]; exact box_dat w l _
  have HALL : Hid (∀ wx, Below w2.heap.size w2 wx → Env wx ∧ Handle wx ∧ wx.rangeAt w.heap.size 0 (cellsB l) ∧ DRow wx a p path ∧ Below w.heap.size w wx) := fun wx hx => by
    have s := HS2.out
    have b : Below w.heap.size w wx := HB2.out.trans (hx.mono (by omega))
    exact ⟨G.below b, HH.below b, range_below hx2 hx (by omega), R.below b, b⟩
  obtain ⟨g8, hg8⟩ : ∃ g8, w2.heap.size = g8 := ⟨_, rfl⟩
  obtain ⟨w3, hw3⟩ : ∃ w3, w2.alloc (.cells (cellsB zD).toArray 24) = w3 := ⟨_, rfl⟩
  have HB3 : Hid (Below w2.heap.size w2 w3) := by rw [← hw3]; exact (Below.refl _ _).alloc (Nat.le_refl _) _
  have HT3 : Hid (w3.there g8 0 32) := by rw [← hw3]; exact alloc_thereAt _ _ _ 32 _ hg8 zD_size.symm
  have HZ3 : Hid (DAt w3 g8 0 zT) := by rw [← hw3, ← hg8]; exact box_dat w2 zT _
  have HG8 : Hid (w2.heap.size ≤ g8 ∧ w3.heap.size = g8 + 1) := ⟨by rw [hg8]; exact Nat.le_refl _, by rw [← hw3, ← hg8]; simp⟩
  have HC1 : Hid (∀ wx, Env wx → Calls Tryd.prog 18 #[entV eOne] wx fun r w' => r = .returned (.tuple #[digestV L, .nilIface]) ∧ Below wx.heap.size wx w') := fun wx hx => by
    have := wtrie_leaf eOne wx hx eOne_ok rfl
    rw [hL] at this
    exact this
  have HNO : Hid (∀ wx, Calls Tryd.prog 23 #[] wx fun e w' => e = .returned (digestV zT) ∧ Below wx.heap.size wx w') := rnothing_any
  have HFO : Hid (∀ z : Int, foldE k p = z → z ≠ 0 → ∀ wx, Below w2.heap.size w2 wx → Calls Tryd.prog 22 #[.int .i64 k, digestV l, .slice a p c] wx fun r w' => r = .returned (.tuple #[digestV zT, .iface 27 (.int .i64 z)]) ∧ Below wx.heap.size wx w') := fun z h1 h2 wx hx => wtrie_foldout k l a p c path z wx (HALL.out wx hx).1 k1 k2 hl (HALL.out wx hx).2.2.2.1 hc hp h1 h2
  have lZ : zT.length = 32 := rfl
  have HDL : Hid ((!decide (L = zT)) = true) := by unfold Hid; simp [hLZ]
  have HBU : Hid (Tryd.prog.built 26 [(0, .int .i64 1)] = some (entC eOne).toArray) := Tryd.builtOne
  clear hL hM hLZ hMZ G HH R hx2 lM M
  generalize zT = Z at *
  generalize eOne = E1 at *
  go_enter Tryd.func4, Tryd.ntmps4
  go_upto_region 3 with (refine wpList_allocE (by rfl) 24 (by rfl) (cellsB zD).toArray Tryd.zeroDg g8 hg8 w3 hw3 ?_)
  clear hw3 hg8
  try simp only [Act.put, List.setIfInBounds_toArray, List.set_cons_zero, List.set_cons_succ]
  go_wp2_with fail
  refine (riskey_any k w3 k1 k2).mono ?_
  rintro r wq ⟨rfl, hq⟩
  have hq' : w3 = wq := hq.symm
  subst hq'
  by_cases hk : isKey k = false
  · have HFC := HFO.out 2 (by unfold foldE; rw [if_pos hk]) (by omega)
    have HFC : Hid _ := HFC
    rw [hk]
    clear hk HFO
    have HA1 : Hid (w3.rangeAt w.heap.size 0 (cellsB l)) := (HALL.out w3 HB3.out).2.2.1
    go_wp2_with (refine wpList_load_mid (by rfl) 24 (.tmp 4) (by rfl) w.heap.size 0 (by rfl) (cellsB l) _ HA1.out Tryd.underlying24 (by rfl) (by rw [cellsB_length, hl]; exact Tryd.sizeDg) ?_)
    refine (HFC.out w3 HB3.out).mono ?_
    rintro r w4 ⟨rfl, hb4⟩
    have HB4 : Hid (Below w2.heap.size w2 w4) := HB3.out.trans (hb4.mono HB3.out.size)
    have H84 : Hid (DAt w4 g8 0 Z) := DAt.below HZ3.out hb4 (cell_block (DAt.cell HZ3.out 0 (by omega)))
    clear hb4 HA1 HFC
    obtain ⟨g9, hg9⟩ : ∃ g9, w4.heap.size = g9 := ⟨_, rfl⟩
    obtain ⟨w5, hw5⟩ : ∃ w5, w4.alloc (.cells (cellsB zD).toArray 24) = w5 := ⟨_, rfl⟩
    have HTw5 : Hid (w5.there g9 0 32) := by rw [← hw5]; exact alloc_thereAt _ _ _ 32 _ hg9 zD_size.symm
    have HKw5 : Hid (Below w4.heap.size w4 (w5.setCells g9 0 (cellsB Z))) := below_setCells _ (by rw [hg9]; exact Nat.le_refl _) _ _ _ (by rw [← hw5]; exact (Below.refl _ _).alloc (Nat.le_refl _) _)
    have HXw5 : Hid (DAt (w5.setCells g9 0 (cellsB Z)) g9 0 Z) := dat_stored HTw5.out lZ
    have HB5 : Hid (Below w2.heap.size w2 (w5.setCells g9 0 (cellsB Z))) := HB4.out.trans (HKw5.out.mono HB4.out.size)
    have H85 : Hid (DAt (w5.setCells g9 0 (cellsB Z)) g8 0 Z) := H84.out.below HKw5.out (cell_block (H84.out.cell 0 (by omega)))
    go_wp2_with (first
      | (refine wpList_allocE (by rfl) 24 (by rfl) (cellsB zD).toArray Tryd.zeroDg g9 hg9 w5 hw5 ?_)
      | (refine wpList_store_mid (by rfl) 24 (.tmp 9) (.tmp 29) (by rfl) g9 0 (cellsB Z).toArray (by rfl) (by rfl) (by rw [cellsB_size, lZ]; exact HTw5.out) (by rw [cellsB_size, lZ]; exact Tryd.sizeDg) (all_oneCell_toArray (cellsB_one _)) ?_))
    generalize w5.setCells g9 0 (cellsB Z) = w6 at *
    clear hw5 HTw5 hg9
    have HB6 : Hid (Below w2.heap.size w2 w6) := HB5.out
    refine (error_errno 2 2 w6 (HALL.out w6 HB6.out).2.1).mono ?_
    rintro r w7 ⟨rfl, hb7⟩
    rw [show decide ((2 : Int) = 2) = true from rfl]
    have HB7 : Hid (Below w2.heap.size w2 w7) := HB6.out.trans (hb7.mono HB6.out.size)
    have H87 : Hid (DAt w7 g8 0 Z) := H85.out.below hb7 (cell_block (H85.out.cell 0 (by omega)))
    have H97 : Hid (DAt w7 g9 0 Z) := HXw5.out.below hb7 (cell_block (HXw5.out.cell 0 (by omega)))
    clear hb7 H84 H85 HXw5 HKw5 HB5 HB4
    go_wp2_with (refine wpList_buildC (by rfl) 26 #[(0, .const (.int .i64 1))] (by rfl) (entC E1).toArray (by simp only [List.map_toArray, List.map_cons, List.map_nil, Act.eval]; exact HBU.out) ?_)
    refine (HC1.out w7 (HALL.out _ HB7.out).1).mono ?_
    rintro r w8 ⟨rfl, hb8⟩
    have HB8 : Hid (Below w2.heap.size w2 w8) := HB7.out.trans (hb8.mono HB7.out.size)
    have H88 : Hid (DAt w8 g8 0 Z) := H87.out.below hb8 (cell_block (H87.out.cell 0 (by omega)))
    have H98 : Hid (DAt w8 g9 0 Z) := H97.out.below hb8 (cell_block (H97.out.cell 0 (by omega)))
    clear hb8 H87 H97
    obtain ⟨g12, hg12⟩ : ∃ g12, w8.heap.size = g12 := ⟨_, rfl⟩
    obtain ⟨w9, hw9⟩ : ∃ w9, w8.alloc (.cells (cellsB zD).toArray 24) = w9 := ⟨_, rfl⟩
    have HTw9 : Hid (w9.there g12 0 32) := by rw [← hw9]; exact alloc_thereAt _ _ _ 32 _ hg12 zD_size.symm
    have HKw9 : Hid (Below w8.heap.size w8 (w9.setCells g12 0 (cellsB L))) := below_setCells _ (by rw [hg12]; exact Nat.le_refl _) _ _ _ (by rw [← hw9]; exact (Below.refl _ _).alloc (Nat.le_refl _) _)
    have HXw9 : Hid (DAt (w9.setCells g12 0 (cellsB L)) g12 0 L) := dat_stored HTw9.out lL
    have HB10 : Hid (Below w2.heap.size w2 (w9.setCells g12 0 (cellsB L))) := HB8.out.trans (HKw9.out.mono HB8.out.size)
    have HKK : Hid (∀ wx, Below (w9.setCells g12 0 (cellsB L)).heap.size (w9.setCells g12 0 (cellsB L)) wx → wx.rangeAt g9 0 (cellsB Z) ∧ wx.rangeAt g8 0 (cellsB Z) ∧ wx.rangeAt g12 0 (cellsB L) ∧ Below w.heap.size w wx) := fun wx hx => by
      have b8 : Below w8.heap.size w8 wx := HKw9.out.trans (hx.mono HKw9.out.size)
      exact ⟨H98.out.below b8 (cell_block (H98.out.cell 0 (by omega))), H88.out.below b8 (cell_block (H88.out.cell 0 (by omega))), HXw9.out.below hx (cell_block (HXw9.out.cell 0 (by omega))), (HALL.out _ (HB10.out.trans (hx.mono HB10.out.size))).2.2.2.2⟩
    go_upto_region 11 with (first
      | (refine wpList_allocE (by rfl) 24 (by rfl) (cellsB zD).toArray Tryd.zeroDg g12 hg12 w9 hw9 ?_)
      | (refine wpList_store_mid (by rfl) 24 (.tmp 12) (.tmp 37) (by rfl) g12 0 (cellsB L).toArray (by rfl) (by rfl) (by rw [cellsB_size, lL]; exact HTw9.out) (by rw [cellsB_size, lL]; exact Tryd.sizeDg) (all_oneCell_toArray (cellsB_one _)) ?_))
    generalize w9.setCells g12 0 (cellsB L) = w10 at *
    clear hw9 HTw9 hg12 HKw9 HXw9 H88 H98
    try simp only [Act.put, List.setIfInBounds_toArray, List.set_cons_zero, List.set_cons_succ]
    refine wp_region_noPanic ?_
    refine wp_region_held_drew (S := fun wx => wx.rangeAt g9 0 (cellsB Z) ∧ wx.rangeAt g8 0 (cellsB Z) ∧ wx.rangeAt g12 0 (cellsB L)) (by kernel_rfl) ⟨(HKK.out _ (below_drewN w10 1)).1, (HKK.out _ (below_drewN w10 1)).2.1, (HKK.out _ (below_drewN w10 1)).2.2.1⟩ (fun hHeld => ?_)
    try simp only [Act.put, List.setIfInBounds_toArray, List.set_cons_zero, List.set_cons_succ]
    have HBd : Hid (Below w10.heap.size w10 w10.drew) := below_drewN w10 1
    generalize w10.drew = wd at *
    refine wpAnyH_take (i := 0) (v := ?_) (by simp only [List.getElem?_toArray, List.getElem?_cons_zero, List.getElem?_cons_succ]; rfl) (by kernel_rfl) (by kernel_rfl) (by kernel_rfl) (fun _ _ _ h => h) (Or.inl ⟨by rfl, ?_⟩) hHeld ?_
    rotate_left
    · intro w hSw
      obtain ⟨hSw0, hSw1, hSw2⟩ := hSw
      go_simp
      try with_reducible rfl
    try simp only [Act.put, List.setIfInBounds_toArray, List.set_cons_zero, List.set_cons_succ]
    refine wpAnyH_take (i := 1) (v := ?_) (by simp only [List.getElem?_toArray, List.getElem?_cons_zero, List.getElem?_cons_succ]; rfl) (by kernel_rfl) (by kernel_rfl) (by kernel_rfl) (fun _ _ _ h => h) (Or.inl ⟨by rfl, ?_⟩) hHeld ?_
    rotate_left
    · intro w hSw
      obtain ⟨hSw0, hSw1, hSw2⟩ := hSw
      go_simp
      try with_reducible rfl
    try simp only [Act.put, List.setIfInBounds_toArray, List.set_cons_zero, List.set_cons_succ]
    refine wpAnyH_take (i := 2) (v := .agg (cellsB Z).toArray) (by simp only [List.getElem?_toArray, List.getElem?_cons_zero, List.getElem?_cons_succ]; rfl) (by kernel_rfl) (by kernel_rfl) (by kernel_rfl) (fun _ _ _ h => h)
      (yieldsIf_load_mid (by rfl) _ _ rfl _ _ rfl _ _ (fun w hw => hw.1) Tryd.underlying24 rfl (by rw [cellsB_length, lZ]; exact Tryd.sizeDg)) hHeld ?_
    try simp only [Act.put, List.setIfInBounds_toArray, List.set_cons_zero, List.set_cons_succ]
    refine wpAnyH_take (i := 3) (v := .agg (cellsB Z).toArray) (by simp only [List.getElem?_toArray, List.getElem?_cons_zero, List.getElem?_cons_succ]; rfl) (by kernel_rfl) (by kernel_rfl) (by kernel_rfl) (fun _ _ _ h => h)
      (yieldsIf_load_mid (by rfl) _ _ rfl _ _ rfl _ _ (fun w hw => hw.2.1) Tryd.underlying24 rfl (by rw [cellsB_length, lZ]; exact Tryd.sizeDg)) hHeld ?_
    try simp only [Act.put, List.setIfInBounds_toArray, List.set_cons_zero, List.set_cons_succ]
    refine wpAnyH_take (i := 4) (v := .bool true) (by simp only [List.getElem?_toArray, List.getElem?_cons_zero, List.getElem?_cons_succ]; rfl) (by kernel_rfl) (by kernel_rfl) (by kernel_rfl) (fun _ _ _ h => h)
      (yieldsIf_eqD (by rfl) _ _ rfl Z Z lZ lZ rfl rfl true (decide_eq_true rfl)) hHeld ?_
    try simp only [Act.put, List.setIfInBounds_toArray, List.set_cons_zero, List.set_cons_succ]
    refine wpAnyH_take (i := 5) (v := ?_) (by simp only [List.getElem?_toArray, List.getElem?_cons_zero, List.getElem?_cons_succ]; rfl) (by kernel_rfl) (by kernel_rfl) (by kernel_rfl) (fun _ _ _ h => h) (Or.inl ⟨by rfl, ?_⟩) hHeld ?_
    rotate_left
    · intro w hSw
      obtain ⟨hSw0, hSw1, hSw2⟩ := hSw
      go_simp
      try with_reducible rfl
    try simp only [Act.put, List.setIfInBounds_toArray, List.set_cons_zero, List.set_cons_succ]
    refine wpAnyH_take (i := 6) (v := ?_) (by simp only [List.getElem?_toArray, List.getElem?_cons_zero, List.getElem?_cons_succ]; rfl) (by kernel_rfl) (by kernel_rfl) (by kernel_rfl) (fun _ _ _ h => h) (Or.inl ⟨by rfl, ?_⟩) hHeld ?_
    rotate_left
    · intro w hSw
      obtain ⟨hSw0, hSw1, hSw2⟩ := hSw
      go_simp
      try with_reducible rfl
    try simp only [Act.put, List.setIfInBounds_toArray, List.set_cons_zero, List.set_cons_succ]
    refine wpAnyH_take (i := 7) (v := ?_) (by simp only [List.getElem?_toArray, List.getElem?_cons_zero, List.getElem?_cons_succ]; rfl) (by kernel_rfl) (by kernel_rfl) (by kernel_rfl) (fun _ _ _ h => h) (Or.inl ⟨by rfl, ?_⟩) hHeld ?_
    rotate_left
    · intro w hSw
      obtain ⟨hSw0, hSw1, hSw2⟩ := hSw
      go_simp
      try with_reducible rfl
    try simp only [Act.put, List.setIfInBounds_toArray, List.set_cons_zero, List.set_cons_succ]
    refine wpAnyH_take (i := 8) (v := ?_) (by simp only [List.getElem?_toArray, List.getElem?_cons_zero, List.getElem?_cons_succ]; rfl) (by kernel_rfl) (by kernel_rfl) (by kernel_rfl) (fun _ _ _ h => h) (Or.inl ⟨by rfl, ?_⟩) hHeld ?_
    rotate_left
    · intro w hSw
      obtain ⟨hSw0, hSw1, hSw2⟩ := hSw
      go_simp
      try with_reducible rfl
    try simp only [Act.put, List.setIfInBounds_toArray, List.set_cons_zero, List.set_cons_succ]
    refine wpAnyH_take (i := 9) (v := ?_) (by simp only [List.getElem?_toArray, List.getElem?_cons_zero, List.getElem?_cons_succ]; rfl) (by kernel_rfl) (by kernel_rfl) (by kernel_rfl) (fun _ _ _ h => h) (Or.inl ⟨by rfl, ?_⟩) hHeld ?_
    rotate_left
    · intro w hSw
      obtain ⟨hSw0, hSw1, hSw2⟩ := hSw
      go_simp
      try with_reducible rfl
    try simp only [Act.put, List.setIfInBounds_toArray, List.set_cons_zero, List.set_cons_succ]
    refine wpAnyH_take (i := 10) (v := ?_) (by simp only [List.getElem?_toArray, List.getElem?_cons_zero, List.getElem?_cons_succ]; rfl) (by kernel_rfl) (by kernel_rfl) (by kernel_rfl) (fun _ _ _ h => h) (Or.inl ⟨by rfl, ?_⟩) hHeld ?_
    rotate_left
    · intro w hSw
      obtain ⟨hSw0, hSw1, hSw2⟩ := hSw
      go_simp
      try with_reducible rfl
    try simp only [Act.put, List.setIfInBounds_toArray, List.set_cons_zero, List.set_cons_succ]
    refine wpAnyH_take (i := 11) (v := .agg (cellsB L).toArray) (by simp only [List.getElem?_toArray, List.getElem?_cons_zero, List.getElem?_cons_succ]; rfl) (by kernel_rfl) (by kernel_rfl) (by kernel_rfl) (fun _ _ _ h => h)
      (yieldsIf_load_mid (by rfl) _ _ rfl _ _ rfl _ _ (fun w hw => hw.2.2) Tryd.underlying24 rfl (by rw [cellsB_length, lL]; exact Tryd.sizeDg)) hHeld ?_
    try simp only [Act.put, List.setIfInBounds_toArray, List.set_cons_zero, List.set_cons_succ]
    refine wpAnyH_ready (rs := [12]) (by kernel_rfl) (by simp) ?_
    refine AllReadyH.cons (by simp only [List.getElem?_toArray, List.getElem?_cons_zero, List.getElem?_cons_succ]; rfl) (fun K hK => ?_) AllReadyH.nil
    rw [if_pos (by rfl)]
    go_simp
    refine (HNO.out wd).mono ?_
    rintro r we ⟨rfl, hbx⟩
    have HBe : Hid (Below w10.heap.size w10 we) := HBd.out.trans (hbx.mono HBd.out.size)
    clear hbx
    go_wp2_with fail
    refine hK.out _ _ ⟨(HKK.out _ HBe.out).1, (HKK.out _ HBe.out).2.1, (HKK.out _ HBe.out).2.2.1⟩ (fun hHeld => ?_)
    clear hK K
    try simp only [Act.put, List.setIfInBounds_toArray, List.set_cons_zero, List.set_cons_succ]
    refine wpAnyH_take (i := 13) (v := .bool true) (by simp only [List.getElem?_toArray, List.getElem?_cons_zero, List.getElem?_cons_succ]; rfl) (by kernel_rfl) (by kernel_rfl) (by kernel_rfl) (fun _ _ _ h => h)
      (yieldsIf_neqD (by rfl) _ _ rfl L Z lL lZ rfl rfl true HDL.out) hHeld ?_
    try simp only [Act.put, List.setIfInBounds_toArray, List.set_cons_zero, List.set_cons_succ]
    refine wpAnyH_take (i := 14) (v := ?_) (by simp only [List.getElem?_toArray, List.getElem?_cons_zero, List.getElem?_cons_succ]; rfl) (by kernel_rfl) (by kernel_rfl) (by kernel_rfl) (fun _ _ _ h => h) (Or.inl ⟨by rfl, ?_⟩) hHeld ?_
    rotate_left
    · intro w hSw
      obtain ⟨hSw0, hSw1, hSw2⟩ := hSw
      go_simp
      try with_reducible rfl
    try simp only [Act.put, List.setIfInBounds_toArray, List.set_cons_zero, List.set_cons_succ]
    refine wpAnyH_take (i := 15) (v := ?_) (by simp only [List.getElem?_toArray, List.getElem?_cons_zero, List.getElem?_cons_succ]; rfl) (by kernel_rfl) (by kernel_rfl) (by kernel_rfl) (fun _ _ _ h => h) (Or.inl ⟨by rfl, ?_⟩) hHeld ?_
    rotate_left
    · intro w hSw
      obtain ⟨hSw0, hSw1, hSw2⟩ := hSw
      go_simp
      try with_reducible rfl
    try simp only [Act.put, List.setIfInBounds_toArray, List.set_cons_zero, List.set_cons_succ]
    refine wpAnyH_done (by kernel_rfl) (NoPanic.normal ?_) _
    clear hHeld
    go_wp2_with fail
    go_ret
    exact ⟨rfl, (HKK.out _ HBe.out).2.2.2⟩
  · have hk' : isKey k = true := by simpa using hk
    rw [hk']
    by_cases hp32 : p = 32
    · subst hp32
      have hkb := of_decide_eq_true hk'
      obtain ⟨j, rfl⟩ : ∃ j : Nat, k = (j : Int) := ⟨k.toNat, by omega⟩
      have lX := foldM_length path j l hl
      have HFC : Hid (∀ wx, Below w2.heap.size w2 wx → Calls Tryd.prog 22 #[.int .i64 (j : Int), digestV l, .slice a 32 c] wx fun r w' => r = .returned (.tuple #[digestV (foldM j l path), .nilIface]) ∧ Below wx.heap.size wx w') := fun wx hx => wtrie_fold j l a c path wx (HALL.out wx hx).1 (by omega) hl (HALL.out wx hx).2.2.2.1 hc
      have HMF : Hid (Calls Tryd.prog 21 #[.int .i64 (j : Int), digestV l, .slice a 32 c] w3 fun r w' => r = .returned (digestV (foldM j l path)) ∧ Below w3.heap.size w3 w') := rmapfolded_any j l a 32 c path w3 (by omega) hl (HALL.out w3 HB3.out).2.2.2.1 hc (by omega)
      have HA3 : Hid (w3.rangeAt w.heap.size 0 (cellsB l)) := (HALL.out w3 HB3.out).2.2.1
      clear hk hk' hkb HFO
      generalize foldM j l path = X at *
      go_wp2_with (refine wpList_load_mid (by rfl) 24 (.tmp 4) (by rfl) w.heap.size 0 (by rfl) (cellsB l) _ HA3.out Tryd.underlying24 (by rfl) (by rw [cellsB_length, hl]; exact Tryd.sizeDg) ?_)
      refine HMF.out.mono ?_
      rintro r w3b ⟨rfl, hb3⟩
      have HT3b : Hid (w3b.there g8 0 32) := there_below HT3.out hb3 (by have := HG8.out; omega)
      have HBc : Hid (Below w2.heap.size w2 (w3b.setCells g8 0 (cellsB X))) := below_setCells _ HG8.out.1 _ _ _ (HB3.out.trans (hb3.mono HB3.out.size))
      have H8c : Hid (DAt (w3b.setCells g8 0 (cellsB X)) g8 0 X) := dat_stored HT3b.out lX
      clear hb3 HMF HA3
      go_upto_region 8 with (refine wpList_store_mid (by rfl) 24 (.tmp 8) (.tmp 23) (by rfl) g8 0 (cellsB X).toArray (by rfl) (by rfl) (by rw [cellsB_size, lX]; exact HT3b.out) (by rw [cellsB_size, lX]; exact Tryd.sizeDg) (all_oneCell_toArray (cellsB_one _)) ?_)
      generalize w3b.setCells g8 0 (cellsB X) = wc at *
      try simp only [Act.put, List.setIfInBounds_toArray, List.set_cons_zero, List.set_cons_succ]
      have HA1 : Hid (wc.rangeAt w.heap.size 0 (cellsB l)) := (HALL.out wc HBc.out).2.2.1
      go_wp2_with (refine wpList_load_mid (by rfl) 24 (.tmp 4) (by rfl) w.heap.size 0 (by rfl) (cellsB l) _ HA1.out Tryd.underlying24 (by rfl) (by rw [cellsB_length, hl]; exact Tryd.sizeDg) ?_)
      refine (HFC.out wc HBc.out).mono ?_
      rintro r w4 ⟨rfl, hb4⟩
      have HB4 : Hid (Below w2.heap.size w2 w4) := HBc.out.trans (hb4.mono HBc.out.size)
      have H84 : Hid (DAt w4 g8 0 X) := DAt.below H8c.out hb4 (cell_block (DAt.cell H8c.out 0 (by omega)))
      clear hb4 HA1 HFC
      obtain ⟨g9, hg9⟩ : ∃ g9, w4.heap.size = g9 := ⟨_, rfl⟩
      obtain ⟨w5, hw5⟩ : ∃ w5, w4.alloc (.cells (cellsB zD).toArray 24) = w5 := ⟨_, rfl⟩
      have HTw5 : Hid (w5.there g9 0 32) := by rw [← hw5]; exact alloc_thereAt _ _ _ 32 _ hg9 zD_size.symm
      have HKw5 : Hid (Below w4.heap.size w4 (w5.setCells g9 0 (cellsB X))) := below_setCells _ (by rw [hg9]; exact Nat.le_refl _) _ _ _ (by rw [← hw5]; exact (Below.refl _ _).alloc (Nat.le_refl _) _)
      have HXw5 : Hid (DAt (w5.setCells g9 0 (cellsB X)) g9 0 X) := dat_stored HTw5.out lX
      have HB5 : Hid (Below w2.heap.size w2 (w5.setCells g9 0 (cellsB X))) := HB4.out.trans (HKw5.out.mono HB4.out.size)
      have H85 : Hid (DAt (w5.setCells g9 0 (cellsB X)) g8 0 X) := H84.out.below HKw5.out (cell_block (H84.out.cell 0 (by omega)))
      go_wp2_with (first
        | (refine wpList_allocE (by rfl) 24 (by rfl) (cellsB zD).toArray Tryd.zeroDg g9 hg9 w5 hw5 ?_)
        | (refine wpList_store_mid (by rfl) 24 (.tmp 9) (.tmp 29) (by rfl) g9 0 (cellsB X).toArray (by rfl) (by rfl) (by rw [cellsB_size, lX]; exact HTw5.out) (by rw [cellsB_size, lX]; exact Tryd.sizeDg) (all_oneCell_toArray (cellsB_one _)) ?_))
      generalize w5.setCells g9 0 (cellsB X) = w6 at *
      clear hw5 HTw5 hg9
      have HB6 : Hid (Below w2.heap.size w2 w6) := HB5.out
      refine (error_nil 0 w6).mono ?_
      rintro r w7 ⟨rfl, hb7⟩
      rw [show decide ((0 : Int) = 0) = true from rfl]
      have HB7 : Hid (Below w2.heap.size w2 w7) := HB6.out.trans (hb7.mono HB6.out.size)
      have H87 : Hid (DAt w7 g8 0 X) := H85.out.below hb7 (cell_block (H85.out.cell 0 (by omega)))
      have H97 : Hid (DAt w7 g9 0 X) := HXw5.out.below hb7 (cell_block (HXw5.out.cell 0 (by omega)))
      clear hb7 H84 H85 HXw5 HKw5 HB5 HB4
      go_wp2_with (refine wpList_buildC (by rfl) 26 #[(0, .const (.int .i64 1))] (by rfl) (entC E1).toArray (by simp only [List.map_toArray, List.map_cons, List.map_nil, Act.eval]; exact HBU.out) ?_)
      refine (HC1.out w7 (HALL.out _ HB7.out).1).mono ?_
      rintro r w8 ⟨rfl, hb8⟩
      have HB8 : Hid (Below w2.heap.size w2 w8) := HB7.out.trans (hb8.mono HB7.out.size)
      have H88 : Hid (DAt w8 g8 0 X) := H87.out.below hb8 (cell_block (H87.out.cell 0 (by omega)))
      have H98 : Hid (DAt w8 g9 0 X) := H97.out.below hb8 (cell_block (H97.out.cell 0 (by omega)))
      clear hb8 H87 H97
      obtain ⟨g12, hg12⟩ : ∃ g12, w8.heap.size = g12 := ⟨_, rfl⟩
      obtain ⟨w9, hw9⟩ : ∃ w9, w8.alloc (.cells (cellsB zD).toArray 24) = w9 := ⟨_, rfl⟩
      have HTw9 : Hid (w9.there g12 0 32) := by rw [← hw9]; exact alloc_thereAt _ _ _ 32 _ hg12 zD_size.symm
      have HKw9 : Hid (Below w8.heap.size w8 (w9.setCells g12 0 (cellsB L))) := below_setCells _ (by rw [hg12]; exact Nat.le_refl _) _ _ _ (by rw [← hw9]; exact (Below.refl _ _).alloc (Nat.le_refl _) _)
      have HXw9 : Hid (DAt (w9.setCells g12 0 (cellsB L)) g12 0 L) := dat_stored HTw9.out lL
      have HB10 : Hid (Below w2.heap.size w2 (w9.setCells g12 0 (cellsB L))) := HB8.out.trans (HKw9.out.mono HB8.out.size)
      have HKK : Hid (∀ wx, Below (w9.setCells g12 0 (cellsB L)).heap.size (w9.setCells g12 0 (cellsB L)) wx → wx.rangeAt g9 0 (cellsB X) ∧ wx.rangeAt g8 0 (cellsB X) ∧ wx.rangeAt g12 0 (cellsB L) ∧ Below w.heap.size w wx) := fun wx hx => by
        have b8 : Below w8.heap.size w8 wx := HKw9.out.trans (hx.mono HKw9.out.size)
        exact ⟨H98.out.below b8 (cell_block (H98.out.cell 0 (by omega))), H88.out.below b8 (cell_block (H88.out.cell 0 (by omega))), HXw9.out.below hx (cell_block (HXw9.out.cell 0 (by omega))), (HALL.out _ (HB10.out.trans (hx.mono HB10.out.size))).2.2.2.2⟩
      go_upto_region 11 with (first
        | (refine wpList_allocE (by rfl) 24 (by rfl) (cellsB zD).toArray Tryd.zeroDg g12 hg12 w9 hw9 ?_)
        | (refine wpList_store_mid (by rfl) 24 (.tmp 12) (.tmp 37) (by rfl) g12 0 (cellsB L).toArray (by rfl) (by rfl) (by rw [cellsB_size, lL]; exact HTw9.out) (by rw [cellsB_size, lL]; exact Tryd.sizeDg) (all_oneCell_toArray (cellsB_one _)) ?_))
      generalize w9.setCells g12 0 (cellsB L) = w10 at *
      clear hw9 HTw9 hg12 HKw9 HXw9 H88 H98
      try simp only [Act.put, List.setIfInBounds_toArray, List.set_cons_zero, List.set_cons_succ]
      refine wp_region_noPanic ?_
      refine wp_region_held_drew (S := fun wx => wx.rangeAt g9 0 (cellsB X) ∧ wx.rangeAt g8 0 (cellsB X) ∧ wx.rangeAt g12 0 (cellsB L)) (by kernel_rfl) ⟨(HKK.out _ (below_drewN w10 1)).1, (HKK.out _ (below_drewN w10 1)).2.1, (HKK.out _ (below_drewN w10 1)).2.2.1⟩ (fun hHeld => ?_)
      try simp only [Act.put, List.setIfInBounds_toArray, List.set_cons_zero, List.set_cons_succ]
      have HBd : Hid (Below w10.heap.size w10 w10.drew) := below_drewN w10 1
      generalize w10.drew = wd at *
      refine wpAnyH_take (i := 0) (v := ?_) (by simp only [List.getElem?_toArray, List.getElem?_cons_zero, List.getElem?_cons_succ]; rfl) (by kernel_rfl) (by kernel_rfl) (by kernel_rfl) (fun _ _ _ h => h) (Or.inl ⟨by rfl, ?_⟩) hHeld ?_
      rotate_left
      · intro w hSw
        obtain ⟨hSw0, hSw1, hSw2⟩ := hSw
        go_simp
        try with_reducible rfl
      try simp only [Act.put, List.setIfInBounds_toArray, List.set_cons_zero, List.set_cons_succ]
      refine wpAnyH_take (i := 1) (v := ?_) (by simp only [List.getElem?_toArray, List.getElem?_cons_zero, List.getElem?_cons_succ]; rfl) (by kernel_rfl) (by kernel_rfl) (by kernel_rfl) (fun _ _ _ h => h) (Or.inl ⟨by rfl, ?_⟩) hHeld ?_
      rotate_left
      · intro w hSw
        obtain ⟨hSw0, hSw1, hSw2⟩ := hSw
        go_simp
        try with_reducible rfl
      try simp only [Act.put, List.setIfInBounds_toArray, List.set_cons_zero, List.set_cons_succ]
      refine wpAnyH_take (i := 2) (v := .agg (cellsB X).toArray) (by simp only [List.getElem?_toArray, List.getElem?_cons_zero, List.getElem?_cons_succ]; rfl) (by kernel_rfl) (by kernel_rfl) (by kernel_rfl) (fun _ _ _ h => h)
        (yieldsIf_load_mid (by rfl) _ _ rfl _ _ rfl _ _ (fun w hw => hw.1) Tryd.underlying24 rfl (by rw [cellsB_length, lX]; exact Tryd.sizeDg)) hHeld ?_
      try simp only [Act.put, List.setIfInBounds_toArray, List.set_cons_zero, List.set_cons_succ]
      refine wpAnyH_take (i := 3) (v := .agg (cellsB X).toArray) (by simp only [List.getElem?_toArray, List.getElem?_cons_zero, List.getElem?_cons_succ]; rfl) (by kernel_rfl) (by kernel_rfl) (by kernel_rfl) (fun _ _ _ h => h)
        (yieldsIf_load_mid (by rfl) _ _ rfl _ _ rfl _ _ (fun w hw => hw.2.1) Tryd.underlying24 rfl (by rw [cellsB_length, lX]; exact Tryd.sizeDg)) hHeld ?_
      try simp only [Act.put, List.setIfInBounds_toArray, List.set_cons_zero, List.set_cons_succ]
      refine wpAnyH_take (i := 4) (v := .bool true) (by simp only [List.getElem?_toArray, List.getElem?_cons_zero, List.getElem?_cons_succ]; rfl) (by kernel_rfl) (by kernel_rfl) (by kernel_rfl) (fun _ _ _ h => h)
        (yieldsIf_eqD (by rfl) _ _ rfl X X lX lX rfl rfl true (decide_eq_true rfl)) hHeld ?_
      try simp only [Act.put, List.setIfInBounds_toArray, List.set_cons_zero, List.set_cons_succ]
      refine wpAnyH_take (i := 5) (v := ?_) (by simp only [List.getElem?_toArray, List.getElem?_cons_zero, List.getElem?_cons_succ]; rfl) (by kernel_rfl) (by kernel_rfl) (by kernel_rfl) (fun _ _ _ h => h) (Or.inl ⟨by rfl, ?_⟩) hHeld ?_
      rotate_left
      · intro w hSw
        obtain ⟨hSw0, hSw1, hSw2⟩ := hSw
        go_simp
        try with_reducible rfl
      try simp only [Act.put, List.setIfInBounds_toArray, List.set_cons_zero, List.set_cons_succ]
      refine wpAnyH_take (i := 6) (v := ?_) (by simp only [List.getElem?_toArray, List.getElem?_cons_zero, List.getElem?_cons_succ]; rfl) (by kernel_rfl) (by kernel_rfl) (by kernel_rfl) (fun _ _ _ h => h) (Or.inl ⟨by rfl, ?_⟩) hHeld ?_
      rotate_left
      · intro w hSw
        obtain ⟨hSw0, hSw1, hSw2⟩ := hSw
        go_simp
        try with_reducible rfl
      try simp only [Act.put, List.setIfInBounds_toArray, List.set_cons_zero, List.set_cons_succ]
      refine wpAnyH_take (i := 7) (v := ?_) (by simp only [List.getElem?_toArray, List.getElem?_cons_zero, List.getElem?_cons_succ]; rfl) (by kernel_rfl) (by kernel_rfl) (by kernel_rfl) (fun _ _ _ h => h) (Or.inl ⟨by rfl, ?_⟩) hHeld ?_
      rotate_left
      · intro w hSw
        obtain ⟨hSw0, hSw1, hSw2⟩ := hSw
        go_simp
        try with_reducible rfl
      try simp only [Act.put, List.setIfInBounds_toArray, List.set_cons_zero, List.set_cons_succ]
      refine wpAnyH_take (i := 8) (v := ?_) (by simp only [List.getElem?_toArray, List.getElem?_cons_zero, List.getElem?_cons_succ]; rfl) (by kernel_rfl) (by kernel_rfl) (by kernel_rfl) (fun _ _ _ h => h) (Or.inl ⟨by rfl, ?_⟩) hHeld ?_
      rotate_left
      · intro w hSw
        obtain ⟨hSw0, hSw1, hSw2⟩ := hSw
        go_simp
        try with_reducible rfl
      try simp only [Act.put, List.setIfInBounds_toArray, List.set_cons_zero, List.set_cons_succ]
      refine wpAnyH_take (i := 9) (v := ?_) (by simp only [List.getElem?_toArray, List.getElem?_cons_zero, List.getElem?_cons_succ]; rfl) (by kernel_rfl) (by kernel_rfl) (by kernel_rfl) (fun _ _ _ h => h) (Or.inl ⟨by rfl, ?_⟩) hHeld ?_
      rotate_left
      · intro w hSw
        obtain ⟨hSw0, hSw1, hSw2⟩ := hSw
        go_simp
        try with_reducible rfl
      try simp only [Act.put, List.setIfInBounds_toArray, List.set_cons_zero, List.set_cons_succ]
      refine wpAnyH_take (i := 10) (v := ?_) (by simp only [List.getElem?_toArray, List.getElem?_cons_zero, List.getElem?_cons_succ]; rfl) (by kernel_rfl) (by kernel_rfl) (by kernel_rfl) (fun _ _ _ h => h) (Or.inl ⟨by rfl, ?_⟩) hHeld ?_
      rotate_left
      · intro w hSw
        obtain ⟨hSw0, hSw1, hSw2⟩ := hSw
        go_simp
        try with_reducible rfl
      try simp only [Act.put, List.setIfInBounds_toArray, List.set_cons_zero, List.set_cons_succ]
      refine wpAnyH_take (i := 11) (v := .agg (cellsB L).toArray) (by simp only [List.getElem?_toArray, List.getElem?_cons_zero, List.getElem?_cons_succ]; rfl) (by kernel_rfl) (by kernel_rfl) (by kernel_rfl) (fun _ _ _ h => h)
        (yieldsIf_load_mid (by rfl) _ _ rfl _ _ rfl _ _ (fun w hw => hw.2.2) Tryd.underlying24 rfl (by rw [cellsB_length, lL]; exact Tryd.sizeDg)) hHeld ?_
      try simp only [Act.put, List.setIfInBounds_toArray, List.set_cons_zero, List.set_cons_succ]
      refine wpAnyH_ready (rs := [12]) (by kernel_rfl) (by simp) ?_
      refine AllReadyH.cons (by simp only [List.getElem?_toArray, List.getElem?_cons_zero, List.getElem?_cons_succ]; rfl) (fun K hK => ?_) AllReadyH.nil
      rw [if_pos (by rfl)]
      go_simp
      refine (HNO.out wd).mono ?_
      rintro r we ⟨rfl, hbx⟩
      have HBe : Hid (Below w10.heap.size w10 we) := HBd.out.trans (hbx.mono HBd.out.size)
      clear hbx
      go_wp2_with fail
      refine hK.out _ _ ⟨(HKK.out _ HBe.out).1, (HKK.out _ HBe.out).2.1, (HKK.out _ HBe.out).2.2.1⟩ (fun hHeld => ?_)
      clear hK K
      try simp only [Act.put, List.setIfInBounds_toArray, List.set_cons_zero, List.set_cons_succ]
      refine wpAnyH_take (i := 13) (v := .bool true) (by simp only [List.getElem?_toArray, List.getElem?_cons_zero, List.getElem?_cons_succ]; rfl) (by kernel_rfl) (by kernel_rfl) (by kernel_rfl) (fun _ _ _ h => h)
        (yieldsIf_neqD (by rfl) _ _ rfl L Z lL lZ rfl rfl true HDL.out) hHeld ?_
      try simp only [Act.put, List.setIfInBounds_toArray, List.set_cons_zero, List.set_cons_succ]
      refine wpAnyH_take (i := 14) (v := ?_) (by simp only [List.getElem?_toArray, List.getElem?_cons_zero, List.getElem?_cons_succ]; rfl) (by kernel_rfl) (by kernel_rfl) (by kernel_rfl) (fun _ _ _ h => h) (Or.inl ⟨by rfl, ?_⟩) hHeld ?_
      rotate_left
      · intro w hSw
        obtain ⟨hSw0, hSw1, hSw2⟩ := hSw
        go_simp
        try with_reducible rfl
      try simp only [Act.put, List.setIfInBounds_toArray, List.set_cons_zero, List.set_cons_succ]
      refine wpAnyH_take (i := 15) (v := ?_) (by simp only [List.getElem?_toArray, List.getElem?_cons_zero, List.getElem?_cons_succ]; rfl) (by kernel_rfl) (by kernel_rfl) (by kernel_rfl) (fun _ _ _ h => h) (Or.inl ⟨by rfl, ?_⟩) hHeld ?_
      rotate_left
      · intro w hSw
        obtain ⟨hSw0, hSw1, hSw2⟩ := hSw
        go_simp
        try with_reducible rfl
      try simp only [Act.put, List.setIfInBounds_toArray, List.set_cons_zero, List.set_cons_succ]
      refine wpAnyH_done (by kernel_rfl) (NoPanic.normal ?_) _
      clear hHeld
      go_wp2_with fail
      go_ret
      exact ⟨rfl, (HKK.out _ HBe.out).2.2.2⟩
    · have HFC := HFO.out 3 (by unfold foldE; rw [if_neg hk, if_pos hp32]) (by omega)
      have HFC : Hid _ := HFC
      have q32 : ((p : Int) == 32) = false := beq_eq_false_iff_ne.2 (by omega)
      clear hk hk' HFO
      have HA1 : Hid (w3.rangeAt w.heap.size 0 (cellsB l)) := (HALL.out w3 HB3.out).2.2.1
      go_wp2_with (refine wpList_load_mid (by rfl) 24 (.tmp 4) (by rfl) w.heap.size 0 (by rfl) (cellsB l) _ HA1.out Tryd.underlying24 (by rfl) (by rw [cellsB_length, hl]; exact Tryd.sizeDg) ?_)
      refine (HFC.out w3 HB3.out).mono ?_
      rintro r w4 ⟨rfl, hb4⟩
      have HB4 : Hid (Below w2.heap.size w2 w4) := HB3.out.trans (hb4.mono HB3.out.size)
      have H84 : Hid (DAt w4 g8 0 Z) := DAt.below HZ3.out hb4 (cell_block (DAt.cell HZ3.out 0 (by omega)))
      clear hb4 HA1 HFC
      obtain ⟨g9, hg9⟩ : ∃ g9, w4.heap.size = g9 := ⟨_, rfl⟩
      obtain ⟨w5, hw5⟩ : ∃ w5, w4.alloc (.cells (cellsB zD).toArray 24) = w5 := ⟨_, rfl⟩
      have HTw5 : Hid (w5.there g9 0 32) := by rw [← hw5]; exact alloc_thereAt _ _ _ 32 _ hg9 zD_size.symm
      have HKw5 : Hid (Below w4.heap.size w4 (w5.setCells g9 0 (cellsB Z))) := below_setCells _ (by rw [hg9]; exact Nat.le_refl _) _ _ _ (by rw [← hw5]; exact (Below.refl _ _).alloc (Nat.le_refl _) _)
      have HXw5 : Hid (DAt (w5.setCells g9 0 (cellsB Z)) g9 0 Z) := dat_stored HTw5.out lZ
      have HB5 : Hid (Below w2.heap.size w2 (w5.setCells g9 0 (cellsB Z))) := HB4.out.trans (HKw5.out.mono HB4.out.size)
      have H85 : Hid (DAt (w5.setCells g9 0 (cellsB Z)) g8 0 Z) := H84.out.below HKw5.out (cell_block (H84.out.cell 0 (by omega)))
      go_wp2_with (first
        | (refine wpList_allocE (by rfl) 24 (by rfl) (cellsB zD).toArray Tryd.zeroDg g9 hg9 w5 hw5 ?_)
        | (refine wpList_store_mid (by rfl) 24 (.tmp 9) (.tmp 29) (by rfl) g9 0 (cellsB Z).toArray (by rfl) (by rfl) (by rw [cellsB_size, lZ]; exact HTw5.out) (by rw [cellsB_size, lZ]; exact Tryd.sizeDg) (all_oneCell_toArray (cellsB_one _)) ?_))
      generalize w5.setCells g9 0 (cellsB Z) = w6 at *
      clear hw5 HTw5 hg9
      have HB6 : Hid (Below w2.heap.size w2 w6) := HB5.out
      refine (error_errno 3 3 w6 (HALL.out w6 HB6.out).2.1).mono ?_
      rintro r w7 ⟨rfl, hb7⟩
      rw [show decide ((3 : Int) = 3) = true from rfl]
      have HB7 : Hid (Below w2.heap.size w2 w7) := HB6.out.trans (hb7.mono HB6.out.size)
      have H87 : Hid (DAt w7 g8 0 Z) := H85.out.below hb7 (cell_block (H85.out.cell 0 (by omega)))
      have H97 : Hid (DAt w7 g9 0 Z) := HXw5.out.below hb7 (cell_block (HXw5.out.cell 0 (by omega)))
      clear hb7 H84 H85 HXw5 HKw5 HB5 HB4
      go_wp2_with (refine wpList_buildC (by rfl) 26 #[(0, .const (.int .i64 1))] (by rfl) (entC E1).toArray (by simp only [List.map_toArray, List.map_cons, List.map_nil, Act.eval]; exact HBU.out) ?_)
      refine (HC1.out w7 (HALL.out _ HB7.out).1).mono ?_
      rintro r w8 ⟨rfl, hb8⟩
      have HB8 : Hid (Below w2.heap.size w2 w8) := HB7.out.trans (hb8.mono HB7.out.size)
      have H88 : Hid (DAt w8 g8 0 Z) := H87.out.below hb8 (cell_block (H87.out.cell 0 (by omega)))
      have H98 : Hid (DAt w8 g9 0 Z) := H97.out.below hb8 (cell_block (H97.out.cell 0 (by omega)))
      clear hb8 H87 H97
      obtain ⟨g12, hg12⟩ : ∃ g12, w8.heap.size = g12 := ⟨_, rfl⟩
      obtain ⟨w9, hw9⟩ : ∃ w9, w8.alloc (.cells (cellsB zD).toArray 24) = w9 := ⟨_, rfl⟩
      have HTw9 : Hid (w9.there g12 0 32) := by rw [← hw9]; exact alloc_thereAt _ _ _ 32 _ hg12 zD_size.symm
      have HKw9 : Hid (Below w8.heap.size w8 (w9.setCells g12 0 (cellsB L))) := below_setCells _ (by rw [hg12]; exact Nat.le_refl _) _ _ _ (by rw [← hw9]; exact (Below.refl _ _).alloc (Nat.le_refl _) _)
      have HXw9 : Hid (DAt (w9.setCells g12 0 (cellsB L)) g12 0 L) := dat_stored HTw9.out lL
      have HB10 : Hid (Below w2.heap.size w2 (w9.setCells g12 0 (cellsB L))) := HB8.out.trans (HKw9.out.mono HB8.out.size)
      have HKK : Hid (∀ wx, Below (w9.setCells g12 0 (cellsB L)).heap.size (w9.setCells g12 0 (cellsB L)) wx → wx.rangeAt g9 0 (cellsB Z) ∧ wx.rangeAt g8 0 (cellsB Z) ∧ wx.rangeAt g12 0 (cellsB L) ∧ Below w.heap.size w wx) := fun wx hx => by
        have b8 : Below w8.heap.size w8 wx := HKw9.out.trans (hx.mono HKw9.out.size)
        exact ⟨H98.out.below b8 (cell_block (H98.out.cell 0 (by omega))), H88.out.below b8 (cell_block (H88.out.cell 0 (by omega))), HXw9.out.below hx (cell_block (HXw9.out.cell 0 (by omega))), (HALL.out _ (HB10.out.trans (hx.mono HB10.out.size))).2.2.2.2⟩
      go_upto_region 11 with (first
        | (refine wpList_allocE (by rfl) 24 (by rfl) (cellsB zD).toArray Tryd.zeroDg g12 hg12 w9 hw9 ?_)
        | (refine wpList_store_mid (by rfl) 24 (.tmp 12) (.tmp 37) (by rfl) g12 0 (cellsB L).toArray (by rfl) (by rfl) (by rw [cellsB_size, lL]; exact HTw9.out) (by rw [cellsB_size, lL]; exact Tryd.sizeDg) (all_oneCell_toArray (cellsB_one _)) ?_))
      generalize w9.setCells g12 0 (cellsB L) = w10 at *
      clear hw9 HTw9 hg12 HKw9 HXw9 H88 H98
      try simp only [Act.put, List.setIfInBounds_toArray, List.set_cons_zero, List.set_cons_succ]
      refine wp_region_noPanic ?_
      refine wp_region_held_drew (S := fun wx => wx.rangeAt g9 0 (cellsB Z) ∧ wx.rangeAt g8 0 (cellsB Z) ∧ wx.rangeAt g12 0 (cellsB L)) (by kernel_rfl) ⟨(HKK.out _ (below_drewN w10 1)).1, (HKK.out _ (below_drewN w10 1)).2.1, (HKK.out _ (below_drewN w10 1)).2.2.1⟩ (fun hHeld => ?_)
      try simp only [Act.put, List.setIfInBounds_toArray, List.set_cons_zero, List.set_cons_succ]
      have HBd : Hid (Below w10.heap.size w10 w10.drew) := below_drewN w10 1
      generalize w10.drew = wd at *
      refine wpAnyH_take (i := 0) (v := ?_) (by simp only [List.getElem?_toArray, List.getElem?_cons_zero, List.getElem?_cons_succ]; rfl) (by kernel_rfl) (by kernel_rfl) (by kernel_rfl) (fun _ _ _ h => h) (Or.inl ⟨by rfl, ?_⟩) hHeld ?_
      rotate_left
      · intro w hSw
        obtain ⟨hSw0, hSw1, hSw2⟩ := hSw
        go_simp
        try with_reducible rfl
      try simp only [Act.put, List.setIfInBounds_toArray, List.set_cons_zero, List.set_cons_succ]
      refine wpAnyH_take (i := 1) (v := ?_) (by simp only [List.getElem?_toArray, List.getElem?_cons_zero, List.getElem?_cons_succ]; rfl) (by kernel_rfl) (by kernel_rfl) (by kernel_rfl) (fun _ _ _ h => h) (Or.inl ⟨by rfl, ?_⟩) hHeld ?_
      rotate_left
      · intro w hSw
        obtain ⟨hSw0, hSw1, hSw2⟩ := hSw
        go_simp
        try with_reducible rfl
      try simp only [Act.put, List.setIfInBounds_toArray, List.set_cons_zero, List.set_cons_succ]
      refine wpAnyH_take (i := 2) (v := .agg (cellsB Z).toArray) (by simp only [List.getElem?_toArray, List.getElem?_cons_zero, List.getElem?_cons_succ]; rfl) (by kernel_rfl) (by kernel_rfl) (by kernel_rfl) (fun _ _ _ h => h)
        (yieldsIf_load_mid (by rfl) _ _ rfl _ _ rfl _ _ (fun w hw => hw.1) Tryd.underlying24 rfl (by rw [cellsB_length, lZ]; exact Tryd.sizeDg)) hHeld ?_
      try simp only [Act.put, List.setIfInBounds_toArray, List.set_cons_zero, List.set_cons_succ]
      refine wpAnyH_take (i := 3) (v := .agg (cellsB Z).toArray) (by simp only [List.getElem?_toArray, List.getElem?_cons_zero, List.getElem?_cons_succ]; rfl) (by kernel_rfl) (by kernel_rfl) (by kernel_rfl) (fun _ _ _ h => h)
        (yieldsIf_load_mid (by rfl) _ _ rfl _ _ rfl _ _ (fun w hw => hw.2.1) Tryd.underlying24 rfl (by rw [cellsB_length, lZ]; exact Tryd.sizeDg)) hHeld ?_
      try simp only [Act.put, List.setIfInBounds_toArray, List.set_cons_zero, List.set_cons_succ]
      refine wpAnyH_take (i := 4) (v := .bool true) (by simp only [List.getElem?_toArray, List.getElem?_cons_zero, List.getElem?_cons_succ]; rfl) (by kernel_rfl) (by kernel_rfl) (by kernel_rfl) (fun _ _ _ h => h)
        (yieldsIf_eqD (by rfl) _ _ rfl Z Z lZ lZ rfl rfl true (decide_eq_true rfl)) hHeld ?_
      try simp only [Act.put, List.setIfInBounds_toArray, List.set_cons_zero, List.set_cons_succ]
      refine wpAnyH_take (i := 5) (v := ?_) (by simp only [List.getElem?_toArray, List.getElem?_cons_zero, List.getElem?_cons_succ]; rfl) (by kernel_rfl) (by kernel_rfl) (by kernel_rfl) (fun _ _ _ h => h) (Or.inl ⟨by rfl, ?_⟩) hHeld ?_
      rotate_left
      · intro w hSw
        obtain ⟨hSw0, hSw1, hSw2⟩ := hSw
        go_simp
        try with_reducible rfl
      try simp only [Act.put, List.setIfInBounds_toArray, List.set_cons_zero, List.set_cons_succ]
      refine wpAnyH_take (i := 6) (v := ?_) (by simp only [List.getElem?_toArray, List.getElem?_cons_zero, List.getElem?_cons_succ]; rfl) (by kernel_rfl) (by kernel_rfl) (by kernel_rfl) (fun _ _ _ h => h) (Or.inl ⟨by rfl, ?_⟩) hHeld ?_
      rotate_left
      · intro w hSw
        obtain ⟨hSw0, hSw1, hSw2⟩ := hSw
        go_simp
        try with_reducible rfl
      try simp only [Act.put, List.setIfInBounds_toArray, List.set_cons_zero, List.set_cons_succ]
      refine wpAnyH_take (i := 7) (v := ?_) (by simp only [List.getElem?_toArray, List.getElem?_cons_zero, List.getElem?_cons_succ]; rfl) (by kernel_rfl) (by kernel_rfl) (by kernel_rfl) (fun _ _ _ h => h) (Or.inl ⟨by rfl, ?_⟩) hHeld ?_
      rotate_left
      · intro w hSw
        obtain ⟨hSw0, hSw1, hSw2⟩ := hSw
        go_simp
        try with_reducible rfl
      try simp only [Act.put, List.setIfInBounds_toArray, List.set_cons_zero, List.set_cons_succ]
      refine wpAnyH_take (i := 8) (v := ?_) (by simp only [List.getElem?_toArray, List.getElem?_cons_zero, List.getElem?_cons_succ]; rfl) (by kernel_rfl) (by kernel_rfl) (by kernel_rfl) (fun _ _ _ h => h) (Or.inl ⟨by rfl, ?_⟩) hHeld ?_
      rotate_left
      · intro w hSw
        obtain ⟨hSw0, hSw1, hSw2⟩ := hSw
        go_simp
        try with_reducible rfl
      try simp only [Act.put, List.setIfInBounds_toArray, List.set_cons_zero, List.set_cons_succ]
      refine wpAnyH_take (i := 9) (v := ?_) (by simp only [List.getElem?_toArray, List.getElem?_cons_zero, List.getElem?_cons_succ]; rfl) (by kernel_rfl) (by kernel_rfl) (by kernel_rfl) (fun _ _ _ h => h) (Or.inl ⟨by rfl, ?_⟩) hHeld ?_
      rotate_left
      · intro w hSw
        obtain ⟨hSw0, hSw1, hSw2⟩ := hSw
        go_simp
        try with_reducible rfl
      try simp only [Act.put, List.setIfInBounds_toArray, List.set_cons_zero, List.set_cons_succ]
      refine wpAnyH_take (i := 10) (v := ?_) (by simp only [List.getElem?_toArray, List.getElem?_cons_zero, List.getElem?_cons_succ]; rfl) (by kernel_rfl) (by kernel_rfl) (by kernel_rfl) (fun _ _ _ h => h) (Or.inl ⟨by rfl, ?_⟩) hHeld ?_
      rotate_left
      · intro w hSw
        obtain ⟨hSw0, hSw1, hSw2⟩ := hSw
        go_simp
        try with_reducible rfl
      try simp only [Act.put, List.setIfInBounds_toArray, List.set_cons_zero, List.set_cons_succ]
      refine wpAnyH_take (i := 11) (v := .agg (cellsB L).toArray) (by simp only [List.getElem?_toArray, List.getElem?_cons_zero, List.getElem?_cons_succ]; rfl) (by kernel_rfl) (by kernel_rfl) (by kernel_rfl) (fun _ _ _ h => h)
        (yieldsIf_load_mid (by rfl) _ _ rfl _ _ rfl _ _ (fun w hw => hw.2.2) Tryd.underlying24 rfl (by rw [cellsB_length, lL]; exact Tryd.sizeDg)) hHeld ?_
      try simp only [Act.put, List.setIfInBounds_toArray, List.set_cons_zero, List.set_cons_succ]
      refine wpAnyH_ready (rs := [12]) (by kernel_rfl) (by simp) ?_
      refine AllReadyH.cons (by simp only [List.getElem?_toArray, List.getElem?_cons_zero, List.getElem?_cons_succ]; rfl) (fun K hK => ?_) AllReadyH.nil
      rw [if_pos (by rfl)]
      go_simp
      refine (HNO.out wd).mono ?_
      rintro r we ⟨rfl, hbx⟩
      have HBe : Hid (Below w10.heap.size w10 we) := HBd.out.trans (hbx.mono HBd.out.size)
      clear hbx
      go_wp2_with fail
      refine hK.out _ _ ⟨(HKK.out _ HBe.out).1, (HKK.out _ HBe.out).2.1, (HKK.out _ HBe.out).2.2.1⟩ (fun hHeld => ?_)
      clear hK K
      try simp only [Act.put, List.setIfInBounds_toArray, List.set_cons_zero, List.set_cons_succ]
      refine wpAnyH_take (i := 13) (v := .bool true) (by simp only [List.getElem?_toArray, List.getElem?_cons_zero, List.getElem?_cons_succ]; rfl) (by kernel_rfl) (by kernel_rfl) (by kernel_rfl) (fun _ _ _ h => h)
        (yieldsIf_neqD (by rfl) _ _ rfl L Z lL lZ rfl rfl true HDL.out) hHeld ?_
      try simp only [Act.put, List.setIfInBounds_toArray, List.set_cons_zero, List.set_cons_succ]
      refine wpAnyH_take (i := 14) (v := ?_) (by simp only [List.getElem?_toArray, List.getElem?_cons_zero, List.getElem?_cons_succ]; rfl) (by kernel_rfl) (by kernel_rfl) (by kernel_rfl) (fun _ _ _ h => h) (Or.inl ⟨by rfl, ?_⟩) hHeld ?_
      rotate_left
      · intro w hSw
        obtain ⟨hSw0, hSw1, hSw2⟩ := hSw
        go_simp
        try with_reducible rfl
      try simp only [Act.put, List.setIfInBounds_toArray, List.set_cons_zero, List.set_cons_succ]
      refine wpAnyH_take (i := 15) (v := ?_) (by simp only [List.getElem?_toArray, List.getElem?_cons_zero, List.getElem?_cons_succ]; rfl) (by kernel_rfl) (by kernel_rfl) (by kernel_rfl) (fun _ _ _ h => h) (Or.inl ⟨by rfl, ?_⟩) hHeld ?_
      rotate_left
      · intro w hSw
        obtain ⟨hSw0, hSw1, hSw2⟩ := hSw
        go_simp
        try with_reducible rfl
      try simp only [Act.put, List.setIfInBounds_toArray, List.set_cons_zero, List.set_cons_succ]
      refine wpAnyH_done (by kernel_rfl) (NoPanic.normal ?_) _
      clear hHeld
      go_wp2_with fail
      go_ret
      exact ⟨rfl, (HKK.out _ HBe.out).2.2.2⟩
end Go.Proofs.YtbhoijnhpmkglaaDoor
