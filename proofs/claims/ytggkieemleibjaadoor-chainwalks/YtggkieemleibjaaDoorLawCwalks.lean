/- The law ChainWalks: the program's steps are the document's. -/
import Derived.Test.YtggkieemleibjaaDoorWcstep
import Derived.Test.YtggkieemleibjaaDoorRwalk
import Derived.Test.YtggkieemleibjaaDoorZd
import Derived.Test.YtggkieemleibjaaDoorSameH
import Derived.Test.YtggkieemleibjaaDoorTold
import Derived.Deep.RegionHeld3
namespace Go.Proofs.YtggkieemleibjaaDoor
open Go.RowKit
set_option linter.unusedVariables false
set_option linter.unusedSimpArgs false

set_option maxRecDepth 100000 in
set_option maxHeartbeats 2000000 in
theorem cwalks_walk (d : List UInt8) (m : Int) (w : World) (G : Env w) (HH : Handle w) (hd : d.length = 32) (m1 : -9223372036854775808 ≤ m) (m2 : m ≤ 9223372036854775807) :
    Calls Tryd.prog 3 #[digestV d, .int .i64 m] w fun e w' => e = .returned (.bool true) ∧ Below w.heap.size w w' := by
  obtain ⟨w2, hw2⟩ : ∃ w2, (w.alloc (.cells (cellsB d).toArray 23)).alloc (.cells (cellsB zD).toArray 23) = w2 := ⟨_, rfl⟩
  have hs1 : (w.alloc (.cells (cellsB d).toArray 23)).heap.size = w.heap.size + 1 := by simp
  have HS2 : Hid (w2.heap.size = w.heap.size + 1 + 1) := by unfold Hid; rw [← hw2]; simp
  have HD2 : Hid (DAt w2 w.heap.size 0 d) := by rw [← hw2]; exact World.rangeAt_alloc (box_dat w d _) _
  have HT2 : Hid (w2.there (w.heap.size + 1) 0 32) := by rw [← hw2]; exact alloc_thereAt _ _ _ 32 _ hs1 zD_size.symm
  have HZ2 : Hid (DAt w2 (w.heap.size + 1) 0 zD) := by rw [← hw2]; exact box_rangeAt _ _ _ _ hs1
  have HB2 : Hid (Below w.heap.size w w2) := by rw [← hw2]; exact ((Below.refl _ _).alloc (Nat.le_refl _) _).alloc (by simp) _
  have HGW : Hid (Env w ∧ Handle w) := ⟨G, HH⟩
  have HG : Hid (Env w2 ∧ Handle w2) := ⟨G.below HB2.out, HH.below HB2.out⟩
  have lz : zD.length = 32 := rfl
  have HLZ : Hid (zD.length = 32) := lz
  clear G HH lz
  go_enter Tryd.func3, Tryd.ntmps3
  by_cases hr : m < 0 ∨ 1000 < m
  · have HM : Hid (m < 0 ∨ 1000 < m) := hr
    by_cases h0 : m < 0
    · clear hr
      go_wp2_with (first
          | (refine wpList_allocE (by rfl) 23 (by rfl) (cellsB zD).toArray Tryd.zeroDg (w.heap.size + 1) hs1 w2 hw2 ?_)
          | (refine wpList_load_mid (by rfl) 23 (.tmp 2) (by rfl) w.heap.size 0 (by rfl) (cellsB d) _ HD2.out Tryd.underlying23 (by rfl) (by rw [cellsB_length, hd]; exact Tryd.sizeDg) ?_))
      clear hw2 hs1
      have hs2 := HS2.out
      have HD3 : Hid (DAt w2 w.heap.size 0 d ∧ DAt w2 (w.heap.size + 1) 0 zD ∧ w.heap.size + 1 < w2.heap.size ∧ w.heap.size ≤ w2.heap.size ∧ Below w.heap.size w w2) := ⟨HD2.out, HZ2.out, by omega, by omega, HB2.out⟩
      have HENV : Hid (∀ wx, Below w2.heap.size w2 wx → Env wx) := fun wx hx => HG.out.1.below hx
      clear hs2
      refine (wchain_out d m w2 HG.out.1 hd HM.out).mono ?_
      rintro e w5 ⟨rfl, hb5⟩
      have hX := HLZ.out
      have HB5 : Hid (Below w2.heap.size w2 w5) := hb5
      clear hb5
      generalize zD = X at *
      obtain ⟨w6, hw6⟩ : ∃ w6, w5.alloc (.cells (cellsB zD).toArray 23) = w6 := ⟨_, rfl⟩
      have ht6 : Hid (w6.there w5.heap.size 0 32) := by rw [← hw6]; exact alloc_thereAt _ _ _ 32 _ rfl zD_size.symm
      have hb7 : Below w5.heap.size w5 (w6.setCells w5.heap.size 0 (cellsB X)) := by rw [← hw6]; exact new_stored _ _ _
      have HB7 : Hid (Below w2.heap.size w2 (w6.setCells w5.heap.size 0 (cellsB X))) := HB5.out.trans (hb7.mono HB5.out.size)
      have HX7 : Hid (DAt (w6.setCells w5.heap.size 0 (cellsB X)) w5.heap.size 0 X ∧ w5.heap.size < (w6.setCells w5.heap.size 0 (cellsB X)).heap.size) := ⟨dat_stored ht6.out hX, cell_block ((dat_stored ht6.out hX).cell 0 (by omega))⟩
      clear hb7 HB5
      generalize hw7 : w6.setCells w5.heap.size 0 (cellsB X) = w7 at *
      go_wp2_with (first
        | (refine wpList_allocE (by rfl) 23 (by rfl) (cellsB zD).toArray Tryd.zeroDg w5.heap.size rfl w6 hw6 ?_)
        | (refine wpList_store_mid (by rfl) 23 (.tmp 7) (.tmp 23) (by rfl) w5.heap.size 0 (cellsB X).toArray (by rfl) (by rfl) (by rw [cellsB_size, hX]; exact ht6.out) (by rw [cellsB_size, hX]; exact Tryd.sizeDg) (all_oneCell_toArray (cellsB_one _)) ?_; rw [show (cellsB X).toArray.toList = cellsB X from rfl, hw7]))
      clear hw6 hw7 ht6
      generalize w5.heap.size = g7 at *
      refine (error_errno 2 2 _ (HG.out.2.below HB7.out)).mono ?_
      rintro e w8 ⟨rfl, hb8⟩
      rw [show decide ((2 : Int) = 2) = true from rfl]
      have HB8 : Hid (Below w2.heap.size w2 w8) := HB7.out.trans (hb8.mono HB7.out.size)
      have HX8 : Hid (DAt w8 g7 0 X ∧ g7 < w8.heap.size) := ⟨HX7.out.1.below hb8 HX7.out.2, Nat.lt_of_lt_of_le HX7.out.2 hb8.size⟩
      clear hb8 HB7 HX7
      have HKEEP : Hid (∀ wx, Below w8.heap.size w8 wx → wx.rangeAt w.heap.size 0 (cellsB d) ∧ wx.rangeAt g7 0 (cellsB X) ∧ wx.rangeAt (w.heap.size + 1) 0 (cellsB X)) := fun wx hx => by
        have h3 : Below w2.heap.size w2 wx := HB8.out.trans (hx.mono HB8.out.size)
        exact ⟨HD3.out.1.below h3 (by have := HD3.out.2.2.1; omega), HX8.out.1.below hx HX8.out.2, HD3.out.2.1.below h3 HD3.out.2.2.1⟩
      have HSD : Hid ((walkL d 1).length = 32) := walkL_length hd 1
      go_wp2_with fail
      refine wp_region_noPanic ?_
      refine wp_region_held_drew (S := fun w' => w'.rangeAt w.heap.size 0 (cellsB d) ∧ w'.rangeAt g7 0 (cellsB X) ∧ w'.rangeAt (w.heap.size + 1) 0 (cellsB X)) (by kernel_rfl) (HKEEP.out _ (below_drewN w8 1)) (fun hHeld => ?_)
      try simp only [Act.put, List.setIfInBounds_toArray, List.set_cons_zero, List.set_cons_succ]
      have HBd : Hid (Below w8.heap.size w8 w8.drew) := below_drewN w8 1
      generalize w8.drew = wd at *
      refine wpAnyH_take (i := 0) (v := ?_) (by simp only [List.getElem?_toArray, List.getElem?_cons_zero, List.getElem?_cons_succ]; rfl) (by kernel_rfl) (by kernel_rfl) (by kernel_rfl) (fun _ _ _ h => h) (Or.inl ⟨by rfl, ?_⟩) hHeld ?_
      rotate_left
      · intro w hSw
        go_simp
        try with_reducible rfl
      try simp only [Act.put, List.setIfInBounds_toArray, List.set_cons_zero, List.set_cons_succ]
      refine wpAnyH_take (i := 1) (v := ?_) (by simp only [List.getElem?_toArray, List.getElem?_cons_zero, List.getElem?_cons_succ]; rfl) (by kernel_rfl) (by kernel_rfl) (by kernel_rfl) (fun _ _ _ h => h) (Or.inl ⟨by rfl, ?_⟩) hHeld ?_
      rotate_left
      · intro w hSw
        go_simp
        try with_reducible rfl
      try simp only [Act.put, List.setIfInBounds_toArray, List.set_cons_zero, List.set_cons_succ]
      refine wpAnyH_take (i := 2) (v := .agg (cellsB X).toArray) (by simp only [List.getElem?_toArray, List.getElem?_cons_zero, List.getElem?_cons_succ]; rfl) (by kernel_rfl) (by kernel_rfl) (by kernel_rfl) (fun _ _ _ h => h)
        (yieldsIf_load_mid (by rfl) _ _ rfl _ _ rfl _ _ (fun w hw => hw.2.1) Tryd.underlying23 rfl (by rw [cellsB_length, hX]; exact Tryd.sizeDg)) hHeld ?_
      try simp only [Act.put, List.setIfInBounds_toArray, List.set_cons_zero, List.set_cons_succ]
      refine wpAnyH_take (i := 3) (v := .agg (cellsB X).toArray) (by simp only [List.getElem?_toArray, List.getElem?_cons_zero, List.getElem?_cons_succ]; rfl) (by kernel_rfl) (by kernel_rfl) (by kernel_rfl) (fun _ _ _ h => h)
        (yieldsIf_load_mid (by rfl) _ _ rfl _ _ rfl _ _ (fun w hw => hw.2.2) Tryd.underlying23 rfl (by rw [cellsB_length, hX]; exact Tryd.sizeDg)) hHeld ?_
      try simp only [Act.put, List.setIfInBounds_toArray, List.set_cons_zero, List.set_cons_succ]
      refine wpAnyH_take (i := 4) (v := .bool true) (by simp only [List.getElem?_toArray, List.getElem?_cons_zero, List.getElem?_cons_succ]; rfl) (by kernel_rfl) (by kernel_rfl) (by kernel_rfl) (fun _ _ _ h => h)
        (yieldsIf_eqD (by rfl) _ _ rfl X X hX hX rfl rfl true (decide_eq_true rfl)) hHeld ?_
      try simp only [Act.put, List.setIfInBounds_toArray, List.set_cons_zero, List.set_cons_succ]
      refine wpAnyH_take (i := 5) (v := ?_) (by simp only [List.getElem?_toArray, List.getElem?_cons_zero, List.getElem?_cons_succ]; rfl) (by kernel_rfl) (by kernel_rfl) (by kernel_rfl) (fun _ _ _ h => h) (Or.inl ⟨by rfl, ?_⟩) hHeld ?_
      rotate_left
      · intro w hSw
        go_simp
        try with_reducible rfl
      try simp only [Act.put, List.setIfInBounds_toArray, List.set_cons_zero, List.set_cons_succ]
      refine wpAnyH_take (i := 6) (v := ?_) (by simp only [List.getElem?_toArray, List.getElem?_cons_zero, List.getElem?_cons_succ]; rfl) (by kernel_rfl) (by kernel_rfl) (by kernel_rfl) (fun _ _ _ h => h) (Or.inl ⟨by rfl, ?_⟩) hHeld ?_
      rotate_left
      · intro w hSw
        go_simp
        try with_reducible rfl
      try simp only [Act.put, List.setIfInBounds_toArray, List.set_cons_zero, List.set_cons_succ]
      refine wpAnyH_take (i := 7) (v := .agg (cellsB d).toArray) (by simp only [List.getElem?_toArray, List.getElem?_cons_zero, List.getElem?_cons_succ]; rfl) (by kernel_rfl) (by kernel_rfl) (by kernel_rfl) (fun _ _ _ h => h)
        (yieldsIf_load_mid (by rfl) _ _ rfl _ _ rfl _ _ (fun w hw => hw.1) Tryd.underlying23 rfl (by rw [cellsB_length, hd]; exact Tryd.sizeDg)) hHeld ?_
      try simp only [Act.put, List.setIfInBounds_toArray, List.set_cons_zero, List.set_cons_succ]
      refine wpAnyH_take (i := 9) (v := .agg (cellsB d).toArray) (by simp only [List.getElem?_toArray, List.getElem?_cons_zero, List.getElem?_cons_succ]; rfl) (by kernel_rfl) (by kernel_rfl) (by kernel_rfl) (fun _ _ _ h => h)
        (yieldsIf_load_mid (by rfl) _ _ rfl _ _ rfl _ _ (fun w hw => hw.1) Tryd.underlying23 rfl (by rw [cellsB_length, hd]; exact Tryd.sizeDg)) hHeld ?_
      try simp only [Act.put, List.setIfInBounds_toArray, List.set_cons_zero, List.set_cons_succ]
      refine wpAnyH_ready (rs := [8]) (by kernel_rfl) (by simp) ?_
      refine AllReadyH.cons (by simp only [List.getElem?_toArray, List.getElem?_cons_zero, List.getElem?_cons_succ]; rfl) (fun K hK => ?_) AllReadyH.nil
      rw [if_pos (by rfl)]
      go_simp
      refine (wchain_step d wd (HENV.out _ (HB8.out.trans (HBd.out.mono HB8.out.size))) hd).mono ?_
      rintro e w9 ⟨rfl, hb9⟩
      have HB9 : Hid (Below w8.heap.size w8 w9) := HBd.out.trans (hb9.mono HBd.out.size)
      clear hb9
      go_wp2_with fail
      refine hK.out _ _ (HKEEP.out _ HB9.out) (fun hHeld => ?_)
      clear hK K
      try simp only [Act.put, List.setIfInBounds_toArray, List.set_cons_zero, List.set_cons_succ]
      refine wpAnyH_ready (rs := [10]) (by kernel_rfl) (by simp) ?_
      refine AllReadyH.cons (by simp only [List.getElem?_toArray, List.getElem?_cons_zero, List.getElem?_cons_succ]; rfl) (fun K hK => ?_) AllReadyH.nil
      rw [if_pos (by rfl)]
      go_simp
      have C10 := rwalk_any d 1 w9 hd (by omega)
      refine C10.mono ?_
      clear C10
      rintro e wA ⟨rfl, hbA⟩
      have HBA : Hid (Below w8.heap.size w8 wA) := HB9.out.trans (hbA.mono HB9.out.size)
      clear hbA
      go_wp2_with fail
      refine hK.out _ _ (HKEEP.out _ HBA.out) (fun hHeld => ?_)
      clear hK K
      try simp only [Act.put, List.setIfInBounds_toArray, List.set_cons_zero, List.set_cons_succ]
      refine wpAnyH_take (i := 11) (v := .bool true) (by simp only [List.getElem?_toArray, List.getElem?_cons_zero, List.getElem?_cons_succ]; rfl) (by kernel_rfl) (by kernel_rfl) (by kernel_rfl) (fun _ _ _ h => h)
        (yieldsIf_eqD (by rfl) _ _ rfl (walkL d 1) (walkL d 1) HSD.out HSD.out rfl rfl true (decide_eq_true rfl)) hHeld ?_
      try simp only [Act.put, List.setIfInBounds_toArray, List.set_cons_zero, List.set_cons_succ]
      refine wpAnyH_take (i := 12) (v := ?_) (by simp only [List.getElem?_toArray, List.getElem?_cons_zero, List.getElem?_cons_succ]; rfl) (by kernel_rfl) (by kernel_rfl) (by kernel_rfl) (fun _ _ _ h => h) (Or.inl ⟨by rfl, ?_⟩) hHeld ?_
      rotate_left
      · intro w hSw
        go_simp
        try with_reducible rfl
      try simp only [Act.put, List.setIfInBounds_toArray, List.set_cons_zero, List.set_cons_succ]
      refine wpAnyH_take (i := 13) (v := ?_) (by simp only [List.getElem?_toArray, List.getElem?_cons_zero, List.getElem?_cons_succ]; rfl) (by kernel_rfl) (by kernel_rfl) (by kernel_rfl) (fun _ _ _ h => h) (Or.inl ⟨by rfl, ?_⟩) hHeld ?_
      rotate_left
      · intro w hSw
        go_simp
        try with_reducible rfl
      try simp only [Act.put, List.setIfInBounds_toArray, List.set_cons_zero, List.set_cons_succ]
      refine wpAnyH_done (by kernel_rfl) (NoPanic.normal ?_) _
      clear hHeld
      go_wp2
      go_ret
      exact ⟨rfl, HD3.out.2.2.2.2.trans ((HB8.out.trans (HBA.out.mono HB8.out.size)).mono HD3.out.2.2.2.1)⟩
    · have h3 : 1000 < m := by omega
      clear hr
      go_wp2_with (first
          | (refine wpList_allocE (by rfl) 23 (by rfl) (cellsB zD).toArray Tryd.zeroDg (w.heap.size + 1) hs1 w2 hw2 ?_)
          | (refine wpList_load_mid (by rfl) 23 (.tmp 2) (by rfl) w.heap.size 0 (by rfl) (cellsB d) _ HD2.out Tryd.underlying23 (by rfl) (by rw [cellsB_length, hd]; exact Tryd.sizeDg) ?_))
      clear hw2 hs1
      have hs2 := HS2.out
      have HD3 : Hid (DAt w2 w.heap.size 0 d ∧ DAt w2 (w.heap.size + 1) 0 zD ∧ w.heap.size + 1 < w2.heap.size ∧ w.heap.size ≤ w2.heap.size ∧ Below w.heap.size w w2) := ⟨HD2.out, HZ2.out, by omega, by omega, HB2.out⟩
      have HENV : Hid (∀ wx, Below w2.heap.size w2 wx → Env wx) := fun wx hx => HG.out.1.below hx
      clear hs2
      refine (wchain_out d m w2 HG.out.1 hd HM.out).mono ?_
      rintro e w5 ⟨rfl, hb5⟩
      have hX := HLZ.out
      have HB5 : Hid (Below w2.heap.size w2 w5) := hb5
      clear hb5
      generalize zD = X at *
      obtain ⟨w6, hw6⟩ : ∃ w6, w5.alloc (.cells (cellsB zD).toArray 23) = w6 := ⟨_, rfl⟩
      have ht6 : Hid (w6.there w5.heap.size 0 32) := by rw [← hw6]; exact alloc_thereAt _ _ _ 32 _ rfl zD_size.symm
      have hb7 : Below w5.heap.size w5 (w6.setCells w5.heap.size 0 (cellsB X)) := by rw [← hw6]; exact new_stored _ _ _
      have HB7 : Hid (Below w2.heap.size w2 (w6.setCells w5.heap.size 0 (cellsB X))) := HB5.out.trans (hb7.mono HB5.out.size)
      have HX7 : Hid (DAt (w6.setCells w5.heap.size 0 (cellsB X)) w5.heap.size 0 X ∧ w5.heap.size < (w6.setCells w5.heap.size 0 (cellsB X)).heap.size) := ⟨dat_stored ht6.out hX, cell_block ((dat_stored ht6.out hX).cell 0 (by omega))⟩
      clear hb7 HB5
      generalize hw7 : w6.setCells w5.heap.size 0 (cellsB X) = w7 at *
      go_wp2_with (first
        | (refine wpList_allocE (by rfl) 23 (by rfl) (cellsB zD).toArray Tryd.zeroDg w5.heap.size rfl w6 hw6 ?_)
        | (refine wpList_store_mid (by rfl) 23 (.tmp 7) (.tmp 23) (by rfl) w5.heap.size 0 (cellsB X).toArray (by rfl) (by rfl) (by rw [cellsB_size, hX]; exact ht6.out) (by rw [cellsB_size, hX]; exact Tryd.sizeDg) (all_oneCell_toArray (cellsB_one _)) ?_; rw [show (cellsB X).toArray.toList = cellsB X from rfl, hw7]))
      clear hw6 hw7 ht6
      generalize w5.heap.size = g7 at *
      refine (error_errno 2 2 _ (HG.out.2.below HB7.out)).mono ?_
      rintro e w8 ⟨rfl, hb8⟩
      rw [show decide ((2 : Int) = 2) = true from rfl]
      have HB8 : Hid (Below w2.heap.size w2 w8) := HB7.out.trans (hb8.mono HB7.out.size)
      have HX8 : Hid (DAt w8 g7 0 X ∧ g7 < w8.heap.size) := ⟨HX7.out.1.below hb8 HX7.out.2, Nat.lt_of_lt_of_le HX7.out.2 hb8.size⟩
      clear hb8 HB7 HX7
      have HKEEP : Hid (∀ wx, Below w8.heap.size w8 wx → wx.rangeAt w.heap.size 0 (cellsB d) ∧ wx.rangeAt g7 0 (cellsB X) ∧ wx.rangeAt (w.heap.size + 1) 0 (cellsB X)) := fun wx hx => by
        have h3 : Below w2.heap.size w2 wx := HB8.out.trans (hx.mono HB8.out.size)
        exact ⟨HD3.out.1.below h3 (by have := HD3.out.2.2.1; omega), HX8.out.1.below hx HX8.out.2, HD3.out.2.1.below h3 HD3.out.2.2.1⟩
      have HSD : Hid ((walkL d 1).length = 32) := walkL_length hd 1
      go_wp2_with fail
      refine wp_region_noPanic ?_
      refine wp_region_held_drew (S := fun w' => w'.rangeAt w.heap.size 0 (cellsB d) ∧ w'.rangeAt g7 0 (cellsB X) ∧ w'.rangeAt (w.heap.size + 1) 0 (cellsB X)) (by kernel_rfl) (HKEEP.out _ (below_drewN w8 1)) (fun hHeld => ?_)
      try simp only [Act.put, List.setIfInBounds_toArray, List.set_cons_zero, List.set_cons_succ]
      have HBd : Hid (Below w8.heap.size w8 w8.drew) := below_drewN w8 1
      generalize w8.drew = wd at *
      refine wpAnyH_take (i := 0) (v := ?_) (by simp only [List.getElem?_toArray, List.getElem?_cons_zero, List.getElem?_cons_succ]; rfl) (by kernel_rfl) (by kernel_rfl) (by kernel_rfl) (fun _ _ _ h => h) (Or.inl ⟨by rfl, ?_⟩) hHeld ?_
      rotate_left
      · intro w hSw
        go_simp
        try with_reducible rfl
      try simp only [Act.put, List.setIfInBounds_toArray, List.set_cons_zero, List.set_cons_succ]
      refine wpAnyH_take (i := 1) (v := ?_) (by simp only [List.getElem?_toArray, List.getElem?_cons_zero, List.getElem?_cons_succ]; rfl) (by kernel_rfl) (by kernel_rfl) (by kernel_rfl) (fun _ _ _ h => h) (Or.inl ⟨by rfl, ?_⟩) hHeld ?_
      rotate_left
      · intro w hSw
        go_simp
        try with_reducible rfl
      try simp only [Act.put, List.setIfInBounds_toArray, List.set_cons_zero, List.set_cons_succ]
      refine wpAnyH_take (i := 2) (v := .agg (cellsB X).toArray) (by simp only [List.getElem?_toArray, List.getElem?_cons_zero, List.getElem?_cons_succ]; rfl) (by kernel_rfl) (by kernel_rfl) (by kernel_rfl) (fun _ _ _ h => h)
        (yieldsIf_load_mid (by rfl) _ _ rfl _ _ rfl _ _ (fun w hw => hw.2.1) Tryd.underlying23 rfl (by rw [cellsB_length, hX]; exact Tryd.sizeDg)) hHeld ?_
      try simp only [Act.put, List.setIfInBounds_toArray, List.set_cons_zero, List.set_cons_succ]
      refine wpAnyH_take (i := 3) (v := .agg (cellsB X).toArray) (by simp only [List.getElem?_toArray, List.getElem?_cons_zero, List.getElem?_cons_succ]; rfl) (by kernel_rfl) (by kernel_rfl) (by kernel_rfl) (fun _ _ _ h => h)
        (yieldsIf_load_mid (by rfl) _ _ rfl _ _ rfl _ _ (fun w hw => hw.2.2) Tryd.underlying23 rfl (by rw [cellsB_length, hX]; exact Tryd.sizeDg)) hHeld ?_
      try simp only [Act.put, List.setIfInBounds_toArray, List.set_cons_zero, List.set_cons_succ]
      refine wpAnyH_take (i := 4) (v := .bool true) (by simp only [List.getElem?_toArray, List.getElem?_cons_zero, List.getElem?_cons_succ]; rfl) (by kernel_rfl) (by kernel_rfl) (by kernel_rfl) (fun _ _ _ h => h)
        (yieldsIf_eqD (by rfl) _ _ rfl X X hX hX rfl rfl true (decide_eq_true rfl)) hHeld ?_
      try simp only [Act.put, List.setIfInBounds_toArray, List.set_cons_zero, List.set_cons_succ]
      refine wpAnyH_take (i := 5) (v := ?_) (by simp only [List.getElem?_toArray, List.getElem?_cons_zero, List.getElem?_cons_succ]; rfl) (by kernel_rfl) (by kernel_rfl) (by kernel_rfl) (fun _ _ _ h => h) (Or.inl ⟨by rfl, ?_⟩) hHeld ?_
      rotate_left
      · intro w hSw
        go_simp
        try with_reducible rfl
      try simp only [Act.put, List.setIfInBounds_toArray, List.set_cons_zero, List.set_cons_succ]
      refine wpAnyH_take (i := 6) (v := ?_) (by simp only [List.getElem?_toArray, List.getElem?_cons_zero, List.getElem?_cons_succ]; rfl) (by kernel_rfl) (by kernel_rfl) (by kernel_rfl) (fun _ _ _ h => h) (Or.inl ⟨by rfl, ?_⟩) hHeld ?_
      rotate_left
      · intro w hSw
        go_simp
        try with_reducible rfl
      try simp only [Act.put, List.setIfInBounds_toArray, List.set_cons_zero, List.set_cons_succ]
      refine wpAnyH_take (i := 7) (v := .agg (cellsB d).toArray) (by simp only [List.getElem?_toArray, List.getElem?_cons_zero, List.getElem?_cons_succ]; rfl) (by kernel_rfl) (by kernel_rfl) (by kernel_rfl) (fun _ _ _ h => h)
        (yieldsIf_load_mid (by rfl) _ _ rfl _ _ rfl _ _ (fun w hw => hw.1) Tryd.underlying23 rfl (by rw [cellsB_length, hd]; exact Tryd.sizeDg)) hHeld ?_
      try simp only [Act.put, List.setIfInBounds_toArray, List.set_cons_zero, List.set_cons_succ]
      refine wpAnyH_take (i := 9) (v := .agg (cellsB d).toArray) (by simp only [List.getElem?_toArray, List.getElem?_cons_zero, List.getElem?_cons_succ]; rfl) (by kernel_rfl) (by kernel_rfl) (by kernel_rfl) (fun _ _ _ h => h)
        (yieldsIf_load_mid (by rfl) _ _ rfl _ _ rfl _ _ (fun w hw => hw.1) Tryd.underlying23 rfl (by rw [cellsB_length, hd]; exact Tryd.sizeDg)) hHeld ?_
      try simp only [Act.put, List.setIfInBounds_toArray, List.set_cons_zero, List.set_cons_succ]
      refine wpAnyH_ready (rs := [8]) (by kernel_rfl) (by simp) ?_
      refine AllReadyH.cons (by simp only [List.getElem?_toArray, List.getElem?_cons_zero, List.getElem?_cons_succ]; rfl) (fun K hK => ?_) AllReadyH.nil
      rw [if_pos (by rfl)]
      go_simp
      refine (wchain_step d wd (HENV.out _ (HB8.out.trans (HBd.out.mono HB8.out.size))) hd).mono ?_
      rintro e w9 ⟨rfl, hb9⟩
      have HB9 : Hid (Below w8.heap.size w8 w9) := HBd.out.trans (hb9.mono HBd.out.size)
      clear hb9
      go_wp2_with fail
      refine hK.out _ _ (HKEEP.out _ HB9.out) (fun hHeld => ?_)
      clear hK K
      try simp only [Act.put, List.setIfInBounds_toArray, List.set_cons_zero, List.set_cons_succ]
      refine wpAnyH_ready (rs := [10]) (by kernel_rfl) (by simp) ?_
      refine AllReadyH.cons (by simp only [List.getElem?_toArray, List.getElem?_cons_zero, List.getElem?_cons_succ]; rfl) (fun K hK => ?_) AllReadyH.nil
      rw [if_pos (by rfl)]
      go_simp
      have C10 := rwalk_any d 1 w9 hd (by omega)
      refine C10.mono ?_
      clear C10
      rintro e wA ⟨rfl, hbA⟩
      have HBA : Hid (Below w8.heap.size w8 wA) := HB9.out.trans (hbA.mono HB9.out.size)
      clear hbA
      go_wp2_with fail
      refine hK.out _ _ (HKEEP.out _ HBA.out) (fun hHeld => ?_)
      clear hK K
      try simp only [Act.put, List.setIfInBounds_toArray, List.set_cons_zero, List.set_cons_succ]
      refine wpAnyH_take (i := 11) (v := .bool true) (by simp only [List.getElem?_toArray, List.getElem?_cons_zero, List.getElem?_cons_succ]; rfl) (by kernel_rfl) (by kernel_rfl) (by kernel_rfl) (fun _ _ _ h => h)
        (yieldsIf_eqD (by rfl) _ _ rfl (walkL d 1) (walkL d 1) HSD.out HSD.out rfl rfl true (decide_eq_true rfl)) hHeld ?_
      try simp only [Act.put, List.setIfInBounds_toArray, List.set_cons_zero, List.set_cons_succ]
      refine wpAnyH_take (i := 12) (v := ?_) (by simp only [List.getElem?_toArray, List.getElem?_cons_zero, List.getElem?_cons_succ]; rfl) (by kernel_rfl) (by kernel_rfl) (by kernel_rfl) (fun _ _ _ h => h) (Or.inl ⟨by rfl, ?_⟩) hHeld ?_
      rotate_left
      · intro w hSw
        go_simp
        try with_reducible rfl
      try simp only [Act.put, List.setIfInBounds_toArray, List.set_cons_zero, List.set_cons_succ]
      refine wpAnyH_take (i := 13) (v := ?_) (by simp only [List.getElem?_toArray, List.getElem?_cons_zero, List.getElem?_cons_succ]; rfl) (by kernel_rfl) (by kernel_rfl) (by kernel_rfl) (fun _ _ _ h => h) (Or.inl ⟨by rfl, ?_⟩) hHeld ?_
      rotate_left
      · intro w hSw
        go_simp
        try with_reducible rfl
      try simp only [Act.put, List.setIfInBounds_toArray, List.set_cons_zero, List.set_cons_succ]
      refine wpAnyH_done (by kernel_rfl) (NoPanic.normal ?_) _
      clear hHeld
      go_wp2
      go_ret
      exact ⟨rfl, HD3.out.2.2.2.2.trans ((HB8.out.trans (HBA.out.mono HB8.out.size)).mono HD3.out.2.2.2.1)⟩
  · obtain ⟨n, rfl⟩ : ∃ n : Nat, m = (n : Int) := Int.eq_ofNat_of_zero_le (by omega)
    have hn : n ≤ 1000 := by omega
    have h3 : (n : Int) ≤ 1000 := by omega
    have h4 : (0 : Int) ≤ (n : Int) := by omega
    clear hr
    go_wp2_with (first
      | (refine wpList_allocE (by rfl) 23 (by rfl) (cellsB zD).toArray Tryd.zeroDg (w.heap.size + 1) hs1 w2 hw2 ?_)
      | (refine wpList_load_mid (by rfl) 23 (.tmp 2) (by rfl) w.heap.size 0 (by rfl) (cellsB d) _ HD2.out Tryd.underlying23 (by rfl) (by rw [cellsB_length, hd]; exact Tryd.sizeDg) ?_))
    clear hw2 hs1
    refine (rwalk_any d n w2 hd (by omega)).mono ?_
    rintro e wq ⟨rfl, hbq⟩
    have hX := walkL_length hd n
    have HWX : Hid (walkL d n = walkL d n) := rfl
    have hs2 := HS2.out
    have htq : Hid (wq.there (w.heap.size + 1) 0 32) := there_below HT2.out hbq (by omega)
    have HDq : Hid (DAt wq w.heap.size 0 d) := HD2.out.below hbq (by omega)
    have HBq : Hid (Below w2.heap.size w2 wq) := hbq
    have hsq := hbq.size
    have HCW : Hid (∀ wx, Env wx → Calls Tryd.prog 7 #[digestV d, .int .i64 (n : Int)] wx fun e w' => e = .returned (.tuple #[digestV (walkL d n), .nilIface]) ∧ Below wx.heap.size wx w') := fun wx hx => wchain_walk d n wx hx hd hn
    clear hbq
    generalize walkL d n = X at *
    have HD3 : Hid (DAt (wq.setCells (w.heap.size + 1) 0 (cellsB X)) w.heap.size 0 d ∧ DAt (wq.setCells (w.heap.size + 1) 0 (cellsB X)) (w.heap.size + 1) 0 X ∧ w.heap.size + 1 < (wq.setCells (w.heap.size + 1) 0 (cellsB X)).heap.size ∧ w.heap.size ≤ (wq.setCells (w.heap.size + 1) 0 (cellsB X)).heap.size ∧ Below w.heap.size w (wq.setCells (w.heap.size + 1) 0 (cellsB X))) := by
      have hz := (below_setCells (B := 0) (w.heap.size + 1) (Nat.zero_le _) (cellsB X) 0 wq (Below.refl 0 wq)).size
      exact ⟨World.rangeAt_setCells_apart HDq.out _ _ _ (.inl (by omega)), dat_stored htq.out hX, by omega, by omega, below_setCells _ (by omega) _ _ _ (HB2.out.trans (HBq.out.mono (by omega)))⟩
    have HENV : Hid (∀ wx, Below (wq.setCells (w.heap.size + 1) 0 (cellsB X)).heap.size (wq.setCells (w.heap.size + 1) 0 (cellsB X)) wx → Env wx) := fun wx hx => by
      have hz := (below_setCells (B := 0) (w.heap.size + 1) (Nat.zero_le _) (cellsB X) 0 wq (Below.refl 0 wq)).size
      have b1 : Below w.heap.size w wx := HD3.out.2.2.2.2.trans (hx.mono (by omega))
      exact HGW.out.1.below b1
    have HHD : Hid (∀ wx, Below (wq.setCells (w.heap.size + 1) 0 (cellsB X)).heap.size (wq.setCells (w.heap.size + 1) 0 (cellsB X)) wx → Handle wx) := fun wx hx => by
      have hz := (below_setCells (B := 0) (w.heap.size + 1) (Nat.zero_le _) (cellsB X) 0 wq (Below.refl 0 wq)).size
      have b1 : Below w.heap.size w wx := HD3.out.2.2.2.2.trans (hx.mono (by omega))
      exact HGW.out.2.below b1
    clear hs2 HBq HDq hsq HD2 HT2 HZ2
    generalize hw3 : wq.setCells (w.heap.size + 1) 0 (cellsB X) = w3 at *
    go_wp2_with (first
      | (refine wpList_store_mid (by rfl) 23 (.tmp 6) (.tmp 18) (by rfl) (w.heap.size + 1) 0 (cellsB X).toArray (by rfl) (by rfl) (by rw [cellsB_size, hX]; exact htq.out) (by rw [cellsB_size, hX]; exact Tryd.sizeDg) (all_oneCell_toArray (cellsB_one _)) ?_; rw [show (cellsB X).toArray.toList = cellsB X from rfl, hw3])
      | (refine wpList_load_mid (by rfl) 23 (.tmp 2) (by rfl) w.heap.size 0 (by rfl) (cellsB d) _ HD3.out.1 Tryd.underlying23 (by rfl) (by rw [cellsB_length, hd]; exact Tryd.sizeDg) ?_))
    clear hw3 htq
    refine (HCW.out w3 (HENV.out _ (Below.refl _ _))).mono ?_
    rintro e w5 ⟨rfl, hb5⟩
    have HB5 : Hid (Below w3.heap.size w3 w5) := hb5
    clear hb5 HCW HWX
    obtain ⟨w6, hw6⟩ : ∃ w6, w5.alloc (.cells (cellsB zD).toArray 23) = w6 := ⟨_, rfl⟩
    have ht6 : Hid (w6.there w5.heap.size 0 32) := by rw [← hw6]; exact alloc_thereAt _ _ _ 32 _ rfl zD_size.symm
    have hb7 : Below w5.heap.size w5 (w6.setCells w5.heap.size 0 (cellsB X)) := by rw [← hw6]; exact new_stored _ _ _
    have HB7 : Hid (Below w3.heap.size w3 (w6.setCells w5.heap.size 0 (cellsB X))) := HB5.out.trans (hb7.mono HB5.out.size)
    have HX7 : Hid (DAt (w6.setCells w5.heap.size 0 (cellsB X)) w5.heap.size 0 X ∧ w5.heap.size < (w6.setCells w5.heap.size 0 (cellsB X)).heap.size) := ⟨dat_stored ht6.out hX, cell_block ((dat_stored ht6.out hX).cell 0 (by omega))⟩
    clear hb7 HB5
    generalize hw7 : w6.setCells w5.heap.size 0 (cellsB X) = w7 at *
    go_wp2_with (first
      | (refine wpList_allocE (by rfl) 23 (by rfl) (cellsB zD).toArray Tryd.zeroDg w5.heap.size rfl w6 hw6 ?_)
      | (refine wpList_store_mid (by rfl) 23 (.tmp 7) (.tmp 23) (by rfl) w5.heap.size 0 (cellsB X).toArray (by rfl) (by rfl) (by rw [cellsB_size, hX]; exact ht6.out) (by rw [cellsB_size, hX]; exact Tryd.sizeDg) (all_oneCell_toArray (cellsB_one _)) ?_; rw [show (cellsB X).toArray.toList = cellsB X from rfl, hw7]))
    clear hw6 hw7 ht6
    generalize w5.heap.size = g7 at *
    refine (error_nil 0 _).mono ?_
    rintro e w8 ⟨rfl, hb8⟩
    rw [show decide ((0 : Int) = 0) = true from rfl]
    have HB8 : Hid (Below w3.heap.size w3 w8) := HB7.out.trans (hb8.mono HB7.out.size)
    have HX8 : Hid (DAt w8 g7 0 X ∧ g7 < w8.heap.size) := ⟨HX7.out.1.below hb8 HX7.out.2, Nat.lt_of_lt_of_le HX7.out.2 hb8.size⟩
    clear hb8 HB7 HX7
    have HKEEP : Hid (∀ wx, Below w8.heap.size w8 wx → wx.rangeAt w.heap.size 0 (cellsB d) ∧ wx.rangeAt g7 0 (cellsB X) ∧ wx.rangeAt (w.heap.size + 1) 0 (cellsB X)) := fun wx hx => by
      have h3 : Below w3.heap.size w3 wx := HB8.out.trans (hx.mono HB8.out.size)
      exact ⟨HD3.out.1.below h3 (by have := HD3.out.2.2.1; omega), HX8.out.1.below hx HX8.out.2, HD3.out.2.1.below h3 HD3.out.2.2.1⟩
    have HSD : Hid ((walkL d 1).length = 32) := walkL_length hd 1
    go_wp2_with fail
    refine wp_region_noPanic ?_
    refine wp_region_held_drew (S := fun w' => w'.rangeAt w.heap.size 0 (cellsB d) ∧ w'.rangeAt g7 0 (cellsB X) ∧ w'.rangeAt (w.heap.size + 1) 0 (cellsB X)) (by kernel_rfl) (HKEEP.out _ (below_drewN w8 1)) (fun hHeld => ?_)
    try simp only [Act.put, List.setIfInBounds_toArray, List.set_cons_zero, List.set_cons_succ]
    have HBd : Hid (Below w8.heap.size w8 w8.drew) := below_drewN w8 1
    generalize w8.drew = wd at *
    refine wpAnyH_take (i := 0) (v := ?_) (by simp only [List.getElem?_toArray, List.getElem?_cons_zero, List.getElem?_cons_succ]; rfl) (by kernel_rfl) (by kernel_rfl) (by kernel_rfl) (fun _ _ _ h => h) (Or.inl ⟨by rfl, ?_⟩) hHeld ?_
    rotate_left
    · intro w hSw
      go_simp
      try with_reducible rfl
    try simp only [Act.put, List.setIfInBounds_toArray, List.set_cons_zero, List.set_cons_succ]
    refine wpAnyH_take (i := 1) (v := ?_) (by simp only [List.getElem?_toArray, List.getElem?_cons_zero, List.getElem?_cons_succ]; rfl) (by kernel_rfl) (by kernel_rfl) (by kernel_rfl) (fun _ _ _ h => h) (Or.inl ⟨by rfl, ?_⟩) hHeld ?_
    rotate_left
    · intro w hSw
      go_simp
      try with_reducible rfl
    try simp only [Act.put, List.setIfInBounds_toArray, List.set_cons_zero, List.set_cons_succ]
    refine wpAnyH_take (i := 2) (v := .agg (cellsB X).toArray) (by simp only [List.getElem?_toArray, List.getElem?_cons_zero, List.getElem?_cons_succ]; rfl) (by kernel_rfl) (by kernel_rfl) (by kernel_rfl) (fun _ _ _ h => h)
      (yieldsIf_load_mid (by rfl) _ _ rfl _ _ rfl _ _ (fun w hw => hw.2.1) Tryd.underlying23 rfl (by rw [cellsB_length, hX]; exact Tryd.sizeDg)) hHeld ?_
    try simp only [Act.put, List.setIfInBounds_toArray, List.set_cons_zero, List.set_cons_succ]
    refine wpAnyH_take (i := 3) (v := .agg (cellsB X).toArray) (by simp only [List.getElem?_toArray, List.getElem?_cons_zero, List.getElem?_cons_succ]; rfl) (by kernel_rfl) (by kernel_rfl) (by kernel_rfl) (fun _ _ _ h => h)
      (yieldsIf_load_mid (by rfl) _ _ rfl _ _ rfl _ _ (fun w hw => hw.2.2) Tryd.underlying23 rfl (by rw [cellsB_length, hX]; exact Tryd.sizeDg)) hHeld ?_
    try simp only [Act.put, List.setIfInBounds_toArray, List.set_cons_zero, List.set_cons_succ]
    refine wpAnyH_take (i := 4) (v := .bool true) (by simp only [List.getElem?_toArray, List.getElem?_cons_zero, List.getElem?_cons_succ]; rfl) (by kernel_rfl) (by kernel_rfl) (by kernel_rfl) (fun _ _ _ h => h)
      (yieldsIf_eqD (by rfl) _ _ rfl X X hX hX rfl rfl true (decide_eq_true rfl)) hHeld ?_
    try simp only [Act.put, List.setIfInBounds_toArray, List.set_cons_zero, List.set_cons_succ]
    refine wpAnyH_take (i := 5) (v := ?_) (by simp only [List.getElem?_toArray, List.getElem?_cons_zero, List.getElem?_cons_succ]; rfl) (by kernel_rfl) (by kernel_rfl) (by kernel_rfl) (fun _ _ _ h => h) (Or.inl ⟨by rfl, ?_⟩) hHeld ?_
    rotate_left
    · intro w hSw
      go_simp
      try with_reducible rfl
    try simp only [Act.put, List.setIfInBounds_toArray, List.set_cons_zero, List.set_cons_succ]
    refine wpAnyH_take (i := 6) (v := ?_) (by simp only [List.getElem?_toArray, List.getElem?_cons_zero, List.getElem?_cons_succ]; rfl) (by kernel_rfl) (by kernel_rfl) (by kernel_rfl) (fun _ _ _ h => h) (Or.inl ⟨by rfl, ?_⟩) hHeld ?_
    rotate_left
    · intro w hSw
      go_simp
      try with_reducible rfl
    try simp only [Act.put, List.setIfInBounds_toArray, List.set_cons_zero, List.set_cons_succ]
    refine wpAnyH_take (i := 7) (v := .agg (cellsB d).toArray) (by simp only [List.getElem?_toArray, List.getElem?_cons_zero, List.getElem?_cons_succ]; rfl) (by kernel_rfl) (by kernel_rfl) (by kernel_rfl) (fun _ _ _ h => h)
      (yieldsIf_load_mid (by rfl) _ _ rfl _ _ rfl _ _ (fun w hw => hw.1) Tryd.underlying23 rfl (by rw [cellsB_length, hd]; exact Tryd.sizeDg)) hHeld ?_
    try simp only [Act.put, List.setIfInBounds_toArray, List.set_cons_zero, List.set_cons_succ]
    refine wpAnyH_take (i := 9) (v := .agg (cellsB d).toArray) (by simp only [List.getElem?_toArray, List.getElem?_cons_zero, List.getElem?_cons_succ]; rfl) (by kernel_rfl) (by kernel_rfl) (by kernel_rfl) (fun _ _ _ h => h)
      (yieldsIf_load_mid (by rfl) _ _ rfl _ _ rfl _ _ (fun w hw => hw.1) Tryd.underlying23 rfl (by rw [cellsB_length, hd]; exact Tryd.sizeDg)) hHeld ?_
    try simp only [Act.put, List.setIfInBounds_toArray, List.set_cons_zero, List.set_cons_succ]
    refine wpAnyH_ready (rs := [8]) (by kernel_rfl) (by simp) ?_
    refine AllReadyH.cons (by simp only [List.getElem?_toArray, List.getElem?_cons_zero, List.getElem?_cons_succ]; rfl) (fun K hK => ?_) AllReadyH.nil
    rw [if_pos (by rfl)]
    go_simp
    refine (wchain_step d wd (HENV.out _ (HB8.out.trans (HBd.out.mono HB8.out.size))) hd).mono ?_
    rintro e w9 ⟨rfl, hb9⟩
    have HB9 : Hid (Below w8.heap.size w8 w9) := HBd.out.trans (hb9.mono HBd.out.size)
    clear hb9
    go_wp2_with fail
    refine hK.out _ _ (HKEEP.out _ HB9.out) (fun hHeld => ?_)
    clear hK K
    try simp only [Act.put, List.setIfInBounds_toArray, List.set_cons_zero, List.set_cons_succ]
    refine wpAnyH_ready (rs := [10]) (by kernel_rfl) (by simp) ?_
    refine AllReadyH.cons (by simp only [List.getElem?_toArray, List.getElem?_cons_zero, List.getElem?_cons_succ]; rfl) (fun K hK => ?_) AllReadyH.nil
    rw [if_pos (by rfl)]
    go_simp
    have C10 := rwalk_any d 1 w9 hd (by omega)
    refine C10.mono ?_
    clear C10
    rintro e wA ⟨rfl, hbA⟩
    have HBA : Hid (Below w8.heap.size w8 wA) := HB9.out.trans (hbA.mono HB9.out.size)
    clear hbA
    go_wp2_with fail
    refine hK.out _ _ (HKEEP.out _ HBA.out) (fun hHeld => ?_)
    clear hK K
    try simp only [Act.put, List.setIfInBounds_toArray, List.set_cons_zero, List.set_cons_succ]
    refine wpAnyH_take (i := 11) (v := .bool true) (by simp only [List.getElem?_toArray, List.getElem?_cons_zero, List.getElem?_cons_succ]; rfl) (by kernel_rfl) (by kernel_rfl) (by kernel_rfl) (fun _ _ _ h => h)
      (yieldsIf_eqD (by rfl) _ _ rfl (walkL d 1) (walkL d 1) HSD.out HSD.out rfl rfl true (decide_eq_true rfl)) hHeld ?_
    try simp only [Act.put, List.setIfInBounds_toArray, List.set_cons_zero, List.set_cons_succ]
    refine wpAnyH_take (i := 12) (v := ?_) (by simp only [List.getElem?_toArray, List.getElem?_cons_zero, List.getElem?_cons_succ]; rfl) (by kernel_rfl) (by kernel_rfl) (by kernel_rfl) (fun _ _ _ h => h) (Or.inl ⟨by rfl, ?_⟩) hHeld ?_
    rotate_left
    · intro w hSw
      go_simp
      try with_reducible rfl
    try simp only [Act.put, List.setIfInBounds_toArray, List.set_cons_zero, List.set_cons_succ]
    refine wpAnyH_take (i := 13) (v := ?_) (by simp only [List.getElem?_toArray, List.getElem?_cons_zero, List.getElem?_cons_succ]; rfl) (by kernel_rfl) (by kernel_rfl) (by kernel_rfl) (fun _ _ _ h => h) (Or.inl ⟨by rfl, ?_⟩) hHeld ?_
    rotate_left
    · intro w hSw
      go_simp
      try with_reducible rfl
    try simp only [Act.put, List.setIfInBounds_toArray, List.set_cons_zero, List.set_cons_succ]
    refine wpAnyH_done (by kernel_rfl) (NoPanic.normal ?_) _
    clear hHeld
    go_wp2
    go_ret
    exact ⟨rfl, HD3.out.2.2.2.2.trans ((HB8.out.trans (HBA.out.mono HB8.out.size)).mono HD3.out.2.2.2.1)⟩
end Go.Proofs.YtggkieemleibjaaDoor
