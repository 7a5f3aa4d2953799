/- The law WotsTells: the program's keys of chains are the document's. -/
import Derived.Test.YtdplajhebapkgaaDoorJ17
import Derived.Test.YtdplajhebapkgaaDoorJ18
import Derived.Test.YtdplajhebapkgaaDoorJ19
import Derived.Deep.RegionHeld3
namespace Go.Proofs.YtdplajhebapkgaaDoor
open Go.RowKit
set_option linter.unusedVariables false
set_option linter.unusedSimpArgs false

theorem wotsPubL_length (seed : List UInt8) : (wotsPubL seed).length = 32 := shaL_length _
theorem wotsKeyL_length (m : List UInt8) (sig : List (List UInt8)) : (wotsKeyL m sig).length = 32 := shaL_length _

set_option maxRecDepth 100000 in
set_option maxHeartbeats 2000000 in
theorem wtells_walk (seed m : List UInt8) (a : Option Addr) (n c : Nat) (sig : List (List UInt8)) (w : World) (G : Env w) (HH : Handle w) (hs : seed.length = 32) (hm : m.length = 32) (R : DRow w a n sig) (hc : n ≤ c) (hn : 32 * n ≤ 140737488351232) :
    Calls Tryd.prog 3 #[digestV seed, digestV m, .slice a n c] w fun e w' => e = .returned (.bool true) ∧ Below w.heap.size w w' := by
  obtain ⟨w2, hw2⟩ : ∃ w2, (w.alloc (.cells (cellsB seed).toArray 23)).alloc (.cells (cellsB m).toArray 23) = w2 := ⟨_, rfl⟩
  have hs1 : (w.alloc (.cells (cellsB seed).toArray 23)).heap.size = w.heap.size + 1 := by simp
  have HS2 : Hid (w2.heap.size = w.heap.size + 1 + 1) := by unfold Hid; rw [← hw2]; simp
  have HB2 : Hid (Below w.heap.size w w2) := by rw [← hw2]; exact ((Below.refl _ _).alloc (Nat.le_refl _) _).alloc (by simp) _
  have HK : Hid (∀ wx, Below w2.heap.size w2 wx → DAt wx w.heap.size 0 seed ∧ DAt wx (w.heap.size + 1) 0 m ∧ Env wx ∧ Handle wx ∧ DRow wx a n sig ∧ Below w.heap.size w wx) := fun wx hx => by
    have b : Below w.heap.size w wx := HB2.out.trans (hx.mono (by have := HS2.out; omega))
    have s2 := HS2.out
    refine ⟨?_, ?_, G.below b, HH.below b, R.below b, b⟩
    · refine DAt.below ?_ hx (by omega)
      rw [← hw2]; exact World.rangeAt_alloc (box_dat w seed _) _
    · refine DAt.below ?_ hx (by omega)
      rw [← hw2]; exact box_rangeAt _ _ _ _ hs1
  have HSn : Hid (∀ wx, Below w2.heap.size w2 wx → w.heap.size + 1 < wx.heap.size) := fun wx hx => by have := HS2.out; have := hx.size; omega
  have HKS : Hid (∀ wx, Below w2.heap.size w2 wx → wx.rangeAt w.heap.size 0 (cellsB seed) ∧ wx.rangeAt (w.heap.size + 1) 0 (cellsB m)) := fun wx hx => ⟨(HK.out wx hx).1, (HK.out wx hx).2.1⟩
  clear G HH R
  have H0 : Hid (Below w2.heap.size w2 w2) := Below.refl _ _
  go_enter Tryd.func3, Tryd.ntmps3
  go_wp2_with fail
  try rw [hw2]
  refine wp_region_noPanic ?_
  refine wp_region_held_drew (S := fun w' => w'.rangeAt w.heap.size 0 (cellsB seed) ∧ w'.rangeAt (w.heap.size + 1) 0 (cellsB m)) (by kernel_rfl) (HKS.out _ H0.out.drew) (fun hHeld => ?_)
  try simp only [Act.put, List.setIfInBounds_toArray, List.set_cons_zero, List.set_cons_succ]
  have HB3 : Hid (Below w2.heap.size w2 w2.drew) := H0.out.drew
  clear hw2 hs1 HS2 H0
  generalize w2.drew = w3 at *
  refine wpAnyH_take (i := 0) (v := .agg (cellsB m).toArray) (by simp only [List.getElem?_toArray, List.getElem?_cons_zero, List.getElem?_cons_succ]; rfl) (by kernel_rfl) (by kernel_rfl) (by kernel_rfl) (fun _ _ _ h => h)
    (yieldsIf_load_mid (by rfl) _ _ rfl _ _ rfl _ _ (fun w hw => hw.2) Tryd.underlying23 rfl (by rw [cellsB_length, hm]; exact Tryd.sizeDg)) hHeld ?_
  try simp only [Act.put, List.setIfInBounds_toArray, List.set_cons_zero, List.set_cons_succ]
  refine wpAnyH_take (i := 2) (v := .agg (cellsB m).toArray) (by simp only [List.getElem?_toArray, List.getElem?_cons_zero, List.getElem?_cons_succ]; rfl) (by kernel_rfl) (by kernel_rfl) (by kernel_rfl) (fun _ _ _ h => h)
    (yieldsIf_load_mid (by rfl) _ _ rfl _ _ rfl _ _ (fun w hw => hw.2) Tryd.underlying23 rfl (by rw [cellsB_length, hm]; exact Tryd.sizeDg)) hHeld ?_
  try simp only [Act.put, List.setIfInBounds_toArray, List.set_cons_zero, List.set_cons_succ]
  refine wpAnyH_ready (rs := [1]) (by kernel_rfl) (by simp) ?_
  refine AllReadyH.cons (by simp only [List.getElem?_toArray, List.getElem?_cons_zero, List.getElem?_cons_succ]; rfl) (fun K hK => ?_) AllReadyH.nil
  rw [if_pos (by rfl)]
  go_simp
  refine (wwots_digits m w3 (HK.out _ HB3.out).2.2.1 hm).mono ?_
  rintro e w4 ⟨⟨a4, c4, rfl, hc4, r4⟩, hb4⟩
  have HB4 : Hid (Below w2.heap.size w2 w4) := HB3.out.trans (hb4.mono HB3.out.size)
  have HR4 : Hid (IRow w4 a4 67 (digsL m 67)) := r4
  clear hb4 r4 HB3
  go_wp2_with fail
  refine hK.out _ _ (HKS.out _ HB4.out) (fun hHeld => ?_)
  clear hK K
  try simp only [Act.put, List.setIfInBounds_toArray, List.set_cons_zero, List.set_cons_succ]
  refine wpAnyH_ready (rs := [3]) (by kernel_rfl) (by simp) ?_
  refine AllReadyH.cons (by simp only [List.getElem?_toArray, List.getElem?_cons_zero, List.getElem?_cons_succ]; rfl) (fun K hK => ?_) AllReadyH.nil
  rw [if_pos (by rfl)]
  go_simp
  refine (rnib_any m w4 hm).mono ?_
  rintro e w5 ⟨⟨a5, c5, rfl, hc5, r5⟩, hb5⟩
  have HB5 : Hid (Below w2.heap.size w2 w5) := HB4.out.trans (hb5.mono HB4.out.size)
  have HR5 : Hid (IRow w5 a4 67 (digsL m 67) ∧ IRow w5 a5 67 (digsL m 67)) := ⟨HR4.out.below hb5, r5⟩
  clear hb5 r5 HB4 HR4
  generalize digsL m 67 = DL at *
  go_wp2_with fail
  refine hK.out _ _ (HKS.out _ HB5.out) (fun hHeld => ?_)
  clear hK K
  try simp only [Act.put, List.setIfInBounds_toArray, List.set_cons_zero, List.set_cons_succ]
  refine wpAnyH_ready (rs := [4]) (by kernel_rfl) (by simp) ?_
  refine AllReadyH.cons (by simp only [List.getElem?_toArray, List.getElem?_cons_zero, List.getElem?_cons_succ]; rfl) (fun K hK => ?_) AllReadyH.nil
  rw [if_pos (by rfl)]
  go_simp
  refine (sints_any a4 a5 67 67 c4 c5 DL DL w5 HR5.out.1 HR5.out.2 (by omega)).mono ?_
  rintro e w6 ⟨rfl, q6, rfl⟩
  rw [decide_eq_true rfl]
  have HB6 : Hid (Below w2.heap.size w2 (w5.drewN q6)) := HB5.out.trans ((below_drewN w5 q6).mono HB5.out.size)
  clear HB5 HR5
  generalize w5.drewN q6 = w6 at *
  go_wp2_with fail
  refine hK.out _ _ (HKS.out _ HB6.out) (fun hHeld => ?_)
  clear hK K
  try simp only [Act.put, List.setIfInBounds_toArray, List.set_cons_zero, List.set_cons_succ]
  refine wpAnyH_take (i := 5) (v := ?_) (by simp only [List.getElem?_toArray, List.getElem?_cons_zero, List.getElem?_cons_succ]; rfl) (by kernel_rfl) (by kernel_rfl) (by kernel_rfl) (fun _ _ _ h => h) (Or.inl ⟨by rfl, ?_⟩) hHeld ?_
  rotate_left
  · intro w hSw
    obtain ⟨hSw0, hSw1⟩ := hSw
    go_simp
    try with_reducible rfl
  try simp only [Act.put, List.setIfInBounds_toArray, List.set_cons_zero, List.set_cons_succ]
  refine wpAnyH_done (by kernel_rfl) (NoPanic.normal ?_) _
  clear hHeld
  go_wp2_with fail
  refine wp_region_noPanic ?_
  refine wp_region_held_drew (S := fun w' => w'.rangeAt w.heap.size 0 (cellsB seed) ∧ w'.rangeAt (w.heap.size + 1) 0 (cellsB m)) (by kernel_rfl) (HKS.out _ HB6.out.drew) (fun hHeld => ?_)
  try simp only [Act.put, List.setIfInBounds_toArray, List.set_cons_zero, List.set_cons_succ]
  have HB7 : Hid (Below w2.heap.size w2 w6.drew) := HB6.out.drew
  clear HB6
  generalize w6.drew = w7 at *
  refine wpAnyH_take (i := 0) (v := .agg (cellsB seed).toArray) (by simp only [List.getElem?_toArray, List.getElem?_cons_zero, List.getElem?_cons_succ]; rfl) (by kernel_rfl) (by kernel_rfl) (by kernel_rfl) (fun _ _ _ h => h)
    (yieldsIf_load_mid (by rfl) _ _ rfl _ _ rfl _ _ (fun w hw => hw.1) Tryd.underlying23 rfl (by rw [cellsB_length, hs]; exact Tryd.sizeDg)) hHeld ?_
  try simp only [Act.put, List.setIfInBounds_toArray, List.set_cons_zero, List.set_cons_succ]
  refine wpAnyH_take (i := 1) (v := .agg (cellsB m).toArray) (by simp only [List.getElem?_toArray, List.getElem?_cons_zero, List.getElem?_cons_succ]; rfl) (by kernel_rfl) (by kernel_rfl) (by kernel_rfl) (fun _ _ _ h => h)
    (yieldsIf_load_mid (by rfl) _ _ rfl _ _ rfl _ _ (fun w hw => hw.2) Tryd.underlying23 rfl (by rw [cellsB_length, hm]; exact Tryd.sizeDg)) hHeld ?_
  try simp only [Act.put, List.setIfInBounds_toArray, List.set_cons_zero, List.set_cons_succ]
  refine wpAnyH_take (i := 3) (v := .agg (cellsB seed).toArray) (by simp only [List.getElem?_toArray, List.getElem?_cons_zero, List.getElem?_cons_succ]; rfl) (by kernel_rfl) (by kernel_rfl) (by kernel_rfl) (fun _ _ _ h => h)
    (yieldsIf_load_mid (by rfl) _ _ rfl _ _ rfl _ _ (fun w hw => hw.1) Tryd.underlying23 rfl (by rw [cellsB_length, hs]; exact Tryd.sizeDg)) hHeld ?_
  try simp only [Act.put, List.setIfInBounds_toArray, List.set_cons_zero, List.set_cons_succ]
  refine wpAnyH_take (i := 4) (v := .agg (cellsB m).toArray) (by simp only [List.getElem?_toArray, List.getElem?_cons_zero, List.getElem?_cons_succ]; rfl) (by kernel_rfl) (by kernel_rfl) (by kernel_rfl) (fun _ _ _ h => h)
    (yieldsIf_load_mid (by rfl) _ _ rfl _ _ rfl _ _ (fun w hw => hw.2) Tryd.underlying23 rfl (by rw [cellsB_length, hm]; exact Tryd.sizeDg)) hHeld ?_
  try simp only [Act.put, List.setIfInBounds_toArray, List.set_cons_zero, List.set_cons_succ]
  refine wpAnyH_ready (rs := [2]) (by kernel_rfl) (by simp) ?_
  refine AllReadyH.cons (by simp only [List.getElem?_toArray, List.getElem?_cons_zero, List.getElem?_cons_succ]; rfl) (fun K hK => ?_) AllReadyH.nil
  rw [if_pos (by rfl)]
  go_simp
  refine (wwots_sign seed m w7 (HK.out _ HB7.out).2.2.1 hs hm).mono ?_
  rintro e w8 ⟨⟨a8, c8, rfl, hc8, r8⟩, hb8⟩
  have HB8 : Hid (Below w2.heap.size w2 w8) := HB7.out.trans (hb8.mono HB7.out.size)
  have HR8 : Hid (DRow w8 a8 67 (wotsSigL seed m 67)) := r8
  clear hb8 r8 HB7
  go_wp2_with fail
  refine hK.out _ _ (HKS.out _ HB8.out) (fun hHeld => ?_)
  clear hK K
  try simp only [Act.put, List.setIfInBounds_toArray, List.set_cons_zero, List.set_cons_succ]
  refine wpAnyH_ready (rs := [5]) (by kernel_rfl) (by simp) ?_
  refine AllReadyH.cons (by simp only [List.getElem?_toArray, List.getElem?_cons_zero, List.getElem?_cons_succ]; rfl) (fun K hK => ?_) AllReadyH.nil
  rw [if_pos (by rfl)]
  go_simp
  refine (rwotsSigned_any seed m w8 hs hm).mono ?_
  rintro e w9 ⟨⟨a9, c9, rfl, hc9, r9⟩, hb9⟩
  have HB9 : Hid (Below w2.heap.size w2 w9) := HB8.out.trans (hb9.mono HB8.out.size)
  have HR9 : Hid (DRow w9 a8 67 (wotsSigL seed m 67) ∧ DRow w9 a9 67 (wotsSigL seed m 67)) := ⟨HR8.out.below hb9, r9⟩
  clear hb9 r9 HB8 HR8
  generalize wotsSigL seed m 67 = SL at *
  go_wp2_with fail
  refine hK.out _ _ (HKS.out _ HB9.out) (fun hHeld => ?_)
  clear hK K
  try simp only [Act.put, List.setIfInBounds_toArray, List.set_cons_zero, List.set_cons_succ]
  refine wpAnyH_ready (rs := [6]) (by kernel_rfl) (by simp) ?_
  refine AllReadyH.cons (by simp only [List.getElem?_toArray, List.getElem?_cons_zero, List.getElem?_cons_succ]; rfl) (fun K hK => ?_) AllReadyH.nil
  rw [if_pos (by rfl)]
  go_simp
  refine (sdigests_any a8 a9 67 67 c8 c9 SL SL w9 HR9.out.1 HR9.out.2 (by omega)).mono ?_
  rintro e wA ⟨rfl, hbA⟩
  rw [decide_eq_true rfl]
  have HBA : Hid (Below w2.heap.size w2 wA) := HB9.out.trans (hbA.mono HB9.out.size)
  clear hbA HB9 HR9
  go_wp2_with fail
  refine hK.out _ _ (HKS.out _ HBA.out) (fun hHeld => ?_)
  clear hK K
  try simp only [Act.put, List.setIfInBounds_toArray, List.set_cons_zero, List.set_cons_succ]
  refine wpAnyH_take (i := 7) (v := ?_) (by simp only [List.getElem?_toArray, List.getElem?_cons_zero, List.getElem?_cons_succ]; rfl) (by kernel_rfl) (by kernel_rfl) (by kernel_rfl) (fun _ _ _ h => h) (Or.inl ⟨by rfl, ?_⟩) hHeld ?_
  rotate_left
  · intro w hSw
    obtain ⟨hSw0, hSw1⟩ := hSw
    go_simp
    try with_reducible rfl
  try simp only [Act.put, List.setIfInBounds_toArray, List.set_cons_zero, List.set_cons_succ]
  refine wpAnyH_done (by kernel_rfl) (NoPanic.normal ?_) _
  clear hHeld
  have HB5 : Hid (Below w2.heap.size w2 wA) := HBA.out
  clear HBA
  generalize wA = w5 at *
  go_wp2_with fail
  refine wp_region_noPanic ?_
  refine wp_region_held_drew (S := fun w' => w'.rangeAt w.heap.size 0 (cellsB seed)) (by kernel_rfl) (HK.out _ HB5.out.drew).1 (fun hHeld => ?_)
  try simp only [Act.put, List.setIfInBounds_toArray, List.set_cons_zero, List.set_cons_succ]
  have HBd : Hid (Below w2.heap.size w2 w5.drew) := HB5.out.drew
  clear HB5
  generalize w5.drew = wd at *
  refine wpAnyH_take (i := 0) (v := ?_) (by simp only [List.getElem?_toArray, List.getElem?_cons_zero, List.getElem?_cons_succ]; rfl) (by kernel_rfl) (by kernel_rfl) (by kernel_rfl) (fun _ _ _ h => h) (Or.inl ⟨by rfl, ?_⟩) hHeld ?_
  rotate_left
  · intro w hSw
    go_simp
    try with_reducible rfl
  try simp only [Act.put, List.setIfInBounds_toArray, List.set_cons_zero, List.set_cons_succ]
  refine wpAnyH_take (i := 1) (v := ?_) (by simp only [List.getElem?_toArray, List.getElem?_cons_zero, List.getElem?_cons_succ]; rfl) (by kernel_rfl) (by kernel_rfl) (by kernel_rfl) (fun _ _ _ h => h) (Or.inl ⟨by rfl, ?_⟩) hHeld ?_
  rotate_left
  · intro w hSw
    go_simp
    try with_reducible rfl
  try simp only [Act.put, List.setIfInBounds_toArray, List.set_cons_zero, List.set_cons_succ]
  refine wpAnyH_take (i := 2) (v := ?_) (by simp only [List.getElem?_toArray, List.getElem?_cons_zero, List.getElem?_cons_succ]; rfl) (by kernel_rfl) (by kernel_rfl) (by kernel_rfl) (fun _ _ _ h => h) (Or.inl ⟨by rfl, ?_⟩) hHeld ?_
  rotate_left
  · intro w hSw
    go_simp
    try with_reducible rfl
  try simp only [Act.put, List.setIfInBounds_toArray, List.set_cons_zero, List.set_cons_succ]
  refine wpAnyH_take (i := 3) (v := ?_) (by simp only [List.getElem?_toArray, List.getElem?_cons_zero, List.getElem?_cons_succ]; rfl) (by kernel_rfl) (by kernel_rfl) (by kernel_rfl) (fun _ _ _ h => h) (Or.inl ⟨by rfl, ?_⟩) hHeld ?_
  rotate_left
  · intro w hSw
    go_simp
    try with_reducible rfl
  try simp only [Act.put, List.setIfInBounds_toArray, List.set_cons_zero, List.set_cons_succ]
  refine wpAnyH_take (i := 4) (v := ?_) (by simp only [List.getElem?_toArray, List.getElem?_cons_zero, List.getElem?_cons_succ]; rfl) (by kernel_rfl) (by kernel_rfl) (by kernel_rfl) (fun _ _ _ h => h) (Or.inl ⟨by rfl, ?_⟩) hHeld ?_
  rotate_left
  · intro w hSw
    go_simp
    try with_reducible rfl
  try simp only [Act.put, List.setIfInBounds_toArray, List.set_cons_zero, List.set_cons_succ]
  refine wpAnyH_take (i := 5) (v := ?_) (by simp only [List.getElem?_toArray, List.getElem?_cons_zero, List.getElem?_cons_succ]; rfl) (by kernel_rfl) (by kernel_rfl) (by kernel_rfl) (fun _ _ _ h => h) (Or.inl ⟨by rfl, ?_⟩) hHeld ?_
  rotate_left
  · intro w hSw
    go_simp
    try with_reducible rfl
  try simp only [Act.put, List.setIfInBounds_toArray, List.set_cons_zero, List.set_cons_succ]
  refine wpAnyH_take (i := 6) (v := ?_) (by simp only [List.getElem?_toArray, List.getElem?_cons_zero, List.getElem?_cons_succ]; rfl) (by kernel_rfl) (by kernel_rfl) (by kernel_rfl) (fun _ _ _ h => h) (Or.inl ⟨by rfl, ?_⟩) hHeld ?_
  rotate_left
  · intro w hSw
    go_simp
    try with_reducible rfl
  try simp only [Act.put, List.setIfInBounds_toArray, List.set_cons_zero, List.set_cons_succ]
  refine wpAnyH_take (i := 7) (v := .agg (cellsB seed).toArray) (by simp only [List.getElem?_toArray, List.getElem?_cons_zero, List.getElem?_cons_succ]; rfl) (by kernel_rfl) (by kernel_rfl) (by kernel_rfl) (fun _ _ _ h => h)
    (yieldsIf_load_mid (by rfl) _ _ rfl _ _ rfl _ _ (fun w hw => hw) Tryd.underlying23 rfl (by rw [cellsB_length, hs]; exact Tryd.sizeDg)) hHeld ?_
  try simp only [Act.put, List.setIfInBounds_toArray, List.set_cons_zero, List.set_cons_succ]
  refine wpAnyH_take (i := 9) (v := .agg (cellsB seed).toArray) (by simp only [List.getElem?_toArray, List.getElem?_cons_zero, List.getElem?_cons_succ]; rfl) (by kernel_rfl) (by kernel_rfl) (by kernel_rfl) (fun _ _ _ h => h)
    (yieldsIf_load_mid (by rfl) _ _ rfl _ _ rfl _ _ (fun w hw => hw) Tryd.underlying23 rfl (by rw [cellsB_length, hs]; exact Tryd.sizeDg)) hHeld ?_
  try simp only [Act.put, List.setIfInBounds_toArray, List.set_cons_zero, List.set_cons_succ]
  refine wpAnyH_ready (rs := [8]) (by kernel_rfl) (by simp) ?_
  refine AllReadyH.cons (by simp only [List.getElem?_toArray, List.getElem?_cons_zero, List.getElem?_cons_succ]; rfl) (fun K hK => ?_) AllReadyH.nil
  rw [if_pos (by rfl)]
  go_simp
  refine (wwots_public seed wd (HK.out _ HBd.out).2.2.1 hs).mono ?_
  rintro e w6 ⟨rfl, hb6⟩
  have HB6 : Hid (Below w2.heap.size w2 w6) := HBd.out.trans (hb6.mono HBd.out.size)
  have hPl := wotsPubL_length seed
  have HPE : Hid (∀ wx, Calls Tryd.prog 13 #[digestV seed] wx fun e w' => e = .returned (digestV (wotsPubL seed)) ∧ Below wx.heap.size wx w') := fun wx => rwotsPublic_any seed wx hs
  clear hb6 HBd
  generalize wotsPubL seed = P at *
  go_wp2_with fail
  refine hK.out _ _ (HK.out _ HB6.out).1 (fun hHeld => ?_)
  clear hK K
  try simp only [Act.put, List.setIfInBounds_toArray, List.set_cons_zero, List.set_cons_succ]
  refine wpAnyH_ready (rs := [10]) (by kernel_rfl) (by simp) ?_
  refine AllReadyH.cons (by simp only [List.getElem?_toArray, List.getElem?_cons_zero, List.getElem?_cons_succ]; rfl) (fun K hK => ?_) AllReadyH.nil
  rw [if_pos (by rfl)]
  go_simp
  refine (HPE.out w6).mono ?_
  rintro e w7 ⟨rfl, hb7⟩
  have HB7 : Hid (Below w2.heap.size w2 w7) := HB6.out.trans (hb7.mono HB6.out.size)
  clear hb7 HB6 HPE
  go_wp2_with fail
  refine hK.out _ _ (HK.out _ HB7.out).1 (fun hHeld => ?_)
  clear hK K
  try simp only [Act.put, List.setIfInBounds_toArray, List.set_cons_zero, List.set_cons_succ]
  refine wpAnyH_take (i := 11) (v := .bool false) (by simp only [List.getElem?_toArray, List.getElem?_cons_zero, List.getElem?_cons_succ]; rfl) (by kernel_rfl) (by kernel_rfl) (by kernel_rfl) (fun _ _ _ h => h)
    (yieldsIf_neqD (by rfl) _ _ rfl P P hPl hPl rfl rfl false (by simp)) hHeld ?_
  try simp only [Act.put, List.setIfInBounds_toArray, List.set_cons_zero, List.set_cons_succ]
  refine wpAnyH_take (i := 12) (v := ?_) (by simp only [List.getElem?_toArray, List.getElem?_cons_zero, List.getElem?_cons_succ]; rfl) (by kernel_rfl) (by kernel_rfl) (by kernel_rfl) (fun _ _ _ h => h) (Or.inl ⟨by rfl, ?_⟩) hHeld ?_
  rotate_left
  · intro w hSw
    go_simp
    try with_reducible rfl
  try simp only [Act.put, List.setIfInBounds_toArray, List.set_cons_zero, List.set_cons_succ]
  refine wpAnyH_done (by kernel_rfl) (NoPanic.normal ?_) _
  clear hHeld
  obtain ⟨w8, hw8⟩ : ∃ w8, w7.alloc (.cells (cellsB zD).toArray 23) = w8 := ⟨_, rfl⟩
  have hb8 : Below w7.heap.size w7 w8 := by rw [← hw8]; exact (Below.refl _ _).alloc (Nat.le_refl _) _
  have HB8 : Hid (Below w2.heap.size w2 w8) := HB7.out.trans (hb8.mono HB7.out.size)
  have HT8 : Hid (w8.there w7.heap.size 0 32) := by rw [← hw8]; exact alloc_thereAt _ _ _ 32 _ rfl zD_size.symm
  have HZ8 : Hid (DAt w8 w7.heap.size 0 zD) := by rw [← hw8]; exact box_rangeAt _ _ _ _ rfl
  have hl8 : w7.heap.size < w8.heap.size := by rw [← hw8]; simp
  have hg8 : w.heap.size + 1 < w7.heap.size := HSn.out _ HB7.out
  have hsw : w2.heap.size ≤ w7.heap.size := HB7.out.size
  have lz : zD.length = 32 := rfl
  have HLZ : Hid (zD.length = 32) := lz
  clear hb8 lz
  by_cases h67 : n = 67
  · subst h67
    go_wp2_with (first
      | (refine wpList_allocE (by rfl) 23 (by rfl) (cellsB zD).toArray Tryd.zeroDg w7.heap.size rfl w8 hw8 ?_)
      | (refine wpList_load_mid (by rfl) 23 (.tmp 4) (by rfl) (w.heap.size + 1) 0 (by rfl) (cellsB m) _ (HK.out _ HB8.out).2.1 Tryd.underlying23 (by rfl) (by rw [cellsB_length, hm]; exact Tryd.sizeDg) ?_))
    clear hw8
    refine (rwotsKey_any m a c sig w8 hm (HK.out _ HB8.out).2.2.2.2.1).mono ?_
    rintro e wq ⟨rfl, hbq⟩
    have hX := wotsKeyL_length m sig
    have HBq : Hid (Below w2.heap.size w2 wq) := HB8.out.trans (hbq.mono HB8.out.size)
    have HTq : Hid (wq.there w7.heap.size 0 32) := there_below HT8.out hbq hl8
    have hlq : w7.heap.size < wq.heap.size := Nat.lt_of_lt_of_le hl8 hbq.size
    have HCR : Hid (∀ wx, Env wx → DRow wx a 67 sig → Calls Tryd.prog 15 #[digestV m, .slice a 67 c] wx fun e w' => e = .returned (.tuple #[digestV (wotsKeyL m sig), .nilIface]) ∧ Below wx.heap.size wx w') := fun wx hx hr => wwots_recover m a c sig wx hx hm hr
    clear hbq HB8 HT8 HZ8 hl8
    generalize wotsKeyL m sig = X at *
    generalize w7.heap.size = g8 at *
    have HB9 : Hid (Below w2.heap.size w2 (wq.setCells g8 0 (cellsB X))) := below_setCells _ hsw _ _ _ HBq.out
    have HX9 : Hid (DAt (wq.setCells g8 0 (cellsB X)) g8 0 X) := dat_stored HTq.out hX
    have hl9 : g8 < (wq.setCells g8 0 (cellsB X)).heap.size := cell_block (HX9.out.cell 0 (by omega))
    generalize hw9 : wq.setCells g8 0 (cellsB X) = w9 at *
    go_wp2_with (first
      | (refine wpList_store_mid (by rfl) 23 (.tmp 10) (.tmp 44) (by rfl) g8 0 (cellsB X).toArray (by rfl) (by rfl) (by rw [cellsB_size, hX]; exact HTq.out) (by rw [cellsB_size, hX]; exact Tryd.sizeDg) (all_oneCell_toArray (cellsB_one _)) ?_; rw [show (cellsB X).toArray.toList = cellsB X from rfl, hw9])
      | (refine wpList_load_mid (by rfl) 23 (.tmp 4) (by rfl) (w.heap.size + 1) 0 (by rfl) (cellsB m) _ (HK.out _ HB9.out).2.1 Tryd.underlying23 (by rfl) (by rw [cellsB_length, hm]; exact Tryd.sizeDg) ?_))
    clear hw9 HTq hlq HBq
    refine (HCR.out w9 (HK.out _ HB9.out).2.2.1 (HK.out _ HB9.out).2.2.2.2.1).mono ?_
    rintro e wA ⟨rfl, hbA⟩
    have HBA : Hid (Below w2.heap.size w2 wA) := HB9.out.trans (hbA.mono HB9.out.size)
    have HXA : Hid (DAt wA g8 0 X ∧ g8 < wA.heap.size) := ⟨HX9.out.below hbA hl9, Nat.lt_of_lt_of_le hl9 hbA.size⟩
    clear hbA HB9 HX9 hl9
    obtain ⟨wB, hwB⟩ : ∃ wB, wA.alloc (.cells (cellsB zD).toArray 23) = wB := ⟨_, rfl⟩
    have htB : Hid (wB.there wA.heap.size 0 32) := by rw [← hwB]; exact alloc_thereAt _ _ _ 32 _ rfl zD_size.symm
    have hbC : Below wA.heap.size wA (wB.setCells wA.heap.size 0 (cellsB X)) := by rw [← hwB]; exact new_stored _ _ _
    have HBC : Hid (Below w2.heap.size w2 (wB.setCells wA.heap.size 0 (cellsB X))) := HBA.out.trans (hbC.mono HBA.out.size)
    have HXC : Hid (DAt (wB.setCells wA.heap.size 0 (cellsB X)) g8 0 X ∧ DAt (wB.setCells wA.heap.size 0 (cellsB X)) wA.heap.size 0 X) := ⟨HXA.out.1.below hbC HXA.out.2, dat_stored htB.out hX⟩
    clear hbC HBA HXA
    generalize hwC : wB.setCells wA.heap.size 0 (cellsB X) = wC at *
    go_wp2_with (first
      | (refine wpList_allocE (by rfl) 23 (by rfl) (cellsB zD).toArray Tryd.zeroDg wA.heap.size rfl wB hwB ?_)
      | (refine wpList_store_mid (by rfl) 23 (.tmp 11) (.tmp 49) (by rfl) wA.heap.size 0 (cellsB X).toArray (by rfl) (by rfl) (by rw [cellsB_size, hX]; exact htB.out) (by rw [cellsB_size, hX]; exact Tryd.sizeDg) (all_oneCell_toArray (cellsB_one _)) ?_; rw [show (cellsB X).toArray.toList = cellsB X from rfl, hwC]))
    clear hwB hwC htB
    generalize wA.heap.size = gA at *
    refine (error_nil 0 _).mono ?_
    rintro e wE ⟨rfl, hbE⟩
    rw [show decide ((0 : Int) = 0) = true from rfl]
    have HBE : Hid (Below w2.heap.size w2 wE) := HBC.out.trans (hbE.mono HBC.out.size)
    have HXE : Hid (DAt wE g8 0 X ∧ DAt wE gA 0 X) := ⟨HXC.out.1.below hbE (cell_block (HXC.out.1.cell 0 (by omega))), HXC.out.2.below hbE (cell_block (HXC.out.2.cell 0 (by omega)))⟩
    clear hbE HBC HXC
    go_wp2_with (first
      | (refine wpList_load_midG (by rfl) 23 (.tmp 11) (by rfl) gA 0 (by rfl) (cellsB X) _ HXE.out.2 Tryd.underlying23 (by rfl) (by rw [cellsB_length, hX]; exact Tryd.sizeDg) ?_)
      | (refine wpList_load_midG (by rfl) 23 (.tmp 10) (by rfl) g8 0 (by rfl) (cellsB X) _ HXE.out.1 Tryd.underlying23 (by rfl) (by rw [cellsB_length, hX]; exact Tryd.sizeDg) ?_)
      | (refine wpList_eqD (.tmp 56) (.tmp 57) (by rfl) (by rfl) X X hX hX (by rfl) (by rfl) true (decide_eq_true rfl) ?_))
    go_ret
    exact ⟨rfl, (HK.out _ HBE.out).2.2.2.2.2⟩
  · have h5 : ((n : Int) != 67) = true := by simp; omega
    go_wp2_with (first
      | (refine wpList_allocE (by rfl) 23 (by rfl) (cellsB zD).toArray Tryd.zeroDg w7.heap.size rfl w8 hw8 ?_)
      | (refine wpList_load_mid (by rfl) 23 (.tmp 4) (by rfl) (w.heap.size + 1) 0 (by rfl) (cellsB m) _ (HK.out _ HB8.out).2.1 Tryd.underlying23 (by rfl) (by rw [cellsB_length, hm]; exact Tryd.sizeDg) ?_))
    clear hw8 h5
    have hX := HLZ.out
    have HB9 := HB8
    have HX9 := HZ8
    have hl9 := hl8
    generalize w7.heap.size = g8 at *
    refine (wwots_short m a n c w8 (HK.out _ HB9.out).2.2.1 hm h67 (by omega)).mono ?_
    clear HB8 HZ8 hl8 HT8
    generalize hXz : zD = X at *
    have HXz : Hid (zD = X) := hXz
    clear hXz
    rintro e wA ⟨rfl, hbA⟩
    have HBA : Hid (Below w2.heap.size w2 wA) := HB9.out.trans (hbA.mono HB9.out.size)
    have HXA : Hid (DAt wA g8 0 X ∧ g8 < wA.heap.size) := ⟨HX9.out.below hbA hl9, Nat.lt_of_lt_of_le hl9 hbA.size⟩
    clear hbA HB9 HX9 hl9
    obtain ⟨wB, hwB⟩ : ∃ wB, wA.alloc (.cells (cellsB X).toArray 23) = wB := ⟨_, rfl⟩
    have htB : Hid (wB.there wA.heap.size 0 32) := by rw [← hwB]; exact alloc_thereAt _ _ _ 32 _ rfl (by rw [cellsB_size, hX])
    have hbC : Below wA.heap.size wA (wB.setCells wA.heap.size 0 (cellsB X)) := by rw [← hwB]; exact new_stored _ _ _
    have HBC : Hid (Below w2.heap.size w2 (wB.setCells wA.heap.size 0 (cellsB X))) := HBA.out.trans (hbC.mono HBA.out.size)
    have HXC : Hid (DAt (wB.setCells wA.heap.size 0 (cellsB X)) g8 0 X ∧ DAt (wB.setCells wA.heap.size 0 (cellsB X)) wA.heap.size 0 X) := ⟨HXA.out.1.below hbC HXA.out.2, dat_stored htB.out hX⟩
    clear hbC HBA HXA
    generalize hwC : wB.setCells wA.heap.size 0 (cellsB X) = wC at *
    go_wp2_with (first
      | (refine wpList_allocE (by rfl) 23 (by rfl) (cellsB X).toArray (by rw [← HXz.out]; exact Tryd.zeroDg) wA.heap.size rfl wB hwB ?_)
      | (refine wpList_store_mid (by rfl) 23 (.tmp 11) (.tmp 49) (by rfl) wA.heap.size 0 (cellsB X).toArray (by rfl) (by rfl) (by rw [cellsB_size, hX]; exact htB.out) (by rw [cellsB_size, hX]; exact Tryd.sizeDg) (all_oneCell_toArray (cellsB_one _)) ?_; rw [show (cellsB X).toArray.toList = cellsB X from rfl, hwC]))
    clear hwB hwC htB
    generalize wA.heap.size = gA at *
    refine (error_errno 3 3 _ (HK.out _ HBC.out).2.2.2.1).mono ?_
    rintro e wE ⟨rfl, hbE⟩
    rw [show decide ((3 : Int) = 3) = true from rfl]
    have HBE : Hid (Below w2.heap.size w2 wE) := HBC.out.trans (hbE.mono HBC.out.size)
    have HXE : Hid (DAt wE g8 0 X ∧ DAt wE gA 0 X) := ⟨HXC.out.1.below hbE (cell_block (HXC.out.1.cell 0 (by omega))), HXC.out.2.below hbE (cell_block (HXC.out.2.cell 0 (by omega)))⟩
    clear hbE HBC HXC
    go_wp2_with (first
      | (refine wpList_load_midG (by rfl) 23 (.tmp 11) (by rfl) gA 0 (by rfl) (cellsB X) _ HXE.out.2 Tryd.underlying23 (by rfl) (by rw [cellsB_length, hX]; exact Tryd.sizeDg) ?_)
      | (refine wpList_load_midG (by rfl) 23 (.tmp 10) (by rfl) g8 0 (by rfl) (cellsB X) _ HXE.out.1 Tryd.underlying23 (by rfl) (by rw [cellsB_length, hX]; exact Tryd.sizeDg) ?_)
      | (refine wpList_eqD (.tmp 56) (.tmp 57) (by rfl) (by rfl) X X hX hX (by rfl) (by rfl) true (decide_eq_true rfl) ?_))
    go_ret
    exact ⟨rfl, (HK.out _ HBE.out).2.2.2.2.2⟩
end Go.Proofs.YtdplajhebapkgaaDoor
