/- Texts of this claim, joined: Wwsign, Once, Rbit, Rturn. -/
import Derived.Test.YtdgaimlccpmojaaGreatDoorJ14
import Derived.Test.YtdgaimlccpmojaaGreatDoorJ15
import Derived.Test.YtdgaimlccpmojaaGreatDoorYPairs
import Derived.Deep.RegionHeld3
import Derived.Test.YtdgaimlccpmojaaGreatDoorJ06
import Derived.Test.YtdgaimlccpmojaaGreatDoorJ02
import Derived.Test.YtdgaimlccpmojaaGreatDoorJ01
import Derived.Deep.QuietTactic
import Derived.BigQuiet
/- The contracts of wots.Public, Sign and Recover. -/
namespace Go.Proofs.YtdgaimlccpmojaaGreatDoor
open Go.RowKit
set_option linter.unusedVariables false
set_option linter.unusedSimpArgs false

theorem digs_bd (m : List UInt8) : ∀ i, i < 67 → 0 ≤ (digsL m 67).getD i 0 ∧ (digsL m 67).getD i 0 ≤ 15 := fun i hi => by
  have := digL_lt m i
  rw [digsL_at m 67 i hi]
  omega
theorem lacks_digs (m : List UInt8) : ∀ i, i < 67 → (lacksI (digsL m 67)).getD i 0 = ((15 - digL m i : Nat) : Int) ∧ 15 - digL m i ≤ 1000 := fun i hi => by
  have := digL_lt m i
  rw [lacksI_at _ i (by rw [digsL_len]; exact hi), digsL_at m 67 i hi]
  omega
theorem lacks_zero : ∀ i, i < 67 → (lacksI zI).getD i 0 = ((15 : Nat) : Int) ∧ 15 ≤ 1000 := fun i hi => by
  rw [lacksI_at zI i hi, zI_at]
  exact ⟨rfl, by omega⟩
theorem mem32 {F : Nat → List UInt8} (h : ∀ i, i < 67 → (F i).length = 32) : ∀ l ∈ (List.range 67).map F, l.length = 32 := fun l hl => by
  obtain ⟨i, hi, rfl⟩ := List.mem_map.1 hl
  exact h i (List.mem_range.1 hi)

set_option maxRecDepth 100000 in
set_option maxHeartbeats 1000000 in
theorem wwots_public (seed : List UInt8) (w : World) (G : Env w) (hs : seed.length = 32) :
    Calls Tryz.prog 41 #[digestV seed] w fun e w' => e = .returned (digestV (wotsPubL seed)) ∧ Below w.heap.size w w' := by
  obtain ⟨w2, hw2⟩ : ∃ w2, (w.alloc (.cells (cellsB seed).toArray 23)).alloc (.cells (cellsB zD).toArray 23) = w2 := ⟨_, rfl⟩
  have hs1 : (w.alloc (.cells (cellsB seed).toArray 23)).heap.size = w.heap.size + 1 := by simp
  have HS2 : Hid (w2.heap.size = w.heap.size + 1 + 1) := by unfold Hid; rw [← hw2]; simp
  have HB2 : Hid (Below w.heap.size w w2) := by rw [← hw2]; exact ((Below.refl _ _).alloc (Nat.le_refl _) _).alloc (by simp) _
  have HD2 : Hid (DAt w2 w.heap.size 0 seed) := by rw [← hw2]; exact World.rangeAt_alloc (box_dat w seed _) _
  have HT2 : Hid (w2.there (w.heap.size + 1) 0 32) := by rw [← hw2]; exact alloc_thereAt _ _ _ 32 _ hs1 zD_size.symm
  have HG : Hid (Env w2) := G.below HB2.out
  clear G
  go_enter Tryz.func41, Tryz.ntmps41
  go_wp2_with (first
    | (refine wpList_allocE (by rfl) 23 (by rfl) (cellsB zD).toArray Tryz.zeroDg (w.heap.size + 1) hs1 w2 hw2 ?_)
    | (refine wpList_load_mid (by rfl) 23 (.tmp 1) (by rfl) w.heap.size 0 (by rfl) (cellsB seed) _ HD2.out Tryz.underlying23 (by rfl) (by rw [cellsB_length, hs]; exact Tryz.sizeDg) ?_))
  clear hw2 hs1
  refine (wwots_secrets seed w2 HG.out hs).mono ?_
  rintro e w3 ⟨⟨p, rfl, hsrc⟩, hb3⟩
  have HS3 : Hid (Source 65 p (wotsSecL seed) w3) := hsrc
  have HB3 : Hid (Below w2.heap.size w2 w3) := hb3
  clear hsrc hb3
  go_wp2_with (refine wpList_buildC (by rfl) 84 _ (by rfl) (cellsI zI).toArray (by kernel_rfl) ?_)
  refine (wwots_lacks zI w3 rfl (fun i hi => by rw [zI_at]; omega)).mono ?_
  rintro e w4 ⟨rfl, hb4⟩
  have HS4 : Hid (Source 65 p (wotsSecL seed) w4) := HS3.out.below hb4
  have HB4 : Hid (Below w2.heap.size w2 w4) := HB3.out.trans (hb4.mono HB3.out.size)
  have HLL : Hid ((lacksI zI).length = 67 ∧ ∀ i, i < 67 → (lacksI zI).getD i 0 = ((15 : Nat) : Int) ∧ 15 ≤ 1000) := ⟨by rw [lacksI_len]; rfl, lacks_zero⟩
  clear hb4 HS3 HB3
  generalize lacksI zI = LL at *
  go_wp2_with fail
  refine (wwots_walk 65 p (wotsSecL seed) LL (fun _ => 15) w4 (HG.out.below HB4.out) HS4.out (fun i _ => wotsSecL_length seed i) HLL.out.1 HLL.out.2).mono ?_
  rintro e w5 ⟨rfl, hb5⟩
  have HB5 : Hid (Below w2.heap.size w2 w5) := HB4.out.trans (hb5.mono HB4.out.size)
  have HE : Hid (((List.range 67).map fun i => walkL (wotsSecL seed i) 15).length = 67 ∧ (∀ l ∈ (List.range 67).map (fun i => walkL (wotsSecL seed i) 15), l.length = 32) ∧ shaL (7 :: ((List.range 67).map fun i => walkL (wotsSecL seed i) 15).flatten) = wotsPubL seed) := ⟨by simp, mem32 (fun i _ => walkL_length (wotsSecL_length seed i) 15), rfl⟩
  clear hb5 HS4 HB4 HLL
  generalize (List.range 67).map (fun i => walkL (wotsSecL seed i) 15) = L at *
  go_wp2_with fail
  refine (wwots_knots L w5 (HG.out.below HB5.out) HE.out.1 HE.out.2.1).mono ?_
  rintro e w6 ⟨rfl, hb6⟩
  rw [HE.out.2.2]
  have HB6 : Hid (Below w2.heap.size w2 w6) := HB5.out.trans (hb6.mono HB5.out.size)
  have HT6 : Hid (w6.there (w.heap.size + 1) 0 32) := there_below HT2.out HB6.out (by have := HS2.out; omega)
  have hlen : (wotsPubL seed).length = 32 := shaL_length _
  clear hb6 HB5 HE
  generalize hD : wotsPubL seed = D at *
  have HD : Hid (wotsPubL seed = D) := hD
  clear hD
  go_wp2_with (refine wpList_store_mid (by rfl) 23 (.tmp 2) (.tmp 8) (by rfl) (w.heap.size + 1) 0 (cellsB D).toArray (by rfl) (by rfl) (by rw [cellsB_size, hlen]; exact HT6.out) (by rw [cellsB_size, hlen]; exact Tryz.sizeDg) (all_oneCell_toArray (cellsB_one _)) ?_)
  refine bodyPost_ret (v := digestV D) (run_results_row Tryz.results41 _ _ (w.heap.size + 1) 0 (by rfl) (cellsB D) (World.rangeAt_setCells_same _ _ _ _ (by rw [cellsB_length, hlen]; exact HT6.out)) _ Tryz.underlying23 (by rfl) (by rw [cellsB_length, hlen]; exact Tryz.sizeDg)) rfl ⟨by rw [HD.out], ?_⟩
  exact below_setCells _ (by omega) _ _ _ (HB2.out.trans (HB6.out.mono (by have := HS2.out; omega)))

set_option maxRecDepth 100000 in
set_option maxHeartbeats 1000000 in
theorem wwots_recover (m : List UInt8) (a : Option Addr) (c : Nat) (sig : List (List UInt8)) (w : World) (G : Env w) (hm : m.length = 32) (R : DRow w a 67 sig) :
    Calls Tryz.prog 36 #[digestV m, .slice a 67 c] w fun e w' => e = .returned (.tuple #[digestV (wotsKeyL m sig), .nilIface]) ∧ Below w.heap.size w w' := by
  obtain ⟨w2, hw2⟩ : ∃ w2, (w.alloc (.cells (cellsB m).toArray 23)).alloc (.cells (cellsB zD).toArray 23) = w2 := ⟨_, rfl⟩
  have hs1 : (w.alloc (.cells (cellsB m).toArray 23)).heap.size = w.heap.size + 1 := by simp
  have HS2 : Hid (w2.heap.size = w.heap.size + 1 + 1) := by unfold Hid; rw [← hw2]; simp
  have HB2 : Hid (Below w.heap.size w w2) := by rw [← hw2]; exact ((Below.refl _ _).alloc (Nat.le_refl _) _).alloc (by simp) _
  have HK : Hid (∀ wx, Below w2.heap.size w2 wx → wx.rangeAt w.heap.size 0 (cellsB m) ∧ wx.there (w.heap.size + 1) 0 32 ∧ Env wx ∧ DRow wx a 67 sig ∧ Below w.heap.size w wx) := fun wx hx => by
    have s2 := HS2.out
    have b : Below w.heap.size w wx := HB2.out.trans (hx.mono (by omega))
    refine ⟨?_, ?_, G.below b, R.below b, b⟩
    · refine DAt.below (l := m) ?_ hx (by omega)
      rw [← hw2]; exact World.rangeAt_alloc (box_dat w m _) _
    · refine there_below ?_ hx (by omega)
      rw [← hw2]; exact alloc_thereAt _ _ _ 32 _ hs1 zD_size.symm
  have HS32 : Hid (∀ i, i < 67 → (sig.getD i []).length = 32) := R.len
  clear G R
  go_enter Tryz.func36, Tryz.ntmps36
  go_wp2_with (refine wpList_allocE (by rfl) 23 (by rfl) (cellsB zD).toArray Tryz.zeroDg (w.heap.size + 1) hs1 w2 hw2 ?_)
  clear hw2 hs1 HB2
  refine wp_region_noPanic ?_
  refine wp_region_held_drew (S := fun w' => w'.rangeAt w.heap.size 0 (cellsB m)) (by kernel_rfl) ((HK.out _ (below_drewN w2 1)).1) (fun hHeld => ?_)
  try simp only [Act.put, List.setIfInBounds_toArray, List.set_cons_zero, List.set_cons_succ]
  have HBd : Hid (Below w2.heap.size w2 w2.drew) := below_drewN w2 1
  generalize w2.drew = wd at *
  refine wpAnyH_take (i := 0) (v := ?_) (by simp only [List.getElem?_toArray, List.getElem?_cons_zero, List.getElem?_cons_succ]; rfl) (by kernel_rfl) (by kernel_rfl) (by kernel_rfl) (fun _ _ _ h => h) (Or.inl ⟨by rfl, ?_⟩) hHeld ?_
  rotate_left
  · intro w hSw
    go_simp
    try with_reducible rfl
  try simp only [Act.put, List.setIfInBounds_toArray, List.set_cons_zero, List.set_cons_succ]
  refine wpAnyH_take (i := 2) (v := .agg (cellsB m).toArray) (by simp only [List.getElem?_toArray, List.getElem?_cons_zero, List.getElem?_cons_succ]; rfl) (by kernel_rfl) (by kernel_rfl) (by kernel_rfl) (fun _ _ _ h => h)
    (yieldsIf_load_mid (by rfl) _ _ rfl _ _ rfl _ _ (fun w hw => hw) Tryz.underlying23 rfl (by rw [cellsB_length, hm]; exact Tryz.sizeDg)) hHeld ?_
  try simp only [Act.put, List.setIfInBounds_toArray, List.set_cons_zero, List.set_cons_succ]
  refine wpAnyH_ready (rs := [1]) (by kernel_rfl) (by simp) ?_
  refine AllReadyH.cons (by simp only [List.getElem?_toArray, List.getElem?_cons_zero, List.getElem?_cons_succ]; rfl) (fun K hK => ?_) AllReadyH.nil
  rw [if_pos (by rfl)]
  go_simp
  refine (wwots_shown sig a c wd (HK.out _ HBd.out).2.2.2.1).mono ?_
  rintro e w3 ⟨⟨p, rfl, hsrc⟩, hb3⟩
  have HS3 : Hid (Source 68 p (fun i => sig.getD i []) w3) := hsrc
  have HB3 : Hid (Below w2.heap.size w2 w3) := HBd.out.trans (hb3.mono HBd.out.size)
  clear hsrc hb3 HBd
  go_wp2_with fail
  refine hK.out _ _ (HK.out _ HB3.out).1 (fun hHeld => ?_)
  clear hK K
  try simp only [Act.put, List.setIfInBounds_toArray, List.set_cons_zero, List.set_cons_succ]
  refine wpAnyH_ready (rs := [3]) (by kernel_rfl) (by simp) ?_
  refine AllReadyH.cons (by simp only [List.getElem?_toArray, List.getElem?_cons_zero, List.getElem?_cons_succ]; rfl) (fun K hK => ?_) AllReadyH.nil
  rw [if_pos (by rfl)]
  go_simp
  refine (wwots_digitsOf m w3 hm).mono ?_
  rintro e w4 ⟨rfl, hb4⟩
  have HS4 : Hid (Source 68 p (fun i => sig.getD i []) w4) := HS3.out.below hb4
  have HB4 : Hid (Below w2.heap.size w2 w4) := HB3.out.trans (hb4.mono HB3.out.size)
  have HDD : Hid ((digsL m 67).length = 67 ∧ (∀ i, i < 67 → 0 ≤ (digsL m 67).getD i 0 ∧ (digsL m 67).getD i 0 ≤ 15) ∧ ∀ i, i < 67 → (lacksI (digsL m 67)).getD i 0 = ((15 - digL m i : Nat) : Int) ∧ 15 - digL m i ≤ 1000) := ⟨digsL_len m 67, digs_bd m, lacks_digs m⟩
  clear hb4 HS3 HB3
  generalize digsL m 67 = DL at *
  go_wp2_with fail
  refine hK.out _ _ (HK.out _ HB4.out).1 (fun hHeld => ?_)
  clear hK K
  try simp only [Act.put, List.setIfInBounds_toArray, List.set_cons_zero, List.set_cons_succ]
  refine wpAnyH_ready (rs := [4]) (by kernel_rfl) (by simp) ?_
  refine AllReadyH.cons (by simp only [List.getElem?_toArray, List.getElem?_cons_zero, List.getElem?_cons_succ]; rfl) (fun K hK => ?_) AllReadyH.nil
  rw [if_pos (by rfl)]
  go_simp
  refine (wwots_lacks DL w4 HDD.out.1 HDD.out.2.1).mono ?_
  rintro e w5 ⟨rfl, hb5⟩
  have HS5 : Hid (Source 68 p (fun i => sig.getD i []) w5) := HS4.out.below hb5
  have HB5 : Hid (Below w2.heap.size w2 w5) := HB4.out.trans (hb5.mono HB4.out.size)
  have HLL : Hid ((lacksI DL).length = 67 ∧ ∀ i, i < 67 → (lacksI DL).getD i 0 = ((15 - digL m i : Nat) : Int) ∧ 15 - digL m i ≤ 1000) := ⟨by rw [lacksI_len, HDD.out.1], HDD.out.2.2⟩
  clear hb5 HS4 HB4 HDD
  generalize lacksI DL = LL at *
  go_wp2_with fail
  refine hK.out _ _ (HK.out _ HB5.out).1 (fun hHeld => ?_)
  clear hK K
  try simp only [Act.put, List.setIfInBounds_toArray, List.set_cons_zero, List.set_cons_succ]
  refine wpAnyH_ready (rs := [5]) (by kernel_rfl) (by simp) ?_
  refine AllReadyH.cons (by simp only [List.getElem?_toArray, List.getElem?_cons_zero, List.getElem?_cons_succ]; rfl) (fun K hK => ?_) AllReadyH.nil
  rw [if_pos (by rfl)]
  go_simp
  refine (wwots_walk 68 p (fun i => sig.getD i []) LL (fun i => 15 - digL m i) w5 (HK.out _ HB5.out).2.2.1 HS5.out HS32.out HLL.out.1 HLL.out.2).mono ?_
  rintro e w6 ⟨rfl, hb6⟩
  have HB6 : Hid (Below w2.heap.size w2 w6) := HB5.out.trans (hb6.mono HB5.out.size)
  have HE : Hid (((List.range 67).map fun i => walkL (sig.getD i []) (15 - digL m i)).length = 67 ∧ (∀ l ∈ (List.range 67).map (fun i => walkL (sig.getD i []) (15 - digL m i)), l.length = 32) ∧ shaL (7 :: ((List.range 67).map fun i => walkL (sig.getD i []) (15 - digL m i)).flatten) = wotsKeyL m sig) := ⟨by simp, mem32 (fun i hi => walkL_length (HS32.out i hi) _), rfl⟩
  clear hb6 HS5 HB5 HLL
  generalize (List.range 67).map (fun i => walkL (sig.getD i []) (15 - digL m i)) = L at *
  go_wp2_with fail
  refine hK.out _ _ (HK.out _ HB6.out).1 (fun hHeld => ?_)
  clear hK K
  try simp only [Act.put, List.setIfInBounds_toArray, List.set_cons_zero, List.set_cons_succ]
  refine wpAnyH_ready (rs := [6]) (by kernel_rfl) (by simp) ?_
  refine AllReadyH.cons (by simp only [List.getElem?_toArray, List.getElem?_cons_zero, List.getElem?_cons_succ]; rfl) (fun K hK => ?_) AllReadyH.nil
  rw [if_pos (by rfl)]
  go_simp
  refine (wwots_knots L w6 (HK.out _ HB6.out).2.2.1 HE.out.1 HE.out.2.1).mono ?_
  rintro e w7 ⟨rfl, hb7⟩
  rw [HE.out.2.2]
  have HB7 : Hid (Below w2.heap.size w2 w7) := HB6.out.trans (hb7.mono HB6.out.size)
  have hlen : (wotsKeyL m sig).length = 32 := shaL_length _
  clear hb7 HB6 HE
  generalize hD : wotsKeyL m sig = D at *
  have HD : Hid (wotsKeyL m sig = D) := hD
  clear hD
  go_wp2_with fail
  refine hK.out _ _ (HK.out _ HB7.out).1 (fun hHeld => ?_)
  clear hK K
  try simp only [Act.put, List.setIfInBounds_toArray, List.set_cons_zero, List.set_cons_succ]
  refine wpAnyH_ready (rs := [7]) (by kernel_rfl) (by simp) ?_
  refine AllReadyH.cons (by simp only [List.getElem?_toArray, List.getElem?_cons_zero, List.getElem?_cons_succ]; rfl) (fun K hK => ?_) AllReadyH.nil
  rw [if_pos (by rfl)]
  have HT7 : Hid (w7.there (w.heap.size + 1) 0 32) := (HK.out _ HB7.out).2.1
  have HB8 : Hid (Below w2.heap.size w2 w7 ∧ Below w.heap.size w (w7.setCells (w.heap.size + 1) 0 (cellsB D))) := ⟨HB7.out, below_setCells _ (by omega) _ _ _ (HK.out _ HB7.out).2.2.2.2⟩
  refine wp_store_mid _ _ _ rfl (w.heap.size + 1) 0 (cellsB D).toArray rfl rfl (by rw [cellsB_size, hlen]; exact HT7.out) (by rw [cellsB_size, hlen]; exact Tryz.sizeDg) (all_oneCell_toArray (cellsB_one _)) ?_
  have HX : Hid (DAt (w7.setCells (w.heap.size + 1) 0 (cellsB D)) (w.heap.size + 1) 0 D) := dat_stored HT7.out hlen
  have hr : (w7.setCells (w.heap.size + 1) 0 (cellsB D)).rangeAt w.heap.size 0 (cellsB m) := World.rangeAt_setCells_apart (HK.out _ HB7.out).1 _ _ _ (.inl (by omega))
  refine hK.out _ _ hr (fun hHeld => ?_)
  clear hr HT7 HB7
  clear hK K
  try simp only [Act.put, List.setIfInBounds_toArray, List.set_cons_zero, List.set_cons_succ]
  refine wpAnyH_take (i := 8) (v := ?_) (by simp only [List.getElem?_toArray, List.getElem?_cons_zero, List.getElem?_cons_succ]; rfl) (by kernel_rfl) (by kernel_rfl) (by kernel_rfl) (fun _ _ _ h => h) (Or.inl ⟨by rfl, ?_⟩) hHeld ?_
  rotate_left
  · intro w hSw
    go_simp
    try with_reducible rfl
  try simp only [Act.put, List.setIfInBounds_toArray, List.set_cons_zero, List.set_cons_succ]
  refine wpAnyH_done (by kernel_rfl) (NoPanic.normal ?_) _
  clear hHeld
  go_wp2_with fail
  refine bodyPost_ret (v := .tuple #[digestV D, .nilIface]) (run_results_row2 Tryz.results36 _ _ (w.heap.size + 1) 0 (by rfl) .nilIface (by rfl) (cellsB D) HX.out _ Tryz.underlying23 (by rfl) (by rw [cellsB_length, hlen]; exact Tryz.sizeDg)) rfl ⟨by rw [HD.out], ?_⟩
  exact HB8.out.2

set_option maxRecDepth 100000 in
set_option maxHeartbeats 1000000 in
theorem wwots_short (m : List UInt8) (a : Option Addr) (n c : Nat) (w : World) (G : Env w) (hm : m.length = 32) (hn : n ≠ 67) (hn2 : n ≤ 140737488351232) :
    Calls Tryz.prog 36 #[digestV m, .slice a n c] w fun e w' => e = .returned (.tuple #[digestV zD, .iface 27 (.int .i64 3)]) ∧ Below w.heap.size w w' := by
  clear G
  obtain ⟨w2, hw2⟩ : ∃ w2, (w.alloc (.cells (cellsB m).toArray 23)).alloc (.cells (cellsB zD).toArray 23) = w2 := ⟨_, rfl⟩
  have hs1 : (w.alloc (.cells (cellsB m).toArray 23)).heap.size = w.heap.size + 1 := by simp
  have HT2 : Hid (w2.there (w.heap.size + 1) 0 32) := by rw [← hw2]; exact alloc_thereAt _ _ _ 32 _ hs1 zD_size.symm
  have HB2 : Hid (Below w.heap.size w w2) := by rw [← hw2]; exact ((Below.refl _ _).alloc (Nat.le_refl _) _).alloc (by simp) _
  have h5 : ((n : Int) != 67) = true := by simp; omega
  go_enter Tryz.func36, Tryz.ntmps36
  go_wp2_with (first
    | (refine wpList_allocE (by rfl) 23 (by rfl) (cellsB zD).toArray Tryz.zeroDg (w.heap.size + 1) hs1 w2 hw2 ?_)
    | (refine wpList_buildC (by rfl) 23 _ (by rfl) (cellsB zD).toArray (by kernel_rfl) ?_)
    | (refine wpList_store_mid (by rfl) 23 (.tmp 4) (.tmp 9) (by rfl) (w.heap.size + 1) 0 (cellsB zD).toArray (by rfl) (by rfl) (by rw [cellsB_size]; exact HT2.out) (by rw [cellsB_size]; exact Tryz.sizeDg) (all_oneCell_toArray (cellsB_one _)) ?_))
  refine bodyPost_ret (v := .tuple #[digestV zD, .iface 27 (.int .i64 3)]) (run_results_row2 Tryz.results36 _ _ (w.heap.size + 1) 0 (by rfl) _ (by rfl) (cellsB zD) (World.rangeAt_setCells_same _ _ _ _ (by rw [cellsB_length]; exact HT2.out)) _ Tryz.underlying23 (by rfl) (by rw [cellsB_length]; exact Tryz.sizeDg)) rfl ⟨rfl, ?_⟩
  exact below_setCells _ (by omega) _ _ _ HB2.out

/-- Which operations of 'sig := walk(secrets(seed), digitsOf(m))' have come up. -/
def sgnL (k : Nat) (b : Bool) : Array Bool := #[true, decide (1 ≤ k), true, decide (2 ≤ k), decide (3 ≤ k), b, false]
def fromS (n : Nat) (v : Value) (k : Nat) : Value := if n ≤ k then v else undef
def ptrS : Option Nat → Value
  | none => undef
  | some g => .pointer (some ⟨g, 0, none⟩)
theorem wsig_len (seed m : List UInt8) : (wotsSigL seed m 67).length = 67 := by simp [wotsSigL]
theorem wsig_32 (seed m : List UInt8) : ∀ l ∈ wotsSigL seed m 67, l.length = 32 := mem32 fun i _ => walkL_length (wotsSecL_length seed i) _

set_option maxRecDepth 100000 in
set_option maxHeartbeats 1000000 in
theorem wwots_sign_new (seed m : List UInt8) (w : World) (G : Env w) (hs : seed.length = 32) (hm : m.length = 32) :
    Calls Tryz.prog 31 #[digestV seed, digestV m] w fun e w' => (∃ g c, e = .returned (.slice (some ⟨g, 0, none⟩) 67 c) ∧ 67 ≤ c ∧ w.heap.size ≤ g ∧ DRow w' (some ⟨g, 0, none⟩) 67 (wotsSigL seed m 67)) ∧ Below w.heap.size w w' := by
  obtain ⟨zs, hzs, hzero⟩ := zeroKnots
  obtain ⟨w2, hw2⟩ : ∃ w2, (w.alloc (.cells (cellsB seed).toArray 23)).alloc (.cells (cellsB m).toArray 23) = w2 := ⟨_, rfl⟩
  have hs1 : (w.alloc (.cells (cellsB seed).toArray 23)).heap.size = w.heap.size + 1 := by simp
  have HS2 : Hid (w2.heap.size = w.heap.size + 1 + 1) := by unfold Hid; rw [← hw2]; simp
  have HB2 : Hid (Below w.heap.size w w2) := by rw [← hw2]; exact ((Below.refl _ _).alloc (Nat.le_refl _) _).alloc (by simp) _
  have HK : Hid (∀ wx, Below w2.heap.size w2 wx → wx.rangeAt w.heap.size 0 (cellsB seed) ∧ wx.rangeAt (w.heap.size + 1) 0 (cellsB m) ∧ Env wx ∧ Below w.heap.size w wx) := fun wx hx => by
    have s2 := HS2.out
    have b : Below w.heap.size w wx := HB2.out.trans (hx.mono (by omega))
    refine ⟨?_, ?_, G.below b, b⟩
    · refine DAt.below (l := seed) ?_ hx (by omega)
      rw [← hw2]; exact World.rangeAt_alloc (box_dat w seed _) _
    · refine DAt.below (l := m) ?_ hx (by omega)
      rw [← hw2]; exact box_rangeAt _ _ _ _ hs1
  clear G
  go_enter Tryz.func31, Tryz.ntmps31
  go_wp2_with fail
  try rw [hw2]
  clear hw2 hs1 HB2
  refine wp_region_noPanic ?_
  refine wp_region_held_drew (S := fun w' => w'.rangeAt w.heap.size 0 (cellsB seed) ∧ w'.rangeAt (w.heap.size + 1) 0 (cellsB m)) (by kernel_rfl) ⟨(HK.out _ (below_drewN w2 1)).1, (HK.out _ (below_drewN w2 1)).2.1⟩ (fun hHeld => ?_)
  try simp only [Act.put, List.setIfInBounds_toArray, List.set_cons_zero, List.set_cons_succ]
  have HBd : Hid (Below w2.heap.size w2 w2.drew) := below_drewN w2 1
  generalize w2.drew = wd at *
  refine wpAnyH_take (i := 0) (v := .agg (cellsB seed).toArray) (by simp only [List.getElem?_toArray, List.getElem?_cons_zero, List.getElem?_cons_succ]; rfl) (by kernel_rfl) (by kernel_rfl) (by kernel_rfl) (fun _ _ _ h => h)
    (yieldsIf_load_mid (by rfl) _ _ rfl _ _ rfl _ _ (fun w hw => hw.1) Tryz.underlying23 rfl (by rw [cellsB_length, hs]; exact Tryz.sizeDg)) hHeld ?_
  try simp only [Act.put, List.setIfInBounds_toArray, List.set_cons_zero, List.set_cons_succ]
  refine wpAnyH_take (i := 2) (v := .agg (cellsB m).toArray) (by simp only [List.getElem?_toArray, List.getElem?_cons_zero, List.getElem?_cons_succ]; rfl) (by kernel_rfl) (by kernel_rfl) (by kernel_rfl) (fun _ _ _ h => h)
    (yieldsIf_load_mid (by rfl) _ _ rfl _ _ rfl _ _ (fun w hw => hw.2) Tryz.underlying23 rfl (by rw [cellsB_length, hm]; exact Tryz.sizeDg)) hHeld ?_
  try simp only [Act.put, List.setIfInBounds_toArray, List.set_cons_zero, List.set_cons_succ]
  have HKS : Hid (∀ wx, Below wd.heap.size wd wx → (wx.rangeAt w.heap.size 0 (cellsB seed) ∧ wx.rangeAt (w.heap.size + 1) 0 (cellsB m)) ∧ Env wx ∧ Below w.heap.size w wx) := fun wx hx => by
    have h := HK.out _ (HBd.out.trans (hx.mono HBd.out.size))
    exact ⟨⟨h.1, h.2.1⟩, h.2.2⟩
  refine news1_any 3 1 (fun k p a wx => ∃ q, a = ({ tmps := #[digestV seed, digestV m, .pointer (some ⟨w.heap.size, 0, none⟩), .pointer (some ⟨w.heap.size + 1, 0, none⟩), .slice none 0 0, ptrS p, .agg (cellsB seed).toArray, fromS 1 (.func (.func 65) #[] #[q]) k, .agg (cellsB m).toArray, fromS 2 (.agg (cellsI (digsL m 67)).toArray) k, fromS 3 (knotsV (wotsSigL seed m 67)) k, undef], defers := [] } : Act) ∧ Below wd.heap.size wd wx ∧ (1 ≤ k → Source 65 q (wotsSecL seed) wx) ∧ (∀ g, p = some g → wd.heap.size ≤ g ∧ g < wx.heap.size ∧ wx.there g 0 2144)) sgnL ?step ?last ?fin 4 0 none _ _ rfl (by omega) ⟨undef, rfl, Below.refl _ _, (fun h => by omega), (fun g h => by cases h)⟩
  case step =>
    intro k p a wx fuel hk hSt next al
    obtain ⟨q, rfl, hb, h1, hp⟩ := hSt
    have hk3 : k = 0 ∨ k = 1 ∨ k = 2 := by omega
    rcases hk3 with rfl | rfl | rfl
    · cases p with
      | none =>
        refine wpAnyH_ready (rs := [1, 5]) (by kernel_rfl) (by simp) ?_
        refine AllReadyH.cons (by simp only [List.getElem?_toArray, List.getElem?_cons_zero, List.getElem?_cons_succ]; rfl) (fun K hK => ?_) (AllReadyH.cons (by simp only [List.getElem?_toArray, List.getElem?_cons_zero, List.getElem?_cons_succ]; rfl) (fun K hK => ?_) AllReadyH.nil)
        · simp only [fromS, Nat.reduceLeDiff, ↓reduceIte, Nat.reduceAdd, Nat.zero_add]
          rw [if_pos (by rfl)]
          go_simp
          refine (wwots_secrets seed wx (HKS.out _ hb).2.1 hs).mono ?_
          rintro e w' ⟨⟨q', rfl, hsrc⟩, hb3⟩
          have hb' : Below wd.heap.size wd w' := hb.trans (hb3.mono hb.size)
          go_wp2_with fail
          refine hK.out _ _ (HKS.out _ hb').1 (fun hHeld => ?_)
          exact next _ _ ⟨q', rfl, hb', fun _ => hsrc, fun g hg => ⟨(hp g hg).1, Nat.lt_of_lt_of_le (hp g hg).2.1 hb3.size, there_below (hp g hg).2.2 hb3 (hp g hg).2.1⟩⟩
        · rw [if_pos (by rfl)]
          refine wp_allocE 78 (by rfl) zs hzero ?_
          have hb8 : Below wx.heap.size wx (wx.alloc (.cells zs 78)) := (Below.refl _ _).alloc (Nat.le_refl _) _
          have hb' : Below wd.heap.size wd (wx.alloc (.cells zs 78)) := hb.trans (hb8.mono hb.size)
          refine hK.out _ _ (HKS.out _ hb').1 (fun hHeld => ?_)
          exact al wx.heap.size _ _ rfl ⟨q, rfl, hb', (fun h => by omega), fun g hg => by cases hg; exact ⟨hb.size, by simp, alloc_thereAt _ _ _ 2144 _ rfl hzs.symm⟩⟩
      | some g =>
        refine wpAnyH_ready (rs := [1]) (by kernel_rfl) (by simp) ?_
        refine AllReadyH.cons (by simp only [List.getElem?_toArray, List.getElem?_cons_zero, List.getElem?_cons_succ]; rfl) (fun K hK => ?_) AllReadyH.nil
        simp only [fromS, Nat.reduceLeDiff, ↓reduceIte, Nat.reduceAdd, Nat.zero_add]
        rw [if_pos (by rfl)]
        go_simp
        refine (wwots_secrets seed wx (HKS.out _ hb).2.1 hs).mono ?_
        rintro e w' ⟨⟨q', rfl, hsrc⟩, hb3⟩
        have hb' : Below wd.heap.size wd w' := hb.trans (hb3.mono hb.size)
        go_wp2_with fail
        refine hK.out _ _ (HKS.out _ hb').1 (fun hHeld => ?_)
        exact next _ _ ⟨q', rfl, hb', fun _ => hsrc, fun g hg => ⟨(hp g hg).1, Nat.lt_of_lt_of_le (hp g hg).2.1 hb3.size, there_below (hp g hg).2.2 hb3 (hp g hg).2.1⟩⟩
    · cases p with
      | none =>
        refine wpAnyH_ready (rs := [3, 5]) (by kernel_rfl) (by simp) ?_
        refine AllReadyH.cons (by simp only [List.getElem?_toArray, List.getElem?_cons_zero, List.getElem?_cons_succ]; rfl) (fun K hK => ?_) (AllReadyH.cons (by simp only [List.getElem?_toArray, List.getElem?_cons_zero, List.getElem?_cons_succ]; rfl) (fun K hK => ?_) AllReadyH.nil)
        · simp only [fromS, Nat.reduceLeDiff, ↓reduceIte, Nat.reduceAdd, Nat.zero_add]
          rw [if_pos (by rfl)]
          go_simp
          refine (wwots_digitsOf m wx hm).mono ?_
          rintro e w' ⟨rfl, hb3⟩
          have hb' : Below wd.heap.size wd w' := hb.trans (hb3.mono hb.size)
          go_wp2_with fail
          refine hK.out _ _ (HKS.out _ hb').1 (fun hHeld => ?_)
          exact next _ _ ⟨q, rfl, hb', fun _ => (h1 (by omega)).below hb3, fun g hg => ⟨(hp g hg).1, Nat.lt_of_lt_of_le (hp g hg).2.1 hb3.size, there_below (hp g hg).2.2 hb3 (hp g hg).2.1⟩⟩
        · rw [if_pos (by rfl)]
          refine wp_allocE 78 (by rfl) zs hzero ?_
          have hb8 : Below wx.heap.size wx (wx.alloc (.cells zs 78)) := (Below.refl _ _).alloc (Nat.le_refl _) _
          have hb' : Below wd.heap.size wd (wx.alloc (.cells zs 78)) := hb.trans (hb8.mono hb.size)
          refine hK.out _ _ (HKS.out _ hb').1 (fun hHeld => ?_)
          exact al wx.heap.size _ _ rfl ⟨q, rfl, hb', fun _ => (h1 (by omega)).below hb8, fun g hg => by cases hg; exact ⟨hb.size, by simp, alloc_thereAt _ _ _ 2144 _ rfl hzs.symm⟩⟩
      | some g =>
        refine wpAnyH_ready (rs := [3]) (by kernel_rfl) (by simp) ?_
        refine AllReadyH.cons (by simp only [List.getElem?_toArray, List.getElem?_cons_zero, List.getElem?_cons_succ]; rfl) (fun K hK => ?_) AllReadyH.nil
        simp only [fromS, Nat.reduceLeDiff, ↓reduceIte, Nat.reduceAdd, Nat.zero_add]
        rw [if_pos (by rfl)]
        go_simp
        refine (wwots_digitsOf m wx hm).mono ?_
        rintro e w' ⟨rfl, hb3⟩
        have hb' : Below wd.heap.size wd w' := hb.trans (hb3.mono hb.size)
        go_wp2_with fail
        refine hK.out _ _ (HKS.out _ hb').1 (fun hHeld => ?_)
        exact next _ _ ⟨q, rfl, hb', fun _ => (h1 (by omega)).below hb3, fun g hg => ⟨(hp g hg).1, Nat.lt_of_lt_of_le (hp g hg).2.1 hb3.size, there_below (hp g hg).2.2 hb3 (hp g hg).2.1⟩⟩
    · cases p with
      | none =>
        refine wpAnyH_ready (rs := [4, 5]) (by kernel_rfl) (by simp) ?_
        refine AllReadyH.cons (by simp only [List.getElem?_toArray, List.getElem?_cons_zero, List.getElem?_cons_succ]; rfl) (fun K hK => ?_) (AllReadyH.cons (by simp only [List.getElem?_toArray, List.getElem?_cons_zero, List.getElem?_cons_succ]; rfl) (fun K hK => ?_) AllReadyH.nil)
        · simp only [fromS, Nat.reduceLeDiff, ↓reduceIte, Nat.reduceAdd, Nat.zero_add]
          rw [if_pos (by rfl)]
          go_simp
          refine (wwots_walk 65 q (wotsSecL seed) (digsL m 67) (digL m) wx (HKS.out _ hb).2.1 (h1 (by omega)) (fun i _ => wotsSecL_length seed i) (digsL_len m 67) (fun i hi => ⟨digsL_at m 67 i hi, by have := digL_lt m i; omega⟩)).mono ?_
          rintro e w' ⟨rfl, hb3⟩
          have hb' : Below wd.heap.size wd w' := hb.trans (hb3.mono hb.size)
          go_wp2_with fail
          refine hK.out _ _ (HKS.out _ hb').1 (fun hHeld => ?_)
          exact next _ _ ⟨q, rfl, hb', fun _ => (h1 (by omega)).below hb3, fun g hg => ⟨(hp g hg).1, Nat.lt_of_lt_of_le (hp g hg).2.1 hb3.size, there_below (hp g hg).2.2 hb3 (hp g hg).2.1⟩⟩
        · rw [if_pos (by rfl)]
          refine wp_allocE 78 (by rfl) zs hzero ?_
          have hb8 : Below wx.heap.size wx (wx.alloc (.cells zs 78)) := (Below.refl _ _).alloc (Nat.le_refl _) _
          have hb' : Below wd.heap.size wd (wx.alloc (.cells zs 78)) := hb.trans (hb8.mono hb.size)
          refine hK.out _ _ (HKS.out _ hb').1 (fun hHeld => ?_)
          exact al wx.heap.size _ _ rfl ⟨q, rfl, hb', fun _ => (h1 (by omega)).below hb8, fun g hg => by cases hg; exact ⟨hb.size, by simp, alloc_thereAt _ _ _ 2144 _ rfl hzs.symm⟩⟩
      | some g =>
        refine wpAnyH_ready (rs := [4]) (by kernel_rfl) (by simp) ?_
        refine AllReadyH.cons (by simp only [List.getElem?_toArray, List.getElem?_cons_zero, List.getElem?_cons_succ]; rfl) (fun K hK => ?_) AllReadyH.nil
        simp only [fromS, Nat.reduceLeDiff, ↓reduceIte, Nat.reduceAdd, Nat.zero_add]
        rw [if_pos (by rfl)]
        go_simp
        refine (wwots_walk 65 q (wotsSecL seed) (digsL m 67) (digL m) wx (HKS.out _ hb).2.1 (h1 (by omega)) (fun i _ => wotsSecL_length seed i) (digsL_len m 67) (fun i hi => ⟨digsL_at m 67 i hi, by have := digL_lt m i; omega⟩)).mono ?_
        rintro e w' ⟨rfl, hb3⟩
        have hb' : Below wd.heap.size wd w' := hb.trans (hb3.mono hb.size)
        go_wp2_with fail
        refine hK.out _ _ (HKS.out _ hb').1 (fun hHeld => ?_)
        exact next _ _ ⟨q, rfl, hb', fun _ => (h1 (by omega)).below hb3, fun g hg => ⟨(hp g hg).1, Nat.lt_of_lt_of_le (hp g hg).2.1 hb3.size, there_below (hp g hg).2.2 hb3 (hp g hg).2.1⟩⟩
  case last =>
    intro a wx fuel hSt al
    obtain ⟨q, rfl, hb, h1, hp⟩ := hSt
    refine wpAnyH_ready (rs := [5]) (by kernel_rfl) (by simp) ?_
    refine AllReadyH.cons (by simp only [List.getElem?_toArray, List.getElem?_cons_zero, List.getElem?_cons_succ]; rfl) (fun K hK => ?_) AllReadyH.nil
    rw [if_pos (by rfl)]
    refine wp_allocE 78 (by rfl) zs hzero ?_
    have hb8 : Below wx.heap.size wx (wx.alloc (.cells zs 78)) := (Below.refl _ _).alloc (Nat.le_refl _) _
    have hb' : Below wd.heap.size wd (wx.alloc (.cells zs 78)) := hb.trans (hb8.mono hb.size)
    refine hK.out _ _ (HKS.out _ hb').1 (fun hHeld => ?_)
    exact al wx.heap.size _ _ ⟨q, rfl, hb', fun _ => (h1 (by omega)).below hb8, fun g hg => by cases hg; exact ⟨hb.size, by simp, alloc_thereAt _ _ _ 2144 _ rfl hzs.symm⟩⟩
  case fin =>
    intro g a wx hSt
    obtain ⟨q, rfl, hb, h1, hp⟩ := hSt
    obtain ⟨g1, g2, g3⟩ := hp g rfl
    have hSl := wsig_len seed m
    have hS32 := wsig_32 seed m
    have hL : (cellsB (wotsSigL seed m 67).flatten).length = 2144 := knots_cells hSl hS32
    clear h1 hp
    unfold knotsV
    generalize hD : wotsSigL seed m 67 = D at *
    have HD : Hid (wotsSigL seed m 67 = D) := hD
    clear hD
    have hL2 : (cellsB D.flatten).toArray.size = 2144 := hL
    refine wpAnyH_ready (rs := [6]) (by kernel_rfl) (by simp) ?_
    refine AllReadyH.cons (by simp only [List.getElem?_toArray, List.getElem?_cons_zero, List.getElem?_cons_succ]; rfl) (fun K hK => ?_) AllReadyH.nil
    rw [if_pos (by rfl)]
    refine wp_store_mid _ _ _ rfl g 0 (cellsB D.flatten).toArray rfl rfl (by rw [hL2]; exact g3) (by rw [hL2]; exact Tryz.sizeKn) (all_oneCell_toArray (cellsB_one _)) ?_
    have hb' : Below wd.heap.size wd (wx.setCells g 0 (cellsB D.flatten)) := below_setCells _ g1 _ _ _ hb
    refine hK.out _ _ (HKS.out _ hb').1 (fun hHeld => ?_)
    clear hK K
    have HX : Hid ((wx.setCells g 0 (cellsB D.flatten)).rangeAt g 0 (cellsB D.flatten)) := World.rangeAt_setCells_same _ _ _ _ (by rw [hL]; exact g3)
    have HBx : Hid (Below wd.heap.size wd (wx.setCells g 0 (cellsB D.flatten))) := hb'
    try simp only [Act.put, List.setIfInBounds_toArray, List.set_cons_zero, List.set_cons_succ]
    refine wpAnyH_done (by kernel_rfl) (NoPanic.normal ?_) _
    clear hHeld hb hb' g3
    generalize wx.setCells g 0 (cellsB D.flatten) = wy at *
    simp only [fromS, Nat.reduceLeDiff, ↓reduceIte, Nat.reduceAdd, Nat.zero_add]
    simp only [ptrS]
    go_wp2_with fail
    go_ret
    exact ⟨⟨_, _, rfl, Nat.le_refl _, by have := HS2.out; have := HBd.out.size; omega, by rw [HD.out]; exact knots_row hSl hS32 HX.out⟩, (HKS.out _ HBx.out).2.2⟩
theorem wwots_sign (seed m : List UInt8) (w : World) (G : Env w) (hs : seed.length = 32) (hm : m.length = 32) :
    Calls Tryz.prog 31 #[digestV seed, digestV m] w fun e w' => (∃ a c, e = .returned (.slice a 67 c) ∧ 67 ≤ c ∧ DRow w' a 67 (wotsSigL seed m 67)) ∧ Below w.heap.size w w' := by
  refine (wwots_sign_new seed m w G hs hm).mono ?_
  rintro e w' ⟨⟨g, c, h1, h2, _, h3⟩, hb⟩
  exact ⟨⟨_, c, h1, h2, h3⟩, hb⟩
end Go.Proofs.YtdgaimlccpmojaaGreatDoor
/- Plain definitions for keys that sign once: no theorem of the program yet. -/
namespace Go.Proofs.YtdgaimlccpmojaaGreatDoor
open Go.RowKit
set_option linter.unusedVariables false
set_option linter.unusedSimpArgs false
/-- The i-th bit of a digest, the highest one of a byte first. -/
def bitL (m : List UInt8) (i : Nat) : Nat := (m.getD (i / 8) 0).toNat / 2 ^ (7 - i % 8) % 2
theorem bitL_lt (m : List UInt8) (i : Nat) : bitL m i < 2 := Nat.mod_lt _ (by omega)
def onceSecL (seed : List UInt8) (i bit : Nat) : List UInt8 := macL seed [2, UInt8.ofNat i, UInt8.ofNat bit]
theorem onceSecL_length (seed : List UInt8) (i bit : Nat) : (onceSecL seed i bit).length = 32 := macL_length _ _
def onceLeafL (d : List UInt8) : List UInt8 := shaL (3 :: d)
theorem onceLeafL_length (d : List UInt8) : (onceLeafL d).length = 32 := shaL_length _
def onceLeavesL (seed : List UInt8) (n : Nat) : List (List UInt8) := (List.range n).map fun k => onceLeafL (onceSecL seed (k / 2) (k % 2))
def oncePubL (seed : List UInt8) : List UInt8 := shaL (4 :: (onceLeavesL seed 512).flatten)
def onceSigL (seed m : List UInt8) : Nat → List (List UInt8)
  | 0 => []
  | i + 1 => onceSigL seed m i ++ [onceSecL seed i (bitL m i)] ++ [onceLeafL (onceSecL seed i (1 - bitL m i))]
def onceAt (m : List UInt8) (sig : List (List UInt8)) (k : Nat) : List UInt8 := if bitL m (k / 2) = k % 2 then onceLeafL (sig.getD (k - k % 2) []) else sig.getD (k - k % 2 + 1) []
def onceToldL (m : List UInt8) (sig : List (List UInt8)) (n : Nat) : List (List UInt8) := (List.range n).map (onceAt m sig)
def onceKeyL (m : List UInt8) (sig : List (List UInt8)) : List UInt8 := shaL (4 :: (onceToldL m sig 512).flatten)
theorem onceLeavesL_succ (seed : List UInt8) (n : Nat) : onceLeavesL seed n ++ [onceLeafL (onceSecL seed (n / 2) (n % 2))] = onceLeavesL seed (n + 1) := by
  unfold onceLeavesL; rw [List.range_succ, List.map_append]; rfl
theorem onceLeavesL_len (seed : List UInt8) (n : Nat) : (onceLeavesL seed n).length = n := by simp [onceLeavesL]
theorem onceToldL_succ (m : List UInt8) (sig : List (List UInt8)) (n : Nat) : onceToldL m sig n ++ [onceAt m sig n] = onceToldL m sig (n + 1) := by
  unfold onceToldL; rw [List.range_succ, List.map_append]; rfl
theorem onceToldL_len (m : List UInt8) (sig : List (List UInt8)) (n : Nat) : (onceToldL m sig n).length = n := by simp [onceToldL]
theorem onceSigL_len (seed m : List UInt8) : ∀ n, (onceSigL seed m n).length = 2 * n
  | 0 => rfl
  | n + 1 => by rw [onceSigL, List.length_append, List.length_append, onceSigL_len seed m n]; simp; omega
theorem onceSigL_32 (seed m : List UInt8) : ∀ n, ∀ l ∈ onceSigL seed m n, l.length = 32
  | 0, l, h => by cases h
  | n + 1, l, h => by
    rw [onceSigL, List.mem_append, List.mem_append] at h
    rcases h with (h | h) | h
    · exact onceSigL_32 seed m n l h
    · rw [List.mem_singleton.1 h]; exact onceSecL_length _ _ _
    · rw [List.mem_singleton.1 h]; exact onceLeafL_length _
/-- What stands at a place of a signature. -/
theorem onceSigL_at (seed m : List UInt8) : ∀ n i, i < n → (onceSigL seed m n).getD (2 * i) [] = onceSecL seed i (bitL m i) ∧ (onceSigL seed m n).getD (2 * i + 1) [] = onceLeafL (onceSecL seed i (1 - bitL m i))
  | 0, i, h => by omega
  | n + 1, i, h => by
    have hl := onceSigL_len seed m n
    by_cases hi : i < n
    · obtain ⟨h1, h2⟩ := onceSigL_at seed m n i hi
      rw [onceSigL, List.append_assoc]
      simp only [List.getD_eq_getElem?_getD] at h1 h2 ⊢
      rw [List.getElem?_append_left (by omega), List.getElem?_append_left (by omega)]
      exact ⟨h1, h2⟩
    · obtain rfl : i = n := by omega
      rw [onceSigL, List.append_assoc]
      simp only [List.getD_eq_getElem?_getD]
      refine ⟨?_, ?_⟩
      · rw [List.getElem?_append_right (by omega), hl, Nat.sub_self]
        rfl
      · rw [List.getElem?_append_right (by omega), hl, show 2 * i + 1 - 2 * i = 1 by omega]
        rfl
/-- A signature tells the leaves of its seed. -/
theorem onceTold_signed (seed m : List UInt8) (k : Nat) (hk : k < 512) : onceAt m (onceSigL seed m 256) k = onceLeafL (onceSecL seed (k / 2) (k % 2)) := by
  obtain ⟨h1, h2⟩ := onceSigL_at seed m 256 (k / 2) (by omega)
  have e : k - k % 2 = 2 * (k / 2) := by omega
  have hb := bitL_lt m (k / 2)
  unfold onceAt
  rw [e]
  by_cases h : bitL m (k / 2) = k % 2
  · rw [if_pos h, h1, h]
  · rw [if_neg h, h2, show 1 - bitL m (k / 2) = k % 2 by omega]
theorem onceKey_signed (seed m : List UInt8) : onceKeyL m (onceSigL seed m 256) = oncePubL seed := by
  have e : onceToldL m (onceSigL seed m 256) 512 = onceLeavesL seed 512 := by
    unfold onceToldL onceLeavesL
    exact List.map_congr_left fun k hk => onceTold_signed seed m k (List.mem_range.1 hk)
  unfold onceKeyL oncePubL
  rw [e]
/-- Two digests that differ differ in a bit. -/
theorem byte_bits {x y : UInt8} (h : ∀ t, t < 8 → x.toNat / 2 ^ t % 2 = y.toNat / 2 ^ t % 2) : x = y := by
  apply UInt8.toNat_inj.1
  apply Nat.eq_of_testBit_eq
  intro t
  have hx := x.toNat_lt
  have hy := y.toNat_lt
  by_cases ht : t < 8
  · have := h t ht
    rw [Nat.testBit_eq_decide_div_mod_eq, Nat.testBit_eq_decide_div_mod_eq, this]
  · have hp : 2 ^ 8 ≤ 2 ^ t := Nat.pow_le_pow_right (by omega) (by omega)
    rw [Nat.testBit_lt_two_pow (by omega), Nat.testBit_lt_two_pow (by omega)]
theorem bits_apart {m o : List UInt8} (hm : m.length = 32) (ho : o.length = 32) (h : m ≠ o) : ∃ i, i < 256 ∧ bitL m i ≠ bitL o i := by
  apply Classical.byContradiction
  intro hn
  refine h (nth_inj (by omega) fun j hj => ?_)
  have hb : m.getD j 0 = o.getD j 0 := by
    refine byte_bits fun t ht => ?_
    have hi : ¬ (8 * j + (7 - t) < 256 ∧ bitL m (8 * j + (7 - t)) ≠ bitL o (8 * j + (7 - t))) := fun h' => hn ⟨_, h'.1, h'.2⟩
    have hlt : 8 * j + (7 - t) < 256 := by omega
    have e : bitL m (8 * j + (7 - t)) = bitL o (8 * j + (7 - t)) := Classical.byContradiction fun h' => hi ⟨hlt, h'⟩
    unfold bitL at e
    rw [show (8 * j + (7 - t)) / 8 = j by omega, show 7 - (8 * j + (7 - t)) % 8 = t by omega] at e
    exact e
  unfold nth
  rw [hb]
/-- Whoever signs another digest shows a secret, or leaves that differ. -/
theorem onceForged (seed m o : List UInt8) (sig : List (List UInt8)) (hm : m.length = 32) (ho : o.length = 32) (h : m ≠ o)
    (hno : ∀ i, i < 256 → bitL m i ≠ bitL o i → onceLeafL (sig.getD (2 * i) []) ≠ onceLeafL (onceSecL seed i (1 - bitL m i))) : onceLeavesL seed 512 ≠ onceToldL o sig 512 := by
  obtain ⟨i, hi, hb⟩ := bits_apart hm ho h
  intro e
  refine hno i hi hb ?_
  have b1 := bitL_lt m i
  have b2 := bitL_lt o i
  have hk : 2 * i + bitL o i < 512 := by omega
  have e2 := congrArg (fun l => l.getD (2 * i + bitL o i) []) e
  simp only [onceLeavesL, onceToldL, List.getD_eq_getElem?_getD, List.getElem?_map, List.getElem?_range hk, Option.map_some, Option.getD_some] at e2
  unfold onceAt at e2
  rw [show (2 * i + bitL o i) / 2 = i by omega, show (2 * i + bitL o i) % 2 = bitL o i by omega, if_pos rfl, show 2 * i + bitL o i - bitL o i = 2 * i by omega, show bitL o i = 1 - bitL m i by omega] at e2
  exact e2.symm
end Go.Proofs.YtdgaimlccpmojaaGreatDoor
/- The contract of oathbookref1.Bit. -/
namespace Go.Proofs.YtdgaimlccpmojaaGreatDoor
open Go.RowKit
set_option linter.unusedVariables false
set_option linter.unusedSimpArgs false

end Go.Proofs.YtdgaimlccpmojaaGreatDoor
/- The contract of oathbookref1.turn. -/
namespace Go.Proofs.YtdgaimlccpmojaaGreatDoor
open Go.RowKit
set_option linter.unusedVariables false
set_option linter.unusedSimpArgs false

theorem turn_eq (x n : Nat) (hx : x < 4294967296) (h1 : 1 ≤ n) (h2 : n ≤ 31) : bits .or .i64 ((x : Int) / 2 ^ n) (bits .and .i64 (wrap64 ((x : Int) * 2 ^ (32 - n))) 4294967295) = ((rotr x n : Nat) : Int) := by
  have e1 : (x : Int) / 2 ^ n = ((x >>> n : Nat) : Int) := by rw [Nat.shiftRight_eq_div_pow, Int.natCast_ediv, Int.natCast_pow]; rfl
  have e2 : (x : Int) * 2 ^ (32 - n) = ((x <<< (32 - n) : Nat) : Int) := by rw [Nat.shiftLeft_eq, Int.natCast_mul, Int.natCast_pow]; rfl
  have hp : 2 ^ (32 - n) ≤ 2 ^ 31 := Nat.pow_le_pow_right (by omega) (by omega)
  have hb : x <<< (32 - n) < 9223372036854775808 := by
    rw [Nat.shiftLeft_eq]
    have : x * 2 ^ (32 - n) ≤ x * 2 ^ 31 := Nat.mul_le_mul_left _ hp
    omega
  have hs := shr_lt32 n hx
  rw [e1, e2]
  unfold rotr
  clear e1 e2 hp
  generalize x >>> n = u at *
  generalize x <<< (32 - n) = v at *
  rw [IntWalk.wrap64_in _ ⟨by omega, by omega⟩]
  have e3 : (4294967295 : Int) = ((4294967295 : Nat) : Int) := rfl
  rw [e3, i64_and_nat _ _ hb (by omega)]
  have hc : v &&& 4294967295 < 4294967296 := by rw [and_all]; omega
  rw [i64_or_nat _ _ (by omega) (by omega)]

set_option maxRecDepth 100000 in
set_option maxHeartbeats 400000 in
theorem turn_any (x n : Nat) (w : World) (hx : x < 4294967296) (h1 : 1 ≤ n) (h2 : n ≤ 31) :
    Calls Tryz.prog 56 #[.int .i64 x, .int .i64 n] w fun e w' => e = .returned (.int .i64 (rotr x n : Nat)) ∧ ∃ q, w' = w.drewN q := by
  go_enter Tryz.func56, Tryz.ntmps56
  go_wp2_with fail
  go_quiet (fail)
  go_wp2
  go_ret
  exact ⟨ret_int (turn_eq x n hx h1 h2), nq, rfl⟩
theorem turn_at (x n : Nat) (z : Int) (w : World) (hx : x < 4294967296) (hz : z = (n : Int)) (h1 : 1 ≤ n) (h2 : n ≤ 31) :
    Calls Tryz.prog 56 #[.int .i64 x, .int .i64 z] w fun e w' => e = .returned (.int .i64 (rotr x n : Nat)) ∧ ∃ q, w' = w.drewN q := by
  subst hz
  exact turn_any x n w hx h1 h2
theorem shr3 (x : Nat) : (x : Int) / (8 : Int) = ((x >>> 3 : Nat) : Int) := by rw [Nat.shiftRight_eq_div_pow]; rfl
theorem shr10 (x : Nat) : (x : Int) / (1024 : Int) = ((x >>> 10 : Nat) : Int) := by rw [Nat.shiftRight_eq_div_pow]; rfl
theorem xor3 {a b c : Nat} (ha : a < 4294967296) (hb : b < 4294967296) (hc : c < 4294967296) : bits .xor .i64 (bits .xor .i64 (a : Int) (b : Int)) (c : Int) = ((a ^^^ b ^^^ c : Nat) : Int) := by
  have hx := xor_lt32 ha hb
  rw [i64_xor_nat _ _ (by omega) (by omega), i64_xor_nat _ _ (by omega) (by omega)]
theorem ss0_eq {x : Nat} (h : x < 4294967296) : bits .xor .i64 (bits .xor .i64 ((rotr x 7 : Nat) : Int) ((rotr x 18 : Nat) : Int)) ((x : Int) / (8 : Int)) = ((ss0 x : Nat) : Int) := by
  rw [shr3, xor3 (rotr_lt _ _ h) (rotr_lt _ _ h) (shr_lt32 _ h)]; rfl
theorem ss1_eq {x : Nat} (h : x < 4294967296) : bits .xor .i64 (bits .xor .i64 ((rotr x 17 : Nat) : Int) ((rotr x 19 : Nat) : Int)) ((x : Int) / (1024 : Int)) = ((ss1 x : Nat) : Int) := by
  rw [shr10, xor3 (rotr_lt _ _ h) (rotr_lt _ _ h) (shr_lt32 _ h)]; rfl
theorem bs0_eq {x : Nat} (h : x < 4294967296) : bits .xor .i64 (bits .xor .i64 ((rotr x 2 : Nat) : Int) ((rotr x 13 : Nat) : Int)) ((rotr x 22 : Nat) : Int) = ((bs0 x : Nat) : Int) := by
  rw [xor3 (rotr_lt _ _ h) (rotr_lt _ _ h) (rotr_lt _ _ h)]; rfl
theorem bs1_eq {x : Nat} (h : x < 4294967296) : bits .xor .i64 (bits .xor .i64 ((rotr x 6 : Nat) : Int) ((rotr x 11 : Nat) : Int)) ((rotr x 25 : Nat) : Int) = ((bs1 x : Nat) : Int) := by
  rw [xor3 (rotr_lt _ _ h) (rotr_lt _ _ h) (rotr_lt _ _ h)]; rfl
theorem and_all_i64 (x : Nat) (h : x < 9223372036854775808) : bits .and .i64 (x : Int) 4294967295 = ((x % 4294967296 : Nat) : Int) := by
  have e3 : (4294967295 : Int) = ((4294967295 : Nat) : Int) := rfl
  rw [e3, i64_and_nat _ _ h (by omega), and_all]
theorem turn_z (x : Nat) (z : Int) (w : World) (hx : x < 4294967296) (h1 : 1 ≤ z) (h2 : z ≤ 31) :
    Calls Tryz.prog 56 #[.int .i64 x, .int .i64 z] w fun e w' => e = .returned (.int .i64 (rotr x z.toNat : Nat)) ∧ ∃ q, w' = w.drewN q :=
  turn_at x z.toNat z w hx (by omega) (by omega) (by omega)
theorem ch_eq {e f g : Nat} (he : e < 4294967296) (hf : f < 4294967296) (hg : g < 4294967296) : bits .xor .i64 (bits .and .i64 (e : Int) (f : Int)) (bits .and .i64 (4294967295 - (e : Int)) (g : Int)) = ((chW e f g : Nat) : Int) := by
  have e1 : (4294967295 - (e : Int)) = ((4294967295 - e : Nat) : Int) := by omega
  have a := and_lt32 (a := e) hf
  have b := and_lt32 (a := 4294967295 - e) hg
  rw [e1, i64_and_nat _ _ (by omega) (by omega), i64_and_nat _ _ (by omega) (by omega), i64_xor_nat _ _ (by omega) (by omega)]
  rfl
theorem mj_eq {a b c : Nat} (ha : a < 4294967296) (hb : b < 4294967296) (hc : c < 4294967296) : bits .xor .i64 (bits .xor .i64 (bits .and .i64 (a : Int) (b : Int)) (bits .and .i64 (a : Int) (c : Int))) (bits .and .i64 (b : Int) (c : Int)) = ((mjW a b c : Nat) : Int) := by
  rw [i64_and_nat _ _ (by omega) (by omega), i64_and_nat _ _ (by omega) (by omega), i64_and_nat _ _ (by omega) (by omega), xor3 (and_lt32 hb) (and_lt32 hc) (and_lt32 hc)]
  rfl
end Go.Proofs.YtdgaimlccpmojaaGreatDoor
