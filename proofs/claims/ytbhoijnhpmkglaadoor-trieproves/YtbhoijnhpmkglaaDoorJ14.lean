/- Texts of this claim, joined: Factti, Lleafed, Lat. -/
import Derived.Test.YtbhoijnhpmkglaaDoorJ13
import Derived.Test.YtbhoijnhpmkglaaDoorJ07
import Derived.Test.YtbhoijnhpmkglaaDoorJ11
import Derived.Deep.DeepCutAuto
/- Leaf of key 1 and bytes 0, and the root of it alone: not bytes 0. -/
namespace Go.Proofs.YtbhoijnhpmkglaaDoor
open Go.RowKit
set_option linter.unusedVariables false
set_option linter.unusedSimpArgs false

def notZ (h : List Nat) : Bool := at' h 0 % 256 != 0 || at' h 1 % 256 != 0
def upK : Nat → List Nat → Bool
  | 0, h => notZ h
  | n + 1, h => notZ h && shaK (fun h' => upK n h') 65 (10 :: outN h (List.replicate 32 0))
theorem trie_fact : shaK (fun h => notZ h && shaK (fun h' => upK 31 h') 65 (10 :: (List.replicate 32 0 ++ outN h []))) 37 (nums (9 :: (putL 1 4 ++ zT))) = true := by decide +kernel
theorem notZ_is {h : List Nat} (hz : notZ h = true) : outL h ≠ zT := by
  intro e
  have h0 := nth_outL h 3 (by omega)
  have h1 := nth_outL h 7 (by omega)
  rw [e] at h0 h1
  have z0 : nth zT 3 = 0 := rfl
  have z1 : nth zT 7 = 0 := rfl
  rw [z0] at h0
  rw [z1] at h1
  have a0 : at' h 0 % 256 = 0 := by
    have : (0 : Int) = ((at' h 0 >>> 0 % 256 : Nat) : Int) := h0
    rw [Nat.shiftRight_zero] at this
    omega
  have a1 : at' h 1 % 256 = 0 := by
    have : (0 : Int) = ((at' h 1 >>> 0 % 256 : Nat) : Int) := h1
    rw [Nat.shiftRight_zero] at this
    omega
  unfold notZ at hz
  rw [a0, a1] at hz
  exact absurd hz (by decide)
theorem nums_z : nums zT = List.replicate 32 0 := rfl
theorem shaW_8 (l : List UInt8) : (shaW l).length = 8 := hTo_len _ _
theorem up_is : ∀ n h, h.length = 8 → upK n h = true → foldM 0 (outL h) (List.replicate n zT) ≠ zT
  | 0, h, _, hu => notZ_is hu
  | n + 1, h, hl, hu => by
    unfold upK at hu
    rw [Bool.and_eq_true] at hu
    have hn := notZ_is hu.1
    have e : 10 :: outN h (List.replicate 32 0) = nums (10 :: (outL h ++ zT)) := by
      rw [outN_eq h hl, ← nums_z, ← nums_append]
      rfl
    have hk := hu.2
    rw [e, shaK_eq _ _ 65 (by rw [List.length_cons, List.length_append, outL_length, zT_length])] at hk
    have := up_is n _ (shaW_8 _) hk
    rw [List.replicate_succ, foldM]
    have hm : (if 0 % 2 = 1 then mnode zT (outL h) else mnode (outL h) zT) = outL (shaW (10 :: (outL h ++ zT))) := by
      rw [if_neg (by omega)]
      unfold mnode
      rw [if_neg (fun q => hn q.1)]
      rfl
    rw [hm]
    exact this
theorem trie_both : leafE (1, zT) ≠ zT ∧ foldM 1 (leafE (1, zT)) (List.replicate 32 zT) ≠ zT := by
  have hk := trie_fact
  rw [shaK_eq _ _ 37 (by rw [List.length_cons, List.length_append, putL_length, zT_length]), Bool.and_eq_true] at hk
  have hl : leafE (1, zT) = outL (shaW (9 :: (putL 1 4 ++ zT))) := rfl
  have hn := notZ_is hk.1
  have e : 10 :: (List.replicate 32 0 ++ outN (shaW (9 :: (putL 1 4 ++ zT))) []) = nums (10 :: (zT ++ outL (shaW (9 :: (putL 1 4 ++ zT))))) := by
    rw [outN_eq _ (shaW_8 _), List.append_nil, ← nums_z, ← nums_append]
    rfl
  have h2 := hk.2
  rw [e, shaK_eq _ _ 65 (by rw [List.length_cons, List.length_append, outL_length, zT_length])] at h2
  have hu := up_is 31 _ (shaW_8 _) h2
  rw [← hl] at hn hu
  refine ⟨hn, ?_⟩
  rw [List.replicate_succ, foldM]
  have hm : (if 1 % 2 = 1 then mnode zT (leafE (1, zT)) else mnode (leafE (1, zT)) zT) = outL (shaW (10 :: (zT ++ leafE (1, zT)))) := by
    rw [if_pos (by omega)]
    unfold mnode
    rw [if_neg (fun q => hn q.2)]
    rfl
  rw [hm]
  exact hu
theorem path_zero (g : Nat → List UInt8) (k n : Nat) (h : ∀ x, x ≠ k → g x = zT) : pathM g k n = List.replicate n zT := by
  rw [path_but (g' := fun _ => zT) k n h]
  unfold pathM
  rw [List.map_congr_left (g := fun _ => zT) (fun i _ => mapL_zero i _), List.map_const', List.length_range]
theorem gE_one (e : Ent) (k : Nat) (hk : e.1 = (k : Int)) : gE [e] k = leafE e ∧ ∀ x, x ≠ k → gE [e] x = zT := by
  refine ⟨gE_of (by simp [hk]), fun x hx => gE_none ?_⟩
  rw [List.find?_eq_none]
  intro y hy
  rw [List.mem_singleton.1 hy, hk]
  simp
  omega
/-- The root of one entry. -/
theorem root_one (e : Ent) (k : Nat) (hk : e.1 = (k : Int)) (h32 : k < 2 ^ 32) : mapL (gE [e]) 0 32 = foldM k (leafE e) (List.replicate 32 zT) := by
  obtain ⟨h1, h2⟩ := gE_one e k hk
  rw [← fold_map (gE [e]) k 32 h32, h1, path_zero _ k 32 h2]
theorem trie_root_ne : mapL (gE [(1, zT)]) 0 32 ≠ zT := by
  rw [root_one (1, zT) 1 rfl (by omega)]
  exact trie_both.2
end Go.Proofs.YtbhoijnhpmkglaaDoor
/- The contract of the laws' leafed. -/
namespace Go.Proofs.YtbhoijnhpmkglaaDoor
open Go.RowKit
set_option linter.unusedVariables false
set_option linter.unusedSimpArgs false

def eOne : Ent := (1, zT)
theorem eOne_ok : okE eOne := ⟨rfl, by decide, by decide⟩
theorem Tryd.builtOne : Tryd.prog.built 26 [(0, .int .i64 1)] = some (entC eOne).toArray := by kernel_rfl
theorem eOne_fault : faultE [eOne] = 0 := by decide
theorem leaf_fact : ∃ L M : List UInt8, L.length = 32 ∧ M.length = 32 ∧ L ≠ zT ∧ M ≠ zT ∧ leafE eOne = L ∧ mapL (gE [eOne]) 0 32 = M := ⟨_, _, leafE_length _, mapL_length (gE_length _) 32 0, trie_both.1, trie_root_ne, rfl, rfl⟩
set_option maxRecDepth 100000 in
set_option maxHeartbeats 2000000 in
theorem wleafed_any (w : World) (G : Env w) :
    Calls Tryd.prog 24 #[] w fun r w' => r = .returned (.bool true) ∧ Below w.heap.size w w' := by
  obtain ⟨L, M, lL, lM, hLZ, hMZ, hL, hM⟩ := leaf_fact
  have HGE : Hid (∀ wx, Below w.heap.size w wx → Env wx) := fun wx hx => G.below hx
  have HC1 : Hid (∀ wx, Env wx → Calls Tryd.prog 18 #[entV eOne] wx fun r w' => r = .returned (.tuple #[digestV L, .nilIface]) ∧ Below wx.heap.size wx w') := fun wx hx => by
    have := wtrie_leaf eOne wx hx eOne_ok rfl
    rw [hL] at this
    exact this
  have HC2 : Hid (∀ a c wx, Env wx → ERow wx a 1 [eOne] → 1 ≤ c → Calls Tryd.prog 11 #[.slice a 1 c] wx fun r w' => r = .returned (.tuple #[digestV M, .nilIface]) ∧ Below wx.heap.size wx w') := fun a c wx hx hr hc => by
    have := wtrie_root a 1 c [eOne] wx hx hr hc (by omega) eOne_fault
    rw [hM] at this
    exact this
  have HNO : Hid (∀ wx, Calls Tryd.prog 23 #[] wx fun e w' => e = .returned (digestV zT) ∧ Below wx.heap.size wx w') := rnothing_any
  have HNEW : Hid (∀ wx : World, ERow (wx.alloc (.cells (entC eOne).toArray 26)) (some ⟨wx.heap.size, 0, none⟩) 1 [eOne]) := fun wx => ERow.new wx eOne _ eOne_ok
  have lZ : zT.length = 32 := rfl
  have HDL : Hid ((!decide (L = zT)) = true) := by unfold Hid; simp [hLZ]
  have HDM : Hid ((!decide (M = zT)) = true) := by unfold Hid; simp [hMZ]
  have HBU : Hid (Tryd.prog.built 26 [(0, .int .i64 1)] = some (entC eOne).toArray) := Tryd.builtOne
  have HOK : Hid (okE eOne) := eOne_ok
  clear hL hM hLZ hMZ G
  generalize zT = Z at *
  generalize eOne = E1 at *
  go_enter Tryd.func24, Tryd.ntmps24
  go_wp2_with (refine wpList_buildC (by rfl) 26 #[(0, .const (.int .i64 1))] (by rfl) (entC E1).toArray (by simp only [List.map_toArray, List.map_cons, List.map_nil, Act.eval]; exact HBU.out) ?_)
  refine (HC1.out w (HGE.out _ (Below.refl _ _))).mono ?_
  rintro r w2 ⟨rfl, hb2⟩
  have HB2 : Hid (Below w.heap.size w w2) := hb2
  clear hb2
  obtain ⟨g1, hg1⟩ : ∃ g1, w2.heap.size = g1 := ⟨_, rfl⟩
  obtain ⟨w3, hw3⟩ : ∃ w3, w2.alloc (.cells (cellsB zD).toArray 24) = w3 := ⟨_, rfl⟩
  have HT3 : Hid (w3.there g1 0 32) := by rw [← hw3]; exact alloc_thereAt _ _ _ 32 _ hg1 zD_size.symm
  have HB4 : Hid (Below w.heap.size w (w3.setCells g1 0 (cellsB L))) := below_setCells _ (by rw [← hg1]; exact HB2.out.size) _ _ _ (by rw [← hw3]; exact HB2.out.alloc HB2.out.size _)
  have HX4 : Hid (DAt (w3.setCells g1 0 (cellsB L)) g1 0 L) := dat_stored HT3.out lL
  go_upto_region 2 with (first
    | (refine wpList_allocE (by rfl) 24 (by rfl) (cellsB zD).toArray Tryd.zeroDg g1 hg1 w3 hw3 ?_)
    | (refine wpList_store_mid (by rfl) 24 (.tmp 1) (.tmp 8) (by rfl) g1 0 (cellsB L).toArray (by rfl) (by rfl) (by rw [cellsB_size, lL]; exact HT3.out) (by rw [cellsB_size, lL]; exact Tryd.sizeDg) (all_oneCell_toArray (cellsB_one _)) ?_))
  generalize w3.setCells g1 0 (cellsB L) = w4 at *
  clear hw3 HT3 hg1
  try simp only [Act.put, List.setIfInBounds_toArray, List.set_cons_zero, List.set_cons_succ]
  have HB5 : Hid (Below w.heap.size w (w4.alloc (.cells (entC E1).toArray 26))) := HB4.out.alloc HB4.out.size _
  have HX5 : Hid (DAt (w4.alloc (.cells (entC E1).toArray 26)) g1 0 L) := World.rangeAt_alloc HX4.out _
  go_wp2_with (first
    | (refine wpList_buildC (by rfl) 26 #[(0, .const (.int .i64 1))] (by rfl) (entC E1).toArray (by simp only [List.map_toArray, List.map_cons, List.map_nil, Act.eval]; exact HBU.out) ?_)
    | (refine wpList_buildEn (by rfl) (.tmp 11) (by rfl) E1 HOK.out (by rfl) ?_))
  refine (HC2.out _ 1 _ (HGE.out _ HB5.out) (HNEW.out w4) (by omega)).mono ?_
  rintro r w6 ⟨rfl, hb6⟩
  have HB6 : Hid (Below w.heap.size w w6) := HB5.out.trans (hb6.mono HB5.out.size)
  have HX6 : Hid (DAt w6 g1 0 L) := HX5.out.below hb6 (cell_block (HX5.out.cell 0 (by omega)))
  clear hb6 HB5 HX5 HX4 HB4
  obtain ⟨g3, hg3⟩ : ∃ g3, w6.heap.size = g3 := ⟨_, rfl⟩
  obtain ⟨w7, hw7⟩ : ∃ w7, w6.alloc (.cells (cellsB zD).toArray 24) = w7 := ⟨_, rfl⟩
  have HT7 : Hid (w7.there g3 0 32) := by rw [← hw7]; exact alloc_thereAt _ _ _ 32 _ hg3 zD_size.symm
  have HB67 : Hid (Below w6.heap.size w6 (w7.setCells g3 0 (cellsB M))) := below_setCells _ (by rw [hg3]; exact Nat.le_refl _) _ _ _ (by rw [← hw7]; exact (Below.refl _ _).alloc (Nat.le_refl _) _)
  have HX8 : Hid (DAt (w7.setCells g3 0 (cellsB M)) g3 0 M) := dat_stored HT7.out lM
  go_upto_region 3 with (first
    | (refine wpList_allocE (by rfl) 24 (by rfl) (cellsB zD).toArray Tryd.zeroDg g3 hg3 w7 hw7 ?_)
    | (refine wpList_store_mid (by rfl) 24 (.tmp 3) (.tmp 14) (by rfl) g3 0 (cellsB M).toArray (by rfl) (by rfl) (by rw [cellsB_size, lM]; exact HT7.out) (by rw [cellsB_size, lM]; exact Tryd.sizeDg) (all_oneCell_toArray (cellsB_one _)) ?_))
  generalize w7.setCells g3 0 (cellsB M) = w8 at *
  clear hw7 HT7 hg3
  try simp only [Act.put, List.setIfInBounds_toArray, List.set_cons_zero, List.set_cons_succ]
  have HKK : Hid (∀ wx, Below w8.heap.size w8 wx → wx.rangeAt g1 0 (cellsB L) ∧ wx.rangeAt g3 0 (cellsB M) ∧ Below w.heap.size w wx) := fun wx hx => by
    have b6 : Below w6.heap.size w6 wx := HB67.out.trans (hx.mono HB67.out.size)
    exact ⟨HX6.out.below b6 (cell_block (HX6.out.cell 0 (by omega))), HX8.out.below hx (cell_block (HX8.out.cell 0 (by omega))), HB6.out.trans (b6.mono HB6.out.size)⟩
  refine wp_region_noPanic ?_
  refine wp_region_held_drew (S := fun wx => wx.rangeAt g1 0 (cellsB L) ∧ wx.rangeAt g3 0 (cellsB M)) (by kernel_rfl) ⟨(HKK.out _ (below_drewN w8 1)).1, (HKK.out _ (below_drewN w8 1)).2.1⟩ (fun hHeld => ?_)
  try simp only [Act.put, List.setIfInBounds_toArray, List.set_cons_zero, List.set_cons_succ]
  have HBd : Hid (Below w8.heap.size w8 w8.drew) := below_drewN w8 1
  generalize w8.drew = wd at *
  refine wpAnyH_take (i := 0) (v := ?_) (by simp only [List.getElem?_toArray, List.getElem?_cons_zero, List.getElem?_cons_succ]; rfl) (by kernel_rfl) (by kernel_rfl) (by kernel_rfl) (fun _ _ _ h => h) (Or.inl ⟨by rfl, ?_⟩) hHeld ?_
  rotate_left
  · intro w hSw
    obtain ⟨hSw0, hSw1⟩ := hSw
    go_simp
    try with_reducible rfl
  try simp only [Act.put, List.setIfInBounds_toArray, List.set_cons_zero, List.set_cons_succ]
  refine wpAnyH_take (i := 1) (v := ?_) (by simp only [List.getElem?_toArray, List.getElem?_cons_zero, List.getElem?_cons_succ]; rfl) (by kernel_rfl) (by kernel_rfl) (by kernel_rfl) (fun _ _ _ h => h) (Or.inl ⟨by rfl, ?_⟩) hHeld ?_
  rotate_left
  · intro w hSw
    obtain ⟨hSw0, hSw1⟩ := hSw
    go_simp
    try with_reducible rfl
  try simp only [Act.put, List.setIfInBounds_toArray, List.set_cons_zero, List.set_cons_succ]
  refine wpAnyH_take (i := 2) (v := ?_) (by simp only [List.getElem?_toArray, List.getElem?_cons_zero, List.getElem?_cons_succ]; rfl) (by kernel_rfl) (by kernel_rfl) (by kernel_rfl) (fun _ _ _ h => h) (Or.inl ⟨by rfl, ?_⟩) hHeld ?_
  rotate_left
  · intro w hSw
    obtain ⟨hSw0, hSw1⟩ := hSw
    go_simp
    try with_reducible rfl
  try simp only [Act.put, List.setIfInBounds_toArray, List.set_cons_zero, List.set_cons_succ]
  refine wpAnyH_take (i := 3) (v := ?_) (by simp only [List.getElem?_toArray, List.getElem?_cons_zero, List.getElem?_cons_succ]; rfl) (by kernel_rfl) (by kernel_rfl) (by kernel_rfl) (fun _ _ _ h => h) (Or.inl ⟨by rfl, ?_⟩) hHeld ?_
  rotate_left
  · intro w hSw
    obtain ⟨hSw0, hSw1⟩ := hSw
    go_simp
    try with_reducible rfl
  try simp only [Act.put, List.setIfInBounds_toArray, List.set_cons_zero, List.set_cons_succ]
  refine wpAnyH_take (i := 4) (v := ?_) (by simp only [List.getElem?_toArray, List.getElem?_cons_zero, List.getElem?_cons_succ]; rfl) (by kernel_rfl) (by kernel_rfl) (by kernel_rfl) (fun _ _ _ h => h) (Or.inl ⟨by rfl, ?_⟩) hHeld ?_
  rotate_left
  · intro w hSw
    obtain ⟨hSw0, hSw1⟩ := hSw
    go_simp
    try with_reducible rfl
  try simp only [Act.put, List.setIfInBounds_toArray, List.set_cons_zero, List.set_cons_succ]
  refine wpAnyH_take (i := 5) (v := ?_) (by simp only [List.getElem?_toArray, List.getElem?_cons_zero, List.getElem?_cons_succ]; rfl) (by kernel_rfl) (by kernel_rfl) (by kernel_rfl) (fun _ _ _ h => h) (Or.inl ⟨by rfl, ?_⟩) hHeld ?_
  rotate_left
  · intro w hSw
    obtain ⟨hSw0, hSw1⟩ := hSw
    go_simp
    try with_reducible rfl
  try simp only [Act.put, List.setIfInBounds_toArray, List.set_cons_zero, List.set_cons_succ]
  refine wpAnyH_take (i := 6) (v := ?_) (by simp only [List.getElem?_toArray, List.getElem?_cons_zero, List.getElem?_cons_succ]; rfl) (by kernel_rfl) (by kernel_rfl) (by kernel_rfl) (fun _ _ _ h => h) (Or.inl ⟨by rfl, ?_⟩) hHeld ?_
  rotate_left
  · intro w hSw
    obtain ⟨hSw0, hSw1⟩ := hSw
    go_simp
    try with_reducible rfl
  try simp only [Act.put, List.setIfInBounds_toArray, List.set_cons_zero, List.set_cons_succ]
  refine wpAnyH_take (i := 7) (v := .agg (cellsB L).toArray) (by simp only [List.getElem?_toArray, List.getElem?_cons_zero, List.getElem?_cons_succ]; rfl) (by kernel_rfl) (by kernel_rfl) (by kernel_rfl) (fun _ _ _ h => h)
    (yieldsIf_load_mid (by rfl) _ _ rfl _ _ rfl _ _ (fun w hw => hw.1) Tryd.underlying24 rfl (by rw [cellsB_length, lL]; exact Tryd.sizeDg)) hHeld ?_
  try simp only [Act.put, List.setIfInBounds_toArray, List.set_cons_zero, List.set_cons_succ]
  refine wpAnyH_ready (rs := [8]) (by kernel_rfl) (by simp) ?_
  refine AllReadyH.cons (by simp only [List.getElem?_toArray, List.getElem?_cons_zero, List.getElem?_cons_succ]; rfl) (fun K hK => ?_) AllReadyH.nil
  rw [if_pos (by rfl)]
  go_simp
  refine (HNO.out wd).mono ?_
  rintro r we ⟨rfl, hbx⟩
  have HBe : Hid (Below w8.heap.size w8 we) := HBd.out.trans (hbx.mono HBd.out.size)
  clear hbx
  go_wp2_with fail
  refine hK.out _ _ ⟨(HKK.out _ HBe.out).1, (HKK.out _ HBe.out).2.1⟩ (fun hHeld => ?_)
  clear hK K
  try simp only [Act.put, List.setIfInBounds_toArray, List.set_cons_zero, List.set_cons_succ]
  refine wpAnyH_take (i := 9) (v := .bool true) (by simp only [List.getElem?_toArray, List.getElem?_cons_zero, List.getElem?_cons_succ]; rfl) (by kernel_rfl) (by kernel_rfl) (by kernel_rfl) (fun _ _ _ h => h)
    (yieldsIf_neqD (by rfl) _ _ rfl L Z lL lZ rfl rfl true HDL.out) hHeld ?_
  try simp only [Act.put, List.setIfInBounds_toArray, List.set_cons_zero, List.set_cons_succ]
  refine wpAnyH_take (i := 10) (v := ?_) (by simp only [List.getElem?_toArray, List.getElem?_cons_zero, List.getElem?_cons_succ]; rfl) (by kernel_rfl) (by kernel_rfl) (by kernel_rfl) (fun _ _ _ h => h) (Or.inl ⟨by rfl, ?_⟩) hHeld ?_
  rotate_left
  · intro w hSw
    obtain ⟨hSw0, hSw1⟩ := hSw
    go_simp
    try with_reducible rfl
  try simp only [Act.put, List.setIfInBounds_toArray, List.set_cons_zero, List.set_cons_succ]
  refine wpAnyH_take (i := 11) (v := ?_) (by simp only [List.getElem?_toArray, List.getElem?_cons_zero, List.getElem?_cons_succ]; rfl) (by kernel_rfl) (by kernel_rfl) (by kernel_rfl) (fun _ _ _ h => h) (Or.inl ⟨by rfl, ?_⟩) hHeld ?_
  rotate_left
  · intro w hSw
    obtain ⟨hSw0, hSw1⟩ := hSw
    go_simp
    try with_reducible rfl
  try simp only [Act.put, List.setIfInBounds_toArray, List.set_cons_zero, List.set_cons_succ]
  refine wpAnyH_take (i := 12) (v := .agg (cellsB M).toArray) (by simp only [List.getElem?_toArray, List.getElem?_cons_zero, List.getElem?_cons_succ]; rfl) (by kernel_rfl) (by kernel_rfl) (by kernel_rfl) (fun _ _ _ h => h)
    (yieldsIf_load_mid (by rfl) _ _ rfl _ _ rfl _ _ (fun w hw => hw.2) Tryd.underlying24 rfl (by rw [cellsB_length, lM]; exact Tryd.sizeDg)) hHeld ?_
  try simp only [Act.put, List.setIfInBounds_toArray, List.set_cons_zero, List.set_cons_succ]
  refine wpAnyH_ready (rs := [13]) (by kernel_rfl) (by simp) ?_
  refine AllReadyH.cons (by simp only [List.getElem?_toArray, List.getElem?_cons_zero, List.getElem?_cons_succ]; rfl) (fun K hK => ?_) AllReadyH.nil
  rw [if_pos (by rfl)]
  go_simp
  refine (HNO.out we).mono ?_
  rintro r wf ⟨rfl, hbx⟩
  have HBf : Hid (Below w8.heap.size w8 wf) := HBe.out.trans (hbx.mono HBe.out.size)
  clear hbx
  go_wp2_with fail
  refine hK.out _ _ ⟨(HKK.out _ HBf.out).1, (HKK.out _ HBf.out).2.1⟩ (fun hHeld => ?_)
  clear hK K
  try simp only [Act.put, List.setIfInBounds_toArray, List.set_cons_zero, List.set_cons_succ]
  refine wpAnyH_take (i := 14) (v := .bool true) (by simp only [List.getElem?_toArray, List.getElem?_cons_zero, List.getElem?_cons_succ]; rfl) (by kernel_rfl) (by kernel_rfl) (by kernel_rfl) (fun _ _ _ h => h)
    (yieldsIf_neqD (by rfl) _ _ rfl M Z lM lZ rfl rfl true HDM.out) hHeld ?_
  try simp only [Act.put, List.setIfInBounds_toArray, List.set_cons_zero, List.set_cons_succ]
  refine wpAnyH_take (i := 15) (v := ?_) (by simp only [List.getElem?_toArray, List.getElem?_cons_zero, List.getElem?_cons_succ]; rfl) (by kernel_rfl) (by kernel_rfl) (by kernel_rfl) (fun _ _ _ h => h) (Or.inl ⟨by rfl, ?_⟩) hHeld ?_
  rotate_left
  · intro w hSw
    obtain ⟨hSw0, hSw1⟩ := hSw
    go_simp
    try with_reducible rfl
  try simp only [Act.put, List.setIfInBounds_toArray, List.set_cons_zero, List.set_cons_succ]
  refine wpAnyH_take (i := 16) (v := ?_) (by simp only [List.getElem?_toArray, List.getElem?_cons_zero, List.getElem?_cons_succ]; rfl) (by kernel_rfl) (by kernel_rfl) (by kernel_rfl) (fun _ _ _ h => h) (Or.inl ⟨by rfl, ?_⟩) hHeld ?_
  rotate_left
  · intro w hSw
    obtain ⟨hSw0, hSw1⟩ := hSw
    go_simp
    try with_reducible rfl
  try simp only [Act.put, List.setIfInBounds_toArray, List.set_cons_zero, List.set_cons_succ]
  refine wpAnyH_done (by kernel_rfl) (NoPanic.normal ?_) _
  clear hHeld
  go_wp2_with fail
  go_ret
  exact ⟨rfl, (HKK.out _ HBf.out).2.2⟩
end Go.Proofs.YtbhoijnhpmkglaaDoor
/- The contract of the laws' at. -/
namespace Go.Proofs.YtbhoijnhpmkglaaDoor
open Go.RowKit
set_option linter.unusedVariables false
set_option linter.unusedSimpArgs false

theorem first_find {es : List Ent} {i k : Nat} (hi : i < es.length) (hk : (es.getD i noE).1 = (k : Int)) (h : ∀ j, j < i → (es.getD j noE).1 ≠ (k : Int)) : gE es k = leafE (es.getD i noE) := by
  refine gE_of ?_
  rw [List.find?_eq_some_iff_getElem]
  refine ⟨beq_iff_eq.2 hk, i, hi, ?_, fun j hj => ?_⟩
  · rw [List.getD_eq_getElem?_getD, List.getElem?_eq_getElem hi]; rfl
  · have := h j hj
    rw [List.getD_eq_getElem?_getD, List.getElem?_eq_getElem (by omega)] at this
    have h2 : es[j].1 ≠ (k : Int) := this
    simp [h2]
set_option maxRecDepth 100000 in
set_option maxHeartbeats 2000000 in
theorem wat_any (a : Option Addr) (n c : Nat) (es : List Ent) (k : Nat) (w : World) (G : Env w) (R : ERow w a n es) (hc : n ≤ c) (hn : n ≤ 9223372036854775807) (hk : k < 4294967296) (hv : ∀ e ∈ es, isKey e.1 = true) :
    Calls Tryd.prog 25 #[.slice a n c, .int .i64 (k : Int)] w fun r w' => r = .returned (.tuple #[digestV (gE es k), .bool true]) ∧ Below w.heap.size w w' := by
  obtain ⟨w2, hw2⟩ : ∃ w2, w.alloc (.cells (cellsB zD).toArray 24) = w2 := ⟨_, rfl⟩
  have HS2 : Hid (w2.heap.size = w.heap.size + 1) := by unfold Hid; rw [← hw2]; simp
  have HB2 : Hid (Below w.heap.size w w2) := by rw [← hw2]; exact (Below.refl _ _).alloc (Nat.le_refl _) _
  have ht2 : w2.there w.heap.size 0 32 := by rw [← hw2]; exact alloc_thereAt _ _ _ 32 _ rfl zD_size.symm
  have HK : Hid (∀ wx, Below w2.heap.size w2 wx → Env wx ∧ ERow wx a n es ∧ wx.there w.heap.size 0 32 ∧ Below w.heap.size w wx) := fun wx hx => by
    have s := HS2.out
    have b : Below w.heap.size w wx := HB2.out.trans (hx.mono (by omega))
    exact ⟨G.below b, R.below b, there_below ht2 hx (by omega), b⟩
  have HL : Hid (es.length = n) := R.1
  have HOKS : Hid (∀ i, i < n → okE (es.getD i noE) ∧ isKey (es.getD i noE).1 = true) := fun i hi => ⟨R.ok i hi, hv _ (by
    rw [List.getD_eq_getElem?_getD, List.getElem?_eq_getElem (by rw [R.1]; exact hi)]
    exact List.getElem_mem _)⟩
  clear G R ht2 hv
  go_enter Tryd.func25, Tryd.ntmps25
  go_wp2_with (refine wpList_allocE (by rfl) 24 (by rfl) (cellsB zD).toArray Tryd.zeroDg w.heap.size rfl w2 hw2 ?_)
  clear hw2
  go_loopw [6] (fun iv wr => ∃ i : Nat, i ≤ n ∧ iv = .int .i64 (i : Int) ∧ Hid (wr = w2) ∧ Hid (∀ j, j < i → (es.getD j noE).1 ≠ (k : Int))) (fun iv _ => n - (intOf iv).toNat)
  case atStart => exact ⟨0, Nat.zero_le _, rfl, rfl, fun j h => by omega⟩
  case round =>
    obtain ⟨i, hi, rfl, hwr, HN⟩ := hrel
    have hwr' : w2 = wr := hwr.out.symm
    subst hwr'
    have H0 : Hid (Below w2.heap.size w2 w2) := Below.refl _ _
    by_cases hlt : i < n
    · obtain ⟨b, o, ha⟩ := (HK.out _ H0.out).2.1.addr (by omega)
      subst ha
      have hr := (HK.out _ H0.out).2.1.at i hlt
      obtain ⟨hok, hkey⟩ := HOKS.out i hlt
      have HFF : Hid ((es.getD i noE).1 = (k : Int) → gE es k = leafE (es.getD i noE)) := fun h => first_find (by rw [HL.out]; exact hlt) h HN.out
      have HN2 : Hid ((es.getD i noE).1 ≠ (k : Int) → ∀ j, j < i + 1 → (es.getD j noE).1 ≠ (k : Int)) := fun h j hj => by
        by_cases q : j = i
        · subst q; exact h
        · exact HN.out j (by omega)
      generalize es.getD i noE = e at *
      have HOK : Hid (okE e ∧ isKey e.1 = true) := ⟨hok, hkey⟩
      have HRG : Hid (w2.rangeAt b (o + i * 33) (entC e)) := hr
      have k0 : w2.cell? ⟨b, o + i * 33, none⟩ = some (.int .i64 e.1) := hr 0 _ rfl
      have b1 := hok.2.1
      have b2 := hok.2.2
      have i0 : (0 : Int) ≤ (i : Int) := by omega
      have i1 : (i : Int) < (n : Int) := by omega
      clear hr hok hkey HN
      by_cases hs : e.1 = (k : Int)
      · have HE : Hid (gE es k = leafE e) := HFF.out hs
        have q1 : (e.1 == (k : Int)) = true := beq_iff_eq.2 hs
        have lE := leafE_length e
        have HLC : Hid (∀ wx, Env wx → Calls Tryd.prog 18 #[entV e] wx fun r w' => r = .returned (.tuple #[digestV (leafE e), .nilIface]) ∧ Below wx.heap.size wx w') := fun wx hx => wtrie_leaf e wx hx HOK.out.1 HOK.out.2
        clear hs HFF HN2
        generalize leafE e = L at *
        go_upto_region 5 with fail
        clear k0 q1
        go_wp2_with (refine wpList_load_mid (by rfl) 26 (.tmp 25) (by rfl) b (o + i * 33) (by rfl) (entC e) _ HRG.out Tryd.underlying26 (by rfl) (by rw [entC_length HOK.out.1]; exact Tryd.sizeEn) ?_)
        refine (HLC.out w2 (HK.out _ H0.out).1).mono ?_
        rintro r w3 ⟨rfl, hb3⟩
        have HB3 : Hid (Below w2.heap.size w2 w3) := hb3
        clear hb3 HLC HRG
        obtain ⟨g7, hg7⟩ : ∃ g7, w3.heap.size = g7 := ⟨_, rfl⟩
        obtain ⟨w4, hw4⟩ : ∃ w4, w3.alloc (.cells (cellsB zD).toArray 24) = w4 := ⟨_, rfl⟩
        have HT4 : Hid (w4.there g7 0 32) := by rw [← hw4]; exact alloc_thereAt _ _ _ 32 _ hg7 zD_size.symm
        have HB5 : Hid (Below w2.heap.size w2 (w4.setCells g7 0 (cellsB L))) := below_setCells _ (by rw [← hg7]; exact HB3.out.size) _ _ _ (by rw [← hw4]; exact HB3.out.alloc HB3.out.size _)
        have HX5 : Hid (DAt (w4.setCells g7 0 (cellsB L)) g7 0 L) := dat_stored HT4.out lE
        have HG7 : Hid (w2.heap.size ≤ g7) := by rw [← hg7]; exact HB3.out.size
        go_upto_region 6 with (first
          | (refine wpList_allocE (by rfl) 24 (by rfl) (cellsB zD).toArray Tryd.zeroDg g7 hg7 w4 hw4 ?_)
          | (refine wpList_store_mid (by rfl) 24 (.tmp 7) (.tmp 28) (by rfl) g7 0 (cellsB L).toArray (by rfl) (by rfl) (by rw [cellsB_size, lE]; exact HT4.out) (by rw [cellsB_size, lE]; exact Tryd.sizeDg) (all_oneCell_toArray (cellsB_one _)) ?_))
        generalize w4.setCells g7 0 (cellsB L) = w5 at *
        clear hw4 HT4 hg7
        try simp only [Act.put, List.setIfInBounds_toArray, List.set_cons_zero, List.set_cons_succ]
        refine wp_region_noPanic ?_
        refine wp_region_held_drew (S := fun wx => wx.rangeAt g7 0 (cellsB L)) (by kernel_rfl) ((World.rangeAt_drew _ _ _ _).2 HX5.out) (fun hHeld => ?_)
        try simp only [Act.put, List.setIfInBounds_toArray, List.set_cons_zero, List.set_cons_succ]
        have HBd : Hid (Below w2.heap.size w2 w5.drew) := HB5.out.trans ((below_drewN w5 1).mono HB5.out.size)
        have HXd : Hid (w5.drew.rangeAt g7 0 (cellsB L)) := (World.rangeAt_drew _ _ _ _).2 HX5.out
        generalize w5.drew = wd at *
        refine wpAnyH_take (i := 0) (v := .agg (cellsB L).toArray) (by simp only [List.getElem?_toArray, List.getElem?_cons_zero, List.getElem?_cons_succ]; rfl) (by kernel_rfl) (by kernel_rfl) (by kernel_rfl) (fun _ _ _ h => h)
          (yieldsIf_load_mid (by rfl) _ _ rfl _ _ rfl _ _ (fun w hw => hw) Tryd.underlying24 rfl (by rw [cellsB_length, lE]; exact Tryd.sizeDg)) hHeld ?_
        try simp only [Act.put, List.setIfInBounds_toArray, List.set_cons_zero, List.set_cons_succ]
        refine wpAnyH_take (i := 1) (v := ?_) (by simp only [List.getElem?_toArray, List.getElem?_cons_zero, List.getElem?_cons_succ]; rfl) (by kernel_rfl) (by kernel_rfl) (by kernel_rfl) (fun _ _ _ h => h) (Or.inl ⟨by rfl, ?_⟩) hHeld ?_
        rotate_left
        · intro w hSw
          go_simp
          try with_reducible rfl
        try simp only [Act.put, List.setIfInBounds_toArray, List.set_cons_zero, List.set_cons_succ]
        refine wpAnyH_take (i := 2) (v := ?_) (by simp only [List.getElem?_toArray, List.getElem?_cons_zero, List.getElem?_cons_succ]; rfl) (by kernel_rfl) (by kernel_rfl) (by kernel_rfl) (fun _ _ _ h => h) (Or.inl ⟨by rfl, ?_⟩) hHeld ?_
        rotate_left
        · intro w hSw
          go_simp
          try with_reducible rfl
        try simp only [Act.put, List.setIfInBounds_toArray, List.set_cons_zero, List.set_cons_succ]
        refine wpAnyH_ready (rs := [3]) (by kernel_rfl) (by simp) ?_
        refine AllReadyH.cons (by simp only [List.getElem?_toArray, List.getElem?_cons_zero, List.getElem?_cons_succ]; rfl) (fun K hK => ?_) AllReadyH.nil
        rw [if_pos (by rfl)]
        have HTd : Hid (wd.there w.heap.size 0 32) := (HK.out _ HBd.out).2.2.1
        refine wp_store_mid _ _ _ rfl w.heap.size 0 (cellsB L).toArray rfl rfl (by rw [cellsB_size, lE]; exact HTd.out) (by rw [cellsB_size, lE]; exact Tryd.sizeDg) (all_oneCell_toArray (cellsB_one _)) ?_
        refine hK.out _ _ (World.rangeAt_setCells_apart HXd.out _ _ _ (.inl (by have := HG7.out; have := HS2.out; omega))) (fun hHeld => ?_)
        clear hK K
        try simp only [Act.put, List.setIfInBounds_toArray, List.set_cons_zero, List.set_cons_succ]
        refine wpAnyH_take (i := 4) (v := ?_) (by simp only [List.getElem?_toArray, List.getElem?_cons_zero, List.getElem?_cons_succ]; rfl) (by kernel_rfl) (by kernel_rfl) (by kernel_rfl) (fun _ _ _ h => h) (Or.inl ⟨by rfl, ?_⟩) hHeld ?_
        rotate_left
        · intro w hSw
          go_simp
          try with_reducible rfl
        try simp only [Act.put, List.setIfInBounds_toArray, List.set_cons_zero, List.set_cons_succ]
        refine wpAnyH_done (by kernel_rfl) (NoPanic.normal ?_) _
        clear hHeld
        go_wp2_with fail
        refine bodyPost_ret (v := .tuple #[digestV L, .bool true]) (run_results_row2 Tryd.results25 _ _ w.heap.size 0 (by rfl) _ (by rfl) (cellsB L) (World.rangeAt_setCells_same _ _ _ _ (by rw [cellsB_length, lE]; exact HTd.out)) _ Tryd.underlying24 (by rfl) (by rw [cellsB_length, lE]; exact Tryd.sizeDg)) rfl ⟨by rw [HE.out], ?_⟩
        exact below_setCells _ (Nat.le_refl _) _ _ _ (HK.out _ HBd.out).2.2.2
      · have q1 : (e.1 == (k : Int)) = false := beq_eq_false_iff_ne.2 hs
        have HN3 := HN2.out hs
        have HN4 : Hid (∀ j, j < i + 1 → (es.getD j noE).1 ≠ (k : Int)) := HN3
        clear HN3 hs HFF HN2
        go_wp2_with fail
        go_roundw
        case rel => exact ⟨i + 1, by omega, by go_num, by first | exact True.intro | exact rfl, HN4.out⟩
        case measure => simp [intOf]; omega
    · obtain rfl : i = n := by omega
      have g1 : ¬ (i : Int) < (i : Int) := by omega
      have HE : Hid (gE es k = zT) := gE_none (none_find (fun j hj => HN.out j (by rw [HL.out] at hj; exact hj)))
      go_wp2_with fail
      refine (rnothing_any w2).mono ?_
      rintro r w3 ⟨rfl, hb3⟩
      have HB3 : Hid (Below w2.heap.size w2 w3) := hb3
      have HT3 : Hid (w3.there w.heap.size 0 32) := (HK.out _ hb3).2.2.1
      have lZ : zT.length = 32 := rfl
      clear hb3
      generalize zT = Z at *
      go_wp2_with (refine wpList_store_mid (by rfl) 24 (.tmp 4) (.tmp 33) (by rfl) w.heap.size 0 (cellsB Z).toArray (by rfl) (by rfl) (by rw [cellsB_size, lZ]; exact HT3.out) (by rw [cellsB_size, lZ]; exact Tryd.sizeDg) (all_oneCell_toArray (cellsB_one _)) ?_)
      refine bodyPost_ret (v := .tuple #[digestV Z, .bool true]) (run_results_row2 Tryd.results25 _ _ w.heap.size 0 (by rfl) _ (by rfl) (cellsB Z) (World.rangeAt_setCells_same _ _ _ _ (by rw [cellsB_length, lZ]; exact HT3.out)) _ Tryd.underlying24 (by rfl) (by rw [cellsB_length, lZ]; exact Tryd.sizeDg)) rfl ⟨by rw [HE.out], ?_⟩
      exact below_setCells _ (Nat.le_refl _) _ _ _ (HK.out _ HB3.out).2.2.2
end Go.Proofs.YtbhoijnhpmkglaaDoor
