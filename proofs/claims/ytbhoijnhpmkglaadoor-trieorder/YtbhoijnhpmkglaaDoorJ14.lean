/- Texts of this claim, joined: Factti, Lleafed, Wtrieall, OwnI. -/
import Derived.Test.YtbhoijnhpmkglaaDoorJ13
import Derived.Test.YtbhoijnhpmkglaaDoorJ07
import Derived.Test.YtbhoijnhpmkglaaDoorJ11
import Derived.Deep.DeepCutAuto
import Derived.Test.YtbhoijnhpmkglaaDoorJ02
/- Leaf of key 1 and bytes 0, and the root of it alone: not bytes 0. -/
namespace Go.Proofs.YtbhoijnhpmkglaaDoor
open Go.RowKit
set_option linter.unusedVariables false
set_option linter.unusedSimpArgs false

def notZ (h : List Nat) : Bool := at' h 0 % 256 != 0 || at' h 1 % 256 != 0
def upK : Nat → List Nat → Bool
  | 0, h => notZ h
  | n + 1, h => notZ h && shaK (fun h' => upK n h') 65 (10 :: outN h (List.replicate 32 0))
theorem trie_fact : shaK (fun h => notZ h && shaK (fun h' => upK 31 h') 65 (10 :: (List.replicate 32 0 ++ outN h []))) 37 (nums (9 :: (putL 1 4 ++ zT))) = true := by decide +kernel
theorem notZ_is {h : List Nat} (hz : notZ h = true) : outL h ≠ zT := by
  intro e
  have h0 := nth_outL h 3 (by omega)
  have h1 := nth_outL h 7 (by omega)
  rw [e] at h0 h1
  have z0 : nth zT 3 = 0 := rfl
  have z1 : nth zT 7 = 0 := rfl
  rw [z0] at h0
  rw [z1] at h1
  have a0 : at' h 0 % 256 = 0 := by
    have : (0 : Int) = ((at' h 0 >>> 0 % 256 : Nat) : Int) := h0
    rw [Nat.shiftRight_zero] at this
    omega
  have a1 : at' h 1 % 256 = 0 := by
    have : (0 : Int) = ((at' h 1 >>> 0 % 256 : Nat) : Int) := h1
    rw [Nat.shiftRight_zero] at this
    omega
  unfold notZ at hz
  rw [a0, a1] at hz
  exact absurd hz (by decide)
theorem nums_z : nums zT = List.replicate 32 0 := rfl
theorem shaW_8 (l : List UInt8) : (shaW l).length = 8 := hTo_len _ _
theorem up_is : ∀ n h, h.length = 8 → upK n h = true → foldM 0 (outL h) (List.replicate n zT) ≠ zT
  | 0, h, _, hu => notZ_is hu
  | n + 1, h, hl, hu => by
    unfold upK at hu
    rw [Bool.and_eq_true] at hu
    have hn := notZ_is hu.1
    have e : 10 :: outN h (List.replicate 32 0) = nums (10 :: (outL h ++ zT)) := by
      rw [outN_eq h hl, ← nums_z, ← nums_append]
      rfl
    have hk := hu.2
    rw [e, shaK_eq _ _ 65 (by rw [List.length_cons, List.length_append, outL_length, zT_length])] at hk
    have := up_is n _ (shaW_8 _) hk
    rw [List.replicate_succ, foldM]
    have hm : (if 0 % 2 = 1 then mnode zT (outL h) else mnode (outL h) zT) = outL (shaW (10 :: (outL h ++ zT))) := by
      rw [if_neg (by omega)]
      unfold mnode
      rw [if_neg (fun q => hn q.1)]
      rfl
    rw [hm]
    exact this
theorem trie_both : leafE (1, zT) ≠ zT ∧ foldM 1 (leafE (1, zT)) (List.replicate 32 zT) ≠ zT := by
  have hk := trie_fact
  rw [shaK_eq _ _ 37 (by rw [List.length_cons, List.length_append, putL_length, zT_length]), Bool.and_eq_true] at hk
  have hl : leafE (1, zT) = outL (shaW (9 :: (putL 1 4 ++ zT))) := rfl
  have hn := notZ_is hk.1
  have e : 10 :: (List.replicate 32 0 ++ outN (shaW (9 :: (putL 1 4 ++ zT))) []) = nums (10 :: (zT ++ outL (shaW (9 :: (putL 1 4 ++ zT))))) := by
    rw [outN_eq _ (shaW_8 _), List.append_nil, ← nums_z, ← nums_append]
    rfl
  have h2 := hk.2
  rw [e, shaK_eq _ _ 65 (by rw [List.length_cons, List.length_append, outL_length, zT_length])] at h2
  have hu := up_is 31 _ (shaW_8 _) h2
  rw [← hl] at hn hu
  refine ⟨hn, ?_⟩
  rw [List.replicate_succ, foldM]
  have hm : (if 1 % 2 = 1 then mnode zT (leafE (1, zT)) else mnode (leafE (1, zT)) zT) = outL (shaW (10 :: (zT ++ leafE (1, zT)))) := by
    rw [if_pos (by omega)]
    unfold mnode
    rw [if_neg (fun q => hn q.2)]
    rfl
  rw [hm]
  exact hu
theorem path_zero (g : Nat → List UInt8) (k n : Nat) (h : ∀ x, x ≠ k → g x = zT) : pathM g k n = List.replicate n zT := by
  rw [path_but (g' := fun _ => zT) k n h]
  unfold pathM
  rw [List.map_congr_left (g := fun _ => zT) (fun i _ => mapL_zero i _), List.map_const', List.length_range]
theorem gE_one (e : Ent) (k : Nat) (hk : e.1 = (k : Int)) : gE [e] k = leafE e ∧ ∀ x, x ≠ k → gE [e] x = zT := by
  refine ⟨gE_of (by simp [hk]), fun x hx => gE_none ?_⟩
  rw [List.find?_eq_none]
  intro y hy
  rw [List.mem_singleton.1 hy, hk]
  simp
  omega
/-- The root of one entry. -/
theorem root_one (e : Ent) (k : Nat) (hk : e.1 = (k : Int)) (h32 : k < 2 ^ 32) : mapL (gE [e]) 0 32 = foldM k (leafE e) (List.replicate 32 zT) := by
  obtain ⟨h1, h2⟩ := gE_one e k hk
  rw [← fold_map (gE [e]) k 32 h32, h1, path_zero _ k 32 h2]
theorem trie_root_ne : mapL (gE [(1, zT)]) 0 32 ≠ zT := by
  rw [root_one (1, zT) 1 rfl (by omega)]
  exact trie_both.2
end Go.Proofs.YtbhoijnhpmkglaaDoor
/- The contract of the laws' leafed. -/
namespace Go.Proofs.YtbhoijnhpmkglaaDoor
open Go.RowKit
set_option linter.unusedVariables false
set_option linter.unusedSimpArgs false

def eOne : Ent := (1, zT)
theorem eOne_ok : okE eOne := ⟨rfl, by decide, by decide⟩
theorem Tryd.builtOne : Tryd.prog.built 26 [(0, .int .i64 1)] = some (entC eOne).toArray := by kernel_rfl
theorem eOne_fault : faultE [eOne] = 0 := by decide
theorem leaf_fact : ∃ L M : List UInt8, L.length = 32 ∧ M.length = 32 ∧ L ≠ zT ∧ M ≠ zT ∧ leafE eOne = L ∧ mapL (gE [eOne]) 0 32 = M := ⟨_, _, leafE_length _, mapL_length (gE_length _) 32 0, trie_both.1, trie_root_ne, rfl, rfl⟩
set_option maxRecDepth 100000 in
set_option maxHeartbeats 2000000 in
theorem wleafed_any (w : World) (G : Env w) :
    Calls Tryd.prog 24 #[] w fun r w' => r = .returned (.bool true) ∧ Below w.heap.size w w' := by
  obtain ⟨L, M, lL, lM, hLZ, hMZ, hL, hM⟩ := leaf_fact
  have HGE : Hid (∀ wx, Below w.heap.size w wx → Env wx) := fun wx hx => G.below hx
  have HC1 : Hid (∀ wx, Env wx → Calls Tryd.prog 18 #[entV eOne] wx fun r w' => r = .returned (.tuple #[digestV L, .nilIface]) ∧ Below wx.heap.size wx w') := fun wx hx => by
    have := wtrie_leaf eOne wx hx eOne_ok rfl
    rw [hL] at this
    exact this
  have HC2 : Hid (∀ a c wx, Env wx → ERow wx a 1 [eOne] → 1 ≤ c → Calls Tryd.prog 11 #[.slice a 1 c] wx fun r w' => r = .returned (.tuple #[digestV M, .nilIface]) ∧ Below wx.heap.size wx w') := fun a c wx hx hr hc => by
    have := wtrie_root a 1 c [eOne] wx hx hr hc (by omega) eOne_fault
    rw [hM] at this
    exact this
  have HNO : Hid (∀ wx, Calls Tryd.prog 23 #[] wx fun e w' => e = .returned (digestV zT) ∧ Below wx.heap.size wx w') := rnothing_any
  have HNEW : Hid (∀ wx : World, ERow (wx.alloc (.cells (entC eOne).toArray 26)) (some ⟨wx.heap.size, 0, none⟩) 1 [eOne]) := fun wx => ERow.new wx eOne _ eOne_ok
  have lZ : zT.length = 32 := rfl
  have HDL : Hid ((!decide (L = zT)) = true) := by unfold Hid; simp [hLZ]
  have HDM : Hid ((!decide (M = zT)) = true) := by unfold Hid; simp [hMZ]
  have HBU : Hid (Tryd.prog.built 26 [(0, .int .i64 1)] = some (entC eOne).toArray) := Tryd.builtOne
  have HOK : Hid (okE eOne) := eOne_ok
  clear hL hM hLZ hMZ G
  generalize zT = Z at *
  generalize eOne = E1 at *
  go_enter Tryd.func24, Tryd.ntmps24
  go_wp2_with (refine wpList_buildC (by rfl) 26 #[(0, .const (.int .i64 1))] (by rfl) (entC E1).toArray (by simp only [List.map_toArray, List.map_cons, List.map_nil, Act.eval]; exact HBU.out) ?_)
  refine (HC1.out w (HGE.out _ (Below.refl _ _))).mono ?_
  rintro r w2 ⟨rfl, hb2⟩
  have HB2 : Hid (Below w.heap.size w w2) := hb2
  clear hb2
  obtain ⟨g1, hg1⟩ : ∃ g1, w2.heap.size = g1 := ⟨_, rfl⟩
  obtain ⟨w3, hw3⟩ : ∃ w3, w2.alloc (.cells (cellsB zD).toArray 24) = w3 := ⟨_, rfl⟩
  have HT3 : Hid (w3.there g1 0 32) := by rw [← hw3]; exact alloc_thereAt _ _ _ 32 _ hg1 zD_size.symm
  have HB4 : Hid (Below w.heap.size w (w3.setCells g1 0 (cellsB L))) := below_setCells _ (by rw [← hg1]; exact HB2.out.size) _ _ _ (by rw [← hw3]; exact HB2.out.alloc HB2.out.size _)
  have HX4 : Hid (DAt (w3.setCells g1 0 (cellsB L)) g1 0 L) := dat_stored HT3.out lL
  go_upto_region 2 with (first
    | (refine wpList_allocE (by rfl) 24 (by rfl) (cellsB zD).toArray Tryd.zeroDg g1 hg1 w3 hw3 ?_)
    | (refine wpList_store_mid (by rfl) 24 (.tmp 1) (.tmp 8) (by rfl) g1 0 (cellsB L).toArray (by rfl) (by rfl) (by rw [cellsB_size, lL]; exact HT3.out) (by rw [cellsB_size, lL]; exact Tryd.sizeDg) (all_oneCell_toArray (cellsB_one _)) ?_))
  generalize w3.setCells g1 0 (cellsB L) = w4 at *
  clear hw3 HT3 hg1
  try simp only [Act.put, List.setIfInBounds_toArray, List.set_cons_zero, List.set_cons_succ]
  have HB5 : Hid (Below w.heap.size w (w4.alloc (.cells (entC E1).toArray 26))) := HB4.out.alloc HB4.out.size _
  have HX5 : Hid (DAt (w4.alloc (.cells (entC E1).toArray 26)) g1 0 L) := World.rangeAt_alloc HX4.out _
  go_wp2_with (first
    | (refine wpList_buildC (by rfl) 26 #[(0, .const (.int .i64 1))] (by rfl) (entC E1).toArray (by simp only [List.map_toArray, List.map_cons, List.map_nil, Act.eval]; exact HBU.out) ?_)
    | (refine wpList_buildEn (by rfl) (.tmp 11) (by rfl) E1 HOK.out (by rfl) ?_))
  refine (HC2.out _ 1 _ (HGE.out _ HB5.out) (HNEW.out w4) (by omega)).mono ?_
  rintro r w6 ⟨rfl, hb6⟩
  have HB6 : Hid (Below w.heap.size w w6) := HB5.out.trans (hb6.mono HB5.out.size)
  have HX6 : Hid (DAt w6 g1 0 L) := HX5.out.below hb6 (cell_block (HX5.out.cell 0 (by omega)))
  clear hb6 HB5 HX5 HX4 HB4
  obtain ⟨g3, hg3⟩ : ∃ g3, w6.heap.size = g3 := ⟨_, rfl⟩
  obtain ⟨w7, hw7⟩ : ∃ w7, w6.alloc (.cells (cellsB zD).toArray 24) = w7 := ⟨_, rfl⟩
  have HT7 : Hid (w7.there g3 0 32) := by rw [← hw7]; exact alloc_thereAt _ _ _ 32 _ hg3 zD_size.symm
  have HB67 : Hid (Below w6.heap.size w6 (w7.setCells g3 0 (cellsB M))) := below_setCells _ (by rw [hg3]; exact Nat.le_refl _) _ _ _ (by rw [← hw7]; exact (Below.refl _ _).alloc (Nat.le_refl _) _)
  have HX8 : Hid (DAt (w7.setCells g3 0 (cellsB M)) g3 0 M) := dat_stored HT7.out lM
  go_upto_region 3 with (first
    | (refine wpList_allocE (by rfl) 24 (by rfl) (cellsB zD).toArray Tryd.zeroDg g3 hg3 w7 hw7 ?_)
    | (refine wpList_store_mid (by rfl) 24 (.tmp 3) (.tmp 14) (by rfl) g3 0 (cellsB M).toArray (by rfl) (by rfl) (by rw [cellsB_size, lM]; exact HT7.out) (by rw [cellsB_size, lM]; exact Tryd.sizeDg) (all_oneCell_toArray (cellsB_one _)) ?_))
  generalize w7.setCells g3 0 (cellsB M) = w8 at *
  clear hw7 HT7 hg3
  try simp only [Act.put, List.setIfInBounds_toArray, List.set_cons_zero, List.set_cons_succ]
  have HKK : Hid (∀ wx, Below w8.heap.size w8 wx → wx.rangeAt g1 0 (cellsB L) ∧ wx.rangeAt g3 0 (cellsB M) ∧ Below w.heap.size w wx) := fun wx hx => by
    have b6 : Below w6.heap.size w6 wx := HB67.out.trans (hx.mono HB67.out.size)
    exact ⟨HX6.out.below b6 (cell_block (HX6.out.cell 0 (by omega))), HX8.out.below hx (cell_block (HX8.out.cell 0 (by omega))), HB6.out.trans (b6.mono HB6.out.size)⟩
  refine wp_region_noPanic ?_
  refine wp_region_held_drew (S := fun wx => wx.rangeAt g1 0 (cellsB L) ∧ wx.rangeAt g3 0 (cellsB M)) (by kernel_rfl) ⟨(HKK.out _ (below_drewN w8 1)).1, (HKK.out _ (below_drewN w8 1)).2.1⟩ (fun hHeld => ?_)
  try simp only [Act.put, List.setIfInBounds_toArray, List.set_cons_zero, List.set_cons_succ]
  have HBd : Hid (Below w8.heap.size w8 w8.drew) := below_drewN w8 1
  generalize w8.drew = wd at *
  refine wpAnyH_take (i := 0) (v := ?_) (by simp only [List.getElem?_toArray, List.getElem?_cons_zero, List.getElem?_cons_succ]; rfl) (by kernel_rfl) (by kernel_rfl) (by kernel_rfl) (fun _ _ _ h => h) (Or.inl ⟨by rfl, ?_⟩) hHeld ?_
  rotate_left
  · intro w hSw
    obtain ⟨hSw0, hSw1⟩ := hSw
    go_simp
    try with_reducible rfl
  try simp only [Act.put, List.setIfInBounds_toArray, List.set_cons_zero, List.set_cons_succ]
  refine wpAnyH_take (i := 1) (v := ?_) (by simp only [List.getElem?_toArray, List.getElem?_cons_zero, List.getElem?_cons_succ]; rfl) (by kernel_rfl) (by kernel_rfl) (by kernel_rfl) (fun _ _ _ h => h) (Or.inl ⟨by rfl, ?_⟩) hHeld ?_
  rotate_left
  · intro w hSw
    obtain ⟨hSw0, hSw1⟩ := hSw
    go_simp
    try with_reducible rfl
  try simp only [Act.put, List.setIfInBounds_toArray, List.set_cons_zero, List.set_cons_succ]
  refine wpAnyH_take (i := 2) (v := ?_) (by simp only [List.getElem?_toArray, List.getElem?_cons_zero, List.getElem?_cons_succ]; rfl) (by kernel_rfl) (by kernel_rfl) (by kernel_rfl) (fun _ _ _ h => h) (Or.inl ⟨by rfl, ?_⟩) hHeld ?_
  rotate_left
  · intro w hSw
    obtain ⟨hSw0, hSw1⟩ := hSw
    go_simp
    try with_reducible rfl
  try simp only [Act.put, List.setIfInBounds_toArray, List.set_cons_zero, List.set_cons_succ]
  refine wpAnyH_take (i := 3) (v := ?_) (by simp only [List.getElem?_toArray, List.getElem?_cons_zero, List.getElem?_cons_succ]; rfl) (by kernel_rfl) (by kernel_rfl) (by kernel_rfl) (fun _ _ _ h => h) (Or.inl ⟨by rfl, ?_⟩) hHeld ?_
  rotate_left
  · intro w hSw
    obtain ⟨hSw0, hSw1⟩ := hSw
    go_simp
    try with_reducible rfl
  try simp only [Act.put, List.setIfInBounds_toArray, List.set_cons_zero, List.set_cons_succ]
  refine wpAnyH_take (i := 4) (v := ?_) (by simp only [List.getElem?_toArray, List.getElem?_cons_zero, List.getElem?_cons_succ]; rfl) (by kernel_rfl) (by kernel_rfl) (by kernel_rfl) (fun _ _ _ h => h) (Or.inl ⟨by rfl, ?_⟩) hHeld ?_
  rotate_left
  · intro w hSw
    obtain ⟨hSw0, hSw1⟩ := hSw
    go_simp
    try with_reducible rfl
  try simp only [Act.put, List.setIfInBounds_toArray, List.set_cons_zero, List.set_cons_succ]
  refine wpAnyH_take (i := 5) (v := ?_) (by simp only [List.getElem?_toArray, List.getElem?_cons_zero, List.getElem?_cons_succ]; rfl) (by kernel_rfl) (by kernel_rfl) (by kernel_rfl) (fun _ _ _ h => h) (Or.inl ⟨by rfl, ?_⟩) hHeld ?_
  rotate_left
  · intro w hSw
    obtain ⟨hSw0, hSw1⟩ := hSw
    go_simp
    try with_reducible rfl
  try simp only [Act.put, List.setIfInBounds_toArray, List.set_cons_zero, List.set_cons_succ]
  refine wpAnyH_take (i := 6) (v := ?_) (by simp only [List.getElem?_toArray, List.getElem?_cons_zero, List.getElem?_cons_succ]; rfl) (by kernel_rfl) (by kernel_rfl) (by kernel_rfl) (fun _ _ _ h => h) (Or.inl ⟨by rfl, ?_⟩) hHeld ?_
  rotate_left
  · intro w hSw
    obtain ⟨hSw0, hSw1⟩ := hSw
    go_simp
    try with_reducible rfl
  try simp only [Act.put, List.setIfInBounds_toArray, List.set_cons_zero, List.set_cons_succ]
  refine wpAnyH_take (i := 7) (v := .agg (cellsB L).toArray) (by simp only [List.getElem?_toArray, List.getElem?_cons_zero, List.getElem?_cons_succ]; rfl) (by kernel_rfl) (by kernel_rfl) (by kernel_rfl) (fun _ _ _ h => h)
    (yieldsIf_load_mid (by rfl) _ _ rfl _ _ rfl _ _ (fun w hw => hw.1) Tryd.underlying24 rfl (by rw [cellsB_length, lL]; exact Tryd.sizeDg)) hHeld ?_
  try simp only [Act.put, List.setIfInBounds_toArray, List.set_cons_zero, List.set_cons_succ]
  refine wpAnyH_ready (rs := [8]) (by kernel_rfl) (by simp) ?_
  refine AllReadyH.cons (by simp only [List.getElem?_toArray, List.getElem?_cons_zero, List.getElem?_cons_succ]; rfl) (fun K hK => ?_) AllReadyH.nil
  rw [if_pos (by rfl)]
  go_simp
  refine (HNO.out wd).mono ?_
  rintro r we ⟨rfl, hbx⟩
  have HBe : Hid (Below w8.heap.size w8 we) := HBd.out.trans (hbx.mono HBd.out.size)
  clear hbx
  go_wp2_with fail
  refine hK.out _ _ ⟨(HKK.out _ HBe.out).1, (HKK.out _ HBe.out).2.1⟩ (fun hHeld => ?_)
  clear hK K
  try simp only [Act.put, List.setIfInBounds_toArray, List.set_cons_zero, List.set_cons_succ]
  refine wpAnyH_take (i := 9) (v := .bool true) (by simp only [List.getElem?_toArray, List.getElem?_cons_zero, List.getElem?_cons_succ]; rfl) (by kernel_rfl) (by kernel_rfl) (by kernel_rfl) (fun _ _ _ h => h)
    (yieldsIf_neqD (by rfl) _ _ rfl L Z lL lZ rfl rfl true HDL.out) hHeld ?_
  try simp only [Act.put, List.setIfInBounds_toArray, List.set_cons_zero, List.set_cons_succ]
  refine wpAnyH_take (i := 10) (v := ?_) (by simp only [List.getElem?_toArray, List.getElem?_cons_zero, List.getElem?_cons_succ]; rfl) (by kernel_rfl) (by kernel_rfl) (by kernel_rfl) (fun _ _ _ h => h) (Or.inl ⟨by rfl, ?_⟩) hHeld ?_
  rotate_left
  · intro w hSw
    obtain ⟨hSw0, hSw1⟩ := hSw
    go_simp
    try with_reducible rfl
  try simp only [Act.put, List.setIfInBounds_toArray, List.set_cons_zero, List.set_cons_succ]
  refine wpAnyH_take (i := 11) (v := ?_) (by simp only [List.getElem?_toArray, List.getElem?_cons_zero, List.getElem?_cons_succ]; rfl) (by kernel_rfl) (by kernel_rfl) (by kernel_rfl) (fun _ _ _ h => h) (Or.inl ⟨by rfl, ?_⟩) hHeld ?_
  rotate_left
  · intro w hSw
    obtain ⟨hSw0, hSw1⟩ := hSw
    go_simp
    try with_reducible rfl
  try simp only [Act.put, List.setIfInBounds_toArray, List.set_cons_zero, List.set_cons_succ]
  refine wpAnyH_take (i := 12) (v := .agg (cellsB M).toArray) (by simp only [List.getElem?_toArray, List.getElem?_cons_zero, List.getElem?_cons_succ]; rfl) (by kernel_rfl) (by kernel_rfl) (by kernel_rfl) (fun _ _ _ h => h)
    (yieldsIf_load_mid (by rfl) _ _ rfl _ _ rfl _ _ (fun w hw => hw.2) Tryd.underlying24 rfl (by rw [cellsB_length, lM]; exact Tryd.sizeDg)) hHeld ?_
  try simp only [Act.put, List.setIfInBounds_toArray, List.set_cons_zero, List.set_cons_succ]
  refine wpAnyH_ready (rs := [13]) (by kernel_rfl) (by simp) ?_
  refine AllReadyH.cons (by simp only [List.getElem?_toArray, List.getElem?_cons_zero, List.getElem?_cons_succ]; rfl) (fun K hK => ?_) AllReadyH.nil
  rw [if_pos (by rfl)]
  go_simp
  refine (HNO.out we).mono ?_
  rintro r wf ⟨rfl, hbx⟩
  have HBf : Hid (Below w8.heap.size w8 wf) := HBe.out.trans (hbx.mono HBe.out.size)
  clear hbx
  go_wp2_with fail
  refine hK.out _ _ ⟨(HKK.out _ HBf.out).1, (HKK.out _ HBf.out).2.1⟩ (fun hHeld => ?_)
  clear hK K
  try simp only [Act.put, List.setIfInBounds_toArray, List.set_cons_zero, List.set_cons_succ]
  refine wpAnyH_take (i := 14) (v := .bool true) (by simp only [List.getElem?_toArray, List.getElem?_cons_zero, List.getElem?_cons_succ]; rfl) (by kernel_rfl) (by kernel_rfl) (by kernel_rfl) (fun _ _ _ h => h)
    (yieldsIf_neqD (by rfl) _ _ rfl M Z lM lZ rfl rfl true HDM.out) hHeld ?_
  try simp only [Act.put, List.setIfInBounds_toArray, List.set_cons_zero, List.set_cons_succ]
  refine wpAnyH_take (i := 15) (v := ?_) (by simp only [List.getElem?_toArray, List.getElem?_cons_zero, List.getElem?_cons_succ]; rfl) (by kernel_rfl) (by kernel_rfl) (by kernel_rfl) (fun _ _ _ h => h) (Or.inl ⟨by rfl, ?_⟩) hHeld ?_
  rotate_left
  · intro w hSw
    obtain ⟨hSw0, hSw1⟩ := hSw
    go_simp
    try with_reducible rfl
  try simp only [Act.put, List.setIfInBounds_toArray, List.set_cons_zero, List.set_cons_succ]
  refine wpAnyH_take (i := 16) (v := ?_) (by simp only [List.getElem?_toArray, List.getElem?_cons_zero, List.getElem?_cons_succ]; rfl) (by kernel_rfl) (by kernel_rfl) (by kernel_rfl) (fun _ _ _ h => h) (Or.inl ⟨by rfl, ?_⟩) hHeld ?_
  rotate_left
  · intro w hSw
    obtain ⟨hSw0, hSw1⟩ := hSw
    go_simp
    try with_reducible rfl
  try simp only [Act.put, List.setIfInBounds_toArray, List.set_cons_zero, List.set_cons_succ]
  refine wpAnyH_done (by kernel_rfl) (NoPanic.normal ?_) _
  clear hHeld
  go_wp2_with fail
  go_ret
  exact ⟨rfl, (HKK.out _ HBf.out).2.2⟩
end Go.Proofs.YtbhoijnhpmkglaaDoor
/- Root and Path, whatever they are asked (over the interface Wtrie). -/
namespace Go.Proofs.YtbhoijnhpmkglaaDoor
open Go.RowKit
set_option linter.unusedVariables false
set_option linter.unusedSimpArgs false

theorem wtrie_rootall (a : Option Addr) (n c : Nat) (es : List Ent) (w : World) (G : Env w) (R : ERow w a n es) (hc : n ≤ c) (hn : 40 * n ≤ 140737488351232) :
    Calls Tryd.prog 11 #[.slice a n c] w fun r w' => (∃ (X : List UInt8) (er : Value), X.length = 32 ∧ r = .returned (.tuple #[digestV X, er]) ∧ ((er = .nilIface ∧ faultE es = 0 ∧ X = mapL (gE es) 0 32) ∨ (∃ z : Int, er = .iface 27 (.int .i64 z)))) ∧ Below w.heap.size w w' := by
  by_cases h : faultE es = 0
  · refine (wtrie_root a n c es w G R hc hn h).mono ?_
    rintro r w' ⟨rfl, hb⟩
    exact ⟨⟨_, _, mapL_length (gE_length es) 32 0, rfl, .inl ⟨rfl, h, rfl⟩⟩, hb⟩
  · refine (wtrie_rootout a n c es _ w G R hc hn rfl h).mono ?_
    rintro r w' ⟨rfl, hb⟩
    exact ⟨⟨_, _, zT_length, rfl, .inr ⟨_, rfl⟩⟩, hb⟩
theorem wtrie_pathall (a : Option Addr) (n c : Nat) (es : List Ent) (k : Int) (w : World) (G : Env w) (R : ERow w a n es) (hc : n ≤ c) (hn : 40 * n ≤ 140737488351232) (k1 : -9223372036854775808 ≤ k) (k2 : k ≤ 9223372036854775807) :
    Calls Tryd.prog 15 #[.slice a n c, .int .i64 k] w fun r w' => (∃ (a' : Option Addr) (n' c' : Nat) (er : Value), r = .returned (.tuple #[.slice a' n' c', er]) ∧ ((er = .nilIface ∧ faultE es = 0 ∧ isKey k = true ∧ n' = 32 ∧ 32 ≤ c' ∧ DRow w' a' 32 (pathM (gE es) k.toNat 32)) ∨ (∃ z : Int, er = .iface 27 (.int .i64 z)))) ∧ Below w.heap.size w w' := by
  by_cases h : pathE es k = 0
  · have hf : faultE es = 0 := by
      unfold pathE at h
      by_cases c1 : faultE es = 0
      · exact c1
      · rw [if_pos c1] at h; exact h
    have hk : isKey k = true := by
      unfold pathE at h
      rw [if_neg (by simp [hf])] at h
      by_cases c1 : isKey k = false
      · rw [if_pos c1] at h; omega
      · simpa using c1
    have hkb := of_decide_eq_true hk
    obtain ⟨j, rfl⟩ : ∃ j : Nat, k = (j : Int) := ⟨k.toNat, by omega⟩
    refine (wtrie_path a n c es j w G R hc hn hf (by omega)).mono ?_
    rintro r w' ⟨⟨a', c', rfl, hc', r'⟩, hb⟩
    exact ⟨⟨a', 32, c', _, rfl, .inl ⟨rfl, hf, hk, rfl, hc', r'⟩⟩, hb⟩
  · refine (wtrie_pathout a n c es k _ w G R hc hn k1 k2 rfl h).mono ?_
    rintro r w' ⟨⟨a', c', rfl⟩, hb⟩
    exact ⟨⟨a', 0, c', _, rfl, .inr ⟨_, rfl⟩⟩, hb⟩
end Go.Proofs.YtbhoijnhpmkglaaDoor
/- Slices of ints: read, and rows that a call itself made and appends to. -/
namespace Go.Proofs.YtbhoijnhpmkglaaDoor
open Go.RowKit
set_option linter.unusedVariables false
set_option linter.unusedSimpArgs false

def cellsI (l : List Int) : List Value := l.map fun x => Value.int .i64 x
theorem cellsI_length (l : List Int) : (cellsI l).length = l.length := by simp [cellsI]
theorem cellsI_append (l r : List Int) : cellsI (l ++ r) = cellsI l ++ cellsI r := by simp [cellsI]
theorem cellsI_at (l : List Int) (i : Nat) (h : i < l.length) : (cellsI l)[i]? = some (.int .i64 (l.getD i 0)) := by
  unfold cellsI
  simp [List.getElem?_eq_getElem h, List.getD_eq_getElem?_getD]
theorem cellsI_one (l : List Int) : ∀ u ∈ cellsI l, u.oneCell' = true := by
  intro u hu
  obtain ⟨i, _, rfl⟩ := List.mem_map.1 hu
  rfl
/-- A slice of n ints at a reads as the list l. -/
def IRow (w : World) (a : Option Addr) (n : Nat) (l : List Int) : Prop :=
  l.length = n ∧ (n = 0 ∨ ∃ b o, a = some ⟨b, o, none⟩ ∧ ∀ i, i < n → w.cell? ⟨b, o + i, none⟩ = some (.int .i64 (l.getD i 0)))
theorem IRow.nil (w : World) : IRow w none 0 [] := ⟨rfl, .inl rfl⟩
theorem IRow.below {w w' : World} {a : Option Addr} {n : Nat} {l : List Int} (h : IRow w a n l) (hb : Below w.heap.size w w') : IRow w' a n l := by
  obtain ⟨h1, h2⟩ := h
  refine ⟨h1, ?_⟩
  rcases h2 with h2 | ⟨b, o, ha, hc⟩
  · exact .inl h2
  · exact .inr ⟨b, o, ha, fun i hi => (hb.cell (p := ⟨b, o + i, none⟩) (cell_block (hc i hi))).trans (hc i hi)⟩
theorem IRow.lit (w : World) (cs : Array Value) (t : TypeId) (l : List Int) (h : cs.toList = cellsI l) (n : Nat) (hn : l.length = n) : IRow (w.alloc (.cells cs t)) (some ⟨w.heap.size, 0, none⟩) n l := by
  refine ⟨hn, .inr ⟨w.heap.size, 0, rfl, fun i hi => ?_⟩⟩
  have hb : (w.alloc (.cells cs t)).heap[w.heap.size]? = some (.cells cs t) := by
    show (w.heap.push _)[w.heap.size]? = _
    simp
  have := cellsI_at l i (by omega)
  rw [← h] at this
  unfold World.cell?
  rw [hb, Nat.zero_add]
  simpa using this
/-- The call's own slice of ints v reads as l. -/
def OwnI (w : World) (B : Nat) (v : Value) (l : List Int) : Prop := w.ownsRow B 3 1 v l.length (cellsI l)
theorem OwnI.nil (w : World) (B : Nat) : OwnI w B (.slice none 0 0) [] := World.ownsRow_nil _ _ _ _
theorem OwnI.form {w : World} {B : Nat} {v : Value} {l : List Int} (h : OwnI w B v l) : ∃ a cap, v = .slice a l.length cap ∧ IRow w a l.length l ∧ l.length ≤ cap := by
  rcases h.2 with ⟨rfl, h0⟩ | ⟨g, cap, cur, rfl, h1, h2, h3, _⟩
  · exact ⟨none, 0, by rw [h0], ⟨rfl, .inl h0⟩, by omega⟩
  · refine ⟨_, cap, rfl, ⟨rfl, .inr ⟨g, 0, rfl, fun i hi => ?_⟩⟩, h3⟩
    rw [Nat.zero_add, World.ownsRow.cellAt h i (by omega), cellsI_at l i hi]
theorem OwnI.below {w w' : World} {B : Nat} {v : Value} {l : List Int} (h : OwnI w B v l) (hb : Below w.heap.size w w') : OwnI w' B v l := by
  rcases h.2 with ⟨h1, h0⟩ | ⟨g, cap, cur, e1, e2, e3, e4⟩
  · exact ⟨h.1, .inl ⟨h1, h0⟩⟩
  · have hg : g < w.heap.size := (World.ownsRow.lt h g (by rw [e1]; rfl)).2
    exact ⟨h.1, .inr ⟨g, cap, cur, e1, e2, (hb.block g hg).trans e3, e4⟩⟩
theorem OwnI.grown {w w0 w' : World} {B B0 : Nat} {v : Value} {l : List Int} (h : OwnI w B v l) (hb : Below B0 w0 w) (hg : w.grownBy w' v.ownBlock) (h0 : B0 ≤ B) (hs : B0 ≤ w.heap.size) : Below B0 w0 w' :=
  hb.grown hg hs (fun k hk => Nat.le_trans h0 (World.ownsRow.lt h k hk).1)
theorem OwnI.alloc {w : World} {B : Nat} {v : Value} {l : List Int} (h : OwnI w B v l) (o : Obj) : OwnI (w.alloc o) B v l := h.below ((Below.refl _ _).alloc (Nat.le_refl _) _)
theorem Tryd.infoIntO : (Tryd.prog.info? 3).map (fun i => (i.zero, i.size, i.bytes)) = some (some (.int .i64 0), 1, 8) := by kernel_rfl
/-- 'append(v, x...)', v the call's own row of ints, x a slice of some. -/
theorem wpList_append_ints {w : World} {ops : Array Oper} {rest : List Oper} {o : Oper} {a : Act} {Q : Exit → Act → World → Prop} (hgd : o.guard = none) (s x : Operand)
    (ho : o.op = .call { callee := .builtin .append, args := #[s, x], argTypes := #[49, 49] })
    (base : Nat) (v : Value) (l : List Int) (hs : a.eval s = v) (hown : OwnI w base v l)
    (ad : Addr) (n c : Nat) (r : List Int) (hx : a.eval x = .slice (some ad) n c) (hr : IRow w (some ad) n r) (hn0 : 0 < n) (h47 : (l.length + n) * 8 ≤ 140737488355328) (hbase : base ≤ w.heap.size)
    (h : ∀ v' w', OwnI w' base v' (l ++ r) → w.grownBy w' v.ownBlock → (v'.ownBlock = v.ownBlock ∨ v'.ownBlock = some w.heap.size) → wpList Tryd.prog ops Q rest (a.put o.dst v') w') : wpList Tryd.prog ops Q (o :: rest) a w := by
  obtain ⟨i0, hi, hz0, hz1, hz2⟩ := info_parts Tryd.infoIntO
  obtain ⟨hl, h1 | ⟨b, off, e1, hc⟩⟩ := hr
  · omega
  cases e1
  refine wpList_append_own_at w hgd s x 49 ho base 3 i0 (.int .i64 0) 1 8 Tryd.underlying49 hi hz0 hz1 hz2 rfl (by decide) v l.length (cellsI l) hs hown ⟨b, off, none⟩ n c (cellsI r) hx (by rw [cellsI_length, hl]; omega) ?_ (cellsI_one _) (by unfold maxLen; omega) h47 hbase ?_
  · intro j u hj
    have hj' : j < r.length := by have := (List.getElem?_eq_some_iff.1 hj).1; rwa [cellsI_length] at this
    rw [Go.WideShapes.add_plain, hc j (by omega), ← hj, cellsI_at r j hj']
  · intro v' w' hown' hgrow _ hat
    refine h v' w' ?_ hgrow hat
    unfold OwnI
    rw [List.length_append, cellsI_append, hl]
    exact hown'
end Go.Proofs.YtbhoijnhpmkglaaDoor
