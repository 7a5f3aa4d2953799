/- Texts of this claim, joined: Factti, Lleafed, Sets. -/
import Derived.Test.YtbhoijnhpmkglaaDoorJ13
import Derived.Test.YtbhoijnhpmkglaaDoorJ07
import Derived.Test.YtbhoijnhpmkglaaDoorJ11
import Derived.Deep.DeepCutAuto
import Derived.Test.YtbhoijnhpmkglaaDoorJ08
import Derived.Test.YtbhoijnhpmkglaaDoorJ06
import Derived.OneCell
/- Leaf of key 1 and bytes 0, and the root of it alone: not bytes 0. -/
namespace Go.Proofs.YtbhoijnhpmkglaaDoor
open Go.RowKit
set_option linter.unusedVariables false
set_option linter.unusedSimpArgs false

def notZ (h : List Nat) : Bool := at' h 0 % 256 != 0 || at' h 1 % 256 != 0
def upK : Nat → List Nat → Bool
  | 0, h => notZ h
  | n + 1, h => notZ h && shaK (fun h' => upK n h') 65 (10 :: outN h (List.replicate 32 0))
theorem trie_fact : shaK (fun h => notZ h && shaK (fun h' => upK 31 h') 65 (10 :: (List.replicate 32 0 ++ outN h []))) 37 (nums (9 :: (putL 1 4 ++ zT))) = true := by decide +kernel
theorem notZ_is {h : List Nat} (hz : notZ h = true) : outL h ≠ zT := by
  intro e
  have h0 := nth_outL h 3 (by omega)
  have h1 := nth_outL h 7 (by omega)
  rw [e] at h0 h1
  have z0 : nth zT 3 = 0 := rfl
  have z1 : nth zT 7 = 0 := rfl
  rw [z0] at h0
  rw [z1] at h1
  have a0 : at' h 0 % 256 = 0 := by
    have : (0 : Int) = ((at' h 0 >>> 0 % 256 : Nat) : Int) := h0
    rw [Nat.shiftRight_zero] at this
    omega
  have a1 : at' h 1 % 256 = 0 := by
    have : (0 : Int) = ((at' h 1 >>> 0 % 256 : Nat) : Int) := h1
    rw [Nat.shiftRight_zero] at this
    omega
  unfold notZ at hz
  rw [a0, a1] at hz
  exact absurd hz (by decide)
theorem nums_z : nums zT = List.replicate 32 0 := rfl
theorem shaW_8 (l : List UInt8) : (shaW l).length = 8 := hTo_len _ _
theorem up_is : ∀ n h, h.length = 8 → upK n h = true → foldM 0 (outL h) (List.replicate n zT) ≠ zT
  | 0, h, _, hu => notZ_is hu
  | n + 1, h, hl, hu => by
    unfold upK at hu
    rw [Bool.and_eq_true] at hu
    have hn := notZ_is hu.1
    have e : 10 :: outN h (List.replicate 32 0) = nums (10 :: (outL h ++ zT)) := by
      rw [outN_eq h hl, ← nums_z, ← nums_append]
      rfl
    have hk := hu.2
    rw [e, shaK_eq _ _ 65 (by rw [List.length_cons, List.length_append, outL_length, zT_length])] at hk
    have := up_is n _ (shaW_8 _) hk
    rw [List.replicate_succ, foldM]
    have hm : (if 0 % 2 = 1 then mnode zT (outL h) else mnode (outL h) zT) = outL (shaW (10 :: (outL h ++ zT))) := by
      rw [if_neg (by omega)]
      unfold mnode
      rw [if_neg (fun q => hn q.1)]
      rfl
    rw [hm]
    exact this
theorem trie_both : leafE (1, zT) ≠ zT ∧ foldM 1 (leafE (1, zT)) (List.replicate 32 zT) ≠ zT := by
  have hk := trie_fact
  rw [shaK_eq _ _ 37 (by rw [List.length_cons, List.length_append, putL_length, zT_length]), Bool.and_eq_true] at hk
  have hl : leafE (1, zT) = outL (shaW (9 :: (putL 1 4 ++ zT))) := rfl
  have hn := notZ_is hk.1
  have e : 10 :: (List.replicate 32 0 ++ outN (shaW (9 :: (putL 1 4 ++ zT))) []) = nums (10 :: (zT ++ outL (shaW (9 :: (putL 1 4 ++ zT))))) := by
    rw [outN_eq _ (shaW_8 _), List.append_nil, ← nums_z, ← nums_append]
    rfl
  have h2 := hk.2
  rw [e, shaK_eq _ _ 65 (by rw [List.length_cons, List.length_append, outL_length, zT_length])] at h2
  have hu := up_is 31 _ (shaW_8 _) h2
  rw [← hl] at hn hu
  refine ⟨hn, ?_⟩
  rw [List.replicate_succ, foldM]
  have hm : (if 1 % 2 = 1 then mnode zT (leafE (1, zT)) else mnode (leafE (1, zT)) zT) = outL (shaW (10 :: (zT ++ leafE (1, zT)))) := by
    rw [if_pos (by omega)]
    unfold mnode
    rw [if_neg (fun q => hn q.2)]
    rfl
  rw [hm]
  exact hu
theorem path_zero (g : Nat → List UInt8) (k n : Nat) (h : ∀ x, x ≠ k → g x = zT) : pathM g k n = List.replicate n zT := by
  rw [path_but (g' := fun _ => zT) k n h]
  unfold pathM
  rw [List.map_congr_left (g := fun _ => zT) (fun i _ => mapL_zero i _), List.map_const', List.length_range]
theorem gE_one (e : Ent) (k : Nat) (hk : e.1 = (k : Int)) : gE [e] k = leafE e ∧ ∀ x, x ≠ k → gE [e] x = zT := by
  refine ⟨gE_of (by simp [hk]), fun x hx => gE_none ?_⟩
  rw [List.find?_eq_none]
  intro y hy
  rw [List.mem_singleton.1 hy, hk]
  simp
  omega
/-- The root of one entry. -/
theorem root_one (e : Ent) (k : Nat) (hk : e.1 = (k : Int)) (h32 : k < 2 ^ 32) : mapL (gE [e]) 0 32 = foldM k (leafE e) (List.replicate 32 zT) := by
  obtain ⟨h1, h2⟩ := gE_one e k hk
  rw [← fold_map (gE [e]) k 32 h32, h1, path_zero _ k 32 h2]
theorem trie_root_ne : mapL (gE [(1, zT)]) 0 32 ≠ zT := by
  rw [root_one (1, zT) 1 rfl (by omega)]
  exact trie_both.2
end Go.Proofs.YtbhoijnhpmkglaaDoor
/- The contract of the laws' leafed. -/
namespace Go.Proofs.YtbhoijnhpmkglaaDoor
open Go.RowKit
set_option linter.unusedVariables false
set_option linter.unusedSimpArgs false

def eOne : Ent := (1, zT)
theorem eOne_ok : okE eOne := ⟨rfl, by decide, by decide⟩
theorem Tryd.builtOne : Tryd.prog.built 26 [(0, .int .i64 1)] = some (entC eOne).toArray := by kernel_rfl
theorem eOne_fault : faultE [eOne] = 0 := by decide
theorem leaf_fact : ∃ L M : List UInt8, L.length = 32 ∧ M.length = 32 ∧ L ≠ zT ∧ M ≠ zT ∧ leafE eOne = L ∧ mapL (gE [eOne]) 0 32 = M := ⟨_, _, leafE_length _, mapL_length (gE_length _) 32 0, trie_both.1, trie_root_ne, rfl, rfl⟩
set_option maxRecDepth 100000 in
set_option maxHeartbeats 2000000 in
theorem wleafed_any (w : World) (G : Env w) :
    Calls Tryd.prog 24 #[] w fun r w' => r = .returned (.bool true) ∧ Below w.heap.size w w' := by
  obtain ⟨L, M, lL, lM, hLZ, hMZ, hL, hM⟩ := leaf_fact
  have HGE : Hid (∀ wx, Below w.heap.size w wx → Env wx) := fun wx hx => G.below hx
  have HC1 : Hid (∀ wx, Env wx → Calls Tryd.prog 18 #[entV eOne] wx fun r w' => r = .returned (.tuple #[digestV L, .nilIface]) ∧ Below wx.heap.size wx w') := fun wx hx => by
    have := wtrie_leaf eOne wx hx eOne_ok rfl
    rw [hL] at this
    exact this
  have HC2 : Hid (∀ a c wx, Env wx → ERow wx a 1 [eOne] → 1 ≤ c → Calls Tryd.prog 11 #[.slice a 1 c] wx fun r w' => r = .returned (.tuple #[digestV M, .nilIface]) ∧ Below wx.heap.size wx w') := fun a c wx hx hr hc => by
    have := wtrie_root a 1 c [eOne] wx hx hr hc (by omega) eOne_fault
    rw [hM] at this
    exact this
  have HNO : Hid (∀ wx, Calls Tryd.prog 23 #[] wx fun e w' => e = .returned (digestV zT) ∧ Below wx.heap.size wx w') := rnothing_any
  have HNEW : Hid (∀ wx : World, ERow (wx.alloc (.cells (entC eOne).toArray 26)) (some ⟨wx.heap.size, 0, none⟩) 1 [eOne]) := fun wx => ERow.new wx eOne _ eOne_ok
  have lZ : zT.length = 32 := rfl
  have HDL : Hid ((!decide (L = zT)) = true) := by unfold Hid; simp [hLZ]
  have HDM : Hid ((!decide (M = zT)) = true) := by unfold Hid; simp [hMZ]
  have HBU : Hid (Tryd.prog.built 26 [(0, .int .i64 1)] = some (entC eOne).toArray) := Tryd.builtOne
  have HOK : Hid (okE eOne) := eOne_ok
  clear hL hM hLZ hMZ G
  generalize zT = Z at *
  generalize eOne = E1 at *
  go_enter Tryd.func24, Tryd.ntmps24
  go_wp2_with (refine wpList_buildC (by rfl) 26 #[(0, .const (.int .i64 1))] (by rfl) (entC E1).toArray (by simp only [List.map_toArray, List.map_cons, List.map_nil, Act.eval]; exact HBU.out) ?_)
  refine (HC1.out w (HGE.out _ (Below.refl _ _))).mono ?_
  rintro r w2 ⟨rfl, hb2⟩
  have HB2 : Hid (Below w.heap.size w w2) := hb2
  clear hb2
  obtain ⟨g1, hg1⟩ : ∃ g1, w2.heap.size = g1 := ⟨_, rfl⟩
  obtain ⟨w3, hw3⟩ : ∃ w3, w2.alloc (.cells (cellsB zD).toArray 24) = w3 := ⟨_, rfl⟩
  have HT3 : Hid (w3.there g1 0 32) := by rw [← hw3]; exact alloc_thereAt _ _ _ 32 _ hg1 zD_size.symm
  have HB4 : Hid (Below w.heap.size w (w3.setCells g1 0 (cellsB L))) := below_setCells _ (by rw [← hg1]; exact HB2.out.size) _ _ _ (by rw [← hw3]; exact HB2.out.alloc HB2.out.size _)
  have HX4 : Hid (DAt (w3.setCells g1 0 (cellsB L)) g1 0 L) := dat_stored HT3.out lL
  go_upto_region 2 with (first
    | (refine wpList_allocE (by rfl) 24 (by rfl) (cellsB zD).toArray Tryd.zeroDg g1 hg1 w3 hw3 ?_)
    | (refine wpList_store_mid (by rfl) 24 (.tmp 1) (.tmp 8) (by rfl) g1 0 (cellsB L).toArray (by rfl) (by rfl) (by rw [cellsB_size, lL]; exact HT3.out) (by rw [cellsB_size, lL]; exact Tryd.sizeDg) (all_oneCell_toArray (cellsB_one _)) ?_))
  generalize w3.setCells g1 0 (cellsB L) = w4 at *
  clear hw3 HT3 hg1
  try simp only [Act.put, List.setIfInBounds_toArray, List.set_cons_zero, List.set_cons_succ]
  have HB5 : Hid (Below w.heap.size w (w4.alloc (.cells (entC E1).toArray 26))) := HB4.out.alloc HB4.out.size _
  have HX5 : Hid (DAt (w4.alloc (.cells (entC E1).toArray 26)) g1 0 L) := World.rangeAt_alloc HX4.out _
  go_wp2_with (first
    | (refine wpList_buildC (by rfl) 26 #[(0, .const (.int .i64 1))] (by rfl) (entC E1).toArray (by simp only [List.map_toArray, List.map_cons, List.map_nil, Act.eval]; exact HBU.out) ?_)
    | (refine wpList_buildEn (by rfl) (.tmp 11) (by rfl) E1 HOK.out (by rfl) ?_))
  refine (HC2.out _ 1 _ (HGE.out _ HB5.out) (HNEW.out w4) (by omega)).mono ?_
  rintro r w6 ⟨rfl, hb6⟩
  have HB6 : Hid (Below w.heap.size w w6) := HB5.out.trans (hb6.mono HB5.out.size)
  have HX6 : Hid (DAt w6 g1 0 L) := HX5.out.below hb6 (cell_block (HX5.out.cell 0 (by omega)))
  clear hb6 HB5 HX5 HX4 HB4
  obtain ⟨g3, hg3⟩ : ∃ g3, w6.heap.size = g3 := ⟨_, rfl⟩
  obtain ⟨w7, hw7⟩ : ∃ w7, w6.alloc (.cells (cellsB zD).toArray 24) = w7 := ⟨_, rfl⟩
  have HT7 : Hid (w7.there g3 0 32) := by rw [← hw7]; exact alloc_thereAt _ _ _ 32 _ hg3 zD_size.symm
  have HB67 : Hid (Below w6.heap.size w6 (w7.setCells g3 0 (cellsB M))) := below_setCells _ (by rw [hg3]; exact Nat.le_refl _) _ _ _ (by rw [← hw7]; exact (Below.refl _ _).alloc (Nat.le_refl _) _)
  have HX8 : Hid (DAt (w7.setCells g3 0 (cellsB M)) g3 0 M) := dat_stored HT7.out lM
  go_upto_region 3 with (first
    | (refine wpList_allocE (by rfl) 24 (by rfl) (cellsB zD).toArray Tryd.zeroDg g3 hg3 w7 hw7 ?_)
    | (refine wpList_store_mid (by rfl) 24 (.tmp 3) (.tmp 14) (by rfl) g3 0 (cellsB M).toArray (by rfl) (by rfl) (by rw [cellsB_size, lM]; exact HT7.out) (by rw [cellsB_size, lM]; exact Tryd.sizeDg) (all_oneCell_toArray (cellsB_one _)) ?_))
  generalize w7.setCells g3 0 (cellsB M) = w8 at *
  clear hw7 HT7 hg3
  try simp only [Act.put, List.setIfInBounds_toArray, List.set_cons_zero, List.set_cons_succ]
  have HKK : Hid (∀ wx, Below w8.heap.size w8 wx → wx.rangeAt g1 0 (cellsB L) ∧ wx.rangeAt g3 0 (cellsB M) ∧ Below w.heap.size w wx) := fun wx hx => by
    have b6 : Below w6.heap.size w6 wx := HB67.out.trans (hx.mono HB67.out.size)
    exact ⟨HX6.out.below b6 (cell_block (HX6.out.cell 0 (by omega))), HX8.out.below hx (cell_block (HX8.out.cell 0 (by omega))), HB6.out.trans (b6.mono HB6.out.size)⟩
  refine wp_region_noPanic ?_
  refine wp_region_held_drew (S := fun wx => wx.rangeAt g1 0 (cellsB L) ∧ wx.rangeAt g3 0 (cellsB M)) (by kernel_rfl) ⟨(HKK.out _ (below_drewN w8 1)).1, (HKK.out _ (below_drewN w8 1)).2.1⟩ (fun hHeld => ?_)
  try simp only [Act.put, List.setIfInBounds_toArray, List.set_cons_zero, List.set_cons_succ]
  have HBd : Hid (Below w8.heap.size w8 w8.drew) := below_drewN w8 1
  generalize w8.drew = wd at *
  refine wpAnyH_take (i := 0) (v := ?_) (by simp only [List.getElem?_toArray, List.getElem?_cons_zero, List.getElem?_cons_succ]; rfl) (by kernel_rfl) (by kernel_rfl) (by kernel_rfl) (fun _ _ _ h => h) (Or.inl ⟨by rfl, ?_⟩) hHeld ?_
  rotate_left
  · intro w hSw
    obtain ⟨hSw0, hSw1⟩ := hSw
    go_simp
    try with_reducible rfl
  try simp only [Act.put, List.setIfInBounds_toArray, List.set_cons_zero, List.set_cons_succ]
  refine wpAnyH_take (i := 1) (v := ?_) (by simp only [List.getElem?_toArray, List.getElem?_cons_zero, List.getElem?_cons_succ]; rfl) (by kernel_rfl) (by kernel_rfl) (by kernel_rfl) (fun _ _ _ h => h) (Or.inl ⟨by rfl, ?_⟩) hHeld ?_
  rotate_left
  · intro w hSw
    obtain ⟨hSw0, hSw1⟩ := hSw
    go_simp
    try with_reducible rfl
  try simp only [Act.put, List.setIfInBounds_toArray, List.set_cons_zero, List.set_cons_succ]
  refine wpAnyH_take (i := 2) (v := ?_) (by simp only [List.getElem?_toArray, List.getElem?_cons_zero, List.getElem?_cons_succ]; rfl) (by kernel_rfl) (by kernel_rfl) (by kernel_rfl) (fun _ _ _ h => h) (Or.inl ⟨by rfl, ?_⟩) hHeld ?_
  rotate_left
  · intro w hSw
    obtain ⟨hSw0, hSw1⟩ := hSw
    go_simp
    try with_reducible rfl
  try simp only [Act.put, List.setIfInBounds_toArray, List.set_cons_zero, List.set_cons_succ]
  refine wpAnyH_take (i := 3) (v := ?_) (by simp only [List.getElem?_toArray, List.getElem?_cons_zero, List.getElem?_cons_succ]; rfl) (by kernel_rfl) (by kernel_rfl) (by kernel_rfl) (fun _ _ _ h => h) (Or.inl ⟨by rfl, ?_⟩) hHeld ?_
  rotate_left
  · intro w hSw
    obtain ⟨hSw0, hSw1⟩ := hSw
    go_simp
    try with_reducible rfl
  try simp only [Act.put, List.setIfInBounds_toArray, List.set_cons_zero, List.set_cons_succ]
  refine wpAnyH_take (i := 4) (v := ?_) (by simp only [List.getElem?_toArray, List.getElem?_cons_zero, List.getElem?_cons_succ]; rfl) (by kernel_rfl) (by kernel_rfl) (by kernel_rfl) (fun _ _ _ h => h) (Or.inl ⟨by rfl, ?_⟩) hHeld ?_
  rotate_left
  · intro w hSw
    obtain ⟨hSw0, hSw1⟩ := hSw
    go_simp
    try with_reducible rfl
  try simp only [Act.put, List.setIfInBounds_toArray, List.set_cons_zero, List.set_cons_succ]
  refine wpAnyH_take (i := 5) (v := ?_) (by simp only [List.getElem?_toArray, List.getElem?_cons_zero, List.getElem?_cons_succ]; rfl) (by kernel_rfl) (by kernel_rfl) (by kernel_rfl) (fun _ _ _ h => h) (Or.inl ⟨by rfl, ?_⟩) hHeld ?_
  rotate_left
  · intro w hSw
    obtain ⟨hSw0, hSw1⟩ := hSw
    go_simp
    try with_reducible rfl
  try simp only [Act.put, List.setIfInBounds_toArray, List.set_cons_zero, List.set_cons_succ]
  refine wpAnyH_take (i := 6) (v := ?_) (by simp only [List.getElem?_toArray, List.getElem?_cons_zero, List.getElem?_cons_succ]; rfl) (by kernel_rfl) (by kernel_rfl) (by kernel_rfl) (fun _ _ _ h => h) (Or.inl ⟨by rfl, ?_⟩) hHeld ?_
  rotate_left
  · intro w hSw
    obtain ⟨hSw0, hSw1⟩ := hSw
    go_simp
    try with_reducible rfl
  try simp only [Act.put, List.setIfInBounds_toArray, List.set_cons_zero, List.set_cons_succ]
  refine wpAnyH_take (i := 7) (v := .agg (cellsB L).toArray) (by simp only [List.getElem?_toArray, List.getElem?_cons_zero, List.getElem?_cons_succ]; rfl) (by kernel_rfl) (by kernel_rfl) (by kernel_rfl) (fun _ _ _ h => h)
    (yieldsIf_load_mid (by rfl) _ _ rfl _ _ rfl _ _ (fun w hw => hw.1) Tryd.underlying24 rfl (by rw [cellsB_length, lL]; exact Tryd.sizeDg)) hHeld ?_
  try simp only [Act.put, List.setIfInBounds_toArray, List.set_cons_zero, List.set_cons_succ]
  refine wpAnyH_ready (rs := [8]) (by kernel_rfl) (by simp) ?_
  refine AllReadyH.cons (by simp only [List.getElem?_toArray, List.getElem?_cons_zero, List.getElem?_cons_succ]; rfl) (fun K hK => ?_) AllReadyH.nil
  rw [if_pos (by rfl)]
  go_simp
  refine (HNO.out wd).mono ?_
  rintro r we ⟨rfl, hbx⟩
  have HBe : Hid (Below w8.heap.size w8 we) := HBd.out.trans (hbx.mono HBd.out.size)
  clear hbx
  go_wp2_with fail
  refine hK.out _ _ ⟨(HKK.out _ HBe.out).1, (HKK.out _ HBe.out).2.1⟩ (fun hHeld => ?_)
  clear hK K
  try simp only [Act.put, List.setIfInBounds_toArray, List.set_cons_zero, List.set_cons_succ]
  refine wpAnyH_take (i := 9) (v := .bool true) (by simp only [List.getElem?_toArray, List.getElem?_cons_zero, List.getElem?_cons_succ]; rfl) (by kernel_rfl) (by kernel_rfl) (by kernel_rfl) (fun _ _ _ h => h)
    (yieldsIf_neqD (by rfl) _ _ rfl L Z lL lZ rfl rfl true HDL.out) hHeld ?_
  try simp only [Act.put, List.setIfInBounds_toArray, List.set_cons_zero, List.set_cons_succ]
  refine wpAnyH_take (i := 10) (v := ?_) (by simp only [List.getElem?_toArray, List.getElem?_cons_zero, List.getElem?_cons_succ]; rfl) (by kernel_rfl) (by kernel_rfl) (by kernel_rfl) (fun _ _ _ h => h) (Or.inl ⟨by rfl, ?_⟩) hHeld ?_
  rotate_left
  · intro w hSw
    obtain ⟨hSw0, hSw1⟩ := hSw
    go_simp
    try with_reducible rfl
  try simp only [Act.put, List.setIfInBounds_toArray, List.set_cons_zero, List.set_cons_succ]
  refine wpAnyH_take (i := 11) (v := ?_) (by simp only [List.getElem?_toArray, List.getElem?_cons_zero, List.getElem?_cons_succ]; rfl) (by kernel_rfl) (by kernel_rfl) (by kernel_rfl) (fun _ _ _ h => h) (Or.inl ⟨by rfl, ?_⟩) hHeld ?_
  rotate_left
  · intro w hSw
    obtain ⟨hSw0, hSw1⟩ := hSw
    go_simp
    try with_reducible rfl
  try simp only [Act.put, List.setIfInBounds_toArray, List.set_cons_zero, List.set_cons_succ]
  refine wpAnyH_take (i := 12) (v := .agg (cellsB M).toArray) (by simp only [List.getElem?_toArray, List.getElem?_cons_zero, List.getElem?_cons_succ]; rfl) (by kernel_rfl) (by kernel_rfl) (by kernel_rfl) (fun _ _ _ h => h)
    (yieldsIf_load_mid (by rfl) _ _ rfl _ _ rfl _ _ (fun w hw => hw.2) Tryd.underlying24 rfl (by rw [cellsB_length, lM]; exact Tryd.sizeDg)) hHeld ?_
  try simp only [Act.put, List.setIfInBounds_toArray, List.set_cons_zero, List.set_cons_succ]
  refine wpAnyH_ready (rs := [13]) (by kernel_rfl) (by simp) ?_
  refine AllReadyH.cons (by simp only [List.getElem?_toArray, List.getElem?_cons_zero, List.getElem?_cons_succ]; rfl) (fun K hK => ?_) AllReadyH.nil
  rw [if_pos (by rfl)]
  go_simp
  refine (HNO.out we).mono ?_
  rintro r wf ⟨rfl, hbx⟩
  have HBf : Hid (Below w8.heap.size w8 wf) := HBe.out.trans (hbx.mono HBe.out.size)
  clear hbx
  go_wp2_with fail
  refine hK.out _ _ ⟨(HKK.out _ HBf.out).1, (HKK.out _ HBf.out).2.1⟩ (fun hHeld => ?_)
  clear hK K
  try simp only [Act.put, List.setIfInBounds_toArray, List.set_cons_zero, List.set_cons_succ]
  refine wpAnyH_take (i := 14) (v := .bool true) (by simp only [List.getElem?_toArray, List.getElem?_cons_zero, List.getElem?_cons_succ]; rfl) (by kernel_rfl) (by kernel_rfl) (by kernel_rfl) (fun _ _ _ h => h)
    (yieldsIf_neqD (by rfl) _ _ rfl M Z lM lZ rfl rfl true HDM.out) hHeld ?_
  try simp only [Act.put, List.setIfInBounds_toArray, List.set_cons_zero, List.set_cons_succ]
  refine wpAnyH_take (i := 15) (v := ?_) (by simp only [List.getElem?_toArray, List.getElem?_cons_zero, List.getElem?_cons_succ]; rfl) (by kernel_rfl) (by kernel_rfl) (by kernel_rfl) (fun _ _ _ h => h) (Or.inl ⟨by rfl, ?_⟩) hHeld ?_
  rotate_left
  · intro w hSw
    obtain ⟨hSw0, hSw1⟩ := hSw
    go_simp
    try with_reducible rfl
  try simp only [Act.put, List.setIfInBounds_toArray, List.set_cons_zero, List.set_cons_succ]
  refine wpAnyH_take (i := 16) (v := ?_) (by simp only [List.getElem?_toArray, List.getElem?_cons_zero, List.getElem?_cons_succ]; rfl) (by kernel_rfl) (by kernel_rfl) (by kernel_rfl) (fun _ _ _ h => h) (Or.inl ⟨by rfl, ?_⟩) hHeld ?_
  rotate_left
  · intro w hSw
    obtain ⟨hSw0, hSw1⟩ := hSw
    go_simp
    try with_reducible rfl
  try simp only [Act.put, List.setIfInBounds_toArray, List.set_cons_zero, List.set_cons_succ]
  refine wpAnyH_done (by kernel_rfl) (NoPanic.normal ?_) _
  clear hHeld
  go_wp2_with fail
  go_ret
  exact ⟨rfl, (HKK.out _ HBf.out).2.2⟩
end Go.Proofs.YtbhoijnhpmkglaaDoor
/- A map with another value at a key, or with none: plain facts; an entry as a literal; own rows of entries while another block turns. -/
namespace Go.Proofs.YtbhoijnhpmkglaaDoor
open Go.RowKit
set_option linter.unusedVariables false
set_option linter.unusedSimpArgs false

theorem once_pair (es : List Ent) : onceE es ↔ es.Pairwise (fun a b => a.1 ≠ b.1) := by
  rw [List.pairwise_iff_getElem]
  constructor
  · intro h i j hi hj hij
    have := h i j hij hj
    rw [List.getD_eq_getElem?_getD, List.getD_eq_getElem?_getD, List.getElem?_eq_getElem hi, List.getElem?_eq_getElem hj] at this
    exact this
  · intro h i j hij hj
    have := h i j (by omega) hj hij
    rw [List.getD_eq_getElem?_getD, List.getD_eq_getElem?_getD, List.getElem?_eq_getElem (by omega), List.getElem?_eq_getElem hj]
    exact this
theorem faultG_zero : ∀ (r seen : List Ent), (∀ e ∈ r, isKey e.1 = true) → (seen ++ r).Pairwise (fun a b => a.1 ≠ b.1) → faultG seen r = 0
  | [], seen, _, _ => rfl
  | e :: r, seen, h1, h2 => by
    unfold faultG
    rw [if_neg (by rw [h1 e (List.mem_cons_self ..)]; simp), if_neg ?_]
    · refine faultG_zero r _ (fun x hx => h1 x (List.mem_cons_of_mem _ hx)) ?_
      rw [List.append_assoc]
      exact h2
    · intro hc
      obtain ⟨x, hx, he⟩ := List.any_eq_true.1 hc
      exact (List.pairwise_append.1 h2).2.2 x hx e (List.mem_cons_self ..) (by simpa using he)
theorem faultE_zero {es : List Ent} (h1 : es.length ≤ 64) (h2 : ∀ e ∈ es, isKey e.1 = true) (h3 : onceE es) : faultE es = 0 := by
  unfold faultE
  rw [if_neg (by omega)]
  exact faultG_zero es [] h2 ((once_pair es).1 h3)
/-- All entries but that of a key. -/
def butL (es : List Ent) (k : Int) : List Ent := es.filter fun e => e.1 != k
theorem but_step {es : List Ent} {k : Int} {i : Nat} (h : i < es.length) : butL (es.take (i + 1)) k = butL (es.take i) k ++ (if (es.getD i noE).1 ≠ k then [es.getD i noE] else []) := by
  unfold butL
  rw [List.take_succ_eq_append_getElem h, List.filter_append, List.getD_eq_getElem?_getD, List.getElem?_eq_getElem h]
  congr 1
  by_cases c : es[i].1 = k <;> simp [c]
theorem but_le (es : List Ent) (k : Int) : (butL es k).length ≤ es.length := List.length_filter_le _ _
theorem but_key {es : List Ent} {k : Int} (e : Ent) (h : e ∈ butL es k) : e ∈ es ∧ e.1 ≠ k := by
  have := List.mem_filter.1 h
  exact ⟨this.1, by simpa using this.2⟩
theorem but_fault {es : List Ent} {k : Int} (h : faultE es = 0) : faultE (butL es k) = 0 := by
  obtain ⟨h1, h2, h3⟩ := faultE_ok h
  refine faultE_zero (Nat.le_trans (but_le es k) h1) (fun e he => h2 e (but_key e he).1) ?_
  rw [once_pair] at h3 ⊢
  exact h3.filter _
theorem but_gE {es : List Ent} {k x : Nat} (h : x ≠ k) : gE (butL es (k : Int)) x = gE es x := by
  have e : (butL es (k : Int)).find? (fun e => e.1 == (x : Int)) = es.find? (fun e => e.1 == (x : Int)) := by
    unfold butL
    rw [List.find?_filter]
    congr 1
    funext a
    by_cases c : a.1 = (x : Int)
    · have : (a.1 != (k : Int)) = true := by simp; omega
      simp [c]; omega
    · simp [c]
  unfold gE
  rw [e]
theorem but_none (es : List Ent) (k : Nat) : gE (butL es (k : Int)) k = zT := by
  refine gE_none ?_
  rw [List.find?_eq_none]
  intro e he
  have := (but_key e he).2
  simpa using this
theorem put_gE {es : List Ent} {k x : Nat} {v : List UInt8} (h : x ≠ k) : gE (butL es (k : Int) ++ [((k : Int), v)]) x = gE es x := by
  refine Eq.trans ?_ (but_gE h)
  have e : (butL es (k : Int) ++ [((k : Int), v)]).find? (fun e => e.1 == (x : Int)) = (butL es (k : Int)).find? (fun e => e.1 == (x : Int)) := by
    rw [List.find?_append]
    have : ([((k : Int), v)] : List Ent).find? (fun e => e.1 == (x : Int)) = none := by
      rw [List.find?_eq_none]
      intro e he
      rw [List.mem_singleton.1 he]
      simp
      omega
    rw [this, Option.or_none]
  unfold gE
  rw [e]
theorem put_at (es : List Ent) (k : Nat) (v : List UInt8) : gE (butL es (k : Int) ++ [((k : Int), v)]) k = leafE ((k : Int), v) := by
  refine gE_of ?_
  rw [List.find?_append]
  have : (butL es (k : Int)).find? (fun e => e.1 == (k : Int)) = none := by
    rw [List.find?_eq_none]
    intro e he
    have := (but_key e he).2
    simpa using this
  rw [this]
  simp
theorem put_fault {es : List Ent} {k : Nat} {v : List UInt8} (h : faultE es = 0) (hk : isKey (k : Int) = true) (hl : (butL es (k : Int)).length ≤ 63) : faultE (butL es (k : Int) ++ [((k : Int), v)]) = 0 := by
  obtain ⟨h1, h2, h3⟩ := faultE_ok (but_fault (k := (k : Int)) h)
  refine faultE_zero (by simp; omega) (fun e he => ?_) ?_
  · rcases List.mem_append.1 he with q | q
    · exact h2 e q
    · rw [List.mem_singleton.1 q]; exact hk
  · rw [once_pair] at h3 ⊢
    rw [List.pairwise_append]
    refine ⟨h3, List.pairwise_singleton .., fun a ha b hb => ?_⟩
    rw [List.mem_singleton.1 hb]
    exact (but_key a ha).2
theorem put_full {es : List Ent} {e : Ent} (hl : 64 ≤ es.length) : faultE (es ++ [e]) = 4 := by
  unfold faultE
  rw [if_pos (by simp; omega)]
theorem sets_gone (es : List Ent) (k : Nat) (hk : k < 4294967296) : foldM k zT (pathM (gE es) k 32) = mapL (gE (butL es (k : Int))) 0 32 := by
  have h := fold_sets (g := gE es) (g' := gE (butL es (k : Int))) k 32 hk (fun x hx => but_gE hx)
  rwa [but_none] at h
theorem sets_put (es : List Ent) (k : Nat) (v : List UInt8) (hk : k < 4294967296) : foldM k (leafE ((k : Int), v)) (pathM (gE es) k 32) = mapL (gE (butL es (k : Int) ++ [((k : Int), v)])) 0 32 := by
  have h := fold_sets (g := gE es) (g' := gE (butL es (k : Int) ++ [((k : Int), v)])) k 32 hk (fun x hx => put_gE hx)
  rwa [put_at] at h
/-! an entry as a literal -/
theorem Tryd.placesEn : (match Tryd.prog.underlying 26 with | some (.struct fields) => fields.toList.mapM (fun f => (Tryd.prog.info? f.type).map fun i => (f.offset, i.size)) | _ => none) = some [(0, 1), (1, 32)] := by kernel_rfl
theorem zerosE_is : zerosE = (entC (0, zD)).toArray := by kernel_rfl
theorem fillEn (k : Int) (v : List UInt8) (hv : v.length = 32) : Instr.fill (([(0, 1), (1, 32)] : List (Nat × Nat)).toArray[·]?) (entC (0, zD)).toArray [(0, .int .i64 k), (1, digestV v)] = some (entC (k, v)).toArray := by
  have hsz : (digestV v).cells.size = 32 := cells32 hv
  have hzl : (cellsB zD).length = 32 := rfl
  have hb : ((digestV v).cells.zipIdx.foldl (fun (cs : Array Value) (x : Value × Nat) => cs.setIfInBounds (1 + x.2) x.1) (entC (k, zD)).toArray) = (entC (k, v)).toArray := by
    have h := fold_set 1 (cellsB v) 0 (entC (k, zD)).toArray (by rw [cellsB_length, hv]; simp [entC, hzl])
    rw [cellsB_length, hv] at h
    have h2 : ((digestV v).cells.zipIdx.foldl (fun (cs : Array Value) (x : Value × Nat) => cs.setIfInBounds (1 + x.2) x.1) (entC (k, zD)).toArray).toList = entC (k, v) := by
      have e1 : ((digestV v).cells.zipIdx.foldl (fun (cs : Array Value) (x : Value × Nat) => cs.setIfInBounds (1 + x.2) x.1) (entC (k, zD)).toArray) = ((cellsB v).zipIdx.foldl (fun (cs : Array Value) (x : Value × Nat) => cs.setIfInBounds (1 + x.2) x.1) (entC (k, zD)).toArray) := by
        show ((cellsB v).toArray.zipIdx.foldl _ _) = _
        rw [← Array.foldl_toList, Array.toList_zipIdx]
      rw [e1, h]
      have e0 : (entC (k, zD)).toArray.toList.drop (1 + 0 + 32) = [] := by
        rw [List.drop_eq_nil_iff]
        simp [entC, hzl]
      have e3 : (entC (k, zD)).toArray.toList.take (1 + 0) = [Value.int .i64 k] := rfl
      rw [e0, e3]
      simp [entC]
    rw [← h2]
  have hz33 : (entC (k, zD)).toArray.size = 33 := by simp [entC, hzl]
  have hz0 : (entC (0, zD)).toArray.size = 33 := by simp [entC, hzl]
  unfold Instr.fill
  simp only [List.getElem?_toArray, List.getElem?_cons_zero]
  rw [if_neg (by rw [hz0]; simp [Value.cells])]
  unfold Instr.fill
  simp only [List.getElem?_toArray, List.getElem?_cons_succ, List.getElem?_cons_zero]
  have e4 : ((Value.int .i64 k).cells.zipIdx.foldl (fun (cs : Array Value) (x : Value × Nat) => cs.setIfInBounds (0 + x.2) x.1) (entC (0, zD)).toArray) = (entC (k, zD)).toArray := by
    simp [Value.cells, entC]
  rw [e4, if_neg (by rw [hsz, hz33]; simp), hb]
  unfold Instr.fill
  rfl
theorem Tryd.builtEn (k : Int) (v : List UInt8) (hv : v.length = 32) : Tryd.prog.built 26 [(0, .int .i64 k), (1, digestV v)] = some (entC (k, v)).toArray := by
  unfold Program.built
  cases hi : Tryd.prog.info? 26 with
  | none => have := Tryd.infoEn; rw [hi] at this; cases this
  | some it =>
    have hz : it.zero = some (.agg (entC (0, zD)).toArray) := by have := Tryd.infoEn; rw [hi] at this; simp at this; rw [this.1, zerosE_is]
    have hp := Tryd.placesEn
    cases hu : Tryd.prog.underlying 26 with
    | none => rw [hu] at hp; cases hp
    | some d =>
      rw [hu] at hp
      cases d <;> try (cases hp; done)
      case struct fs =>
        have hp' : fs.toList.mapM (fun f => (Tryd.prog.info? f.type).map fun i => (f.offset, i.size)) = some [(0, 1), (1, 32)] := hp
        show (match it.zero, fs.toList.mapM (fun f => (Tryd.prog.info? f.type).map fun i => (f.offset, i.size)) with | some z, some places => Instr.fill (places.toArray[·]?) z.cells [(0, .int .i64 k), (1, digestV v)] | _, _ => none) = _
        rw [hz, hp']
        exact fillEn k v hv
theorem ownsRow_cells {base : Nat} {e : TypeId} {size n b : Nat} {v : Value} {xs : List Value} (hne : v.ownBlock ≠ some b) : ∀ (vs : List Value) (o : Nat) {w : World}, w.ownsRow base e size v n xs → (w.setCells b o vs).ownsRow base e size v n xs
  | [], _, w, h => h
  | u :: r, o, w, h => by
    rw [World.setCells]
    exact ownsRow_cells hne r (o + 1) (ownsRow_setCell_other h (a := ⟨b, o, none⟩) hne u)
theorem OwnE.put {w w1 : World} {B g : Nat} {v : Value} {es : List Ent} {X : List UInt8} (h : OwnE w B v es) (hne : v.ownBlock ≠ some g) (hw : w.setCells g 0 (cellsB X) = w1) : OwnE w1 B v es := by
  subst hw
  exact ⟨h.1, ownsRow_cells hne _ _ h.2⟩
theorem OwnE.size {w : World} {B g : Nat} {v : Value} {es : List Ent} (h : OwnE w B v es) (hg : w.heap.size ≤ g) : v.ownBlock ≠ some g := fun e => by
  have := (World.ownsRow.lt h.2 g e).2
  omega
theorem OwnE.erow {w : World} {B n c : Nat} {a : Option Addr} {es : List Ent} (h : OwnE w B (.slice a n c) es) : ERow w a n es ∧ n ≤ c ∧ es.length = n := by
  obtain ⟨a', c', e, R, hc⟩ := h.form
  cases e
  exact ⟨R, hc, R.1⟩
theorem dat_gro {w w' : World} {b : Nat} {r : Option Nat} {X : List UInt8} (h : DAt w b 0 X) (hX : X.length = 32) (hg : w.grownBy w' r) (hne : r ≠ some b) : DAt w' b 0 X := by
  have hk := hg.block b (dat_size h hX) (fun e => hne e.symm)
  intro j v hj
  exact (World.cell?_of_block (w := w) (a := ⟨b, 0 + j, none⟩) hk).trans (h j v hj)
theorem there_gro {w w' : World} {b : Nat} {r : Option Nat} (h : w.there b 0 32) (hg : w.grownBy w' r) (hne : r ≠ some b) : w'.there b 0 32 := by
  have hk := hg.block b (there_block h (by omega)) (fun e => hne e.symm)
  intro j hj
  rw [World.cell?_of_block (w := w) (a := ⟨b, 0 + j, none⟩) hk, World.frozen?_of_block (w := w) (a := ⟨b, 0 + j, none⟩) hk]
  exact h j hj
theorem own_ne {v v' : Value} {k g : Nat} (hn : v.ownBlock ≠ some g) (h : v'.ownBlock = v.ownBlock ∨ v'.ownBlock = some k) (hg : g < k) : v'.ownBlock ≠ some g := by
  rcases h with h | h
  · rw [h]; exact hn
  · rw [h]; intro e; have := Option.some.inj e; omega
end Go.Proofs.YtbhoijnhpmkglaaDoor
