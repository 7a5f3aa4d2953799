/- Texts of this claim, joined: Factti, Lleafed, Wround, Till. -/
import Derived.Test.YtbhoijnhpmkglaaDoorJ13
import Derived.Test.YtbhoijnhpmkglaaDoorJ07
import Derived.Test.YtbhoijnhpmkglaaDoorJ11
import Derived.Deep.DeepCutAuto
import Derived.RangeFuncNested
import Derived.RangeFuncBound
import Derived.RangeFuncCalls
import Derived.RangeFuncLeaves
import Derived.Shelf.Abstract
import Derived.Shelf.RegionOpen
import Derived.WalkKit
import Derived.OwnWalkIn
import Derived.TacticsInMore
import Derived.LoopNIn
import Derived.LoopIn
import Derived.OrdersHeld
import Derived.Test.YtbhoijnhpmkglaaDoorJ01
import Derived.Deep.RegionHeld
/- Leaf of key 1 and bytes 0, and the root of it alone: not bytes 0. -/
namespace Go.Proofs.YtbhoijnhpmkglaaDoor
open Go.RowKit
set_option linter.unusedVariables false
set_option linter.unusedSimpArgs false

def notZ (h : List Nat) : Bool := at' h 0 % 256 != 0 || at' h 1 % 256 != 0
def upK : Nat → List Nat → Bool
  | 0, h => notZ h
  | n + 1, h => notZ h && shaK (fun h' => upK n h') 65 (10 :: outN h (List.replicate 32 0))
theorem trie_fact : shaK (fun h => notZ h && shaK (fun h' => upK 31 h') 65 (10 :: (List.replicate 32 0 ++ outN h []))) 37 (nums (9 :: (putL 1 4 ++ zT))) = true := by decide +kernel
theorem notZ_is {h : List Nat} (hz : notZ h = true) : outL h ≠ zT := by
  intro e
  have h0 := nth_outL h 3 (by omega)
  have h1 := nth_outL h 7 (by omega)
  rw [e] at h0 h1
  have z0 : nth zT 3 = 0 := rfl
  have z1 : nth zT 7 = 0 := rfl
  rw [z0] at h0
  rw [z1] at h1
  have a0 : at' h 0 % 256 = 0 := by
    have : (0 : Int) = ((at' h 0 >>> 0 % 256 : Nat) : Int) := h0
    rw [Nat.shiftRight_zero] at this
    omega
  have a1 : at' h 1 % 256 = 0 := by
    have : (0 : Int) = ((at' h 1 >>> 0 % 256 : Nat) : Int) := h1
    rw [Nat.shiftRight_zero] at this
    omega
  unfold notZ at hz
  rw [a0, a1] at hz
  exact absurd hz (by decide)
theorem nums_z : nums zT = List.replicate 32 0 := rfl
theorem shaW_8 (l : List UInt8) : (shaW l).length = 8 := hTo_len _ _
theorem up_is : ∀ n h, h.length = 8 → upK n h = true → foldM 0 (outL h) (List.replicate n zT) ≠ zT
  | 0, h, _, hu => notZ_is hu
  | n + 1, h, hl, hu => by
    unfold upK at hu
    rw [Bool.and_eq_true] at hu
    have hn := notZ_is hu.1
    have e : 10 :: outN h (List.replicate 32 0) = nums (10 :: (outL h ++ zT)) := by
      rw [outN_eq h hl, ← nums_z, ← nums_append]
      rfl
    have hk := hu.2
    rw [e, shaK_eq _ _ 65 (by rw [List.length_cons, List.length_append, outL_length, zT_length])] at hk
    have := up_is n _ (shaW_8 _) hk
    rw [List.replicate_succ, foldM]
    have hm : (if 0 % 2 = 1 then mnode zT (outL h) else mnode (outL h) zT) = outL (shaW (10 :: (outL h ++ zT))) := by
      rw [if_neg (by omega)]
      unfold mnode
      rw [if_neg (fun q => hn q.1)]
      rfl
    rw [hm]
    exact this
theorem trie_both : leafE (1, zT) ≠ zT ∧ foldM 1 (leafE (1, zT)) (List.replicate 32 zT) ≠ zT := by
  have hk := trie_fact
  rw [shaK_eq _ _ 37 (by rw [List.length_cons, List.length_append, putL_length, zT_length]), Bool.and_eq_true] at hk
  have hl : leafE (1, zT) = outL (shaW (9 :: (putL 1 4 ++ zT))) := rfl
  have hn := notZ_is hk.1
  have e : 10 :: (List.replicate 32 0 ++ outN (shaW (9 :: (putL 1 4 ++ zT))) []) = nums (10 :: (zT ++ outL (shaW (9 :: (putL 1 4 ++ zT))))) := by
    rw [outN_eq _ (shaW_8 _), List.append_nil, ← nums_z, ← nums_append]
    rfl
  have h2 := hk.2
  rw [e, shaK_eq _ _ 65 (by rw [List.length_cons, List.length_append, outL_length, zT_length])] at h2
  have hu := up_is 31 _ (shaW_8 _) h2
  rw [← hl] at hn hu
  refine ⟨hn, ?_⟩
  rw [List.replicate_succ, foldM]
  have hm : (if 1 % 2 = 1 then mnode zT (leafE (1, zT)) else mnode (leafE (1, zT)) zT) = outL (shaW (10 :: (zT ++ leafE (1, zT)))) := by
    rw [if_pos (by omega)]
    unfold mnode
    rw [if_neg (fun q => hn q.2)]
    rfl
  rw [hm]
  exact hu
theorem path_zero (g : Nat → List UInt8) (k n : Nat) (h : ∀ x, x ≠ k → g x = zT) : pathM g k n = List.replicate n zT := by
  rw [path_but (g' := fun _ => zT) k n h]
  unfold pathM
  rw [List.map_congr_left (g := fun _ => zT) (fun i _ => mapL_zero i _), List.map_const', List.length_range]
theorem gE_one (e : Ent) (k : Nat) (hk : e.1 = (k : Int)) : gE [e] k = leafE e ∧ ∀ x, x ≠ k → gE [e] x = zT := by
  refine ⟨gE_of (by simp [hk]), fun x hx => gE_none ?_⟩
  rw [List.find?_eq_none]
  intro y hy
  rw [List.mem_singleton.1 hy, hk]
  simp
  omega
/-- The root of one entry. -/
theorem root_one (e : Ent) (k : Nat) (hk : e.1 = (k : Int)) (h32 : k < 2 ^ 32) : mapL (gE [e]) 0 32 = foldM k (leafE e) (List.replicate 32 zT) := by
  obtain ⟨h1, h2⟩ := gE_one e k hk
  rw [← fold_map (gE [e]) k 32 h32, h1, path_zero _ k 32 h2]
theorem trie_root_ne : mapL (gE [(1, zT)]) 0 32 ≠ zT := by
  rw [root_one (1, zT) 1 rfl (by omega)]
  exact trie_both.2
end Go.Proofs.YtbhoijnhpmkglaaDoor
/- The contract of the laws' leafed. -/
namespace Go.Proofs.YtbhoijnhpmkglaaDoor
open Go.RowKit
set_option linter.unusedVariables false
set_option linter.unusedSimpArgs false

def eOne : Ent := (1, zT)
theorem eOne_ok : okE eOne := ⟨rfl, by decide, by decide⟩
theorem Tryd.builtOne : Tryd.prog.built 26 [(0, .int .i64 1)] = some (entC eOne).toArray := by kernel_rfl
theorem eOne_fault : faultE [eOne] = 0 := by decide
theorem leaf_fact : ∃ L M : List UInt8, L.length = 32 ∧ M.length = 32 ∧ L ≠ zT ∧ M ≠ zT ∧ leafE eOne = L ∧ mapL (gE [eOne]) 0 32 = M := ⟨_, _, leafE_length _, mapL_length (gE_length _) 32 0, trie_both.1, trie_root_ne, rfl, rfl⟩
set_option maxRecDepth 100000 in
set_option maxHeartbeats 2000000 in
theorem wleafed_any (w : World) (G : Env w) :
    Calls Tryd.prog 24 #[] w fun r w' => r = .returned (.bool true) ∧ Below w.heap.size w w' := by
  obtain ⟨L, M, lL, lM, hLZ, hMZ, hL, hM⟩ := leaf_fact
  have HGE : Hid (∀ wx, Below w.heap.size w wx → Env wx) := fun wx hx => G.below hx
  have HC1 : Hid (∀ wx, Env wx → Calls Tryd.prog 18 #[entV eOne] wx fun r w' => r = .returned (.tuple #[digestV L, .nilIface]) ∧ Below wx.heap.size wx w') := fun wx hx => by
    have := wtrie_leaf eOne wx hx eOne_ok rfl
    rw [hL] at this
    exact this
  have HC2 : Hid (∀ a c wx, Env wx → ERow wx a 1 [eOne] → 1 ≤ c → Calls Tryd.prog 11 #[.slice a 1 c] wx fun r w' => r = .returned (.tuple #[digestV M, .nilIface]) ∧ Below wx.heap.size wx w') := fun a c wx hx hr hc => by
    have := wtrie_root a 1 c [eOne] wx hx hr hc (by omega) eOne_fault
    rw [hM] at this
    exact this
  have HNO : Hid (∀ wx, Calls Tryd.prog 23 #[] wx fun e w' => e = .returned (digestV zT) ∧ Below wx.heap.size wx w') := rnothing_any
  have HNEW : Hid (∀ wx : World, ERow (wx.alloc (.cells (entC eOne).toArray 26)) (some ⟨wx.heap.size, 0, none⟩) 1 [eOne]) := fun wx => ERow.new wx eOne _ eOne_ok
  have lZ : zT.length = 32 := rfl
  have HDL : Hid ((!decide (L = zT)) = true) := by unfold Hid; simp [hLZ]
  have HDM : Hid ((!decide (M = zT)) = true) := by unfold Hid; simp [hMZ]
  have HBU : Hid (Tryd.prog.built 26 [(0, .int .i64 1)] = some (entC eOne).toArray) := Tryd.builtOne
  have HOK : Hid (okE eOne) := eOne_ok
  clear hL hM hLZ hMZ G
  generalize zT = Z at *
  generalize eOne = E1 at *
  go_enter Tryd.func24, Tryd.ntmps24
  go_wp2_with (refine wpList_buildC (by rfl) 26 #[(0, .const (.int .i64 1))] (by rfl) (entC E1).toArray (by simp only [List.map_toArray, List.map_cons, List.map_nil, Act.eval]; exact HBU.out) ?_)
  refine (HC1.out w (HGE.out _ (Below.refl _ _))).mono ?_
  rintro r w2 ⟨rfl, hb2⟩
  have HB2 : Hid (Below w.heap.size w w2) := hb2
  clear hb2
  obtain ⟨g1, hg1⟩ : ∃ g1, w2.heap.size = g1 := ⟨_, rfl⟩
  obtain ⟨w3, hw3⟩ : ∃ w3, w2.alloc (.cells (cellsB zD).toArray 24) = w3 := ⟨_, rfl⟩
  have HT3 : Hid (w3.there g1 0 32) := by rw [← hw3]; exact alloc_thereAt _ _ _ 32 _ hg1 zD_size.symm
  have HB4 : Hid (Below w.heap.size w (w3.setCells g1 0 (cellsB L))) := below_setCells _ (by rw [← hg1]; exact HB2.out.size) _ _ _ (by rw [← hw3]; exact HB2.out.alloc HB2.out.size _)
  have HX4 : Hid (DAt (w3.setCells g1 0 (cellsB L)) g1 0 L) := dat_stored HT3.out lL
  go_upto_region 2 with (first
    | (refine wpList_allocE (by rfl) 24 (by rfl) (cellsB zD).toArray Tryd.zeroDg g1 hg1 w3 hw3 ?_)
    | (refine wpList_store_mid (by rfl) 24 (.tmp 1) (.tmp 8) (by rfl) g1 0 (cellsB L).toArray (by rfl) (by rfl) (by rw [cellsB_size, lL]; exact HT3.out) (by rw [cellsB_size, lL]; exact Tryd.sizeDg) (all_oneCell_toArray (cellsB_one _)) ?_))
  generalize w3.setCells g1 0 (cellsB L) = w4 at *
  clear hw3 HT3 hg1
  try simp only [Act.put, List.setIfInBounds_toArray, List.set_cons_zero, List.set_cons_succ]
  have HB5 : Hid (Below w.heap.size w (w4.alloc (.cells (entC E1).toArray 26))) := HB4.out.alloc HB4.out.size _
  have HX5 : Hid (DAt (w4.alloc (.cells (entC E1).toArray 26)) g1 0 L) := World.rangeAt_alloc HX4.out _
  go_wp2_with (first
    | (refine wpList_buildC (by rfl) 26 #[(0, .const (.int .i64 1))] (by rfl) (entC E1).toArray (by simp only [List.map_toArray, List.map_cons, List.map_nil, Act.eval]; exact HBU.out) ?_)
    | (refine wpList_buildEn (by rfl) (.tmp 11) (by rfl) E1 HOK.out (by rfl) ?_))
  refine (HC2.out _ 1 _ (HGE.out _ HB5.out) (HNEW.out w4) (by omega)).mono ?_
  rintro r w6 ⟨rfl, hb6⟩
  have HB6 : Hid (Below w.heap.size w w6) := HB5.out.trans (hb6.mono HB5.out.size)
  have HX6 : Hid (DAt w6 g1 0 L) := HX5.out.below hb6 (cell_block (HX5.out.cell 0 (by omega)))
  clear hb6 HB5 HX5 HX4 HB4
  obtain ⟨g3, hg3⟩ : ∃ g3, w6.heap.size = g3 := ⟨_, rfl⟩
  obtain ⟨w7, hw7⟩ : ∃ w7, w6.alloc (.cells (cellsB zD).toArray 24) = w7 := ⟨_, rfl⟩
  have HT7 : Hid (w7.there g3 0 32) := by rw [← hw7]; exact alloc_thereAt _ _ _ 32 _ hg3 zD_size.symm
  have HB67 : Hid (Below w6.heap.size w6 (w7.setCells g3 0 (cellsB M))) := below_setCells _ (by rw [hg3]; exact Nat.le_refl _) _ _ _ (by rw [← hw7]; exact (Below.refl _ _).alloc (Nat.le_refl _) _)
  have HX8 : Hid (DAt (w7.setCells g3 0 (cellsB M)) g3 0 M) := dat_stored HT7.out lM
  go_upto_region 3 with (first
    | (refine wpList_allocE (by rfl) 24 (by rfl) (cellsB zD).toArray Tryd.zeroDg g3 hg3 w7 hw7 ?_)
    | (refine wpList_store_mid (by rfl) 24 (.tmp 3) (.tmp 14) (by rfl) g3 0 (cellsB M).toArray (by rfl) (by rfl) (by rw [cellsB_size, lM]; exact HT7.out) (by rw [cellsB_size, lM]; exact Tryd.sizeDg) (all_oneCell_toArray (cellsB_one _)) ?_))
  generalize w7.setCells g3 0 (cellsB M) = w8 at *
  clear hw7 HT7 hg3
  try simp only [Act.put, List.setIfInBounds_toArray, List.set_cons_zero, List.set_cons_succ]
  have HKK : Hid (∀ wx, Below w8.heap.size w8 wx → wx.rangeAt g1 0 (cellsB L) ∧ wx.rangeAt g3 0 (cellsB M) ∧ Below w.heap.size w wx) := fun wx hx => by
    have b6 : Below w6.heap.size w6 wx := HB67.out.trans (hx.mono HB67.out.size)
    exact ⟨HX6.out.below b6 (cell_block (HX6.out.cell 0 (by omega))), HX8.out.below hx (cell_block (HX8.out.cell 0 (by omega))), HB6.out.trans (b6.mono HB6.out.size)⟩
  refine wp_region_noPanic ?_
  refine wp_region_held_drew (S := fun wx => wx.rangeAt g1 0 (cellsB L) ∧ wx.rangeAt g3 0 (cellsB M)) (by kernel_rfl) ⟨(HKK.out _ (below_drewN w8 1)).1, (HKK.out _ (below_drewN w8 1)).2.1⟩ (fun hHeld => ?_)
  try simp only [Act.put, List.setIfInBounds_toArray, List.set_cons_zero, List.set_cons_succ]
  have HBd : Hid (Below w8.heap.size w8 w8.drew) := below_drewN w8 1
  generalize w8.drew = wd at *
  refine wpAnyH_take (i := 0) (v := ?_) (by simp only [List.getElem?_toArray, List.getElem?_cons_zero, List.getElem?_cons_succ]; rfl) (by kernel_rfl) (by kernel_rfl) (by kernel_rfl) (fun _ _ _ h => h) (Or.inl ⟨by rfl, ?_⟩) hHeld ?_
  rotate_left
  · intro w hSw
    obtain ⟨hSw0, hSw1⟩ := hSw
    go_simp
    try with_reducible rfl
  try simp only [Act.put, List.setIfInBounds_toArray, List.set_cons_zero, List.set_cons_succ]
  refine wpAnyH_take (i := 1) (v := ?_) (by simp only [List.getElem?_toArray, List.getElem?_cons_zero, List.getElem?_cons_succ]; rfl) (by kernel_rfl) (by kernel_rfl) (by kernel_rfl) (fun _ _ _ h => h) (Or.inl ⟨by rfl, ?_⟩) hHeld ?_
  rotate_left
  · intro w hSw
    obtain ⟨hSw0, hSw1⟩ := hSw
    go_simp
    try with_reducible rfl
  try simp only [Act.put, List.setIfInBounds_toArray, List.set_cons_zero, List.set_cons_succ]
  refine wpAnyH_take (i := 2) (v := ?_) (by simp only [List.getElem?_toArray, List.getElem?_cons_zero, List.getElem?_cons_succ]; rfl) (by kernel_rfl) (by kernel_rfl) (by kernel_rfl) (fun _ _ _ h => h) (Or.inl ⟨by rfl, ?_⟩) hHeld ?_
  rotate_left
  · intro w hSw
    obtain ⟨hSw0, hSw1⟩ := hSw
    go_simp
    try with_reducible rfl
  try simp only [Act.put, List.setIfInBounds_toArray, List.set_cons_zero, List.set_cons_succ]
  refine wpAnyH_take (i := 3) (v := ?_) (by simp only [List.getElem?_toArray, List.getElem?_cons_zero, List.getElem?_cons_succ]; rfl) (by kernel_rfl) (by kernel_rfl) (by kernel_rfl) (fun _ _ _ h => h) (Or.inl ⟨by rfl, ?_⟩) hHeld ?_
  rotate_left
  · intro w hSw
    obtain ⟨hSw0, hSw1⟩ := hSw
    go_simp
    try with_reducible rfl
  try simp only [Act.put, List.setIfInBounds_toArray, List.set_cons_zero, List.set_cons_succ]
  refine wpAnyH_take (i := 4) (v := ?_) (by simp only [List.getElem?_toArray, List.getElem?_cons_zero, List.getElem?_cons_succ]; rfl) (by kernel_rfl) (by kernel_rfl) (by kernel_rfl) (fun _ _ _ h => h) (Or.inl ⟨by rfl, ?_⟩) hHeld ?_
  rotate_left
  · intro w hSw
    obtain ⟨hSw0, hSw1⟩ := hSw
    go_simp
    try with_reducible rfl
  try simp only [Act.put, List.setIfInBounds_toArray, List.set_cons_zero, List.set_cons_succ]
  refine wpAnyH_take (i := 5) (v := ?_) (by simp only [List.getElem?_toArray, List.getElem?_cons_zero, List.getElem?_cons_succ]; rfl) (by kernel_rfl) (by kernel_rfl) (by kernel_rfl) (fun _ _ _ h => h) (Or.inl ⟨by rfl, ?_⟩) hHeld ?_
  rotate_left
  · intro w hSw
    obtain ⟨hSw0, hSw1⟩ := hSw
    go_simp
    try with_reducible rfl
  try simp only [Act.put, List.setIfInBounds_toArray, List.set_cons_zero, List.set_cons_succ]
  refine wpAnyH_take (i := 6) (v := ?_) (by simp only [List.getElem?_toArray, List.getElem?_cons_zero, List.getElem?_cons_succ]; rfl) (by kernel_rfl) (by kernel_rfl) (by kernel_rfl) (fun _ _ _ h => h) (Or.inl ⟨by rfl, ?_⟩) hHeld ?_
  rotate_left
  · intro w hSw
    obtain ⟨hSw0, hSw1⟩ := hSw
    go_simp
    try with_reducible rfl
  try simp only [Act.put, List.setIfInBounds_toArray, List.set_cons_zero, List.set_cons_succ]
  refine wpAnyH_take (i := 7) (v := .agg (cellsB L).toArray) (by simp only [List.getElem?_toArray, List.getElem?_cons_zero, List.getElem?_cons_succ]; rfl) (by kernel_rfl) (by kernel_rfl) (by kernel_rfl) (fun _ _ _ h => h)
    (yieldsIf_load_mid (by rfl) _ _ rfl _ _ rfl _ _ (fun w hw => hw.1) Tryd.underlying24 rfl (by rw [cellsB_length, lL]; exact Tryd.sizeDg)) hHeld ?_
  try simp only [Act.put, List.setIfInBounds_toArray, List.set_cons_zero, List.set_cons_succ]
  refine wpAnyH_ready (rs := [8]) (by kernel_rfl) (by simp) ?_
  refine AllReadyH.cons (by simp only [List.getElem?_toArray, List.getElem?_cons_zero, List.getElem?_cons_succ]; rfl) (fun K hK => ?_) AllReadyH.nil
  rw [if_pos (by rfl)]
  go_simp
  refine (HNO.out wd).mono ?_
  rintro r we ⟨rfl, hbx⟩
  have HBe : Hid (Below w8.heap.size w8 we) := HBd.out.trans (hbx.mono HBd.out.size)
  clear hbx
  go_wp2_with fail
  refine hK.out _ _ ⟨(HKK.out _ HBe.out).1, (HKK.out _ HBe.out).2.1⟩ (fun hHeld => ?_)
  clear hK K
  try simp only [Act.put, List.setIfInBounds_toArray, List.set_cons_zero, List.set_cons_succ]
  refine wpAnyH_take (i := 9) (v := .bool true) (by simp only [List.getElem?_toArray, List.getElem?_cons_zero, List.getElem?_cons_succ]; rfl) (by kernel_rfl) (by kernel_rfl) (by kernel_rfl) (fun _ _ _ h => h)
    (yieldsIf_neqD (by rfl) _ _ rfl L Z lL lZ rfl rfl true HDL.out) hHeld ?_
  try simp only [Act.put, List.setIfInBounds_toArray, List.set_cons_zero, List.set_cons_succ]
  refine wpAnyH_take (i := 10) (v := ?_) (by simp only [List.getElem?_toArray, List.getElem?_cons_zero, List.getElem?_cons_succ]; rfl) (by kernel_rfl) (by kernel_rfl) (by kernel_rfl) (fun _ _ _ h => h) (Or.inl ⟨by rfl, ?_⟩) hHeld ?_
  rotate_left
  · intro w hSw
    obtain ⟨hSw0, hSw1⟩ := hSw
    go_simp
    try with_reducible rfl
  try simp only [Act.put, List.setIfInBounds_toArray, List.set_cons_zero, List.set_cons_succ]
  refine wpAnyH_take (i := 11) (v := ?_) (by simp only [List.getElem?_toArray, List.getElem?_cons_zero, List.getElem?_cons_succ]; rfl) (by kernel_rfl) (by kernel_rfl) (by kernel_rfl) (fun _ _ _ h => h) (Or.inl ⟨by rfl, ?_⟩) hHeld ?_
  rotate_left
  · intro w hSw
    obtain ⟨hSw0, hSw1⟩ := hSw
    go_simp
    try with_reducible rfl
  try simp only [Act.put, List.setIfInBounds_toArray, List.set_cons_zero, List.set_cons_succ]
  refine wpAnyH_take (i := 12) (v := .agg (cellsB M).toArray) (by simp only [List.getElem?_toArray, List.getElem?_cons_zero, List.getElem?_cons_succ]; rfl) (by kernel_rfl) (by kernel_rfl) (by kernel_rfl) (fun _ _ _ h => h)
    (yieldsIf_load_mid (by rfl) _ _ rfl _ _ rfl _ _ (fun w hw => hw.2) Tryd.underlying24 rfl (by rw [cellsB_length, lM]; exact Tryd.sizeDg)) hHeld ?_
  try simp only [Act.put, List.setIfInBounds_toArray, List.set_cons_zero, List.set_cons_succ]
  refine wpAnyH_ready (rs := [13]) (by kernel_rfl) (by simp) ?_
  refine AllReadyH.cons (by simp only [List.getElem?_toArray, List.getElem?_cons_zero, List.getElem?_cons_succ]; rfl) (fun K hK => ?_) AllReadyH.nil
  rw [if_pos (by rfl)]
  go_simp
  refine (HNO.out we).mono ?_
  rintro r wf ⟨rfl, hbx⟩
  have HBf : Hid (Below w8.heap.size w8 wf) := HBe.out.trans (hbx.mono HBe.out.size)
  clear hbx
  go_wp2_with fail
  refine hK.out _ _ ⟨(HKK.out _ HBf.out).1, (HKK.out _ HBf.out).2.1⟩ (fun hHeld => ?_)
  clear hK K
  try simp only [Act.put, List.setIfInBounds_toArray, List.set_cons_zero, List.set_cons_succ]
  refine wpAnyH_take (i := 14) (v := .bool true) (by simp only [List.getElem?_toArray, List.getElem?_cons_zero, List.getElem?_cons_succ]; rfl) (by kernel_rfl) (by kernel_rfl) (by kernel_rfl) (fun _ _ _ h => h)
    (yieldsIf_neqD (by rfl) _ _ rfl M Z lM lZ rfl rfl true HDM.out) hHeld ?_
  try simp only [Act.put, List.setIfInBounds_toArray, List.set_cons_zero, List.set_cons_succ]
  refine wpAnyH_take (i := 15) (v := ?_) (by simp only [List.getElem?_toArray, List.getElem?_cons_zero, List.getElem?_cons_succ]; rfl) (by kernel_rfl) (by kernel_rfl) (by kernel_rfl) (fun _ _ _ h => h) (Or.inl ⟨by rfl, ?_⟩) hHeld ?_
  rotate_left
  · intro w hSw
    obtain ⟨hSw0, hSw1⟩ := hSw
    go_simp
    try with_reducible rfl
  try simp only [Act.put, List.setIfInBounds_toArray, List.set_cons_zero, List.set_cons_succ]
  refine wpAnyH_take (i := 16) (v := ?_) (by simp only [List.getElem?_toArray, List.getElem?_cons_zero, List.getElem?_cons_succ]; rfl) (by kernel_rfl) (by kernel_rfl) (by kernel_rfl) (fun _ _ _ h => h) (Or.inl ⟨by rfl, ?_⟩) hHeld ?_
  rotate_left
  · intro w hSw
    obtain ⟨hSw0, hSw1⟩ := hSw
    go_simp
    try with_reducible rfl
  try simp only [Act.put, List.setIfInBounds_toArray, List.set_cons_zero, List.set_cons_succ]
  refine wpAnyH_done (by kernel_rfl) (NoPanic.normal ?_) _
  clear hHeld
  go_wp2_with fail
  go_ret
  exact ⟨rfl, (HKK.out _ HBf.out).2.2⟩
end Go.Proofs.YtbhoijnhpmkglaaDoor
/- A region in a round of a range over a function: as anywhere, under the wide fence. -/
namespace Go.Proofs.YtbhoijnhpmkglaaDoor
open Go.RowKit
set_option linter.unusedVariables false
set_option linter.unusedSimpArgs false

theorem rows_wide {P : Program} {row : String} {args : Array Value} {w : World} {R : Value → World → Prop} (l n : Nat) (h : Rows P row args w R) : RowsIn (Fence.wide.inRound l) n P row args w R :=
  fun c cs _ => let ⟨v, w', r, s⟩ := h c cs; ⟨v, w', r, stepsIn_wide.2 s⟩
theorem uponIn_round_wide {P : Program} {o : Oper} {a : Act} {K K' : Act → World → Prop} {Q : Exit → Act → World → Prop} (l n : Nat) (hK : ∀ a w, K a w → K' a w) (r : Result Next) (h : o.upon P a K Q r) :
    o.uponIn (Fence.wide.inRound l) n P a K' Q r := by
  unfold Oper.upon at h
  unfold Oper.uponIn
  split at h
  · exact hK _ _ h
  · exact hK _ _ h
  · exact hK _ _ h
  · refine ⟨fun hd => (by cases hd), CallsIn.inRound l (callsIn_wide.2 (h.mono ?_))⟩
    intro e w' he
    cases e with
    | returned v => exact hK _ _ he
    | panicked c => exact he
    | outgrown => exact he
  · exact ⟨fun hd => (by cases hd), rows_wide l _ (h.mono fun v w' hv => hK _ _ hv)⟩
  · exact h
  · exact h.elim
/-- No statement in it is a 'defer'. -/
def noDefer (ops : Array Oper) : Bool := ops.toList.all fun o => match o.op with | .defer _ => false | _ => true
theorem noDefer_spec {ops : Array Oper} (h : noDefer ops = true) {i : Nat} {o : Oper} (ho : ops[i]? = some o) : ∀ c, o.op ≠ .defer c := by
  intro c hc
  have hm : o ∈ ops.toList := by
    have := (Array.getElem?_eq_some_iff.1 ho).2
    have hi := (Array.getElem?_eq_some_iff.1 ho).1
    rw [← this]
    exact Array.mem_toList_iff.2 (Array.getElem_mem hi)
  have := List.all_eq_true.1 h o hm
  rw [hc] at this
  cases this
theorem wpOps_round {P : Program} {ops : Array Oper} {Q : Exit → Act → World → Prop} (l n : Nat) (hd : noDefer ops = true) (hQ : ¬ LetsOut Q) :
    ∀ (js : List Nat) (a : Act) (w : World), wpOps P ops Q js a w → wpOpsIn (Fence.wide.inRound l) n P ops Q js a w
  | [], _, _, h => h
  | i :: rest, a, w, h => by
    have ih := wpOps_round (P := P) l n hd hQ rest
    unfold wpOps at h
    unfold wpOpsIn
    cases ho : ops[i]? with
    | none =>
      rw [ho] at h
      exact ih a w h
    | some o =>
      rw [ho] at h
      simp only at h ⊢
      by_cases hw : Region.wanted o (yielded ops a.tmps) = true
      · rw [if_pos hw] at h ⊢
        rcases h with h | ⟨_, h⟩
        · refine ⟨fun _ _ => trivial, ?_⟩
          rw [Oper.semAt_eq _ _ _ (noDefer_spec hd ho)]
          exact uponIn_round_wide l n ih _ h
        · exact absurd h hQ
      · rw [if_neg hw] at h ⊢
        exact ⟨fun _ _ => trivial, ih _ _ h⟩
theorem wpIn_round_list {P : Program} {ops : Array Oper} {Q : Exit → Act → World → Prop} {id : Nat} {a : Act} {w : World} (l n : Nat) (hd : noDefer ops = true) (hQ : ¬ LetsOut Q) (h : wpList P ops Q ops.toList a w) :
    (Code.region id ops false).wpIn (Fence.wide.inRound l) n P Q a w := by
  refine wpIn_region (wpOps_round l n hd hQ _ _ _ ?_)
  rw [List.range_eq_range', show ops.size = ops.toList.length from rfl, wpOps_eq_wpList ops.toList 0 (by simp)]
  exact h
theorem wpIn_round_held {P : Program} {ops : Array Oper} {Q : Exit → Act → World → Prop} {S : World → Prop} {id : Nat} {a : Act} {w : World} (l n : Nat) (hm : P.follows .mixedOrders = true) (hd : noDefer ops = true) (hQ : ¬ LetsOut Q)
    (h : wpAnyH P .any ops Q S ops.size (Array.replicate ops.size false) a { w with drawn := w.drawn + 1 }) : (Code.region id ops true).wpIn (Fence.wide.inRound l) n P Q a w :=
  wpIn_region_draw fun t => by
    refine wpOps_round l n hd hQ _ _ _ ?_
    simp only [Region.schedule, hm, Bool.true_or, if_true]
    exact wpAny_sound ops.size t _ a _ (wpAny_of_held _ _ _ _ h)
end Go.Proofs.YtbhoijnhpmkglaaDoor
/- A region that draws its order, and whose last operation (it waits for all others) writes what was loaded: a condition on the world that holds behind each operation but the last. No theorem of the program. -/
namespace Go.Proofs.YtbhoijnhpmkglaaDoor
open Go.RowKit
set_option linter.unusedVariables false
set_option linter.unusedSimpArgs false
section
variable {P : Program} {ops : Array Oper} {Q : Exit → Act → World → Prop} {md : Region.Mode} {S : World → Prop} {last : Nat}

def wpAnyT (P : Program) (md : Region.Mode) (ops : Array Oper) (Q : Exit → Act → World → Prop) (S : World → Prop) (last : Nat) : Nat → Array Bool → Act → World → Prop
  | 0, listed, a, w => Region.ready md ops listed = [] ∧ Q .normal a w
  | fuel + 1, listed, a, w =>
    (Region.ready md ops listed = [] → Q .normal a w) ∧
    ∀ i ∈ Region.ready md ops listed, wpOp P ops Q i (fun a' w' => (i ≠ last → S w') ∧ wpAnyT P md ops Q S last fuel (listed.setIfInBounds i true) a' w') a w
theorem wpAny_of_till : ∀ (fuel : Nat) (listed : Array Bool) (a : Act) (w : World), wpAnyT P md ops Q S last fuel listed a w → wpAny P md ops Q fuel listed a w
  | 0, _, _, _, h => h
  | fuel + 1, _, _, _, h => ⟨h.1, fun i hi => wpOp_mono (fun a' w' h' => wpAny_of_till fuel _ a' w' h'.2) (h.2 i hi)⟩
/-- The last one waits for i. -/
def lastWaits (md : Region.Mode) (ops : Array Oper) (last i : Nat) : Bool := match ops[last]? with
  | none => false
  | some o => o.after.toList.any fun e => Region.binds md e && e.on == i
theorem lastWaits_spec {i : Nat} {listed : Array Bool} (h : lastWaits md ops last i = true) (hi : listed.getD i true = false) : last ∉ Region.ready md ops listed := by
  intro hl
  obtain ⟨_, o, ho, hall⟩ := mem_ready.1 hl
  unfold lastWaits at h
  rw [ho] at h
  obtain ⟨e, he, hb⟩ := List.any_eq_true.1 h
  simp only [Bool.and_eq_true, beq_iff_eq] at hb
  have := hall e (Array.mem_toList_iff.1 he) hb.1
  rw [hb.2] at this
  rcases Nat.lt_or_ge i listed.size with h' | h'
  · simp [h'] at hi this; rw [hi] at this; cases this
  · simp [Array.getElem?_eq_none h'] at this
theorem wpAnyT_first {i : Nat} {oi : Oper} {v : Value} (hi : ops[i]? = some oi) (hsel : ∀ (j : Nat) (o : Oper) cs b, ops[j]? = some o → o.op ≠ .select cs b)
    (hQ : ∀ c a w, Q (.panic c) (a.put oi.dst v) w → Q (.panic c) a w) (hw8 : lastWaits md ops last i = true) :
    ∀ (fuel : Nat) (listed : Array Bool) (a : Act) (w : World),
      (∀ j oj, ops[j]? = some oj → j ≠ i → listed.getD j true = false → (∀ e ∈ oj.after, Region.binds md e = true → e.on ≠ i) → oi.apart ops oj = true) →
      i ∈ Region.ready md ops listed → YieldsIf P ops S oi v a → S w →
      wpAnyT P md ops Q S last fuel (listed.setIfInBounds i true) (a.put oi.dst v) w → wpAnyT P md ops Q S last (fuel + 1) listed a w := by
  intro fuel
  induction fuel with
  | zero =>
    intro listed a w _ hr hy hS H
    refine ⟨fun h => (by rw [h] at hr; cases hr), fun j hj => ?_⟩
    by_cases hji : j = i
    · subst hji; exact hy.wpOp hi hS ⟨fun _ => hS, H⟩
    · have := ready_mono hj hji
      rw [H.1] at this
      cases this
  | succ fuel ih =>
    intro listed a w hfree hr hy hS H
    refine ⟨fun h => (by rw [h] at hr; cases hr), fun j hj => ?_⟩
    by_cases hji : j = i
    · subst hji; exact hy.wpOp hi hS ⟨fun _ => hS, H⟩
    · have hjl : j ≠ last := fun e => lastWaits_spec hw8 (mem_ready.1 hr).1 (e ▸ hj)
      have h1 := H.2 j (ready_mono hj hji)
      obtain ⟨hjun, oj, hoj, hall⟩ := mem_ready.1 hj
      have hnot : ∀ e ∈ oj.after, Region.binds md e = true → e.on ≠ i := fun e he hb heq => by
        have h1 := hall e he hb
        have h0 := (mem_ready.1 hr).1
        rw [heq] at h1
        rcases Nat.lt_or_ge i listed.size with h' | h'
        · simp [h'] at h0 h1; rw [h0] at h1; cases h1
        · simp [Array.getElem?_eq_none h'] at h1
      have h2 := wpOp_putIf hoj (hfree j oj hoj hji hjun hnot) (fun cs b => hsel i oi cs b hi) (fun cs b => hsel j oj cs b hoj) hQ hy h1
      have hfree' : ∀ k ok, ops[k]? = some ok → k ≠ i → (listed.setIfInBounds j true).getD k true = false →
          (∀ e ∈ ok.after, Region.binds md e = true → e.on ≠ i) → oi.apart ops ok = true := fun k ok hk hki hun hno => by
        refine hfree k ok hk hki ?_ hno
        by_cases hjk : j = k
        · subst hjk; exact hjun
        · rw [getD_set_ne true hjk] at hun; exact hun
      refine wpOp_mono (fun a' w' h3 => ⟨h3.2.1, ih (listed.setIfInBounds j true) a' w' hfree' (ready_mono hr (Ne.symm hji)) h3.1 (h3.2.1 hjl) ?_⟩) h2
      rw [Array.setIfInBounds_comm _ _ hji]
      exact h3.2.2
theorem wpAnyT_take {i : Nat} {oi : Oper} {v : Value} {fuel : Nat} {listed : Array Bool} {a : Act} {w : World} (hi : ops[i]? = some oi)
    (hs : Region.noSelect ops = true) (hf : Region.free md ops listed i = true) (hr : (Region.ready md ops listed).contains i = true) (hw8 : lastWaits md ops last i = true)
    (hQ : ∀ c a w, Q (.panic c) (a.put oi.dst v) w → Q (.panic c) a w) (hy : YieldsIf P ops S oi v a) (hS : S w)
    (h : wpAnyT P md ops Q S last fuel (listed.setIfInBounds i true) (a.put oi.dst v) w) : wpAnyT P md ops Q S last (fuel + 1) listed a w :=
  wpAnyT_first hi (Region.noSelect_spec hs) hQ hw8 fuel listed a w (Region.free_spec hi hf) (by simpa using hr) hy hS h
def AllReadyT (P : Program) (md : Region.Mode) (ops : Array Oper) (Q : Exit → Act → World → Prop) (S : World → Prop) (last : Nat) (fuel : Nat) (listed : Array Bool) (a : Act) (w : World) (rs : List Nat) : Prop :=
  ∀ i ∈ rs, wpOp P ops Q i (fun a' w' => (i ≠ last → S w') ∧ wpAnyT P md ops Q S last fuel (listed.setIfInBounds i true) a' w') a w
theorem AllReadyT.nil {fuel : Nat} {listed : Array Bool} {a : Act} {w : World} : AllReadyT P md ops Q S last fuel listed a w [] := fun _ h => by cases h
theorem AllReadyT.cons {fuel : Nat} {listed : Array Bool} {a : Act} {w : World} {i : Nat} {o : Oper} {rs : List Nat} (ho : ops[i]? = some o)
    (h : ∀ K' : Act → World → Prop, Shut (∀ a w, S w → (S w → wpAnyT P md ops Q S last fuel (listed.setIfInBounds i true) a w) → K' a w) → if Region.wanted o (yielded ops a.tmps) = true then Oper.wp P o a w K' Q else K' (a.put o.dst undef) w)
    (hs : AllReadyT P md ops Q S last fuel listed a w rs) : AllReadyT P md ops Q S last fuel listed a w (i :: rs) := fun j hj => by
  rcases List.mem_cons.1 hj with rfl | hj
  · exact wpOp_step ho (fun K' hK => h K' (fun a w hS hW => hK a w ⟨fun _ => hS, hW hS⟩))
  · exact hs j hj
/-- The last one: behind it nothing is asked of the world. -/
theorem AllReadyT.lastly {fuel : Nat} {listed : Array Bool} {a : Act} {w : World} {i : Nat} {o : Oper} {rs : List Nat} (ho : ops[i]? = some o) (hl : last = i)
    (h : ∀ K' : Act → World → Prop, Shut (∀ a w, wpAnyT P md ops Q S last fuel (listed.setIfInBounds i true) a w → K' a w) → if Region.wanted o (yielded ops a.tmps) = true then Oper.wp P o a w K' Q else K' (a.put o.dst undef) w)
    (hs : AllReadyT P md ops Q S last fuel listed a w rs) : AllReadyT P md ops Q S last fuel listed a w (i :: rs) := fun j hj => by
  rcases List.mem_cons.1 hj with rfl | hj
  · exact wpOp_step ho (fun K' hK => h K' (fun a w hW => hK a w ⟨fun hn => absurd hl.symm hn, hW⟩))
  · exact hs j hj
theorem wpAnyT_ready {rs : List Nat} {fuel : Nat} {listed : Array Bool} {a : Act} {w : World} (hr : Region.ready md ops listed = rs) (hne : rs ≠ [])
    (h : AllReadyT P md ops Q S last fuel listed a w rs) : wpAnyT P md ops Q S last (fuel + 1) listed a w := ⟨fun h0 => absurd (hr ▸ h0) hne, hr ▸ h⟩
theorem wpAnyT_done {listed : Array Bool} {a : Act} {w : World} (hr : Region.ready md ops listed = []) (h : Q .normal a w) :
    ∀ fuel, wpAnyT P md ops Q S last fuel listed a w
  | 0 => ⟨hr, h⟩
  | _ + 1 => ⟨fun _ => h, by rw [hr]; simp⟩
theorem wp_region_till {id : Nat} {a : Act} {w : World} (last : Nat) (hm : P.follows .mixedOrders = true) (hS : S w.drew)
    (h : S w.drew → wpAnyT P .any ops Q S last ops.size (Array.replicate ops.size false) a w.drew) : (Code.region id ops true).wp P Q a w :=
  wp_region_any hm (wpAny_of_till _ _ _ _ (h hS))
theorem wpIn_round_till {id : Nat} {a : Act} {w : World} (last : Nat) (l n : Nat) (hm : P.follows .mixedOrders = true) (hd : noDefer ops = true) (hQ : ¬ LetsOut Q) (hS : S w.drew)
    (h : S w.drew → wpAnyT P .any ops Q S last ops.size (Array.replicate ops.size false) a w.drew) : (Code.region id ops true).wpIn (Fence.wide.inRound l) n P Q a w :=
  wpIn_region_draw fun t => by
    refine wpOps_round l n hd hQ _ _ _ ?_
    simp only [Region.schedule, hm, Bool.true_or, if_true]
    exact wpAny_sound ops.size t _ a _ (wpAny_of_till _ _ _ _ (h hS))
end
end Go.Proofs.YtbhoijnhpmkglaaDoor
