/- The law WotsSigned: a signature tells the public key of its seed. -/
import Derived.Test.YtdplajhebapkgaaDoorJ17
import Derived.Test.YtdplajhebapkgaaDoorJ16
import Derived.Deep.RegionHeld3
namespace Go.Proofs.YtdplajhebapkgaaDoor
open Go.RowKit
set_option linter.unusedVariables false
set_option linter.unusedSimpArgs false

theorem wotsPubL_len (seed : List UInt8) : (wotsPubL seed).length = 32 := shaL_length _
theorem zDlit : (cellsB zD).toArray = #[.int .u8 0, .int .u8 0, .int .u8 0, .int .u8 0, .int .u8 0, .int .u8 0, .int .u8 0, .int .u8 0, .int .u8 0, .int .u8 0, .int .u8 0, .int .u8 0, .int .u8 0, .int .u8 0, .int .u8 0, .int .u8 0, .int .u8 0, .int .u8 0, .int .u8 0, .int .u8 0, .int .u8 0, .int .u8 0, .int .u8 0, .int .u8 0, .int .u8 0, .int .u8 0, .int .u8 0, .int .u8 0, .int .u8 0, .int .u8 0, .int .u8 0, .int .u8 0] := by kernel_rfl
/-- Which operations of 'p, err := Recover(m, Sign(seed, m))' have come up. -/
def recL (k : Nat) (b : Bool) : Array Bool := #[true, true, true, decide (1 ≤ k), decide (2 ≤ k), decide (3 ≤ k), decide (4 ≤ k), decide (5 ≤ k), b, false, false]
/-- A value that is there from the n-th step on. -/
def fromK (n : Nat) (v : Value) (k : Nat) : Value := if n ≤ k then v else undef
def ptrP : Option Nat → Value
  | none => undef
  | some g => .pointer (some ⟨g, 0, none⟩)

set_option maxRecDepth 100000 in
set_option maxHeartbeats 2000000 in
theorem wsigned_walk (seed m : List UInt8) (w : World) (G : Env w) (hs : seed.length = 32) (hm : m.length = 32) (D0 : List UInt8) (hl0 : D0.length = 32) (hne0 : D0 ≠ zD)
    (HC : ∀ wx, Env wx → Calls Tryd.prog 12 #[.agg #[.int .u8 0, .int .u8 0, .int .u8 0, .int .u8 0, .int .u8 0, .int .u8 0, .int .u8 0, .int .u8 0, .int .u8 0, .int .u8 0, .int .u8 0, .int .u8 0, .int .u8 0, .int .u8 0, .int .u8 0, .int .u8 0, .int .u8 0, .int .u8 0, .int .u8 0, .int .u8 0, .int .u8 0, .int .u8 0, .int .u8 0, .int .u8 0, .int .u8 0, .int .u8 0, .int .u8 0, .int .u8 0, .int .u8 0, .int .u8 0, .int .u8 0, .int .u8 0]] wx fun e w' => e = .returned (digestV D0) ∧ Below wx.heap.size wx w') :
    Calls Tryd.prog 4 #[digestV seed, digestV m] w fun e w' => e = .returned (.bool true) ∧ Below w.heap.size w w' := by
  obtain ⟨w2, hw2⟩ : ∃ w2, (w.alloc (.cells (cellsB seed).toArray 23)).alloc (.cells (cellsB m).toArray 23) = w2 := ⟨_, rfl⟩
  have hs1 : (w.alloc (.cells (cellsB seed).toArray 23)).heap.size = w.heap.size + 1 := by simp
  have HS2 : Hid (w2.heap.size = w.heap.size + 1 + 1) := by unfold Hid; rw [← hw2]; simp
  have HB2 : Hid (Below w.heap.size w w2) := by rw [← hw2]; exact ((Below.refl _ _).alloc (Nat.le_refl _) _).alloc (by simp) _
  have HK : Hid (∀ wx, Below w2.heap.size w2 wx → DAt wx w.heap.size 0 seed ∧ DAt wx (w.heap.size + 1) 0 m ∧ Env wx ∧ Below w.heap.size w wx) := fun wx hx => by
    have b : Below w.heap.size w wx := HB2.out.trans (hx.mono (by have := HS2.out; omega))
    have s2 := HS2.out
    refine ⟨?_, ?_, G.below b, b⟩
    · refine DAt.below ?_ hx (by omega)
      rw [← hw2]; exact World.rangeAt_alloc (box_dat w seed _) _
    · refine DAt.below ?_ hx (by omega)
      rw [← hw2]; exact box_rangeAt _ _ _ _ hs1
  have HC0 : Hid (∀ wx, Env wx → Calls Tryd.prog 12 #[.agg #[.int .u8 0, .int .u8 0, .int .u8 0, .int .u8 0, .int .u8 0, .int .u8 0, .int .u8 0, .int .u8 0, .int .u8 0, .int .u8 0, .int .u8 0, .int .u8 0, .int .u8 0, .int .u8 0, .int .u8 0, .int .u8 0, .int .u8 0, .int .u8 0, .int .u8 0, .int .u8 0, .int .u8 0, .int .u8 0, .int .u8 0, .int .u8 0, .int .u8 0, .int .u8 0, .int .u8 0, .int .u8 0, .int .u8 0, .int .u8 0, .int .u8 0, .int .u8 0]] wx fun e w' => e = .returned (digestV D0) ∧ Below wx.heap.size wx w') := HC
  have HNE : Hid (D0 ≠ zD) := hne0
  have H0 : Hid (Below w2.heap.size w2 w2) := Below.refl _ _
  clear G HC hne0
  go_enter Tryd.func4, Tryd.ntmps4
  go_wp2_with fail
  try rw [hw2]
  clear hw2 hs1 HS2
  refine (HC0.out w2 (HK.out _ H0.out).2.2.1).mono ?_
  rintro e w3 ⟨rfl, hb3⟩
  clear HC0 H0
  obtain ⟨w4, hw4⟩ : ∃ w4, w3.alloc (.cells (cellsB zD).toArray 23) = w4 := ⟨_, rfl⟩
  have ht4 : Hid (w4.there w3.heap.size 0 32) := by rw [← hw4]; exact alloc_thereAt _ _ _ 32 _ rfl zD_size.symm
  have HB5 : Hid (Below w2.heap.size w2 (w4.setCells w3.heap.size 0 (cellsB D0))) := by rw [← hw4]; exact below_trans hb3 (new_stored _ _ _)
  have HD5 : Hid (DAt (w4.setCells w3.heap.size 0 (cellsB D0)) w3.heap.size 0 D0) := dat_stored ht4.out hl0
  have hl5 : w3.heap.size < (w4.setCells w3.heap.size 0 (cellsB D0)).heap.size := cell_block (HD5.out.cell 0 (by omega))
  clear hb3
  generalize hw5 : w4.setCells w3.heap.size 0 (cellsB D0) = w5 at *
  go_wp2_with (first
    | (refine wpList_allocE (by rfl) 23 (by rfl) (cellsB zD).toArray Tryd.zeroDg w3.heap.size rfl w4 hw4 ?_)
    | (refine wpList_store_mid (by rfl) 23 (.tmp 5) (.tmp 9) (by rfl) w3.heap.size 0 (cellsB D0).toArray (by rfl) (by rfl) (by rw [cellsB_size, hl0]; exact ht4.out) (by rw [cellsB_size, hl0]; exact Tryd.sizeDg) (all_oneCell_toArray (cellsB_one _)) ?_; rw [show (cellsB D0).toArray.toList = cellsB D0 from rfl, hw5]))
  clear hw4 hw5 ht4
  generalize w3.heap.size = g5 at *
  try simp only [Act.put, List.setIfInBounds_toArray, List.set_cons_zero, List.set_cons_succ]
  refine wp_region_noPanic ?_
  refine wp_region_held_drew (S := fun w' => w'.rangeAt w.heap.size 0 (cellsB seed) ∧ w'.rangeAt (w.heap.size + 1) 0 (cellsB m)) (by kernel_rfl) ⟨(HK.out _ HB5.out.drew).1, (HK.out _ HB5.out.drew).2.1⟩ (fun hHeld => ?_)
  try simp only [Act.put, List.setIfInBounds_toArray, List.set_cons_zero, List.set_cons_succ]
  have HBd : Hid (Below w2.heap.size w2 w5.drew) := HB5.out.drew
  have HDd : Hid (DAt w5.drew g5 0 D0 ∧ g5 < w5.drew.heap.size) := ⟨HD5.out, hl5⟩
  clear HB5 HD5 hl5
  generalize w5.drew = wd at *
  refine wpAnyH_take (i := 0) (v := .agg (cellsB m).toArray) (by simp only [List.getElem?_toArray, List.getElem?_cons_zero, List.getElem?_cons_succ]; rfl) (by kernel_rfl) (by kernel_rfl) (by kernel_rfl) (fun _ _ _ h => h)
    (yieldsIf_load_mid (by rfl) _ _ rfl _ _ rfl _ _ (fun w hw => hw.2) Tryd.underlying23 rfl (by rw [cellsB_length, hm]; exact Tryd.sizeDg)) hHeld ?_
  try simp only [Act.put, List.setIfInBounds_toArray, List.set_cons_zero, List.set_cons_succ]
  refine wpAnyH_take (i := 1) (v := .agg (cellsB seed).toArray) (by simp only [List.getElem?_toArray, List.getElem?_cons_zero, List.getElem?_cons_succ]; rfl) (by kernel_rfl) (by kernel_rfl) (by kernel_rfl) (fun _ _ _ h => h)
    (yieldsIf_load_mid (by rfl) _ _ rfl _ _ rfl _ _ (fun w hw => hw.1) Tryd.underlying23 rfl (by rw [cellsB_length, hs]; exact Tryd.sizeDg)) hHeld ?_
  try simp only [Act.put, List.setIfInBounds_toArray, List.set_cons_zero, List.set_cons_succ]
  refine wpAnyH_take (i := 2) (v := .agg (cellsB m).toArray) (by simp only [List.getElem?_toArray, List.getElem?_cons_zero, List.getElem?_cons_succ]; rfl) (by kernel_rfl) (by kernel_rfl) (by kernel_rfl) (fun _ _ _ h => h)
    (yieldsIf_load_mid (by rfl) _ _ rfl _ _ rfl _ _ (fun w hw => hw.2) Tryd.underlying23 rfl (by rw [cellsB_length, hm]; exact Tryd.sizeDg)) hHeld ?_
  try simp only [Act.put, List.setIfInBounds_toArray, List.set_cons_zero, List.set_cons_succ]
  have HKS : Hid (∀ wx, Below wd.heap.size wd wx → (wx.rangeAt w.heap.size 0 (cellsB seed) ∧ wx.rangeAt (w.heap.size + 1) 0 (cellsB m)) ∧ Env wx) := fun wx hx => by
    have h := HK.out _ (HBd.out.trans (hx.mono HBd.out.size))
    exact ⟨⟨h.1, h.2.1⟩, h.2.2.1⟩
  refine news1_any 5 2 (fun k p a wx => ∃ sl, a = ({ tmps := #[digestV seed, digestV m, .pointer (some ⟨w.heap.size, 0, none⟩), .pointer (some ⟨w.heap.size + 1, 0, none⟩), .bool false, .pointer (some ⟨g5, 0, none⟩), ptrP p, undef, .agg #[.int .u8 0, .int .u8 0, .int .u8 0, .int .u8 0, .int .u8 0, .int .u8 0, .int .u8 0, .int .u8 0, .int .u8 0, .int .u8 0, .int .u8 0, .int .u8 0, .int .u8 0, .int .u8 0, .int .u8 0, .int .u8 0, .int .u8 0, .int .u8 0, .int .u8 0, .int .u8 0, .int .u8 0, .int .u8 0, .int .u8 0, .int .u8 0, .int .u8 0, .int .u8 0, .int .u8 0, .int .u8 0, .int .u8 0, .int .u8 0, .int .u8 0, .int .u8 0], digestV D0, fromK 3 (.tuple #[digestV (wotsPubL seed), .nilIface]) k, .agg (cellsB m).toArray, .agg (cellsB seed).toArray, .agg (cellsB m).toArray, fromK 1 sl k, fromK 2 (.tuple #[digestV (wotsPubL seed), .nilIface]) k, fromK 4 (digestV (wotsPubL seed)) k, fromK 5 .nilIface k, undef, undef, undef, undef, undef, undef, undef, undef, undef, undef, undef, undef, undef], defers := [] } : Act) ∧ Below wd.heap.size wd wx ∧ (1 ≤ k → ∃ a3 c3, sl = .slice a3 67 c3 ∧ DRow wx a3 67 (wotsSigL seed m 67)) ∧ (∀ g, p = some g → wd.heap.size ≤ g ∧ g < wx.heap.size ∧ wx.there g 0 32)) recL ?step ?last ?fin 6 0 none _ _ rfl (by omega) ⟨undef, rfl, Below.refl _ _, (fun h => by omega), (fun g h => by cases h)⟩
  case step =>
    intro k p a wx fuel hk hSt next al
    obtain ⟨sl, rfl, hb, h1, hp⟩ := hSt
    have hk5 : k = 0 ∨ k = 1 ∨ k = 2 ∨ k = 3 ∨ k = 4 := by omega
    rcases hk5 with rfl | rfl | rfl | rfl | rfl
    · cases p with
      | none =>
        refine wpAnyH_ready (rs := [3, 8]) (by kernel_rfl) (by simp) ?_
        refine AllReadyH.cons (by simp only [List.getElem?_toArray, List.getElem?_cons_zero, List.getElem?_cons_succ]; rfl) (fun K hK => ?_) (AllReadyH.cons (by simp only [List.getElem?_toArray, List.getElem?_cons_zero, List.getElem?_cons_succ]; rfl) (fun K hK => ?_) AllReadyH.nil)
        · simp only [fromK, Nat.reduceLeDiff, ↓reduceIte, Nat.reduceAdd, Nat.zero_add]
          rw [if_pos (by rfl)]
          go_simp
          refine (wwots_sign seed m wx (HKS.out _ hb).2 hs hm).mono ?_
          rintro e w' ⟨⟨a3, c3, rfl, hc3, r3⟩, hb3⟩
          have hb' : Below wd.heap.size wd w' := hb.trans (hb3.mono hb.size)
          go_wp2_with fail
          refine hK.out _ _ (HKS.out _ hb').1 (fun hHeld => ?_)
          exact next _ _ ⟨.slice a3 67 c3, rfl, hb', fun _ => ⟨a3, c3, rfl, r3⟩, fun g hg => ⟨(hp g hg).1, Nat.lt_of_lt_of_le (hp g hg).2.1 hb3.size, there_below (hp g hg).2.2 hb3 (hp g hg).2.1⟩⟩
        ·
          rw [if_pos (by rfl)]
          refine wp_allocE 23 (by rfl) (cellsB zD).toArray Tryd.zeroDg ?_
          have hb8 : Below wx.heap.size wx (wx.alloc (.cells (cellsB zD).toArray 23)) := (Below.refl _ _).alloc (Nat.le_refl _) _
          have hb' : Below wd.heap.size wd (wx.alloc (.cells (cellsB zD).toArray 23)) := hb.trans (hb8.mono hb.size)
          refine hK.out _ _ (HKS.out _ hb').1 (fun hHeld => ?_)
          exact al wx.heap.size _ _ rfl ⟨sl, rfl, hb', (fun h => by omega), fun g hg => by cases hg; exact ⟨hb.size, by simp, alloc_thereAt _ _ _ 32 _ rfl zD_size.symm⟩⟩
      | some g =>
        refine wpAnyH_ready (rs := [3]) (by kernel_rfl) (by simp) ?_
        refine AllReadyH.cons (by simp only [List.getElem?_toArray, List.getElem?_cons_zero, List.getElem?_cons_succ]; rfl) (fun K hK => ?_) AllReadyH.nil
        simp only [fromK, Nat.reduceLeDiff, ↓reduceIte, Nat.reduceAdd, Nat.zero_add]
        rw [if_pos (by rfl)]
        go_simp
        refine (wwots_sign seed m wx (HKS.out _ hb).2 hs hm).mono ?_
        rintro e w' ⟨⟨a3, c3, rfl, hc3, r3⟩, hb3⟩
        have hb' : Below wd.heap.size wd w' := hb.trans (hb3.mono hb.size)
        go_wp2_with fail
        refine hK.out _ _ (HKS.out _ hb').1 (fun hHeld => ?_)
        exact next _ _ ⟨.slice a3 67 c3, rfl, hb', fun _ => ⟨a3, c3, rfl, r3⟩, fun g hg => ⟨(hp g hg).1, Nat.lt_of_lt_of_le (hp g hg).2.1 hb3.size, there_below (hp g hg).2.2 hb3 (hp g hg).2.1⟩⟩
    · obtain ⟨a3, c3, rfl, r3⟩ := h1 (by omega)
      cases p with
      | none =>
        refine wpAnyH_ready (rs := [4, 8]) (by kernel_rfl) (by simp) ?_
        refine AllReadyH.cons (by simp only [List.getElem?_toArray, List.getElem?_cons_zero, List.getElem?_cons_succ]; rfl) (fun K hK => ?_) (AllReadyH.cons (by simp only [List.getElem?_toArray, List.getElem?_cons_zero, List.getElem?_cons_succ]; rfl) (fun K hK => ?_) AllReadyH.nil)
        · simp only [fromK, Nat.reduceLeDiff, ↓reduceIte, Nat.reduceAdd, Nat.zero_add]
          rw [if_pos (by rfl)]
          go_simp
          refine (wwots_recover m a3 c3 (wotsSigL seed m 67) wx (HKS.out _ hb).2 hm r3).mono ?_
          rintro e w' ⟨rfl, hb3⟩
          rw [wotsKey_signed]
          have hb' : Below wd.heap.size wd w' := hb.trans (hb3.mono hb.size)
          go_wp2_with fail
          refine hK.out _ _ (HKS.out _ hb').1 (fun hHeld => ?_)
          exact next _ _ ⟨.slice a3 67 c3, rfl, hb', fun _ => ⟨a3, c3, rfl, r3.below hb3⟩, fun g hg => ⟨(hp g hg).1, Nat.lt_of_lt_of_le (hp g hg).2.1 hb3.size, there_below (hp g hg).2.2 hb3 (hp g hg).2.1⟩⟩
        ·
          rw [if_pos (by rfl)]
          refine wp_allocE 23 (by rfl) (cellsB zD).toArray Tryd.zeroDg ?_
          have hb8 : Below wx.heap.size wx (wx.alloc (.cells (cellsB zD).toArray 23)) := (Below.refl _ _).alloc (Nat.le_refl _) _
          have hb' : Below wd.heap.size wd (wx.alloc (.cells (cellsB zD).toArray 23)) := hb.trans (hb8.mono hb.size)
          refine hK.out _ _ (HKS.out _ hb').1 (fun hHeld => ?_)
          exact al wx.heap.size _ _ rfl ⟨.slice a3 67 c3, rfl, hb', (fun _ => ⟨a3, c3, rfl, r3.below hb8⟩), fun g hg => by cases hg; exact ⟨hb.size, by simp, alloc_thereAt _ _ _ 32 _ rfl zD_size.symm⟩⟩
      | some g =>
        refine wpAnyH_ready (rs := [4]) (by kernel_rfl) (by simp) ?_
        refine AllReadyH.cons (by simp only [List.getElem?_toArray, List.getElem?_cons_zero, List.getElem?_cons_succ]; rfl) (fun K hK => ?_) AllReadyH.nil
        simp only [fromK, Nat.reduceLeDiff, ↓reduceIte, Nat.reduceAdd, Nat.zero_add]
        rw [if_pos (by rfl)]
        go_simp
        refine (wwots_recover m a3 c3 (wotsSigL seed m 67) wx (HKS.out _ hb).2 hm r3).mono ?_
        rintro e w' ⟨rfl, hb3⟩
        rw [wotsKey_signed]
        have hb' : Below wd.heap.size wd w' := hb.trans (hb3.mono hb.size)
        go_wp2_with fail
        refine hK.out _ _ (HKS.out _ hb').1 (fun hHeld => ?_)
        exact next _ _ ⟨.slice a3 67 c3, rfl, hb', fun _ => ⟨a3, c3, rfl, r3.below hb3⟩, fun g hg => ⟨(hp g hg).1, Nat.lt_of_lt_of_le (hp g hg).2.1 hb3.size, there_below (hp g hg).2.2 hb3 (hp g hg).2.1⟩⟩
    · have hS := (HKS.out _ hb).1
      cases p with
      | none =>
        refine wpAnyH_take (i := 5) (v := .tuple #[digestV (wotsPubL seed), .nilIface]) (by simp only [List.getElem?_toArray, List.getElem?_cons_zero, List.getElem?_cons_succ]; rfl) (by kernel_rfl) (by kernel_rfl) (by kernel_rfl) (fun _ _ _ h => h) (Or.inl ⟨by rfl, fun w hSw => by rfl⟩) hS ?_
        exact next _ _ ⟨sl, rfl, hb, fun _ => h1 (by omega), hp⟩
      | some g =>
        refine wpAnyH_take (i := 5) (v := .tuple #[digestV (wotsPubL seed), .nilIface]) (by simp only [List.getElem?_toArray, List.getElem?_cons_zero, List.getElem?_cons_succ]; rfl) (by kernel_rfl) (by kernel_rfl) (by kernel_rfl) (fun _ _ _ h => h) (Or.inl ⟨by rfl, fun w hSw => by rfl⟩) hS ?_
        exact next _ _ ⟨sl, rfl, hb, fun _ => h1 (by omega), hp⟩
    · have hS := (HKS.out _ hb).1
      cases p with
      | none =>
        refine wpAnyH_take (i := 6) (v := digestV (wotsPubL seed)) (by simp only [List.getElem?_toArray, List.getElem?_cons_zero, List.getElem?_cons_succ]; rfl) (by kernel_rfl) (by kernel_rfl) (by kernel_rfl) (fun _ _ _ h => h) (Or.inl ⟨by rfl, fun w hSw => by rfl⟩) hS ?_
        exact next _ _ ⟨sl, rfl, hb, fun _ => h1 (by omega), hp⟩
      | some g =>
        refine wpAnyH_take (i := 6) (v := digestV (wotsPubL seed)) (by simp only [List.getElem?_toArray, List.getElem?_cons_zero, List.getElem?_cons_succ]; rfl) (by kernel_rfl) (by kernel_rfl) (by kernel_rfl) (fun _ _ _ h => h) (Or.inl ⟨by rfl, fun w hSw => by rfl⟩) hS ?_
        exact next _ _ ⟨sl, rfl, hb, fun _ => h1 (by omega), hp⟩
    · have hS := (HKS.out _ hb).1
      cases p with
      | none =>
        refine wpAnyH_take (i := 7) (v := .nilIface) (by simp only [List.getElem?_toArray, List.getElem?_cons_zero, List.getElem?_cons_succ]; rfl) (by kernel_rfl) (by kernel_rfl) (by kernel_rfl) (fun _ _ _ h => h) (Or.inl ⟨by rfl, fun w hSw => by rfl⟩) hS ?_
        exact next _ _ ⟨sl, rfl, hb, fun _ => h1 (by omega), hp⟩
      | some g =>
        refine wpAnyH_take (i := 7) (v := .nilIface) (by simp only [List.getElem?_toArray, List.getElem?_cons_zero, List.getElem?_cons_succ]; rfl) (by kernel_rfl) (by kernel_rfl) (by kernel_rfl) (fun _ _ _ h => h) (Or.inl ⟨by rfl, fun w hSw => by rfl⟩) hS ?_
        exact next _ _ ⟨sl, rfl, hb, fun _ => h1 (by omega), hp⟩
  case last =>
    intro a wx fuel hSt al
    obtain ⟨sl, rfl, hb, h1, hp⟩ := hSt
    refine wpAnyH_ready (rs := [8]) (by kernel_rfl) (by simp) ?_
    refine AllReadyH.cons (by simp only [List.getElem?_toArray, List.getElem?_cons_zero, List.getElem?_cons_succ]; rfl) (fun K hK => ?_) AllReadyH.nil
    rw [if_pos (by rfl)]
    refine wp_allocE 23 (by rfl) (cellsB zD).toArray Tryd.zeroDg ?_
    have hb8 : Below wx.heap.size wx (wx.alloc (.cells (cellsB zD).toArray 23)) := (Below.refl _ _).alloc (Nat.le_refl _) _
    have hb' : Below wd.heap.size wd (wx.alloc (.cells (cellsB zD).toArray 23)) := hb.trans (hb8.mono hb.size)
    refine hK.out _ _ (HKS.out _ hb').1 (fun hHeld => ?_)
    exact al wx.heap.size _ _ ⟨sl, rfl, hb', (fun _ => by obtain ⟨a3, c3, e, r3⟩ := h1 (by omega); exact ⟨a3, c3, e, r3.below hb8⟩), fun g hg => by cases hg; exact ⟨hb.size, by simp, alloc_thereAt _ _ _ 32 _ rfl zD_size.symm⟩⟩
  case fin =>
    intro g a wx hSt
    obtain ⟨sl, rfl, hb, h1, hp⟩ := hSt
    obtain ⟨g1, g2, g3⟩ := hp g rfl
    have hPl := wotsPubL_len seed
    have HPE : Hid (∀ wx, Env wx → Calls Tryd.prog 12 #[digestV seed] wx fun e w' => e = .returned (digestV (wotsPubL seed)) ∧ Below wx.heap.size wx w') := fun wx hx => wwots_public seed wx hx hs
    clear h1 hp
    generalize wotsPubL seed = P at *
    refine wpAnyH_ready (rs := [9]) (by kernel_rfl) (by simp) ?_
    refine AllReadyH.cons (by simp only [List.getElem?_toArray, List.getElem?_cons_zero, List.getElem?_cons_succ]; rfl) (fun K hK => ?_) AllReadyH.nil
    rw [if_pos (by rfl)]
    refine wp_store_mid _ _ _ rfl g 0 (cellsB P).toArray rfl rfl (by rw [cellsB_size, hPl]; exact g3) (by rw [cellsB_size, hPl]; exact Tryd.sizeDg) (all_oneCell_toArray (cellsB_one _)) ?_
    have hb' : Below wd.heap.size wd (wx.setCells g 0 (cellsB P)) := below_setCells _ g1 _ _ _ hb
    refine hK.out _ _ (HKS.out _ hb').1 (fun hHeld => ?_)
    clear hK K
    have HX : Hid (DAt (wx.setCells g 0 (cellsB P)) g 0 P) := dat_stored g3 hPl
    have HBx : Hid (Below wd.heap.size wd (wx.setCells g 0 (cellsB P))) := hb'
    try simp only [Act.put, List.setIfInBounds_toArray, List.set_cons_zero, List.set_cons_succ]
    refine wpAnyH_take (i := 10) (v := .nilIface) (by simp only [List.getElem?_toArray, List.getElem?_cons_zero, List.getElem?_cons_succ]; rfl) (by kernel_rfl) (by kernel_rfl) (by kernel_rfl) (fun _ _ _ h => h) (Or.inl ⟨by rfl, fun w hSw => by rfl⟩) hHeld ?_
    try simp only [Act.put, List.setIfInBounds_toArray, List.set_cons_zero, List.set_cons_succ]
    refine wpAnyH_done (by kernel_rfl) (NoPanic.normal ?_) _
    clear hHeld hb hb' g3
    have hlx : g < (wx.setCells g 0 (cellsB P)).heap.size := cell_block (HX.out.cell 0 (by omega))
    generalize wx.setCells g 0 (cellsB P) = wy at *
    simp only [fromK, Nat.reduceLeDiff, ↓reduceIte, Nat.reduceAdd, Nat.zero_add] 
    simp only [ptrP]
    go_wp2_with fail
    have HKT : Hid (∀ wz, Below wy.heap.size wy wz → (wz.rangeAt g 0 (cellsB P) ∧ wz.rangeAt w.heap.size 0 (cellsB seed) ∧ wz.rangeAt g5 0 (cellsB D0)) ∧ Env wz ∧ Below w.heap.size w wz) := fun wz hz => by
      have b1 : Below wd.heap.size wd wz := HBx.out.trans (hz.mono HBx.out.size)
      have b2 := HBd.out.trans (b1.mono HBd.out.size)
      exact ⟨⟨HX.out.below hz hlx, (HK.out _ b2).1, HDd.out.1.below b1 HDd.out.2⟩, (HK.out _ b2).2.2.1, (HK.out _ b2).2.2.2⟩
    refine wp_region_noPanic ?_
    refine wp_region_held_drew (S := fun w' => w'.rangeAt g 0 (cellsB P) ∧ w'.rangeAt w.heap.size 0 (cellsB seed) ∧ w'.rangeAt g5 0 (cellsB D0)) (by kernel_rfl) (HKT.out _ (below_drewN wy 1)).1 (fun hHeld => ?_)
    try simp only [Act.put, List.setIfInBounds_toArray, List.set_cons_zero, List.set_cons_succ]
    have HBz : Hid (Below wy.heap.size wy wy.drew) := below_drewN wy 1
    generalize wy.drew = wz at *
    refine wpAnyH_take (i := 0) (v := ?_) (by simp only [List.getElem?_toArray, List.getElem?_cons_zero, List.getElem?_cons_succ]; rfl) (by kernel_rfl) (by kernel_rfl) (by kernel_rfl) (fun _ _ _ h => h) (Or.inl ⟨by rfl, ?_⟩) hHeld ?_
    rotate_left
    · intro w hSw
      go_simp
      try with_reducible rfl
    try simp only [Act.put, List.setIfInBounds_toArray, List.set_cons_zero, List.set_cons_succ]
    refine wpAnyH_take (i := 1) (v := ?_) (by simp only [List.getElem?_toArray, List.getElem?_cons_zero, List.getElem?_cons_succ]; rfl) (by kernel_rfl) (by kernel_rfl) (by kernel_rfl) (fun _ _ _ h => h) (Or.inl ⟨by rfl, ?_⟩) hHeld ?_
    rotate_left
    · intro w hSw
      go_simp
      try with_reducible rfl
    try simp only [Act.put, List.setIfInBounds_toArray, List.set_cons_zero, List.set_cons_succ]
    refine wpAnyH_take (i := 2) (v := ?_) (by simp only [List.getElem?_toArray, List.getElem?_cons_zero, List.getElem?_cons_succ]; rfl) (by kernel_rfl) (by kernel_rfl) (by kernel_rfl) (fun _ _ _ h => h) (Or.inl ⟨by rfl, ?_⟩) hHeld ?_
    rotate_left
    · intro w hSw
      go_simp
      try with_reducible rfl
    try simp only [Act.put, List.setIfInBounds_toArray, List.set_cons_zero, List.set_cons_succ]
    refine wpAnyH_take (i := 3) (v := .agg (cellsB P).toArray) (by simp only [List.getElem?_toArray, List.getElem?_cons_zero, List.getElem?_cons_succ]; rfl) (by kernel_rfl) (by kernel_rfl) (by kernel_rfl) (fun _ _ _ h => h)
      (yieldsIf_load_mid (by rfl) _ _ rfl _ _ rfl _ _ (fun w hw => hw.1) Tryd.underlying23 rfl (by rw [cellsB_length, hPl]; exact Tryd.sizeDg)) hHeld ?_
    try simp only [Act.put, List.setIfInBounds_toArray, List.set_cons_zero, List.set_cons_succ]
    refine wpAnyH_take (i := 4) (v := .agg (cellsB seed).toArray) (by simp only [List.getElem?_toArray, List.getElem?_cons_zero, List.getElem?_cons_succ]; rfl) (by kernel_rfl) (by kernel_rfl) (by kernel_rfl) (fun _ _ _ h => h)
      (yieldsIf_load_mid (by rfl) _ _ rfl _ _ rfl _ _ (fun w hw => hw.2.1) Tryd.underlying23 rfl (by rw [cellsB_length, hs]; exact Tryd.sizeDg)) hHeld ?_
    try simp only [Act.put, List.setIfInBounds_toArray, List.set_cons_zero, List.set_cons_succ]
    refine wpAnyH_ready (rs := [5]) (by kernel_rfl) (by simp) ?_
    refine AllReadyH.cons (by simp only [List.getElem?_toArray, List.getElem?_cons_zero, List.getElem?_cons_succ]; rfl) (fun K hK => ?_) AllReadyH.nil
    rw [if_pos (by rfl)]
    go_simp
    refine (HPE.out wz (HKT.out _ HBz.out).2.1).mono ?_
    rintro e w7 ⟨rfl, hb7⟩
    have HB7 : Hid (Below wy.heap.size wy w7) := HBz.out.trans (hb7.mono HBz.out.size)
    clear hb7
    go_wp2_with fail
    refine hK.out _ _ (HKT.out _ HB7.out).1 (fun hHeld => ?_)
    clear hK K
    try simp only [Act.put, List.setIfInBounds_toArray, List.set_cons_zero, List.set_cons_succ]
    refine wpAnyH_take (i := 6) (v := .bool true) (by simp only [List.getElem?_toArray, List.getElem?_cons_zero, List.getElem?_cons_succ]; rfl) (by kernel_rfl) (by kernel_rfl) (by kernel_rfl) (fun _ _ _ h => h)
      (yieldsIf_eqD (by rfl) _ _ rfl P P hPl hPl rfl rfl true (decide_eq_true rfl)) hHeld ?_
    try simp only [Act.put, List.setIfInBounds_toArray, List.set_cons_zero, List.set_cons_succ]
    refine wpAnyH_take (i := 7) (v := ?_) (by simp only [List.getElem?_toArray, List.getElem?_cons_zero, List.getElem?_cons_succ]; rfl) (by kernel_rfl) (by kernel_rfl) (by kernel_rfl) (fun _ _ _ h => h) (Or.inl ⟨by rfl, ?_⟩) hHeld ?_
    rotate_left
    · intro w hSw
      go_simp
      try with_reducible rfl
    try simp only [Act.put, List.setIfInBounds_toArray, List.set_cons_zero, List.set_cons_succ]
    refine wpAnyH_take (i := 8) (v := ?_) (by simp only [List.getElem?_toArray, List.getElem?_cons_zero, List.getElem?_cons_succ]; rfl) (by kernel_rfl) (by kernel_rfl) (by kernel_rfl) (fun _ _ _ h => h) (Or.inl ⟨by rfl, ?_⟩) hHeld ?_
    rotate_left
    · intro w hSw
      go_simp
      try with_reducible rfl
    try simp only [Act.put, List.setIfInBounds_toArray, List.set_cons_zero, List.set_cons_succ]
    refine wpAnyH_take (i := 9) (v := .agg (cellsB D0).toArray) (by simp only [List.getElem?_toArray, List.getElem?_cons_zero, List.getElem?_cons_succ]; rfl) (by kernel_rfl) (by kernel_rfl) (by kernel_rfl) (fun _ _ _ h => h)
      (yieldsIf_load_mid (by rfl) _ _ rfl _ _ rfl _ _ (fun w hw => hw.2.2) Tryd.underlying23 rfl (by rw [cellsB_length, hl0]; exact Tryd.sizeDg)) hHeld ?_
    try simp only [Act.put, List.setIfInBounds_toArray, List.set_cons_zero, List.set_cons_succ]
    refine wpAnyH_take (i := 10) (v := ?_) (by simp only [List.getElem?_toArray, List.getElem?_cons_zero, List.getElem?_cons_succ]; rfl) (by kernel_rfl) (by kernel_rfl) (by kernel_rfl) (fun _ _ _ h => h) (Or.inl ⟨by rfl, ?_⟩) hHeld ?_
    rotate_left
    · intro w hSw
      go_simp
      try with_reducible rfl
    try simp only [Act.put, List.setIfInBounds_toArray, List.set_cons_zero, List.set_cons_succ]
    refine wpAnyH_take (i := 11) (v := .bool true) (by simp only [List.getElem?_toArray, List.getElem?_cons_zero, List.getElem?_cons_succ]; rfl) (by kernel_rfl) (by kernel_rfl) (by kernel_rfl) (fun _ _ _ h => h)
      (yieldsIf_neqD (by rfl) _ _ rfl D0 zD hl0 rfl rfl (by rw [zDlit]; rfl) true (by simp [HNE.out])) hHeld ?_
    try simp only [Act.put, List.setIfInBounds_toArray, List.set_cons_zero, List.set_cons_succ]
    refine wpAnyH_take (i := 12) (v := ?_) (by simp only [List.getElem?_toArray, List.getElem?_cons_zero, List.getElem?_cons_succ]; rfl) (by kernel_rfl) (by kernel_rfl) (by kernel_rfl) (fun _ _ _ h => h) (Or.inl ⟨by rfl, ?_⟩) hHeld ?_
    rotate_left
    · intro w hSw
      go_simp
      try with_reducible rfl
    try simp only [Act.put, List.setIfInBounds_toArray, List.set_cons_zero, List.set_cons_succ]
    refine wpAnyH_take (i := 13) (v := ?_) (by simp only [List.getElem?_toArray, List.getElem?_cons_zero, List.getElem?_cons_succ]; rfl) (by kernel_rfl) (by kernel_rfl) (by kernel_rfl) (fun _ _ _ h => h) (Or.inl ⟨by rfl, ?_⟩) hHeld ?_
    rotate_left
    · intro w hSw
      go_simp
      try with_reducible rfl
    try simp only [Act.put, List.setIfInBounds_toArray, List.set_cons_zero, List.set_cons_succ]
    refine wpAnyH_done (by kernel_rfl) (NoPanic.normal ?_) _
    clear hHeld
    go_wp2
    go_ret
    exact ⟨rfl, (HKT.out _ HB7.out).2.2⟩
end Go.Proofs.YtdplajhebapkgaaDoor
