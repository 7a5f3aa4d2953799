/- The law WotsForged: whoever signs another digest shows a digest ahead of what was shown, or two texts with one digest. -/
import Derived.Test.YtdplajhebapkgaaDoorJ17
import Derived.Test.YtdplajhebapkgaaDoorJ16
import Derived.Test.YtdplajhebapkgaaDoorJ10
import Derived.Deep.RegionHeld3
namespace Go.Proofs.YtdplajhebapkgaaDoor
open Go.RowKit
set_option linter.unusedVariables false
set_option linter.unusedSimpArgs false

theorem wPub_len (seed : List UInt8) : (wotsPubL seed).length = 32 := shaL_length _
theorem wKey_len (m : List UInt8) (sig : List (List UInt8)) : (wotsKeyL m sig).length = 32 := shaL_length _
/-- Which operations of 'p, err := Recover(m, Sign(seed, m))' have come up. -/
def recW (k : Nat) (b : Bool) : Array Bool := #[true, true, true, decide (1 ≤ k), decide (2 ≤ k), decide (3 ≤ k), decide (4 ≤ k), decide (5 ≤ k), b, false, false]
/-- A value that is there from the n-th step on. -/
def fromW (n : Nat) (v : Value) (k : Nat) : Value := if n ≤ k then v else undef
def ptrW : Option Nat → Value
  | none => undef
  | some g => .pointer (some ⟨g, 0, none⟩)
theorem wrapW (n : Nat) (h : n < 9223372036854775808) : IntKind.i64.wrap (n : Int) = n := by
  simp only [IntKind.wrap, IntKind.bits, IntKind.signed, Bool.true_and]
  rw [if_neg (by simp; omega)]
  omega
/-- Which operations of 'x := Walked(WotsSecret(seed, i), b[i])' have come up. -/
def secL (k : Nat) (b : Bool) : Array Bool := #[true, true, decide (1 ≤ k), true, true, true, true, decide (2 ≤ k), b, false]
def fromO (u : Value) (n : Nat) (v : Value) (k : Nat) : Value := if n ≤ k then v else u
def ptrU (u : Value) : Option Nat → Value
  | none => u
  | some g => .pointer (some ⟨g, 0, none⟩)
theorem dat_grown {w w' : World} {r : Option Nat} {b : Nat} {l : List UInt8} (h : DAt w b 0 l) (hg : w.grownBy w' r) (hl : b < w.heap.size) (hne : some b ≠ r) : DAt w' b 0 l := fun j v hj => by
  rw [World.cell?_of_block (a := ⟨b, 0 + j, none⟩) (hg.block b hl hne)]
  exact h j v hj
theorem OwnD.sep {w w1 : World} {B : Nat} {v v' : Value} {l' : List (List UInt8)} (h' : OwnD w B v' l') (hg : w.grownBy w1 v.ownBlock) (hs : Sep v v') : OwnD w1 B v' l' := by
  refine ⟨h'.1, ?_⟩
  have h := h'.2
  rcases h.2 with ⟨h1, h0⟩ | ⟨g, cap, cur, e1, e2, e3, e4⟩
  · exact ⟨h.1, .inl ⟨h1, h0⟩⟩
  · have hgl : g < w.heap.size := (World.ownsRow.lt h g (by rw [e1]; rfl)).2
    refine ⟨h.1, .inr ⟨g, cap, cur, e1, e2, (hg.block g hgl ?_).trans e3, e4⟩⟩
    intro e
    have hv : v'.ownBlock = some g := by rw [e1]; rfl
    rcases hs with h | h | h
    · rw [h] at e; cases e
    · rw [h] at hv; cases hv
    · exact h (by rw [hv, e])
theorem Sep.nextD {w : World} {B : Nat} {v v1 v' : Value} {l' : List (List UInt8)} (hs : Sep v v') (hat : v1.ownBlock = v.ownBlock ∨ v1.ownBlock = some w.heap.size) (h' : OwnD w B v' l') : Sep v1 v' := by
  rcases hat with h | h
  · unfold Sep at *; rw [h]; exact hs
  · cases hv : v'.ownBlock with
    | none => exact .inr (.inl hv)
    | some g =>
      have := (World.ownsRow.lt h'.2 g hv).2
      refine .inr (.inr ?_)
      rw [h, hv]
      intro e
      have := Option.some.inj e
      omega

set_option maxRecDepth 100000 in
set_option maxHeartbeats 4000000 in
theorem wforged_walk (seed m other : List UInt8) (sa : Option Addr) (n c : Nat) (sig : List (List UInt8)) (w : World) (G : Env w) (hs : seed.length = 32) (hm : m.length = 32) (ho : other.length = 32) (R : DRow w sa n sig) (hc : n ≤ c) (hn : 32 * n ≤ 140737488351232) :
    Calls Tryd.prog 5 #[digestV seed, digestV m, digestV other, .slice sa n c] w fun e w' => e = .returned (.bool true) ∧ Below w.heap.size w w' := by
  obtain ⟨w3, hw3⟩ : ∃ w3, ((w.alloc (.cells (cellsB seed).toArray 23)).alloc (.cells (cellsB m).toArray 23)).alloc (.cells (cellsB other).toArray 23) = w3 := ⟨_, rfl⟩
  have hs1 : (w.alloc (.cells (cellsB seed).toArray 23)).heap.size = w.heap.size + 1 := by simp
  have hs2 : ((w.alloc (.cells (cellsB seed).toArray 23)).alloc (.cells (cellsB m).toArray 23)).heap.size = w.heap.size + 2 := by simp
  have HS3 : Hid (w3.heap.size = w.heap.size + 3) := by unfold Hid; rw [← hw3]; simp
  have HB3 : Hid (Below w.heap.size w w3) := by rw [← hw3]; exact (((Below.refl _ _).alloc (Nat.le_refl _) _).alloc (by simp) _).alloc (by simp; omega) _
  have HK : Hid (∀ wx, Below w3.heap.size w3 wx → DAt wx w.heap.size 0 seed ∧ DAt wx (w.heap.size + 1) 0 m ∧ DAt wx (w.heap.size + 2) 0 other ∧ Env wx ∧ DRow wx sa n sig ∧ Below w.heap.size w wx) := fun wx hx => by
    have s3 := HS3.out
    have b : Below w.heap.size w wx := HB3.out.trans (hx.mono (by omega))
    refine ⟨?_, ?_, ?_, G.below b, R.below b, b⟩
    · refine DAt.below ?_ hx (by omega)
      rw [← hw3]; exact World.rangeAt_alloc (World.rangeAt_alloc (box_dat w seed _) _) _
    · refine DAt.below ?_ hx (by omega)
      rw [← hw3]; exact World.rangeAt_alloc (box_rangeAt _ _ _ _ hs1) _
    · refine DAt.below ?_ hx (by omega)
      rw [← hw3]; exact box_rangeAt _ _ _ _ hs2
  have HS32 : Hid (∀ i, i < n → (sig.getD i []).length = 32) := R.len
  clear G R
  go_enter Tryd.func5, Tryd.ntmps5
  go_wp2_with fail
  try rw [hw3]
  clear hw3 hs1 hs2 HB3
  refine wp_region_noPanic ?_
  refine wp_region_held_drew (S := fun w' => w'.rangeAt w.heap.size 0 (cellsB seed) ∧ w'.rangeAt (w.heap.size + 1) 0 (cellsB m)) (by kernel_rfl) ⟨(HK.out _ (below_drewN w3 1)).1, (HK.out _ (below_drewN w3 1)).2.1⟩ (fun hHeld => ?_)
  try simp only [Act.put, List.setIfInBounds_toArray, List.set_cons_zero, List.set_cons_succ]
  have HBd : Hid (Below w3.heap.size w3 w3.drew) := below_drewN w3 1
  generalize w3.drew = wd at *
  refine wpAnyH_take (i := 0) (v := .agg (cellsB m).toArray) (by simp only [List.getElem?_toArray, List.getElem?_cons_zero, List.getElem?_cons_succ]; rfl) (by kernel_rfl) (by kernel_rfl) (by kernel_rfl) (fun _ _ _ h => h)
    (yieldsIf_load_mid (by rfl) _ _ rfl _ _ rfl _ _ (fun w hw => hw.2) Tryd.underlying23 rfl (by rw [cellsB_length, hm]; exact Tryd.sizeDg)) hHeld ?_
  try simp only [Act.put, List.setIfInBounds_toArray, List.set_cons_zero, List.set_cons_succ]
  refine wpAnyH_take (i := 1) (v := .agg (cellsB seed).toArray) (by simp only [List.getElem?_toArray, List.getElem?_cons_zero, List.getElem?_cons_succ]; rfl) (by kernel_rfl) (by kernel_rfl) (by kernel_rfl) (fun _ _ _ h => h)
    (yieldsIf_load_mid (by rfl) _ _ rfl _ _ rfl _ _ (fun w hw => hw.1) Tryd.underlying23 rfl (by rw [cellsB_length, hs]; exact Tryd.sizeDg)) hHeld ?_
  try simp only [Act.put, List.setIfInBounds_toArray, List.set_cons_zero, List.set_cons_succ]
  refine wpAnyH_take (i := 2) (v := .agg (cellsB m).toArray) (by simp only [List.getElem?_toArray, List.getElem?_cons_zero, List.getElem?_cons_succ]; rfl) (by kernel_rfl) (by kernel_rfl) (by kernel_rfl) (fun _ _ _ h => h)
    (yieldsIf_load_mid (by rfl) _ _ rfl _ _ rfl _ _ (fun w hw => hw.2) Tryd.underlying23 rfl (by rw [cellsB_length, hm]; exact Tryd.sizeDg)) hHeld ?_
  try simp only [Act.put, List.setIfInBounds_toArray, List.set_cons_zero, List.set_cons_succ]
  have HKS : Hid (∀ wx, Below wd.heap.size wd wx → (wx.rangeAt w.heap.size 0 (cellsB seed) ∧ wx.rangeAt (w.heap.size + 1) 0 (cellsB m)) ∧ Env wx) := fun wx hx => by
    have h := HK.out _ (HBd.out.trans (hx.mono HBd.out.size))
    exact ⟨⟨h.1, h.2.1⟩, h.2.2.2.1⟩
  refine news1_any 5 2 (fun k p a wx => ∃ sl, a = ({ tmps := #[digestV seed, digestV m, digestV other, .slice sa n c, .pointer (some ⟨w.heap.size, 0, none⟩), .pointer (some ⟨w.heap.size + 1, 0, none⟩), .pointer (some ⟨w.heap.size + 2, 0, none⟩), undef, .bool false, ptrW p, undef, undef, undef, undef, undef, undef, undef, undef, undef, undef, undef, undef, undef, fromW 3 (.tuple #[digestV (wotsPubL seed), .nilIface]) k, .agg (cellsB m).toArray, .agg (cellsB seed).toArray, .agg (cellsB m).toArray, fromW 1 sl k, fromW 2 (.tuple #[digestV (wotsPubL seed), .nilIface]) k, fromW 4 (digestV (wotsPubL seed)) k, fromW 5 .nilIface k, undef, undef, undef, undef, undef, undef, undef, undef, undef, undef, undef, undef, undef, undef, undef, undef, undef, undef, undef, undef, undef, undef, undef, undef, undef, undef, undef, undef, undef, undef, undef, undef, undef, undef, undef, undef, undef, undef, undef, undef, undef, undef, undef, undef, undef, undef, undef, undef, undef, undef, undef, undef, undef, undef, undef, undef, undef, undef, undef, undef, undef, undef, undef, undef, undef, undef, undef, undef, undef, undef, undef, undef, undef, undef, undef, undef, undef, undef, undef, undef, undef, undef, undef, undef, undef, undef, undef, undef, undef, undef, undef, undef, undef, undef, undef, undef, undef, undef, undef, undef, undef, undef, undef, undef, undef, undef, undef, undef, undef, undef, undef, undef, undef, undef, undef, undef, undef, undef, undef, undef, undef, undef, undef, undef, undef, undef, undef, undef, undef, undef, undef, undef, undef], defers := [] } : Act) ∧ Below wd.heap.size wd wx ∧ (1 ≤ k → ∃ a3 c3, sl = .slice a3 67 c3 ∧ DRow wx a3 67 (wotsSigL seed m 67)) ∧ (∀ g, p = some g → wd.heap.size ≤ g ∧ g < wx.heap.size ∧ wx.there g 0 32)) recW ?step ?last ?fin 6 0 none _ _ rfl (by omega) ⟨undef, rfl, Below.refl _ _, (fun h => by omega), (fun g h => by cases h)⟩
  case step =>
    intro k p a wx fuel hk hSt next al
    obtain ⟨sl, rfl, hb, h1, hp⟩ := hSt
    have hk5 : k = 0 ∨ k = 1 ∨ k = 2 ∨ k = 3 ∨ k = 4 := by omega
    rcases hk5 with rfl | rfl | rfl | rfl | rfl
    · cases p with
      | none =>
        refine wpAnyH_ready (rs := [3, 8]) (by kernel_rfl) (by simp) ?_
        refine AllReadyH.cons (by simp only [List.getElem?_toArray, List.getElem?_cons_zero, List.getElem?_cons_succ]; rfl) (fun K hK => ?_) (AllReadyH.cons (by simp only [List.getElem?_toArray, List.getElem?_cons_zero, List.getElem?_cons_succ]; rfl) (fun K hK => ?_) AllReadyH.nil)
        · simp only [fromW, Nat.reduceLeDiff, ↓reduceIte, Nat.reduceAdd, Nat.zero_add]
          rw [if_pos (by rfl)]
          go_simp
          refine (wwots_sign seed m wx (HKS.out _ hb).2 hs hm).mono ?_
          rintro e w' ⟨⟨a3, c3, rfl, hc3, r3⟩, hb3⟩
          have hb' : Below wd.heap.size wd w' := hb.trans (hb3.mono hb.size)
          go_wp2_with fail
          refine hK.out _ _ (HKS.out _ hb').1 (fun hHeld => ?_)
          exact next _ _ ⟨.slice a3 67 c3, rfl, hb', fun _ => ⟨a3, c3, rfl, r3⟩, fun g hg => ⟨(hp g hg).1, Nat.lt_of_lt_of_le (hp g hg).2.1 hb3.size, there_below (hp g hg).2.2 hb3 (hp g hg).2.1⟩⟩
        ·
          rw [if_pos (by rfl)]
          refine wp_allocE 23 (by rfl) (cellsB zD).toArray Tryd.zeroDg ?_
          have hb8 : Below wx.heap.size wx (wx.alloc (.cells (cellsB zD).toArray 23)) := (Below.refl _ _).alloc (Nat.le_refl _) _
          have hb' : Below wd.heap.size wd (wx.alloc (.cells (cellsB zD).toArray 23)) := hb.trans (hb8.mono hb.size)
          refine hK.out _ _ (HKS.out _ hb').1 (fun hHeld => ?_)
          exact al wx.heap.size _ _ rfl ⟨sl, rfl, hb', (fun h => by omega), fun g hg => by cases hg; exact ⟨hb.size, by simp, alloc_thereAt _ _ _ 32 _ rfl zD_size.symm⟩⟩
      | some g =>
        refine wpAnyH_ready (rs := [3]) (by kernel_rfl) (by simp) ?_
        refine AllReadyH.cons (by simp only [List.getElem?_toArray, List.getElem?_cons_zero, List.getElem?_cons_succ]; rfl) (fun K hK => ?_) AllReadyH.nil
        simp only [fromW, Nat.reduceLeDiff, ↓reduceIte, Nat.reduceAdd, Nat.zero_add]
        rw [if_pos (by rfl)]
        go_simp
        refine (wwots_sign seed m wx (HKS.out _ hb).2 hs hm).mono ?_
        rintro e w' ⟨⟨a3, c3, rfl, hc3, r3⟩, hb3⟩
        have hb' : Below wd.heap.size wd w' := hb.trans (hb3.mono hb.size)
        go_wp2_with fail
        refine hK.out _ _ (HKS.out _ hb').1 (fun hHeld => ?_)
        exact next _ _ ⟨.slice a3 67 c3, rfl, hb', fun _ => ⟨a3, c3, rfl, r3⟩, fun g hg => ⟨(hp g hg).1, Nat.lt_of_lt_of_le (hp g hg).2.1 hb3.size, there_below (hp g hg).2.2 hb3 (hp g hg).2.1⟩⟩
    · obtain ⟨a3, c3, rfl, r3⟩ := h1 (by omega)
      cases p with
      | none =>
        refine wpAnyH_ready (rs := [4, 8]) (by kernel_rfl) (by simp) ?_
        refine AllReadyH.cons (by simp only [List.getElem?_toArray, List.getElem?_cons_zero, List.getElem?_cons_succ]; rfl) (fun K hK => ?_) (AllReadyH.cons (by simp only [List.getElem?_toArray, List.getElem?_cons_zero, List.getElem?_cons_succ]; rfl) (fun K hK => ?_) AllReadyH.nil)
        · simp only [fromW, Nat.reduceLeDiff, ↓reduceIte, Nat.reduceAdd, Nat.zero_add]
          rw [if_pos (by rfl)]
          go_simp
          refine (wwots_recover m a3 c3 (wotsSigL seed m 67) wx (HKS.out _ hb).2 hm r3).mono ?_
          rintro e w' ⟨rfl, hb3⟩
          rw [wotsKey_signed]
          have hb' : Below wd.heap.size wd w' := hb.trans (hb3.mono hb.size)
          go_wp2_with fail
          refine hK.out _ _ (HKS.out _ hb').1 (fun hHeld => ?_)
          exact next _ _ ⟨.slice a3 67 c3, rfl, hb', fun _ => ⟨a3, c3, rfl, r3.below hb3⟩, fun g hg => ⟨(hp g hg).1, Nat.lt_of_lt_of_le (hp g hg).2.1 hb3.size, there_below (hp g hg).2.2 hb3 (hp g hg).2.1⟩⟩
        ·
          rw [if_pos (by rfl)]
          refine wp_allocE 23 (by rfl) (cellsB zD).toArray Tryd.zeroDg ?_
          have hb8 : Below wx.heap.size wx (wx.alloc (.cells (cellsB zD).toArray 23)) := (Below.refl _ _).alloc (Nat.le_refl _) _
          have hb' : Below wd.heap.size wd (wx.alloc (.cells (cellsB zD).toArray 23)) := hb.trans (hb8.mono hb.size)
          refine hK.out _ _ (HKS.out _ hb').1 (fun hHeld => ?_)
          exact al wx.heap.size _ _ rfl ⟨.slice a3 67 c3, rfl, hb', (fun _ => ⟨a3, c3, rfl, r3.below hb8⟩), fun g hg => by cases hg; exact ⟨hb.size, by simp, alloc_thereAt _ _ _ 32 _ rfl zD_size.symm⟩⟩
      | some g =>
        refine wpAnyH_ready (rs := [4]) (by kernel_rfl) (by simp) ?_
        refine AllReadyH.cons (by simp only [List.getElem?_toArray, List.getElem?_cons_zero, List.getElem?_cons_succ]; rfl) (fun K hK => ?_) AllReadyH.nil
        simp only [fromW, Nat.reduceLeDiff, ↓reduceIte, Nat.reduceAdd, Nat.zero_add]
        rw [if_pos (by rfl)]
        go_simp
        refine (wwots_recover m a3 c3 (wotsSigL seed m 67) wx (HKS.out _ hb).2 hm r3).mono ?_
        rintro e w' ⟨rfl, hb3⟩
        rw [wotsKey_signed]
        have hb' : Below wd.heap.size wd w' := hb.trans (hb3.mono hb.size)
        go_wp2_with fail
        refine hK.out _ _ (HKS.out _ hb').1 (fun hHeld => ?_)
        exact next _ _ ⟨.slice a3 67 c3, rfl, hb', fun _ => ⟨a3, c3, rfl, r3.below hb3⟩, fun g hg => ⟨(hp g hg).1, Nat.lt_of_lt_of_le (hp g hg).2.1 hb3.size, there_below (hp g hg).2.2 hb3 (hp g hg).2.1⟩⟩
    · have hS := (HKS.out _ hb).1
      cases p with
      | none =>
        refine wpAnyH_take (i := 5) (v := .tuple #[digestV (wotsPubL seed), .nilIface]) (by simp only [List.getElem?_toArray, List.getElem?_cons_zero, List.getElem?_cons_succ]; rfl) (by kernel_rfl) (by kernel_rfl) (by kernel_rfl) (fun _ _ _ h => h) (Or.inl ⟨by rfl, fun w hSw => by rfl⟩) hS ?_
        exact next _ _ ⟨sl, rfl, hb, fun _ => h1 (by omega), hp⟩
      | some g =>
        refine wpAnyH_take (i := 5) (v := .tuple #[digestV (wotsPubL seed), .nilIface]) (by simp only [List.getElem?_toArray, List.getElem?_cons_zero, List.getElem?_cons_succ]; rfl) (by kernel_rfl) (by kernel_rfl) (by kernel_rfl) (fun _ _ _ h => h) (Or.inl ⟨by rfl, fun w hSw => by rfl⟩) hS ?_
        exact next _ _ ⟨sl, rfl, hb, fun _ => h1 (by omega), hp⟩
    · have hS := (HKS.out _ hb).1
      cases p with
      | none =>
        refine wpAnyH_take (i := 6) (v := digestV (wotsPubL seed)) (by simp only [List.getElem?_toArray, List.getElem?_cons_zero, List.getElem?_cons_succ]; rfl) (by kernel_rfl) (by kernel_rfl) (by kernel_rfl) (fun _ _ _ h => h) (Or.inl ⟨by rfl, fun w hSw => by rfl⟩) hS ?_
        exact next _ _ ⟨sl, rfl, hb, fun _ => h1 (by omega), hp⟩
      | some g =>
        refine wpAnyH_take (i := 6) (v := digestV (wotsPubL seed)) (by simp only [List.getElem?_toArray, List.getElem?_cons_zero, List.getElem?_cons_succ]; rfl) (by kernel_rfl) (by kernel_rfl) (by kernel_rfl) (fun _ _ _ h => h) (Or.inl ⟨by rfl, fun w hSw => by rfl⟩) hS ?_
        exact next _ _ ⟨sl, rfl, hb, fun _ => h1 (by omega), hp⟩
    · have hS := (HKS.out _ hb).1
      cases p with
      | none =>
        refine wpAnyH_take (i := 7) (v := .nilIface) (by simp only [List.getElem?_toArray, List.getElem?_cons_zero, List.getElem?_cons_succ]; rfl) (by kernel_rfl) (by kernel_rfl) (by kernel_rfl) (fun _ _ _ h => h) (Or.inl ⟨by rfl, fun w hSw => by rfl⟩) hS ?_
        exact next _ _ ⟨sl, rfl, hb, fun _ => h1 (by omega), hp⟩
      | some g =>
        refine wpAnyH_take (i := 7) (v := .nilIface) (by simp only [List.getElem?_toArray, List.getElem?_cons_zero, List.getElem?_cons_succ]; rfl) (by kernel_rfl) (by kernel_rfl) (by kernel_rfl) (fun _ _ _ h => h) (Or.inl ⟨by rfl, fun w hSw => by rfl⟩) hS ?_
        exact next _ _ ⟨sl, rfl, hb, fun _ => h1 (by omega), hp⟩
  case last =>
    intro a wx fuel hSt al
    obtain ⟨sl, rfl, hb, h1, hp⟩ := hSt
    refine wpAnyH_ready (rs := [8]) (by kernel_rfl) (by simp) ?_
    refine AllReadyH.cons (by simp only [List.getElem?_toArray, List.getElem?_cons_zero, List.getElem?_cons_succ]; rfl) (fun K hK => ?_) AllReadyH.nil
    rw [if_pos (by rfl)]
    refine wp_allocE 23 (by rfl) (cellsB zD).toArray Tryd.zeroDg ?_
    have hb8 : Below wx.heap.size wx (wx.alloc (.cells (cellsB zD).toArray 23)) := (Below.refl _ _).alloc (Nat.le_refl _) _
    have hb' : Below wd.heap.size wd (wx.alloc (.cells (cellsB zD).toArray 23)) := hb.trans (hb8.mono hb.size)
    refine hK.out _ _ (HKS.out _ hb').1 (fun hHeld => ?_)
    exact al wx.heap.size _ _ ⟨sl, rfl, hb', (fun _ => by obtain ⟨a3, c3, e, r3⟩ := h1 (by omega); exact ⟨a3, c3, e, r3.below hb8⟩), fun g hg => by cases hg; exact ⟨hb.size, by simp, alloc_thereAt _ _ _ 32 _ rfl zD_size.symm⟩⟩
  case fin =>
    intro g a wx hSt
    obtain ⟨sl, rfl, hb, h1, hp⟩ := hSt
    obtain ⟨g1, g2, g3⟩ := hp g rfl
    have hPl := wPub_len seed
    have HPE : Hid (∀ wx, Env wx → Calls Tryd.prog 12 #[digestV seed] wx fun e w' => e = .returned (digestV (wotsPubL seed)) ∧ Below wx.heap.size wx w') := fun wx hx => wwots_public seed wx hx hs
    clear h1 hp
    generalize hPd : wotsPubL seed = P at *
    have HPD : Hid (wotsPubL seed = P) := hPd
    clear hPd
    refine wpAnyH_ready (rs := [9]) (by kernel_rfl) (by simp) ?_
    refine AllReadyH.cons (by simp only [List.getElem?_toArray, List.getElem?_cons_zero, List.getElem?_cons_succ]; rfl) (fun K hK => ?_) AllReadyH.nil
    rw [if_pos (by rfl)]
    refine wp_store_mid _ _ _ rfl g 0 (cellsB P).toArray rfl rfl (by rw [cellsB_size, hPl]; exact g3) (by rw [cellsB_size, hPl]; exact Tryd.sizeDg) (all_oneCell_toArray (cellsB_one _)) ?_
    have hb' : Below wd.heap.size wd (wx.setCells g 0 (cellsB P)) := below_setCells _ g1 _ _ _ hb
    refine hK.out _ _ (HKS.out _ hb').1 (fun hHeld => ?_)
    clear hK K
    have HX : Hid (DAt (wx.setCells g 0 (cellsB P)) g 0 P) := dat_stored g3 hPl
    have HBx : Hid (Below wd.heap.size wd (wx.setCells g 0 (cellsB P))) := hb'
    try simp only [Act.put, List.setIfInBounds_toArray, List.set_cons_zero, List.set_cons_succ]
    refine wpAnyH_take (i := 10) (v := .nilIface) (by simp only [List.getElem?_toArray, List.getElem?_cons_zero, List.getElem?_cons_succ]; rfl) (by kernel_rfl) (by kernel_rfl) (by kernel_rfl) (fun _ _ _ h => h) (Or.inl ⟨by rfl, fun w hSw => by rfl⟩) hHeld ?_
    try simp only [Act.put, List.setIfInBounds_toArray, List.set_cons_zero, List.set_cons_succ]
    refine wpAnyH_done (by kernel_rfl) (NoPanic.normal ?_) _
    clear hHeld hb hb' g3
    have hlx : g < (wx.setCells g 0 (cellsB P)).heap.size := cell_block (HX.out.cell 0 (by omega))
    generalize wx.setCells g 0 (cellsB P) = wy at *
    simp only [fromW, Nat.reduceLeDiff, ↓reduceIte, Nat.reduceAdd, Nat.zero_add] 
    simp only [ptrW]
    go_wp2_with fail
    have HKT : Hid (∀ wz, Below wy.heap.size wy wz → (wz.rangeAt g 0 (cellsB P) ∧ wz.rangeAt w.heap.size 0 (cellsB seed)) ∧ Below w3.heap.size w3 wz) := fun wz hz => by
      have b1 : Below wd.heap.size wd wz := HBx.out.trans (hz.mono HBx.out.size)
      have b2 := HBd.out.trans (b1.mono HBd.out.size)
      exact ⟨⟨HX.out.below hz hlx, (HK.out _ b2).1⟩, b2⟩
    refine wp_region_noPanic ?_
    refine wp_region_held_drew (S := fun w' => w'.rangeAt g 0 (cellsB P) ∧ w'.rangeAt w.heap.size 0 (cellsB seed)) (by kernel_rfl) (HKT.out _ (below_drewN wy 1)).1 (fun hHeld => ?_)
    try simp only [Act.put, List.setIfInBounds_toArray, List.set_cons_zero, List.set_cons_succ]
    have HBz : Hid (Below wy.heap.size wy wy.drew) := below_drewN wy 1
    generalize wy.drew = wz at *
    refine wpAnyH_take (i := 0) (v := ?_) (by simp only [List.getElem?_toArray, List.getElem?_cons_zero, List.getElem?_cons_succ]; rfl) (by kernel_rfl) (by kernel_rfl) (by kernel_rfl) (fun _ _ _ h => h) (Or.inl ⟨by rfl, ?_⟩) hHeld ?_
    rotate_left
    · intro w hSw
      go_simp
      try with_reducible rfl
    try simp only [Act.put, List.setIfInBounds_toArray, List.set_cons_zero, List.set_cons_succ]
    refine wpAnyH_take (i := 1) (v := ?_) (by simp only [List.getElem?_toArray, List.getElem?_cons_zero, List.getElem?_cons_succ]; rfl) (by kernel_rfl) (by kernel_rfl) (by kernel_rfl) (fun _ _ _ h => h) (Or.inl ⟨by rfl, ?_⟩) hHeld ?_
    rotate_left
    · intro w hSw
      go_simp
      try with_reducible rfl
    try simp only [Act.put, List.setIfInBounds_toArray, List.set_cons_zero, List.set_cons_succ]
    refine wpAnyH_take (i := 2) (v := ?_) (by simp only [List.getElem?_toArray, List.getElem?_cons_zero, List.getElem?_cons_succ]; rfl) (by kernel_rfl) (by kernel_rfl) (by kernel_rfl) (fun _ _ _ h => h) (Or.inl ⟨by rfl, ?_⟩) hHeld ?_
    rotate_left
    · intro w hSw
      go_simp
      try with_reducible rfl
    try simp only [Act.put, List.setIfInBounds_toArray, List.set_cons_zero, List.set_cons_succ]
    refine wpAnyH_take (i := 3) (v := .agg (cellsB P).toArray) (by simp only [List.getElem?_toArray, List.getElem?_cons_zero, List.getElem?_cons_succ]; rfl) (by kernel_rfl) (by kernel_rfl) (by kernel_rfl) (fun _ _ _ h => h)
      (yieldsIf_load_mid (by rfl) _ _ rfl _ _ rfl _ _ (fun w hw => hw.1) Tryd.underlying23 rfl (by rw [cellsB_length, hPl]; exact Tryd.sizeDg)) hHeld ?_
    try simp only [Act.put, List.setIfInBounds_toArray, List.set_cons_zero, List.set_cons_succ]
    refine wpAnyH_take (i := 4) (v := .agg (cellsB seed).toArray) (by simp only [List.getElem?_toArray, List.getElem?_cons_zero, List.getElem?_cons_succ]; rfl) (by kernel_rfl) (by kernel_rfl) (by kernel_rfl) (fun _ _ _ h => h)
      (yieldsIf_load_mid (by rfl) _ _ rfl _ _ rfl _ _ (fun w hw => hw.2) Tryd.underlying23 rfl (by rw [cellsB_length, hs]; exact Tryd.sizeDg)) hHeld ?_
    try simp only [Act.put, List.setIfInBounds_toArray, List.set_cons_zero, List.set_cons_succ]
    refine wpAnyH_ready (rs := [5]) (by kernel_rfl) (by simp) ?_
    refine AllReadyH.cons (by simp only [List.getElem?_toArray, List.getElem?_cons_zero, List.getElem?_cons_succ]; rfl) (fun K hK => ?_) AllReadyH.nil
    rw [if_pos (by rfl)]
    go_simp
    refine (HPE.out wz (HK.out _ (HKT.out _ HBz.out).2).2.2.2.1).mono ?_
    rintro e w7 ⟨rfl, hb7⟩
    have HB7 : Hid (Below wy.heap.size wy w7) := HBz.out.trans (hb7.mono HBz.out.size)
    clear hb7 HBz
    go_wp2_with fail
    refine hK.out _ _ (HKT.out _ HB7.out).1 (fun hHeld => ?_)
    clear hK K
    try simp only [Act.put, List.setIfInBounds_toArray, List.set_cons_zero, List.set_cons_succ]
    refine wpAnyH_take (i := 6) (v := .bool false) (by simp only [List.getElem?_toArray, List.getElem?_cons_zero, List.getElem?_cons_succ]; rfl) (by kernel_rfl) (by kernel_rfl) (by kernel_rfl) (fun _ _ _ h => h)
      (yieldsIf_neqD (by rfl) _ _ rfl P P hPl hPl rfl rfl false (by simp)) hHeld ?_
    try simp only [Act.put, List.setIfInBounds_toArray, List.set_cons_zero, List.set_cons_succ]
    refine wpAnyH_take (i := 7) (v := ?_) (by simp only [List.getElem?_toArray, List.getElem?_cons_zero, List.getElem?_cons_succ]; rfl) (by kernel_rfl) (by kernel_rfl) (by kernel_rfl) (fun _ _ _ h => h) (Or.inl ⟨by rfl, ?_⟩) hHeld ?_
    rotate_left
    · intro w hSw
      go_simp
      try with_reducible rfl
    try simp only [Act.put, List.setIfInBounds_toArray, List.set_cons_zero, List.set_cons_succ]
    refine wpAnyH_done (by kernel_rfl) (NoPanic.normal ?_) _
    clear hHeld
    have HW : Hid (∀ wx, Below w7.heap.size w7 wx → DAt wx g 0 P ∧ DAt wx w.heap.size 0 seed ∧ DAt wx (w.heap.size + 1) 0 m ∧ DAt wx (w.heap.size + 2) 0 other ∧ Env wx ∧ DRow wx sa n sig ∧ Below w.heap.size w wx) := fun wx hx => by
      have b1 : Below wy.heap.size wy wx := HB7.out.trans (hx.mono HB7.out.size)
      have k := HK.out _ (HKT.out _ b1).2
      exact ⟨(HKT.out _ b1).1.1, k.1, k.2.1, k.2.2.1, k.2.2.2.1, k.2.2.2.2.1, k.2.2.2.2.2⟩
    have hgl : g < w7.heap.size := Nat.lt_of_lt_of_le hlx HB7.out.size
    clear HKT HB7 HX HBx hlx HKS HBd HK HS3 HPE g1 g2
    have H0 : Hid (Below w7.heap.size w7 w7) := Below.refl _ _
    have lz : zD.length = 32 := rfl
    by_cases h67 : n = 67
    · subst h67
      go_wp2_with (refine wpList_load_mid (by rfl) 23 (.tmp 6) (by rfl) (w.heap.size + 2) 0 (by rfl) (cellsB other) _ (HW.out _ H0.out).2.2.2.1 Tryd.underlying23 (by rfl) (by rw [cellsB_length, ho]; exact Tryd.sizeDg) ?_)
      refine (wwots_recover other sa c sig w7 (HW.out _ H0.out).2.2.2.2.1 ho (HW.out _ H0.out).2.2.2.2.2.1).mono ?_
      rintro e w8 ⟨rfl, hb8⟩
      have lQ := wKey_len other sig
      generalize hQd : wotsKeyL other sig = Qd at *
      have HQD : Hid (wotsKeyL other sig = Qd) := hQd
      clear hQd H0
      obtain ⟨w9, hw9⟩ : ∃ w9, w8.alloc (.cells (cellsB zD).toArray 23) = w9 := ⟨_, rfl⟩
      have HT9 : Hid (w9.there w8.heap.size 0 32) := by rw [← hw9]; exact alloc_thereAt _ _ _ 32 _ rfl zD_size.symm
      have hb9 : Below w8.heap.size w8 w9 := by rw [← hw9]; exact (Below.refl _ _).alloc (Nat.le_refl _) _
      have HB10 : Hid (Below w7.heap.size w7 (w9.setCells w8.heap.size 0 (cellsB Qd))) := below_setCells _ hb8.size _ _ _ (hb8.trans (hb9.mono hb8.size))
      have HX10 : Hid (DAt (w9.setCells w8.heap.size 0 (cellsB Qd)) w8.heap.size 0 Qd) := dat_stored HT9.out lQ
      clear hb8 hb9
      obtain ⟨w10, hw10⟩ : ∃ w10, w9.setCells w8.heap.size 0 (cellsB Qd) = w10 := ⟨_, rfl⟩
      rw [hw10] at HB10 HX10
      by_cases hQP : Qd = P
      · subst hQP
        by_cases hom : other = m
        · go_wp2_with (first
            | (refine wpList_allocE (by rfl) 23 (by rfl) (cellsB zD).toArray Tryd.zeroDg w8.heap.size rfl w9 hw9 ?_)
            | (refine wpList_store_mid (by rfl) 23 (.tmp 11) (.tmp 43) (by rfl) w8.heap.size 0 (cellsB Qd).toArray (by rfl) (by rfl) (by rw [cellsB_size, lQ]; exact HT9.out) (by rw [cellsB_size, lQ]; exact Tryd.sizeDg) (all_oneCell_toArray (cellsB_one _)) ?_; rw [show (cellsB Qd).toArray.toList = cellsB Qd from rfl, hw10])
            | (refine wpList_load_midG (by rfl) 23 (.tmp 11) (by rfl) w8.heap.size 0 (by rfl) (cellsB Qd) _ HX10.out Tryd.underlying23 (by rfl) (by rw [cellsB_length, lQ]; exact Tryd.sizeDg) ?_)
            | (refine wpList_load_midG (by rfl) 23 (.tmp 9) (by rfl) g 0 (by rfl) (cellsB Qd) _ (HW.out _ HB10.out).1 Tryd.underlying23 (by rfl) (by rw [cellsB_length, lQ]; exact Tryd.sizeDg) ?_)
            | (refine wpList_neqD (.tmp 48) (.tmp 49) (by rfl) (by rfl) Qd Qd lQ lQ (by rfl) (by rfl) false (by simp) ?_)
            | (refine wpList_load_midG (by rfl) 23 (.tmp 6) (by rfl) (w.heap.size + 2) 0 (by rfl) (cellsB other) _ (HW.out _ HB10.out).2.2.2.1 Tryd.underlying23 (by rfl) (by rw [cellsB_length, ho]; exact Tryd.sizeDg) ?_)
            | (refine wpList_load_midG (by rfl) 23 (.tmp 5) (by rfl) (w.heap.size + 1) 0 (by rfl) (cellsB m) _ (HW.out _ HB10.out).2.2.1 Tryd.underlying23 (by rfl) (by rw [cellsB_length, hm]; exact Tryd.sizeDg) ?_)
            | (refine wpList_eqD (.tmp 53) (.tmp 54) (by rfl) (by rfl) other m ho hm (by rfl) (by rfl) true (by rw [decide_eq_true hom]) ?_))
          go_ret
          exact ⟨rfl, (HW.out _ HB10.out).2.2.2.2.2.2⟩
        · have hom2 : decide (other = m) = false := decide_eq_false hom
          go_wp2_with (first
            | (refine wpList_allocE (by rfl) 23 (by rfl) (cellsB zD).toArray Tryd.zeroDg w8.heap.size rfl w9 hw9 ?_)
            | (refine wpList_store_mid (by rfl) 23 (.tmp 11) (.tmp 43) (by rfl) w8.heap.size 0 (cellsB Qd).toArray (by rfl) (by rfl) (by rw [cellsB_size, lQ]; exact HT9.out) (by rw [cellsB_size, lQ]; exact Tryd.sizeDg) (all_oneCell_toArray (cellsB_one _)) ?_; rw [show (cellsB Qd).toArray.toList = cellsB Qd from rfl, hw10])
            | (refine wpList_load_midG (by rfl) 23 (.tmp 11) (by rfl) w8.heap.size 0 (by rfl) (cellsB Qd) _ HX10.out Tryd.underlying23 (by rfl) (by rw [cellsB_length, lQ]; exact Tryd.sizeDg) ?_)
            | (refine wpList_load_midG (by rfl) 23 (.tmp 9) (by rfl) g 0 (by rfl) (cellsB Qd) _ (HW.out _ HB10.out).1 Tryd.underlying23 (by rfl) (by rw [cellsB_length, lQ]; exact Tryd.sizeDg) ?_)
            | (refine wpList_neqD (.tmp 48) (.tmp 49) (by rfl) (by rfl) Qd Qd lQ lQ (by rfl) (by rfl) false (by simp) ?_)
            | (refine wpList_load_midG (by rfl) 23 (.tmp 6) (by rfl) (w.heap.size + 2) 0 (by rfl) (cellsB other) _ (HW.out _ HB10.out).2.2.2.1 Tryd.underlying23 (by rfl) (by rw [cellsB_length, ho]; exact Tryd.sizeDg) ?_)
            | (refine wpList_load_midG (by rfl) 23 (.tmp 5) (by rfl) (w.heap.size + 1) 0 (by rfl) (cellsB m) _ (HW.out _ HB10.out).2.2.1 Tryd.underlying23 (by rfl) (by rw [cellsB_length, hm]; exact Tryd.sizeDg) ?_)
            | (refine wpList_eqD (.tmp 53) (.tmp 54) (by rfl) (by rfl) other m ho hm (by rfl) (by rfl) false hom2 ?_)
            | (refine wpList_load_mid (by rfl) 23 (.tmp 4) (by rfl) w.heap.size 0 (by rfl) (cellsB seed) _ (HW.out _ HB10.out).2.1 Tryd.underlying23 (by rfl) (by rw [cellsB_length, hs]; exact Tryd.sizeDg) ?_))
          refine (wwots_sign seed m w10 (HW.out _ HB10.out).2.2.2.2.1 hs hm).mono ?_
          rintro e w11 ⟨⟨a4, c4, rfl, hc4, r4⟩, hb11⟩
          have HB11 : Hid (Below w7.heap.size w7 w11) := HB10.out.trans (hb11.mono HB10.out.size)
          have HR11 : Hid (DRow w11 a4 67 (wotsSigL seed m 67)) := r4
          clear r4 hb11 HB10 HX10 HT9 hw9 hw10 hgl
          go_wp2_with (refine wpList_load_mid (by rfl) 23 (.tmp 5) (by rfl) (w.heap.size + 1) 0 (by rfl) (cellsB m) _ (HW.out _ HB11.out).2.2.1 Tryd.underlying23 (by rfl) (by rw [cellsB_length, hm]; exact Tryd.sizeDg) ?_)
          refine (rnib_any m w11 hm).mono ?_
          rintro e w12 ⟨⟨a5, c5, rfl, hc5, r5⟩, hb12⟩
          have HB12 : Hid (Below w7.heap.size w7 w12) := HB11.out.trans (hb12.mono HB11.out.size)
          have HR12 : Hid (DRow w12 a4 67 (wotsSigL seed m 67) ∧ IRow w12 a5 67 (digsL m 67)) := ⟨HR11.out.below hb12, r5⟩
          clear r5 hb12 HB11 HR11
          go_wp2_with (refine wpList_load_mid (by rfl) 23 (.tmp 6) (by rfl) (w.heap.size + 2) 0 (by rfl) (cellsB other) _ (HW.out _ HB12.out).2.2.2.1 Tryd.underlying23 (by rfl) (by rw [cellsB_length, ho]; exact Tryd.sizeDg) ?_)
          refine (rnib_any other w12 ho).mono ?_
          rintro e w13 ⟨⟨a6, c6, rfl, hc6, r6⟩, hb13⟩
          obtain ⟨bd, od, rfl, hcd⟩ : ∃ b o, a5 = some ⟨b, o, none⟩ ∧ ∀ i, i < 67 → w13.cell? ⟨b, o + i, none⟩ = some (.int .i64 ((digsL m 67).getD i 0)) := by
            rcases (HR12.out.2.below hb13).2 with h | h
            · omega
            · exact h
          obtain ⟨be, oe, rfl, hce⟩ : ∃ b o, a6 = some ⟨b, o, none⟩ ∧ ∀ i, i < 67 → w13.cell? ⟨b, o + i, none⟩ = some (.int .i64 ((digsL other 67).getD i 0)) := by
            rcases r6.2 with h | h
            · omega
            · exact h
          have r4 := HR12.out.1.below hb13
          have HV : Hid (∀ wx, Below w13.heap.size w13 wx → DAt wx w.heap.size 0 seed ∧ DRow wx sa 67 sig ∧ DRow wx a4 67 (wotsSigL seed m 67) ∧ (∀ i, i < 67 → wx.cell? ⟨bd, od + i, none⟩ = some (.int .i64 (digL m i : Int)) ∧ wx.cell? ⟨be, oe + i, none⟩ = some (.int .i64 (digL other i : Int))) ∧ Below w.heap.size w wx) := fun wx hx => by
            have b1 : Below w12.heap.size w12 wx := hb13.trans (hx.mono hb13.size)
            have b2 : Below w7.heap.size w7 wx := HB12.out.trans (b1.mono HB12.out.size)
            have k := HW.out _ b2
            refine ⟨k.2.1, k.2.2.2.2.2.1, r4.below hx, fun i hi => ?_, k.2.2.2.2.2.2⟩
            have h1 := hcd i hi
            have h2 := hce i hi
            rw [digsL_at _ 67 i hi] at h1 h2
            exact ⟨(hx.cell (p := ⟨bd, od + i, none⟩) (cell_block h1)).trans h1, (hx.cell (p := ⟨be, oe + i, none⟩) (cell_block h2)).trans h2⟩
          have HSG : Hid (∀ i, i < 67 → (wotsSigL seed m 67).getD i [] = walkL (wotsSecL seed i) (digL m i)) := fun i hi => getD_map_range _ _ _ hi
          clear HW HB12 HR12 r4 r6 hb13 hcd hce
          generalize wotsSigL seed m 67 = SL at *
          go_wp2_with fail
          go_loopw [15] (fun i wr => ∃ k : Nat, k ≤ 67 ∧ i = .int .i64 (k : Int) ∧ Hid (∀ i, i < k → digL other i < digL m i → walkL (sig.getD i []) (digL m i - digL other i) ≠ walkL (wotsSecL seed i) (digL m i)) ∧ Below w13.heap.size w13 wr) (fun i _ => 67 - (intOf i).toNat)
          case atStart => exact ⟨0, Nat.zero_le _, rfl, fun i hi => by omega, Below.refl _ _⟩
          case round =>
            obtain ⟨k, hk, rfl, HN, hB⟩ := hrel
            by_cases hlt : k < 67
            · have HB : Hid (Below w13.heap.size w13 wr) := hB
              have hD := HV.out _ hB
              obtain ⟨ba, oa, rfl, hcs⟩ : ∃ ba oa, sa = some ⟨ba, oa, none⟩ ∧ ∀ i, i < 67 → DAt wr ba (oa + 32 * i) (sig.getD i []) := by
                rcases hD.2.1.2.2 with h | h
                · omega
                · exact h
              obtain ⟨bb, ob, rfl, hcf⟩ : ∃ bb ob, a4 = some ⟨bb, ob, none⟩ ∧ ∀ i, i < 67 → DAt wr bb (ob + 32 * i) (SL.getD i []) := by
                rcases hD.2.2.1.2.2 with h | h
                · omega
                · exact h
              have lX := HS32.out k hlt
              have lF := hD.2.2.1.len k hlt
              have eF := HSG.out k hlt
              have HX : Hid (DAt wr ba (oa + k * 32) (sig.getD k [])) := by have := hcs k hlt; rwa [show oa + 32 * k = oa + k * 32 by omega] at this
              have HF : Hid (DAt wr bb (ob + k * 32) (SL.getD k [])) := by have := hcf k hlt; rwa [show ob + 32 * k = ob + k * 32 by omega] at this
              have hba : ba < wr.heap.size := cell_block (HX.out.cell 0 (by omega))
              have hbb : bb < wr.heap.size := cell_block (HF.out.cell 0 (by omega))
              rw [eF] at HF lF
              have HSd : Hid (∀ wx, Below wr.heap.size wr wx → wx.cell? ⟨bd, od + k, none⟩ = some (.int .i64 (digL m k : Int)) ∧ wx.cell? ⟨be, oe + k, none⟩ = some (.int .i64 (digL other k : Int)) ∧ wx.rangeAt ba (oa + k * 32) (cellsB (sig.getD k [])) ∧ wx.rangeAt bb (ob + k * 32) (cellsB (walkL (wotsSecL seed k) (digL m k)))) := fun wx hx => by
                have h := (HV.out _ (HB.out.trans (hx.mono HB.out.size))).2.2.2.1 k hlt
                exact ⟨h.1, h.2, HX.out.below hx hba, HF.out.below hx hbb⟩
              have HNX : Hid ((digL other k < digL m k → walkL (sig.getD k []) (digL m k - digL other k) ≠ walkL (wotsSecL seed k) (digL m k)) → (∀ i, i < k + 1 → digL other i < digL m i → walkL (sig.getD i []) (digL m i - digL other i) ≠ walkL (wotsSecL seed i) (digL m i))) := fun h i hi => by
                by_cases c : i = k
                · rw [c]; exact h
                · exact HN.out i (by omega)
              clear hD hcs hcf eF hB HX HF hba hbb
              have xl := digL_lt m k
              have yl := digL_lt other k
              generalize walkL (wotsSecL seed k) (digL m k) = F at *
              generalize sig.getD k [] = X at *
              generalize digL m k = x at *
              generalize digL other k = y at *
              have k0 : (0 : Int) ≤ (k : Int) := by omega
              have k1 : (k : Int) < 67 := by omega
              go_wp2_with fail
              refine wp_region_noPanic ?_
              refine wp_region_held_drew (S := fun w' => w'.cell? ⟨bd, od + k, none⟩ = some (.int .i64 (x : Int)) ∧ w'.cell? ⟨be, oe + k, none⟩ = some (.int .i64 (y : Int)) ∧ w'.rangeAt ba (oa + k * 32) (cellsB X) ∧ w'.rangeAt bb (ob + k * 32) (cellsB F)) (by kernel_rfl) (HSd.out _ (below_drewN wr 1)) (fun hHeld => ?_)
              try simp only [Act.put, List.setIfInBounds_toArray, List.set_cons_zero, List.set_cons_succ]
              have HBd : Hid (Below wr.heap.size wr wr.drew) := below_drewN wr 1
              generalize wr.drew = wd2 at *
              refine wpAnyH_take (i := 0) (v := ?_) (by simp only [List.getElem?_toArray, List.getElem?_cons_zero, List.getElem?_cons_succ]; rfl) (by kernel_rfl) (by kernel_rfl) (by kernel_rfl) (fun _ _ _ h => h) (Or.inl ⟨by rfl, ?_⟩) hHeld ?_
              rotate_left
              · intro w hSw
                obtain ⟨hSw0, hSw1, hSw2, hSw3⟩ := hSw
                go_simp
                try with_reducible rfl
              try simp only [Act.put, List.setIfInBounds_toArray, List.set_cons_zero, List.set_cons_succ]
              refine wpAnyH_take (i := 1) (v := ?_) (by simp only [List.getElem?_toArray, List.getElem?_cons_zero, List.getElem?_cons_succ]; rfl) (by kernel_rfl) (by kernel_rfl) (by kernel_rfl) (fun _ _ _ h => h) (Or.inl ⟨by rfl, ?_⟩) hHeld ?_
              rotate_left
              · intro w hSw
                obtain ⟨hSw0, hSw1, hSw2, hSw3⟩ := hSw
                go_simp
                try with_reducible rfl
              try simp only [Act.put, List.setIfInBounds_toArray, List.set_cons_zero, List.set_cons_succ]
              refine wpAnyH_take (i := 2) (v := ?_) (by simp only [List.getElem?_toArray, List.getElem?_cons_zero, List.getElem?_cons_succ]; rfl) (by kernel_rfl) (by kernel_rfl) (by kernel_rfl) (fun _ _ _ h => h) (Or.inl ⟨by rfl, ?_⟩) hHeld ?_
              rotate_left
              · intro w hSw
                obtain ⟨hSw0, hSw1, hSw2, hSw3⟩ := hSw
                go_simp
                try with_reducible rfl
              try simp only [Act.put, List.setIfInBounds_toArray, List.set_cons_zero, List.set_cons_succ]
              refine wpAnyH_take (i := 3) (v := ?_) (by simp only [List.getElem?_toArray, List.getElem?_cons_zero, List.getElem?_cons_succ]; rfl) (by kernel_rfl) (by kernel_rfl) (by kernel_rfl) (fun _ _ _ h => h) (Or.inl ⟨by rfl, ?_⟩) hHeld ?_
              rotate_left
              · intro w hSw
                obtain ⟨hSw0, hSw1, hSw2, hSw3⟩ := hSw
                go_simp
                try with_reducible rfl
              try simp only [Act.put, List.setIfInBounds_toArray, List.set_cons_zero, List.set_cons_succ]
              refine wpAnyH_take (i := 4) (v := ?_) (by simp only [List.getElem?_toArray, List.getElem?_cons_zero, List.getElem?_cons_succ]; rfl) (by kernel_rfl) (by kernel_rfl) (by kernel_rfl) (fun _ _ _ h => h) (Or.inl ⟨by rfl, ?_⟩) hHeld ?_
              rotate_left
              · intro w hSw
                obtain ⟨hSw0, hSw1, hSw2, hSw3⟩ := hSw
                go_simp
                try with_reducible rfl
              try simp only [Act.put, List.setIfInBounds_toArray, List.set_cons_zero, List.set_cons_succ]
              refine wpAnyH_take (i := 5) (v := ?_) (by simp only [List.getElem?_toArray, List.getElem?_cons_zero, List.getElem?_cons_succ]; rfl) (by kernel_rfl) (by kernel_rfl) (by kernel_rfl) (fun _ _ _ h => h) (Or.inl ⟨by rfl, ?_⟩) hHeld ?_
              rotate_left
              · intro w hSw
                obtain ⟨hSw0, hSw1, hSw2, hSw3⟩ := hSw
                go_simp
                try with_reducible rfl
              try simp only [Act.put, List.setIfInBounds_toArray, List.set_cons_zero, List.set_cons_succ]
              refine wpAnyH_take (i := 6) (v := ?_) (by simp only [List.getElem?_toArray, List.getElem?_cons_zero, List.getElem?_cons_succ]; rfl) (by kernel_rfl) (by kernel_rfl) (by kernel_rfl) (fun _ _ _ h => h) (Or.inl ⟨by rfl, ?_⟩) hHeld ?_
              rotate_left
              · intro w hSw
                obtain ⟨hSw0, hSw1, hSw2, hSw3⟩ := hSw
                go_simp
                try with_reducible rfl
              try simp only [Act.put, List.setIfInBounds_toArray, List.set_cons_zero, List.set_cons_succ]
              refine wpAnyH_take (i := 7) (v := ?_) (by simp only [List.getElem?_toArray, List.getElem?_cons_zero, List.getElem?_cons_succ]; rfl) (by kernel_rfl) (by kernel_rfl) (by kernel_rfl) (fun _ _ _ h => h) (Or.inl ⟨by rfl, ?_⟩) hHeld ?_
              rotate_left
              · intro w hSw
                obtain ⟨hSw0, hSw1, hSw2, hSw3⟩ := hSw
                go_simp
                try with_reducible rfl
              try simp only [Act.put, List.setIfInBounds_toArray, List.set_cons_zero, List.set_cons_succ]
              by_cases hyx : y < x
              · have hyi : (y : Int) < (x : Int) := by omega
                obtain ⟨z, hz⟩ : ∃ z : Nat, x - y = z := ⟨_, rfl⟩
                have hsub : (x : Int) - (y : Int) = (z : Int) := by omega
                have hz16 : z < 16 := by omega
                have wz : IntKind.i64.wrap (z : Int) = (z : Int) := wrapW z (by omega)
                rw [hz] at HNX
                clear hz
                refine wpAnyH_take (i := 8) (v := .bool true) (by simp only [List.getElem?_toArray, List.getElem?_cons_zero, List.getElem?_cons_succ]; rfl) (by kernel_rfl) (by kernel_rfl) (by kernel_rfl) (fun _ _ _ h => h) (Or.inl ⟨by rfl, ?_⟩) hHeld ?_
                · intro w hSw
                  obtain ⟨hSw0, hSw1, hSw2, hSw3⟩ := hSw
                  go_simp
                try simp only [Act.put, List.setIfInBounds_toArray, List.set_cons_zero, List.set_cons_succ]
                refine wpAnyH_take (i := 9) (v := ?_) (by simp only [List.getElem?_toArray, List.getElem?_cons_zero, List.getElem?_cons_succ]; rfl) (by kernel_rfl) (by kernel_rfl) (by kernel_rfl) (fun _ _ _ h => h) (Or.inl ⟨by rfl, ?_⟩) hHeld ?_
                rotate_left
                · intro w hSw
                  obtain ⟨hSw0, hSw1, hSw2, hSw3⟩ := hSw
                  go_simp
                  try with_reducible rfl
                try simp only [Act.put, List.setIfInBounds_toArray, List.set_cons_zero, List.set_cons_succ]
                refine wpAnyH_take (i := 10) (v := ?_) (by simp only [List.getElem?_toArray, List.getElem?_cons_zero, List.getElem?_cons_succ]; rfl) (by kernel_rfl) (by kernel_rfl) (by kernel_rfl) (fun _ _ _ h => h) (Or.inl ⟨by rfl, ?_⟩) hHeld ?_
                rotate_left
                · intro w hSw
                  obtain ⟨hSw0, hSw1, hSw2, hSw3⟩ := hSw
                  go_simp
                  try with_reducible rfl
                try simp only [Act.put, List.setIfInBounds_toArray, List.set_cons_zero, List.set_cons_succ]
                refine wpAnyH_take (i := 11) (v := ?_) (by simp only [List.getElem?_toArray, List.getElem?_cons_zero, List.getElem?_cons_succ]; rfl) (by kernel_rfl) (by kernel_rfl) (by kernel_rfl) (fun _ _ _ h => h) (Or.inl ⟨by rfl, ?_⟩) hHeld ?_
                rotate_left
                · intro w hSw
                  obtain ⟨hSw0, hSw1, hSw2, hSw3⟩ := hSw
                  go_simp
                  try with_reducible rfl
                try simp only [Act.put, List.setIfInBounds_toArray, List.set_cons_zero, List.set_cons_succ]
                refine wpAnyH_take (i := 12) (v := .pointer (some ⟨ba, oa + k * 32, none⟩)) (by simp only [List.getElem?_toArray, List.getElem?_cons_zero, List.getElem?_cons_succ]; rfl) (by kernel_rfl) (by kernel_rfl) (by kernel_rfl) (fun _ _ _ h => h) (Or.inl ⟨by rfl, ?_⟩) hHeld ?_
                · intro w hSw
                  obtain ⟨hSw0, hSw1, hSw2, hSw3⟩ := hSw
                  go_simp
                try simp only [Act.put, List.setIfInBounds_toArray, List.set_cons_zero, List.set_cons_succ]
                refine wpAnyH_take (i := 13) (v := .agg (cellsB X).toArray) (by simp only [List.getElem?_toArray, List.getElem?_cons_zero, List.getElem?_cons_succ]; rfl) (by kernel_rfl) (by kernel_rfl) (by kernel_rfl) (fun _ _ _ h => h)
                  (yieldsIf_load_mid (by rfl) _ _ rfl _ _ rfl _ _ (fun w hw => hw.2.2.1) Tryd.underlying23 rfl (by rw [cellsB_length, lX]; exact Tryd.sizeDg)) hHeld ?_
                try simp only [Act.put, List.setIfInBounds_toArray, List.set_cons_zero, List.set_cons_succ]
                refine wpAnyH_take (i := 14) (v := ?_) (by simp only [List.getElem?_toArray, List.getElem?_cons_zero, List.getElem?_cons_succ]; rfl) (by kernel_rfl) (by kernel_rfl) (by kernel_rfl) (fun _ _ _ h => h) (Or.inl ⟨by rfl, ?_⟩) hHeld ?_
                rotate_left
                · intro w hSw
                  obtain ⟨hSw0, hSw1, hSw2, hSw3⟩ := hSw
                  go_simp
                  try with_reducible rfl
                try simp only [Act.put, List.setIfInBounds_toArray, List.set_cons_zero, List.set_cons_succ]
                refine wpAnyH_take (i := 15) (v := ?_) (by simp only [List.getElem?_toArray, List.getElem?_cons_zero, List.getElem?_cons_succ]; rfl) (by kernel_rfl) (by kernel_rfl) (by kernel_rfl) (fun _ _ _ h => h) (Or.inl ⟨by rfl, ?_⟩) hHeld ?_
                rotate_left
                · intro w hSw
                  obtain ⟨hSw0, hSw1, hSw2, hSw3⟩ := hSw
                  go_simp
                  try with_reducible rfl
                try simp only [Act.put, List.setIfInBounds_toArray, List.set_cons_zero, List.set_cons_succ]
                refine wpAnyH_take (i := 16) (v := ?_) (by simp only [List.getElem?_toArray, List.getElem?_cons_zero, List.getElem?_cons_succ]; rfl) (by kernel_rfl) (by kernel_rfl) (by kernel_rfl) (fun _ _ _ h => h) (Or.inl ⟨by rfl, ?_⟩) hHeld ?_
                rotate_left
                · intro w hSw
                  obtain ⟨hSw0, hSw1, hSw2, hSw3⟩ := hSw
                  go_simp
                  try with_reducible rfl
                try simp only [Act.put, List.setIfInBounds_toArray, List.set_cons_zero, List.set_cons_succ]
                refine wpAnyH_take (i := 17) (v := ?_) (by simp only [List.getElem?_toArray, List.getElem?_cons_zero, List.getElem?_cons_succ]; rfl) (by kernel_rfl) (by kernel_rfl) (by kernel_rfl) (fun _ _ _ h => h) (Or.inl ⟨by rfl, ?_⟩) hHeld ?_
                rotate_left
                · intro w hSw
                  obtain ⟨hSw0, hSw1, hSw2, hSw3⟩ := hSw
                  go_simp
                  try with_reducible rfl
                try simp only [Act.put, List.setIfInBounds_toArray, List.set_cons_zero, List.set_cons_succ]
                refine wpAnyH_take (i := 18) (v := ?_) (by simp only [List.getElem?_toArray, List.getElem?_cons_zero, List.getElem?_cons_succ]; rfl) (by kernel_rfl) (by kernel_rfl) (by kernel_rfl) (fun _ _ _ h => h) (Or.inl ⟨by rfl, ?_⟩) hHeld ?_
                rotate_left
                · intro w hSw
                  obtain ⟨hSw0, hSw1, hSw2, hSw3⟩ := hSw
                  go_simp
                  try with_reducible rfl
                try simp only [Act.put, List.setIfInBounds_toArray, List.set_cons_zero, List.set_cons_succ]
                refine wpAnyH_take (i := 19) (v := ?_) (by simp only [List.getElem?_toArray, List.getElem?_cons_zero, List.getElem?_cons_succ]; rfl) (by kernel_rfl) (by kernel_rfl) (by kernel_rfl) (fun _ _ _ h => h) (Or.inl ⟨by rfl, ?_⟩) hHeld ?_
                rotate_left
                · intro w hSw
                  obtain ⟨hSw0, hSw1, hSw2, hSw3⟩ := hSw
                  go_simp
                  try with_reducible rfl
                try simp only [Act.put, List.setIfInBounds_toArray, List.set_cons_zero, List.set_cons_succ]
                refine wpAnyH_take (i := 20) (v := ?_) (by simp only [List.getElem?_toArray, List.getElem?_cons_zero, List.getElem?_cons_succ]; rfl) (by kernel_rfl) (by kernel_rfl) (by kernel_rfl) (fun _ _ _ h => h) (Or.inl ⟨by rfl, ?_⟩) hHeld ?_
                rotate_left
                · intro w hSw
                  obtain ⟨hSw0, hSw1, hSw2, hSw3⟩ := hSw
                  go_simp
                  try with_reducible rfl
                try simp only [Act.put, List.setIfInBounds_toArray, List.set_cons_zero, List.set_cons_succ]
                refine wpAnyH_take (i := 21) (v := ?_) (by simp only [List.getElem?_toArray, List.getElem?_cons_zero, List.getElem?_cons_succ]; rfl) (by kernel_rfl) (by kernel_rfl) (by kernel_rfl) (fun _ _ _ h => h) (Or.inl ⟨by rfl, ?_⟩) hHeld ?_
                rotate_left
                · intro w hSw
                  obtain ⟨hSw0, hSw1, hSw2, hSw3⟩ := hSw
                  go_simp
                  try with_reducible rfl
                try simp only [Act.put, List.setIfInBounds_toArray, List.set_cons_zero, List.set_cons_succ]
                refine wpAnyH_take (i := 22) (v := .int .i64 (z : Int)) (by simp only [List.getElem?_toArray, List.getElem?_cons_zero, List.getElem?_cons_succ]; rfl) (by kernel_rfl) (by kernel_rfl) (by kernel_rfl) (fun _ _ _ h => h) (Or.inl ⟨by rfl, ?_⟩) hHeld ?_
                · intro w hSw
                  obtain ⟨hSw0, hSw1, hSw2, hSw3⟩ := hSw
                  go_simp
                try simp only [Act.put, List.setIfInBounds_toArray, List.set_cons_zero, List.set_cons_succ]
                refine wpAnyH_take (i := 24) (v := ?_) (by simp only [List.getElem?_toArray, List.getElem?_cons_zero, List.getElem?_cons_succ]; rfl) (by kernel_rfl) (by kernel_rfl) (by kernel_rfl) (fun _ _ _ h => h) (Or.inl ⟨by rfl, ?_⟩) hHeld ?_
                rotate_left
                · intro w hSw
                  obtain ⟨hSw0, hSw1, hSw2, hSw3⟩ := hSw
                  go_simp
                  try with_reducible rfl
                try simp only [Act.put, List.setIfInBounds_toArray, List.set_cons_zero, List.set_cons_succ]
                refine wpAnyH_take (i := 25) (v := ?_) (by simp only [List.getElem?_toArray, List.getElem?_cons_zero, List.getElem?_cons_succ]; rfl) (by kernel_rfl) (by kernel_rfl) (by kernel_rfl) (fun _ _ _ h => h) (Or.inl ⟨by rfl, ?_⟩) hHeld ?_
                rotate_left
                · intro w hSw
                  obtain ⟨hSw0, hSw1, hSw2, hSw3⟩ := hSw
                  go_simp
                  try with_reducible rfl
                try simp only [Act.put, List.setIfInBounds_toArray, List.set_cons_zero, List.set_cons_succ]
                refine wpAnyH_take (i := 26) (v := .pointer (some ⟨bb, ob + k * 32, none⟩)) (by simp only [List.getElem?_toArray, List.getElem?_cons_zero, List.getElem?_cons_succ]; rfl) (by kernel_rfl) (by kernel_rfl) (by kernel_rfl) (fun _ _ _ h => h) (Or.inl ⟨by rfl, ?_⟩) hHeld ?_
                · intro w hSw
                  obtain ⟨hSw0, hSw1, hSw2, hSw3⟩ := hSw
                  go_simp
                try simp only [Act.put, List.setIfInBounds_toArray, List.set_cons_zero, List.set_cons_succ]
                refine wpAnyH_take (i := 27) (v := .agg (cellsB F).toArray) (by simp only [List.getElem?_toArray, List.getElem?_cons_zero, List.getElem?_cons_succ]; rfl) (by kernel_rfl) (by kernel_rfl) (by kernel_rfl) (fun _ _ _ h => h)
                  (yieldsIf_load_mid (by rfl) _ _ rfl _ _ rfl _ _ (fun w hw => hw.2.2.2) Tryd.underlying23 rfl (by rw [cellsB_length, lF]; exact Tryd.sizeDg)) hHeld ?_
                try simp only [Act.put, List.setIfInBounds_toArray, List.set_cons_zero, List.set_cons_succ]
                refine wpAnyH_ready (rs := [23]) (by kernel_rfl) (by simp) ?_
                refine AllReadyH.cons (by simp only [List.getElem?_toArray, List.getElem?_cons_zero, List.getElem?_cons_succ]; rfl) (fun K hK => ?_) AllReadyH.nil
                rw [if_pos (by rfl)]
                go_simp
                refine (rwalk_any X z wd2 lX (by omega)).mono ?_
                rintro e w14 ⟨rfl, hb14⟩
                have HB14 : Hid (Below wr.heap.size wr w14) := HBd.out.trans (hb14.mono HBd.out.size)
                have lL := walkL_length lX z
                clear hb14 HBd
                generalize walkL X z = Z at *
                go_wp2_with fail
                refine hK.out _ _ (HSd.out _ HB14.out) (fun hHeld => ?_)
                clear hK K
                try simp only [Act.put, List.setIfInBounds_toArray, List.set_cons_zero, List.set_cons_succ]
                by_cases hzf : Z = F
                · have hzd : decide (Z = F) = true := decide_eq_true hzf
                  refine wpAnyH_take (i := 28) (v := .bool true) (by simp only [List.getElem?_toArray, List.getElem?_cons_zero, List.getElem?_cons_succ]; rfl) (by kernel_rfl) (by kernel_rfl) (by kernel_rfl) (fun _ _ _ h => h)
                    (yieldsIf_eqD (by rfl) _ _ rfl Z F lL lF rfl rfl true hzd) hHeld ?_
                  try simp only [Act.put, List.setIfInBounds_toArray, List.set_cons_zero, List.set_cons_succ]
                  refine wpAnyH_take (i := 29) (v := ?_) (by simp only [List.getElem?_toArray, List.getElem?_cons_zero, List.getElem?_cons_succ]; rfl) (by kernel_rfl) (by kernel_rfl) (by kernel_rfl) (fun _ _ _ h => h) (Or.inl ⟨by rfl, ?_⟩) hHeld ?_
                  rotate_left
                  · intro w hSw
                    obtain ⟨hSw0, hSw1, hSw2, hSw3⟩ := hSw
                    go_simp
                    try with_reducible rfl
                  try simp only [Act.put, List.setIfInBounds_toArray, List.set_cons_zero, List.set_cons_succ]
                  refine wpAnyH_done (by kernel_rfl) (NoPanic.normal ?_) _
                  clear hHeld
                  have HBw : Hid (Below w13.heap.size w13 w14) := HB.out.trans (HB14.out.mono HB.out.size)
                  go_wp2_with fail
                  go_ret
                  exact ⟨rfl, (HV.out _ HBw.out).2.2.2.2⟩
                · have hzd : decide (Z = F) = false := decide_eq_false hzf
                  refine wpAnyH_take (i := 28) (v := .bool false) (by simp only [List.getElem?_toArray, List.getElem?_cons_zero, List.getElem?_cons_succ]; rfl) (by kernel_rfl) (by kernel_rfl) (by kernel_rfl) (fun _ _ _ h => h)
                    (yieldsIf_eqD (by rfl) _ _ rfl Z F lL lF rfl rfl false hzd) hHeld ?_
                  try simp only [Act.put, List.setIfInBounds_toArray, List.set_cons_zero, List.set_cons_succ]
                  refine wpAnyH_take (i := 29) (v := ?_) (by simp only [List.getElem?_toArray, List.getElem?_cons_zero, List.getElem?_cons_succ]; rfl) (by kernel_rfl) (by kernel_rfl) (by kernel_rfl) (fun _ _ _ h => h) (Or.inl ⟨by rfl, ?_⟩) hHeld ?_
                  rotate_left
                  · intro w hSw
                    obtain ⟨hSw0, hSw1, hSw2, hSw3⟩ := hSw
                    go_simp
                    try with_reducible rfl
                  try simp only [Act.put, List.setIfInBounds_toArray, List.set_cons_zero, List.set_cons_succ]
                  refine wpAnyH_done (by kernel_rfl) (NoPanic.normal ?_) _
                  clear hHeld
                  have HBw : Hid (Below w13.heap.size w13 w14) := HB.out.trans (HB14.out.mono HB.out.size)
                  go_wp2_with fail
                  go_roundw
                  case rel => exact ⟨k + 1, by omega, by go_num, HNX.out (fun _ => hzf), HBw.out⟩
                  case measure => simp [intOf]; omega
              · have hyi : ¬ (y : Int) < (x : Int) := by omega
                refine wpAnyH_take (i := 8) (v := .bool false) (by simp only [List.getElem?_toArray, List.getElem?_cons_zero, List.getElem?_cons_succ]; rfl) (by kernel_rfl) (by kernel_rfl) (by kernel_rfl) (fun _ _ _ h => h) (Or.inl ⟨by rfl, ?_⟩) hHeld ?_
                · intro w hSw
                  obtain ⟨hSw0, hSw1, hSw2, hSw3⟩ := hSw
                  go_simp
                  try omega
                try simp only [Act.put, List.setIfInBounds_toArray, List.set_cons_zero, List.set_cons_succ]
                refine wpAnyH_take (i := 9) (v := ?_) (by simp only [List.getElem?_toArray, List.getElem?_cons_zero, List.getElem?_cons_succ]; rfl) (by kernel_rfl) (by kernel_rfl) (by kernel_rfl) (fun _ _ _ h => h) (Or.inl ⟨by rfl, ?_⟩) hHeld ?_
                rotate_left
                · intro w hSw
                  obtain ⟨hSw0, hSw1, hSw2, hSw3⟩ := hSw
                  go_simp
                  try with_reducible rfl
                try simp only [Act.put, List.setIfInBounds_toArray, List.set_cons_zero, List.set_cons_succ]
                refine wpAnyH_take (i := 10) (v := undef) (by simp only [List.getElem?_toArray, List.getElem?_cons_zero, List.getElem?_cons_succ]; rfl) (by kernel_rfl) (by kernel_rfl) (by kernel_rfl) (fun _ _ _ h => h) (Or.inr ⟨by rfl, rfl⟩) hHeld ?_
                try simp only [Act.put, List.setIfInBounds_toArray, List.set_cons_zero, List.set_cons_succ]
                refine wpAnyH_take (i := 11) (v := undef) (by simp only [List.getElem?_toArray, List.getElem?_cons_zero, List.getElem?_cons_succ]; rfl) (by kernel_rfl) (by kernel_rfl) (by kernel_rfl) (fun _ _ _ h => h) (Or.inr ⟨by rfl, rfl⟩) hHeld ?_
                try simp only [Act.put, List.setIfInBounds_toArray, List.set_cons_zero, List.set_cons_succ]
                refine wpAnyH_take (i := 12) (v := undef) (by simp only [List.getElem?_toArray, List.getElem?_cons_zero, List.getElem?_cons_succ]; rfl) (by kernel_rfl) (by kernel_rfl) (by kernel_rfl) (fun _ _ _ h => h) (Or.inr ⟨by rfl, rfl⟩) hHeld ?_
                try simp only [Act.put, List.setIfInBounds_toArray, List.set_cons_zero, List.set_cons_succ]
                refine wpAnyH_take (i := 13) (v := undef) (by simp only [List.getElem?_toArray, List.getElem?_cons_zero, List.getElem?_cons_succ]; rfl) (by kernel_rfl) (by kernel_rfl) (by kernel_rfl) (fun _ _ _ h => h) (Or.inr ⟨by rfl, rfl⟩) hHeld ?_
                try simp only [Act.put, List.setIfInBounds_toArray, List.set_cons_zero, List.set_cons_succ]
                refine wpAnyH_take (i := 14) (v := undef) (by simp only [List.getElem?_toArray, List.getElem?_cons_zero, List.getElem?_cons_succ]; rfl) (by kernel_rfl) (by kernel_rfl) (by kernel_rfl) (fun _ _ _ h => h) (Or.inr ⟨by rfl, rfl⟩) hHeld ?_
                try simp only [Act.put, List.setIfInBounds_toArray, List.set_cons_zero, List.set_cons_succ]
                refine wpAnyH_take (i := 15) (v := undef) (by simp only [List.getElem?_toArray, List.getElem?_cons_zero, List.getElem?_cons_succ]; rfl) (by kernel_rfl) (by kernel_rfl) (by kernel_rfl) (fun _ _ _ h => h) (Or.inr ⟨by rfl, rfl⟩) hHeld ?_
                try simp only [Act.put, List.setIfInBounds_toArray, List.set_cons_zero, List.set_cons_succ]
                refine wpAnyH_take (i := 16) (v := undef) (by simp only [List.getElem?_toArray, List.getElem?_cons_zero, List.getElem?_cons_succ]; rfl) (by kernel_rfl) (by kernel_rfl) (by kernel_rfl) (fun _ _ _ h => h) (Or.inr ⟨by rfl, rfl⟩) hHeld ?_
                try simp only [Act.put, List.setIfInBounds_toArray, List.set_cons_zero, List.set_cons_succ]
                refine wpAnyH_take (i := 17) (v := undef) (by simp only [List.getElem?_toArray, List.getElem?_cons_zero, List.getElem?_cons_succ]; rfl) (by kernel_rfl) (by kernel_rfl) (by kernel_rfl) (fun _ _ _ h => h) (Or.inr ⟨by rfl, rfl⟩) hHeld ?_
                try simp only [Act.put, List.setIfInBounds_toArray, List.set_cons_zero, List.set_cons_succ]
                refine wpAnyH_take (i := 18) (v := undef) (by simp only [List.getElem?_toArray, List.getElem?_cons_zero, List.getElem?_cons_succ]; rfl) (by kernel_rfl) (by kernel_rfl) (by kernel_rfl) (fun _ _ _ h => h) (Or.inr ⟨by rfl, rfl⟩) hHeld ?_
                try simp only [Act.put, List.setIfInBounds_toArray, List.set_cons_zero, List.set_cons_succ]
                refine wpAnyH_take (i := 19) (v := undef) (by simp only [List.getElem?_toArray, List.getElem?_cons_zero, List.getElem?_cons_succ]; rfl) (by kernel_rfl) (by kernel_rfl) (by kernel_rfl) (fun _ _ _ h => h) (Or.inr ⟨by rfl, rfl⟩) hHeld ?_
                try simp only [Act.put, List.setIfInBounds_toArray, List.set_cons_zero, List.set_cons_succ]
                refine wpAnyH_take (i := 20) (v := undef) (by simp only [List.getElem?_toArray, List.getElem?_cons_zero, List.getElem?_cons_succ]; rfl) (by kernel_rfl) (by kernel_rfl) (by kernel_rfl) (fun _ _ _ h => h) (Or.inr ⟨by rfl, rfl⟩) hHeld ?_
                try simp only [Act.put, List.setIfInBounds_toArray, List.set_cons_zero, List.set_cons_succ]
                refine wpAnyH_take (i := 21) (v := undef) (by simp only [List.getElem?_toArray, List.getElem?_cons_zero, List.getElem?_cons_succ]; rfl) (by kernel_rfl) (by kernel_rfl) (by kernel_rfl) (fun _ _ _ h => h) (Or.inr ⟨by rfl, rfl⟩) hHeld ?_
                try simp only [Act.put, List.setIfInBounds_toArray, List.set_cons_zero, List.set_cons_succ]
                refine wpAnyH_take (i := 22) (v := undef) (by simp only [List.getElem?_toArray, List.getElem?_cons_zero, List.getElem?_cons_succ]; rfl) (by kernel_rfl) (by kernel_rfl) (by kernel_rfl) (fun _ _ _ h => h) (Or.inr ⟨by rfl, rfl⟩) hHeld ?_
                try simp only [Act.put, List.setIfInBounds_toArray, List.set_cons_zero, List.set_cons_succ]
                refine wpAnyH_take (i := 23) (v := undef) (by simp only [List.getElem?_toArray, List.getElem?_cons_zero, List.getElem?_cons_succ]; rfl) (by kernel_rfl) (by kernel_rfl) (by kernel_rfl) (fun _ _ _ h => h) (Or.inr ⟨by rfl, rfl⟩) hHeld ?_
                try simp only [Act.put, List.setIfInBounds_toArray, List.set_cons_zero, List.set_cons_succ]
                refine wpAnyH_take (i := 24) (v := undef) (by simp only [List.getElem?_toArray, List.getElem?_cons_zero, List.getElem?_cons_succ]; rfl) (by kernel_rfl) (by kernel_rfl) (by kernel_rfl) (fun _ _ _ h => h) (Or.inr ⟨by rfl, rfl⟩) hHeld ?_
                try simp only [Act.put, List.setIfInBounds_toArray, List.set_cons_zero, List.set_cons_succ]
                refine wpAnyH_take (i := 25) (v := undef) (by simp only [List.getElem?_toArray, List.getElem?_cons_zero, List.getElem?_cons_succ]; rfl) (by kernel_rfl) (by kernel_rfl) (by kernel_rfl) (fun _ _ _ h => h) (Or.inr ⟨by rfl, rfl⟩) hHeld ?_
                try simp only [Act.put, List.setIfInBounds_toArray, List.set_cons_zero, List.set_cons_succ]
                refine wpAnyH_take (i := 26) (v := undef) (by simp only [List.getElem?_toArray, List.getElem?_cons_zero, List.getElem?_cons_succ]; rfl) (by kernel_rfl) (by kernel_rfl) (by kernel_rfl) (fun _ _ _ h => h) (Or.inr ⟨by rfl, rfl⟩) hHeld ?_
                try simp only [Act.put, List.setIfInBounds_toArray, List.set_cons_zero, List.set_cons_succ]
                refine wpAnyH_take (i := 27) (v := undef) (by simp only [List.getElem?_toArray, List.getElem?_cons_zero, List.getElem?_cons_succ]; rfl) (by kernel_rfl) (by kernel_rfl) (by kernel_rfl) (fun _ _ _ h => h) (Or.inr ⟨by rfl, rfl⟩) hHeld ?_
                try simp only [Act.put, List.setIfInBounds_toArray, List.set_cons_zero, List.set_cons_succ]
                refine wpAnyH_take (i := 28) (v := undef) (by simp only [List.getElem?_toArray, List.getElem?_cons_zero, List.getElem?_cons_succ]; rfl) (by kernel_rfl) (by kernel_rfl) (by kernel_rfl) (fun _ _ _ h => h) (Or.inr ⟨by rfl, rfl⟩) hHeld ?_
                try simp only [Act.put, List.setIfInBounds_toArray, List.set_cons_zero, List.set_cons_succ]
                refine wpAnyH_take (i := 29) (v := ?_) (by simp only [List.getElem?_toArray, List.getElem?_cons_zero, List.getElem?_cons_succ]; rfl) (by kernel_rfl) (by kernel_rfl) (by kernel_rfl) (fun _ _ _ h => h) (Or.inl ⟨by rfl, ?_⟩) hHeld ?_
                rotate_left
                · intro w hSw
                  obtain ⟨hSw0, hSw1, hSw2, hSw3⟩ := hSw
                  go_simp
                  try with_reducible rfl
                try simp only [Act.put, List.setIfInBounds_toArray, List.set_cons_zero, List.set_cons_succ]
                refine wpAnyH_done (by kernel_rfl) (NoPanic.normal ?_) _
                clear hHeld
                have HBw : Hid (Below w13.heap.size w13 wd2) := HB.out.trans (HBd.out.mono HB.out.size)
                go_wp2_with fail
                go_roundw
                case rel => exact ⟨k + 1, by omega, by go_num, HNX.out (fun h => absurd h hyx), HBw.out⟩
                case measure => simp [intOf]; omega
            · obtain rfl : k = 67 := by omega
              have HB0 : Hid (Below w13.heap.size w13 wr) := hB
              have HNF : Hid ((∀ i, i < 67 → ∀ k, k < 15 - digL other i → ¬ (walkL (walkL (wotsSecL seed i) (digL other i)) k ≠ walkL (sig.getD i []) k ∧ walkL (walkL (wotsSecL seed i) (digL other i)) (k + 1) = walkL (sig.getD i []) (k + 1))) → wotsEndsL seed 67 ≠ wotsToldL other sig 67) := fun h2 => wotsForged seed m other sig hm ho (fun h => hom h.symm) HN.out h2
              clear hB HN HSG
              obtain ⟨iD, hiD, hzD0, hzD1, hzD2⟩ := info_parts Tryd.infoDg
              go_wp2_with fail
              go_loopw [16, 17, 18] (fun va vb i wq => ∃ k : Nat, k ≤ 67 ∧ i = .int .i64 (k : Int) ∧ OwnD wq w13.heap.size va (wotsEndsL seed k) ∧ OwnD wq w13.heap.size vb (wotsToldL other sig k) ∧ Sep va vb ∧ Hid (∀ i, i < k → ∀ t, t < 15 - digL other i → ¬ (walkL (walkL (wotsSecL seed i) (digL other i)) t ≠ walkL (sig.getD i []) t ∧ walkL (walkL (wotsSecL seed i) (digL other i)) (t + 1) = walkL (sig.getD i []) (t + 1))) ∧ Below w13.heap.size w13 wq) (fun _ _ i _ => 67 - (intOf i).toNat)
              case atStart => exact ⟨0, Nat.zero_le _, rfl, OwnD.nil _ _, OwnD.nil _ _, Or.inl rfl, (fun i hi => by omega), HB0.out⟩
              case round =>
                clear HB0
                obtain ⟨k, hk, rfl, hOa, hOb, hsep, HN2, hB⟩ := hrel
                by_cases hlt : k < 67
                · have HQ : Hid (∀ wx, Below wr.heap.size wr wx → OwnD wx w13.heap.size u16 (wotsEndsL seed k) ∧ OwnD wx w13.heap.size u17 (wotsToldL other sig k) ∧ Below w13.heap.size w13 wx) := fun wx hx => ⟨OwnD.below hOa hx, OwnD.below hOb hx, hB.trans (hx.mono hB.size)⟩
                  have HSP : Hid (Sep u16 u17) := hsep
                  have HOB : Hid (∀ b, wr.heap.size ≤ b → some b ≠ u16.ownBlock) := fun b hb e => by have := (World.ownsRow.lt hOa.2 b e.symm).2; omega
                  have HSN : Hid (wotsEndsL seed k ++ [walkL (wotsSecL seed k) 15] = wotsEndsL seed (k + 1)) := wotsEndsL_succ seed k
                  have HLN : Hid ((wotsEndsL seed k).length = k) := wotsEndsL_len seed k
                  have HTN : Hid (wotsToldL other sig k ++ [walkL (sig.getD k []) (15 - digL other k)] = wotsToldL other sig (k + 1)) := wotsToldL_succ other sig k
                  have HLT : Hid ((wotsToldL other sig k).length = k) := wotsToldL_len other sig k
                  have hD := HV.out _ hB
                  obtain ⟨ba, oa, rfl, hcs⟩ : ∃ ba oa, sa = some ⟨ba, oa, none⟩ ∧ ∀ i, i < 67 → DAt wr ba (oa + 32 * i) (sig.getD i []) := by
                    rcases hD.2.1.2.2 with h | h
                    · omega
                    · exact h
                  have lY := HS32.out k hlt
                  have HX : Hid (DAt wr ba (oa + k * 32) (sig.getD k [])) := by have := hcs k hlt; rwa [show oa + 32 * k = oa + k * 32 by omega] at this
                  have hba : ba < wr.heap.size := cell_block (HX.out.cell 0 (by omega))
                  have HSd : Hid (∀ wx, Below wr.heap.size wr wx → wx.rangeAt w.heap.size 0 (cellsB seed) ∧ wx.cell? ⟨be, oe + k, none⟩ = some (.int .i64 (digL other k : Int)) ∧ wx.rangeAt ba (oa + k * 32) (cellsB (sig.getD k []))) := fun wx hx => by
                    have h := HV.out _ (hB.trans (hx.mono hB.size))
                    exact ⟨h.1, (h.2.2.2.1 k hlt).2, HX.out.below hx hba⟩
                  have HNX : Hid ((∀ t, t < 15 - digL other k → ¬ (walkL (walkL (wotsSecL seed k) (digL other k)) t ≠ walkL (sig.getD k []) t ∧ walkL (walkL (wotsSecL seed k) (digL other k)) (t + 1) = walkL (sig.getD k []) (t + 1))) → ∀ i, i < k + 1 → ∀ t, t < 15 - digL other i → ¬ (walkL (walkL (wotsSecL seed i) (digL other i)) t ≠ walkL (sig.getD i []) t ∧ walkL (walkL (wotsSecL seed i) (digL other i)) (t + 1) = walkL (sig.getD i []) (t + 1))) := fun h i hi => by
                    by_cases c : i = k
                    · rw [c]; exact h
                    · exact HN2.out i (by omega)
                  have yl := digL_lt other k
                  have lS := wotsSecL_length seed k
                  have HW15 : Hid (∀ d, digL other k = d → walkL (walkL (wotsSecL seed k) d) (15 - d) = walkL (wotsSecL seed k) 15) := fun d hd => by rw [← hd, ← walkL_add, show digL other k + (15 - digL other k) = 15 by omega]
                  have HSC : Hid (∀ wx, Calls Tryd.prog 18 #[digestV seed, .int .i64 (k : Int)] wx fun e w' => e = .returned (digestV (wotsSecL seed k)) ∧ Below wx.heap.size wx w') := fun wx => rwotsSecret_any seed k wx hs (by omega)
                  clear hOa hOb hsep hB hD hcs HX hba HN2
                  generalize digL other k = d at *
                  generalize sig.getD k [] = Y0 at *
                  have HW15 := HW15.out d rfl
                  have HWD : Hid (walkL (walkL (wotsSecL seed k) d) (15 - d) = walkL (wotsSecL seed k) 15) := HW15
                  clear HW15
                  have k0 : (0 : Int) ≤ (k : Int) := by omega
                  have k1 : (k : Int) < 67 := by omega
                  go_wp2_with fail
                  refine wp_region_noPanic ?_
                  refine wp_region_held_drew (S := fun w' => w'.rangeAt w.heap.size 0 (cellsB seed) ∧ w'.cell? ⟨be, oe + k, none⟩ = some (.int .i64 (d : Int)) ∧ w'.rangeAt ba (oa + k * 32) (cellsB Y0)) (by kernel_rfl) (HSd.out _ (below_drewN wr 1)) (fun hHeld => ?_)
                  try simp only [Act.put, List.setIfInBounds_toArray, List.set_cons_zero, List.set_cons_succ]
                  have HBd : Hid (Below wr.heap.size wr wr.drew) := below_drewN wr 1
                  generalize wr.drew = wd at *
                  refine wpAnyH_take (i := 0) (v := .agg (cellsB seed).toArray) (by simp only [List.getElem?_toArray, List.getElem?_cons_zero, List.getElem?_cons_succ]; rfl) (by kernel_rfl) (by kernel_rfl) (by kernel_rfl) (fun _ _ _ h => h)
                    (yieldsIf_load_mid (by rfl) _ _ rfl _ _ rfl _ _ (fun w hw => hw.1) Tryd.underlying23 rfl (by rw [cellsB_length, hs]; exact Tryd.sizeDg)) hHeld ?_
                  try simp only [Act.put, List.setIfInBounds_toArray, List.set_cons_zero, List.set_cons_succ]
                  refine wpAnyH_take (i := 1) (v := ?_) (by simp only [List.getElem?_toArray, List.getElem?_cons_zero, List.getElem?_cons_succ]; rfl) (by kernel_rfl) (by kernel_rfl) (by kernel_rfl) (fun _ _ _ h => h) (Or.inl ⟨by rfl, ?_⟩) hHeld ?_
                  rotate_left
                  · intro w hSw
                    obtain ⟨hSw0, hSw1, hSw2⟩ := hSw
                    go_simp
                    try with_reducible rfl
                  try simp only [Act.put, List.setIfInBounds_toArray, List.set_cons_zero, List.set_cons_succ]
                  refine wpAnyH_take (i := 3) (v := ?_) (by simp only [List.getElem?_toArray, List.getElem?_cons_zero, List.getElem?_cons_succ]; rfl) (by kernel_rfl) (by kernel_rfl) (by kernel_rfl) (fun _ _ _ h => h) (Or.inl ⟨by rfl, ?_⟩) hHeld ?_
                  rotate_left
                  · intro w hSw
                    obtain ⟨hSw0, hSw1, hSw2⟩ := hSw
                    go_simp
                    try with_reducible rfl
                  try simp only [Act.put, List.setIfInBounds_toArray, List.set_cons_zero, List.set_cons_succ]
                  refine wpAnyH_take (i := 4) (v := ?_) (by simp only [List.getElem?_toArray, List.getElem?_cons_zero, List.getElem?_cons_succ]; rfl) (by kernel_rfl) (by kernel_rfl) (by kernel_rfl) (fun _ _ _ h => h) (Or.inl ⟨by rfl, ?_⟩) hHeld ?_
                  rotate_left
                  · intro w hSw
                    obtain ⟨hSw0, hSw1, hSw2⟩ := hSw
                    go_simp
                    try with_reducible rfl
                  try simp only [Act.put, List.setIfInBounds_toArray, List.set_cons_zero, List.set_cons_succ]
                  refine wpAnyH_take (i := 5) (v := ?_) (by simp only [List.getElem?_toArray, List.getElem?_cons_zero, List.getElem?_cons_succ]; rfl) (by kernel_rfl) (by kernel_rfl) (by kernel_rfl) (fun _ _ _ h => h) (Or.inl ⟨by rfl, ?_⟩) hHeld ?_
                  rotate_left
                  · intro w hSw
                    obtain ⟨hSw0, hSw1, hSw2⟩ := hSw
                    go_simp
                    try with_reducible rfl
                  try simp only [Act.put, List.setIfInBounds_toArray, List.set_cons_zero, List.set_cons_succ]
                  refine wpAnyH_take (i := 6) (v := ?_) (by simp only [List.getElem?_toArray, List.getElem?_cons_zero, List.getElem?_cons_succ]; rfl) (by kernel_rfl) (by kernel_rfl) (by kernel_rfl) (fun _ _ _ h => h) (Or.inl ⟨by rfl, ?_⟩) hHeld ?_
                  rotate_left
                  · intro w hSw
                    obtain ⟨hSw0, hSw1, hSw2⟩ := hSw
                    go_simp
                    try with_reducible rfl
                  try simp only [Act.put, List.setIfInBounds_toArray, List.set_cons_zero, List.set_cons_succ]
                  refine news1_any 2 1 (fun j p a wx => a = ({ tmps := #[digestV seed, digestV m, digestV other, Value.slice (some { block := ba, off := oa }) 67 c, Value.pointer (some { block := w.heap.size, off := 0 }), Value.pointer (some { block := w.heap.size + 1, off := 0 }), Value.pointer (some { block := w.heap.size + 2, off := 0 }), undef, u8, Value.pointer (some { block := g, off := 0 }), Value.nilIface, Value.pointer (some { block := w8.heap.size, off := 0 }), Value.slice a4 67 c4, Value.slice (some { block := bd, off := od }) 67 c5, Value.slice (some { block := be, off := oe }) 67 c6, Value.int IntKind.i64 ((67 : Nat) : Int), u16, u17, Value.int IntKind.i64 (k : Int), ptrU u19 p, u20, u21, undef, Value.tuple #[digestV Qd, Value.nilIface], Value.agg (cellsB m).toArray, Value.agg (cellsB seed).toArray, Value.agg (cellsB m).toArray, sl, Value.tuple #[digestV Qd, Value.nilIface], digestV Qd, Value.nilIface, Value.nilIface, Value.bool false, Value.bool false, Value.agg (cellsB Qd).toArray, Value.agg (cellsB seed).toArray, digestV Qd, Value.bool false, Value.bool false, Value.tuple #[digestV Qd, Value.nilIface], Value.agg (cellsB other).toArray, Value.slice (some { block := ba, off := oa }) 67 c, Value.tuple #[digestV Qd, Value.nilIface], digestV Qd, Value.nilIface, Value.nilIface, Value.bool false, Value.bool false, Value.agg (cellsB Qd).toArray, Value.agg (cellsB Qd).toArray, Value.bool false, Value.bool false, Value.bool false, Value.agg (cellsB other).toArray, Value.agg (cellsB m).toArray, Value.bool false, Value.bool false, Value.agg (cellsB seed).toArray, Value.agg (cellsB m).toArray, Value.slice a4 67 c4, Value.slice (some { block := ba, off := oa }) 67 c, Value.int IntKind.i64 67, Value.bool false, Value.bool false, Value.slice a4 67 c4, Value.int IntKind.i64 67, Value.bool false, Value.bool false, Value.agg (cellsB m).toArray, Value.slice (some { block := bd, off := od }) 67 c5, Value.agg (cellsB other).toArray, Value.slice (some { block := be, off := oe }) 67 c6, Value.int IntKind.i64 ((67 : Nat) : Int), Value.bool false, u74, u75, u76, u77, u78, u79, u80, u81, u82, u83, u84, u85, u86, u87, u88, u89, u90, u91, u92, u93, u94, u95, u96, u97, u98, u99, u100, u101, u102, u103, u104, u105, Value.int IntKind.i64 (k : Int), Value.bool true, u108, u109, Value.agg (cellsB seed).toArray, Value.int IntKind.i64 (k : Int), fromO u112 1 (digestV (wotsSecL seed k)) j, Value.slice (some { block := be, off := oe }) 67 c6, Value.int IntKind.i64 (k : Int), Value.pointer (some { block := be, off := oe + k }), Value.int IntKind.i64 (d : Int), fromO u117 2 (digestV (walkL (wotsSecL seed k) d)) j, u118, u119, u120, u121, u122, u123, u124, u125, u126, u127, u128, u129, u130, u131, u132, u133, u134, u135, u136, u137, u138, u139, u140, u141, u142, u143, u144, u145, u146, u147, u148, u149, u150, u151, undef, undef, undef, undef, undef, undef, undef, undef, undef, undef, undef, undef], defers := [] } : Act) ∧ Below wr.heap.size wr wx ∧ (∀ g, p = some g → wr.heap.size ≤ g ∧ g < wx.heap.size ∧ wx.there g 0 32)) secL ?step ?last ?fin 3 0 none _ _ rfl (by omega) ⟨rfl, HBd.out, (fun g h => by cases h)⟩
                  case step =>
                    intro j p a wx fuel hj hSt next al
                    obtain ⟨rfl, hb, hp⟩ := hSt
                    have hj2 : j = 0 ∨ j = 1 := by omega
                    rcases hj2 with rfl | rfl
                    · cases p with
                      | none =>
                        refine wpAnyH_ready (rs := [2, 8]) (by kernel_rfl) (by simp) ?_
                        refine AllReadyH.cons (by simp only [List.getElem?_toArray, List.getElem?_cons_zero, List.getElem?_cons_succ]; rfl) (fun K hK => ?_) (AllReadyH.cons (by simp only [List.getElem?_toArray, List.getElem?_cons_zero, List.getElem?_cons_succ]; rfl) (fun K hK => ?_) AllReadyH.nil)
                        · simp only [fromO, Nat.reduceLeDiff, ↓reduceIte, Nat.reduceAdd, Nat.zero_add]
                          rw [if_pos (by rfl)]
                          go_simp
                          refine (HSC.out wx).mono ?_
                          rintro e w' ⟨rfl, hb3⟩
                          have hb' : Below wr.heap.size wr w' := hb.trans (hb3.mono hb.size)
                          go_wp2_with fail
                          refine hK.out _ _ (HSd.out _ hb') (fun hHeld => ?_)
                          exact next _ _ ⟨rfl, hb', fun g hg => ⟨(hp g hg).1, Nat.lt_of_lt_of_le (hp g hg).2.1 hb3.size, there_below (hp g hg).2.2 hb3 (hp g hg).2.1⟩⟩
                        · rw [if_pos (by rfl)]
                          refine wp_allocE 23 (by rfl) (cellsB zD).toArray Tryd.zeroDg ?_
                          have hb8 : Below wx.heap.size wx (wx.alloc (.cells (cellsB zD).toArray 23)) := (Below.refl _ _).alloc (Nat.le_refl _) _
                          have hb' : Below wr.heap.size wr (wx.alloc (.cells (cellsB zD).toArray 23)) := hb.trans (hb8.mono hb.size)
                          refine hK.out _ _ (HSd.out _ hb') (fun hHeld => ?_)
                          exact al wx.heap.size _ _ rfl ⟨rfl, hb', fun g hg => by cases hg; exact ⟨hb.size, by simp, alloc_thereAt _ _ _ 32 _ rfl zD_size.symm⟩⟩
                      | some g =>
                        refine wpAnyH_ready (rs := [2]) (by kernel_rfl) (by simp) ?_
                        refine AllReadyH.cons (by simp only [List.getElem?_toArray, List.getElem?_cons_zero, List.getElem?_cons_succ]; rfl) (fun K hK => ?_) AllReadyH.nil
                        simp only [fromO, Nat.reduceLeDiff, ↓reduceIte, Nat.reduceAdd, Nat.zero_add]
                        rw [if_pos (by rfl)]
                        go_simp
                        refine (HSC.out wx).mono ?_
                        rintro e w' ⟨rfl, hb3⟩
                        have hb' : Below wr.heap.size wr w' := hb.trans (hb3.mono hb.size)
                        go_wp2_with fail
                        refine hK.out _ _ (HSd.out _ hb') (fun hHeld => ?_)
                        exact next _ _ ⟨rfl, hb', fun g hg => ⟨(hp g hg).1, Nat.lt_of_lt_of_le (hp g hg).2.1 hb3.size, there_below (hp g hg).2.2 hb3 (hp g hg).2.1⟩⟩
                    · cases p with
                      | none =>
                        refine wpAnyH_ready (rs := [7, 8]) (by kernel_rfl) (by simp) ?_
                        refine AllReadyH.cons (by simp only [List.getElem?_toArray, List.getElem?_cons_zero, List.getElem?_cons_succ]; rfl) (fun K hK => ?_) (AllReadyH.cons (by simp only [List.getElem?_toArray, List.getElem?_cons_zero, List.getElem?_cons_succ]; rfl) (fun K hK => ?_) AllReadyH.nil)
                        · simp only [fromO, Nat.reduceLeDiff, ↓reduceIte, Nat.reduceAdd, Nat.zero_add]
                          rw [if_pos (by rfl)]
                          go_simp
                          refine (rwalk_any (wotsSecL seed k) d wx lS (by omega)).mono ?_
                          rintro e w' ⟨rfl, hb3⟩
                          have hb' : Below wr.heap.size wr w' := hb.trans (hb3.mono hb.size)
                          go_wp2_with fail
                          refine hK.out _ _ (HSd.out _ hb') (fun hHeld => ?_)
                          exact next _ _ ⟨rfl, hb', fun g hg => ⟨(hp g hg).1, Nat.lt_of_lt_of_le (hp g hg).2.1 hb3.size, there_below (hp g hg).2.2 hb3 (hp g hg).2.1⟩⟩
                        · rw [if_pos (by rfl)]
                          refine wp_allocE 23 (by rfl) (cellsB zD).toArray Tryd.zeroDg ?_
                          have hb8 : Below wx.heap.size wx (wx.alloc (.cells (cellsB zD).toArray 23)) := (Below.refl _ _).alloc (Nat.le_refl _) _
                          have hb' : Below wr.heap.size wr (wx.alloc (.cells (cellsB zD).toArray 23)) := hb.trans (hb8.mono hb.size)
                          refine hK.out _ _ (HSd.out _ hb') (fun hHeld => ?_)
                          exact al wx.heap.size _ _ rfl ⟨rfl, hb', fun g hg => by cases hg; exact ⟨hb.size, by simp, alloc_thereAt _ _ _ 32 _ rfl zD_size.symm⟩⟩
                      | some g =>
                        refine wpAnyH_ready (rs := [7]) (by kernel_rfl) (by simp) ?_
                        refine AllReadyH.cons (by simp only [List.getElem?_toArray, List.getElem?_cons_zero, List.getElem?_cons_succ]; rfl) (fun K hK => ?_) AllReadyH.nil
                        simp only [fromO, Nat.reduceLeDiff, ↓reduceIte, Nat.reduceAdd, Nat.zero_add]
                        rw [if_pos (by rfl)]
                        go_simp
                        refine (rwalk_any (wotsSecL seed k) d wx lS (by omega)).mono ?_
                        rintro e w' ⟨rfl, hb3⟩
                        have hb' : Below wr.heap.size wr w' := hb.trans (hb3.mono hb.size)
                        go_wp2_with fail
                        refine hK.out _ _ (HSd.out _ hb') (fun hHeld => ?_)
                        exact next _ _ ⟨rfl, hb', fun g hg => ⟨(hp g hg).1, Nat.lt_of_lt_of_le (hp g hg).2.1 hb3.size, there_below (hp g hg).2.2 hb3 (hp g hg).2.1⟩⟩
                  case last =>
                    intro a wx fuel hSt al
                    obtain ⟨rfl, hb, hp⟩ := hSt
                    refine wpAnyH_ready (rs := [8]) (by kernel_rfl) (by simp) ?_
                    refine AllReadyH.cons (by simp only [List.getElem?_toArray, List.getElem?_cons_zero, List.getElem?_cons_succ]; rfl) (fun K hK => ?_) AllReadyH.nil
                    rw [if_pos (by rfl)]
                    refine wp_allocE 23 (by rfl) (cellsB zD).toArray Tryd.zeroDg ?_
                    have hb8 : Below wx.heap.size wx (wx.alloc (.cells (cellsB zD).toArray 23)) := (Below.refl _ _).alloc (Nat.le_refl _) _
                    have hb' : Below wr.heap.size wr (wx.alloc (.cells (cellsB zD).toArray 23)) := hb.trans (hb8.mono hb.size)
                    refine hK.out _ _ (HSd.out _ hb') (fun hHeld => ?_)
                    exact al wx.heap.size _ _ ⟨rfl, hb', fun g hg => by cases hg; exact ⟨hb.size, by simp, alloc_thereAt _ _ _ 32 _ rfl zD_size.symm⟩⟩
                  case fin =>
                    intro gx a wx hSt
                    obtain ⟨rfl, hb, hp⟩ := hSt
                    obtain ⟨g1, g2, g3⟩ := hp gx rfl
                    have lX := walkL_length lS d
                    clear hp HSC
                    generalize walkL (wotsSecL seed k) d = X0 at *
                    refine wpAnyH_ready (rs := [9]) (by kernel_rfl) (by simp) ?_
                    refine AllReadyH.cons (by simp only [List.getElem?_toArray, List.getElem?_cons_zero, List.getElem?_cons_succ]; rfl) (fun K hK => ?_) AllReadyH.nil
                    rw [if_pos (by rfl)]
                    refine wp_store_mid _ _ _ rfl gx 0 (cellsB X0).toArray rfl rfl (by rw [cellsB_size, lX]; exact g3) (by rw [cellsB_size, lX]; exact Tryd.sizeDg) (all_oneCell_toArray (cellsB_one _)) ?_
                    have hb' : Below wr.heap.size wr (wx.setCells gx 0 (cellsB X0)) := below_setCells _ g1 _ _ _ hb
                    refine hK.out _ _ (HSd.out _ hb') (fun hHeld => ?_)
                    clear hK K
                    have HXx : Hid (DAt (wx.setCells gx 0 (cellsB X0)) gx 0 X0 ∧ (wx.setCells gx 0 (cellsB X0)).there gx 0 32) := ⟨dat_stored g3 lX, World.there_setCells g3 _ _ _⟩
                    have HBx : Hid (Below wr.heap.size wr (wx.setCells gx 0 (cellsB X0))) := hb'
                    try simp only [Act.put, List.setIfInBounds_toArray, List.set_cons_zero, List.set_cons_succ]
                    refine wpAnyH_done (by kernel_rfl) (NoPanic.normal ?_) _
                    clear hHeld hb hb' g3 HBd
                    have hgx : gx < (wx.setCells gx 0 (cellsB X0)).heap.size := cell_block (HXx.out.1.cell 0 (by omega))
                    generalize wx.setCells gx 0 (cellsB X0) = wya at *
                    simp only [fromO, Nat.reduceLeDiff, ↓reduceIte, Nat.reduceAdd, Nat.zero_add]
                    simp only [ptrU]
                    obtain ⟨wyb, hwyb⟩ : ∃ wyb, wya.alloc (.cells (cellsB zD).toArray 23) = wyb := ⟨_, rfl⟩
                    have HTb : Hid (wyb.there wya.heap.size 0 32) := by rw [← hwyb]; exact alloc_thereAt _ _ _ 32 _ rfl zD_size.symm
                    have hbb : Below wya.heap.size wya wyb := by rw [← hwyb]; exact (Below.refl _ _).alloc (Nat.le_refl _) _
                    have hbc : Below wya.heap.size wya (wyb.setCells wya.heap.size 0 (cellsB Y0)) := below_setCells _ (Nat.le_refl _) _ _ _ hbb
                    have HBc : Hid (Below wr.heap.size wr (wyb.setCells wya.heap.size 0 (cellsB Y0))) := HBx.out.trans (hbc.mono HBx.out.size)
                    have HXc : Hid (DAt (wyb.setCells wya.heap.size 0 (cellsB Y0)) gx 0 X0 ∧ (wyb.setCells wya.heap.size 0 (cellsB Y0)).there gx 0 32) := ⟨HXx.out.1.below hbc hgx, there_below HXx.out.2 hbc hgx⟩
                    have HYc : Hid (DAt (wyb.setCells wya.heap.size 0 (cellsB Y0)) wya.heap.size 0 Y0 ∧ (wyb.setCells wya.heap.size 0 (cellsB Y0)).there wya.heap.size 0 32) := ⟨dat_stored HTb.out lY, World.there_setCells HTb.out _ _ _⟩
                    have hgy1 : wr.heap.size ≤ wya.heap.size := HBx.out.size
                    have hgy2 : gx ≠ wya.heap.size := by omega
                    obtain ⟨wyc, hwyc⟩ : ∃ wyc, wyb.setCells wya.heap.size 0 (cellsB Y0) = wyc := ⟨_, rfl⟩
                    rw [hwyc] at HBc HXc HYc
                    have hcd := (HSd.out _ HBc.out).2.1
                    clear hbb hbc
                    go_wp2_with (first
                      | (refine wpList_load_mid (by rfl) 23 (.tmp 120) (by rfl) ba (oa + k * 32) (by rfl) (cellsB Y0) _ (HSd.out _ HBx.out).2.2 Tryd.underlying23 (by rfl) (by rw [cellsB_length, lY]; exact Tryd.sizeDg) ?_)
                      | (refine wpList_allocE (by rfl) 23 (by rfl) (cellsB zD).toArray Tryd.zeroDg wya.heap.size rfl wyb hwyb ?_)
                      | (refine wpList_store_mid (by rfl) 23 (.tmp 20) (.tmp 121) (by rfl) wya.heap.size 0 (cellsB Y0).toArray (by rfl) (by rfl) (by rw [cellsB_size, lY]; exact HTb.out) (by rw [cellsB_size, lY]; exact Tryd.sizeDg) (all_oneCell_toArray (cellsB_one _)) ?_; rw [show (cellsB Y0).toArray.toList = cellsB Y0 from rfl, hwyc]))
                    clear hwyb hwyc HTb HBx HXx hcd hgx g2
                    generalize wya.heap.size = gy at *
                    obtain ⟨BB, hBB⟩ : ∃ BB : World → Prop, BB = fun wx => Below wr.heap.size wr wx := ⟨_, rfl⟩
                    have HBB : Hid ((∀ wx wz, BB wx → Below wx.heap.size wx wz → BB wz) ∧ (∀ wx cs, BB wx → BB (wx.setCells gx 0 cs)) ∧ (∀ wx cs, BB wx → BB (wx.setCells gy 0 cs)) ∧ ∀ wx, BB wx → OwnD wx w13.heap.size u16 (wotsEndsL seed k) ∧ OwnD wx w13.heap.size u17 (wotsToldL other sig k) ∧ Below w13.heap.size w13 wx) := by
                      rw [hBB]
                      exact ⟨fun wx wz h h' => Below.trans h (h'.mono h.size), fun wx cs h => below_setCells _ g1 _ _ _ h, fun wx cs h => below_setCells _ hgy1 _ _ _ h, fun wx h => HQ.out wx h⟩
                    have HBc2 : Hid (BB wyc) := by rw [hBB]; exact HBc.out
                    have HOY : Hid (some gy ≠ u16.ownBlock) := HOB.out gy hgy1
                    clear hBB HBc HQ HOB hgy1 g1 HSd hHeld
                    go_loopw [21] (fun i wq => ∃ q : Nat, d ≤ q ∧ q ≤ 15 ∧ i = .int .i64 (q : Int) ∧ DAt wq gx 0 (walkL X0 (q - d)) ∧ wq.there gx 0 32 ∧ DAt wq gy 0 (walkL Y0 (q - d)) ∧ wq.there gy 0 32 ∧ Hid (∀ t, t < q - d → ¬ (walkL X0 t ≠ walkL Y0 t ∧ walkL X0 (t + 1) = walkL Y0 (t + 1))) ∧ BB wq) (fun i _ => 15 - (intOf i).toNat)
                    case atStart => exact ⟨d, Nat.le_refl _, by omega, rfl, by rw [Nat.sub_self]; exact HXc.out.1, HXc.out.2, by rw [Nat.sub_self]; exact HYc.out.1, HYc.out.2, (fun t ht => by omega), HBc2.out⟩
                    case round =>
                      clear HXc HYc HBc2
                      obtain ⟨q, hdq, hq, rfl, hX, hXt, hY, hYt, HNI, hB⟩ := hrel
                      have HB : Hid (BB wr) := hB
                      have hgxl : gx < wr.heap.size := there_block hXt (by omega)
                      have hgyl : gy < wr.heap.size := there_block hYt (by omega)
                      have hlX := walkL_length lX (q - d)
                      have hlY := walkL_length lY (q - d)
                      by_cases hql : q < 15
                      · have HTx : Hid (wr.there gx 0 32 ∧ wr.there gy 0 32) := ⟨hXt, hYt⟩
                        have HSx : Hid (∀ wx, Below wr.heap.size wr wx → wx.rangeAt gx 0 (cellsB (walkL X0 (q - d))) ∧ wx.rangeAt gy 0 (cellsB (walkL Y0 (q - d)))) := fun wx hx => ⟨DAt.below hX hx hgxl, DAt.below hY hx hgyl⟩
                        have HE1 : Hid (walkL X0 (q + 1 - d) = walkL (walkL X0 (q - d)) 1) := by unfold Hid; rw [show q + 1 - d = q - d + 1 by omega]; exact walkL_add X0 (q - d) 1
                        have HE2 : Hid (walkL Y0 (q + 1 - d) = walkL (walkL Y0 (q - d)) 1) := by unfold Hid; rw [show q + 1 - d = q - d + 1 by omega]; exact walkL_add Y0 (q - d) 1
                        have HNJ : Hid (¬ (walkL X0 (q - d) ≠ walkL Y0 (q - d) ∧ walkL (walkL X0 (q - d)) 1 = walkL (walkL Y0 (q - d)) 1) → ∀ t, t < q + 1 - d → ¬ (walkL X0 t ≠ walkL Y0 t ∧ walkL X0 (t + 1) = walkL Y0 (t + 1))) := fun h t ht => by
                          by_cases c : t = q - d
                          · rw [c, walkL_add X0 (q - d) 1, walkL_add Y0 (q - d) 1]; exact h
                          · exact HNI.out t (by omega)
                        have hX1 := walkL_length hlX 1
                        have hY1 := walkL_length hlY 1
                        clear hX hY hXt hYt hB HNI
                        have q15 : (q : Int) < 15 := by omega
                        generalize walkL X0 (q - d) = X at *
                        generalize walkL Y0 (q - d) = Y at *
                        have HWX : Hid (∀ wx, Calls Tryd.prog 17 #[digestV X, .int .i64 1] wx fun e w' => e = .returned (digestV (walkL X 1)) ∧ Below wx.heap.size wx w') := fun wx => rwalk_any X 1 wx hlX (by omega)
                        have HWY : Hid (∀ wx, Calls Tryd.prog 17 #[digestV Y, .int .i64 1] wx fun e w' => e = .returned (digestV (walkL Y 1)) ∧ Below wx.heap.size wx w') := fun wx => rwalk_any Y 1 wx hlY (by omega)
                        generalize walkL X 1 = X1 at *
                        generalize walkL Y 1 = Y1 at *
                        go_wp2_with fail
                        refine wp_region_noPanic ?_
                        refine wp_region_held_drew (S := fun w' => w'.rangeAt gx 0 (cellsB X) ∧ w'.rangeAt gy 0 (cellsB Y)) (by kernel_rfl) (HSx.out _ (below_drewN wr 1)) (fun hHeld => ?_)
                        try simp only [Act.put, List.setIfInBounds_toArray, List.set_cons_zero, List.set_cons_succ]
                        have HBd : Hid (Below wr.heap.size wr wr.drew) := below_drewN wr 1
                        generalize wr.drew = wv at *
                        refine wpAnyH_take (i := 0) (v := .agg (cellsB X).toArray) (by simp only [List.getElem?_toArray, List.getElem?_cons_zero, List.getElem?_cons_succ]; rfl) (by kernel_rfl) (by kernel_rfl) (by kernel_rfl) (fun _ _ _ h => h)
                          (yieldsIf_load_mid (by rfl) _ _ rfl _ _ rfl _ _ (fun w hw => hw.1) Tryd.underlying23 rfl (by rw [cellsB_length, hlX]; exact Tryd.sizeDg)) hHeld ?_
                        try simp only [Act.put, List.setIfInBounds_toArray, List.set_cons_zero, List.set_cons_succ]
                        refine wpAnyH_take (i := 1) (v := .agg (cellsB Y).toArray) (by simp only [List.getElem?_toArray, List.getElem?_cons_zero, List.getElem?_cons_succ]; rfl) (by kernel_rfl) (by kernel_rfl) (by kernel_rfl) (fun _ _ _ h => h)
                          (yieldsIf_load_mid (by rfl) _ _ rfl _ _ rfl _ _ (fun w hw => hw.2) Tryd.underlying23 rfl (by rw [cellsB_length, hlY]; exact Tryd.sizeDg)) hHeld ?_
                        try simp only [Act.put, List.setIfInBounds_toArray, List.set_cons_zero, List.set_cons_succ]
                        by_cases hXY : X = Y
                        · have hxd : (!decide (X = Y)) = false := by simp [hXY]
                          have HXY : Hid (X = Y) := hXY
                          clear hXY
                          refine wpAnyH_take (i := 2) (v := .bool false) (by simp only [List.getElem?_toArray, List.getElem?_cons_zero, List.getElem?_cons_succ]; rfl) (by kernel_rfl) (by kernel_rfl) (by kernel_rfl) (fun _ _ _ h => h)
                            (yieldsIf_neqD (by rfl) _ _ rfl X Y hlX hlY rfl rfl false hxd) hHeld ?_
                          try simp only [Act.put, List.setIfInBounds_toArray, List.set_cons_zero, List.set_cons_succ]
                          clear hxd
                          refine wpAnyH_take (i := 3) (v := ?_) (by simp only [List.getElem?_toArray, List.getElem?_cons_zero, List.getElem?_cons_succ]; rfl) (by kernel_rfl) (by kernel_rfl) (by kernel_rfl) (fun _ _ _ h => h) (Or.inl ⟨by rfl, ?_⟩) hHeld ?_
                          rotate_left
                          · intro w hSw
                            obtain ⟨hSw0, hSw1⟩ := hSw
                            go_simp
                            try with_reducible rfl
                          try simp only [Act.put, List.setIfInBounds_toArray, List.set_cons_zero, List.set_cons_succ]
                          refine wpAnyH_take (i := 4) (v := undef) (by simp only [List.getElem?_toArray, List.getElem?_cons_zero, List.getElem?_cons_succ]; rfl) (by kernel_rfl) (by kernel_rfl) (by kernel_rfl) (fun _ _ _ h => h) (Or.inr ⟨by rfl, rfl⟩) hHeld ?_
                          try simp only [Act.put, List.setIfInBounds_toArray, List.set_cons_zero, List.set_cons_succ]
                          refine wpAnyH_take (i := 5) (v := undef) (by simp only [List.getElem?_toArray, List.getElem?_cons_zero, List.getElem?_cons_succ]; rfl) (by kernel_rfl) (by kernel_rfl) (by kernel_rfl) (fun _ _ _ h => h) (Or.inr ⟨by rfl, rfl⟩) hHeld ?_
                          try simp only [Act.put, List.setIfInBounds_toArray, List.set_cons_zero, List.set_cons_succ]
                          refine wpAnyH_take (i := 6) (v := undef) (by simp only [List.getElem?_toArray, List.getElem?_cons_zero, List.getElem?_cons_succ]; rfl) (by kernel_rfl) (by kernel_rfl) (by kernel_rfl) (fun _ _ _ h => h) (Or.inr ⟨by rfl, rfl⟩) hHeld ?_
                          try simp only [Act.put, List.setIfInBounds_toArray, List.set_cons_zero, List.set_cons_succ]
                          refine wpAnyH_take (i := 7) (v := undef) (by simp only [List.getElem?_toArray, List.getElem?_cons_zero, List.getElem?_cons_succ]; rfl) (by kernel_rfl) (by kernel_rfl) (by kernel_rfl) (fun _ _ _ h => h) (Or.inr ⟨by rfl, rfl⟩) hHeld ?_
                          try simp only [Act.put, List.setIfInBounds_toArray, List.set_cons_zero, List.set_cons_succ]
                          refine wpAnyH_take (i := 8) (v := undef) (by simp only [List.getElem?_toArray, List.getElem?_cons_zero, List.getElem?_cons_succ]; rfl) (by kernel_rfl) (by kernel_rfl) (by kernel_rfl) (fun _ _ _ h => h) (Or.inr ⟨by rfl, rfl⟩) hHeld ?_
                          try simp only [Act.put, List.setIfInBounds_toArray, List.set_cons_zero, List.set_cons_succ]
                          refine wpAnyH_take (i := 9) (v := ?_) (by simp only [List.getElem?_toArray, List.getElem?_cons_zero, List.getElem?_cons_succ]; rfl) (by kernel_rfl) (by kernel_rfl) (by kernel_rfl) (fun _ _ _ h => h) (Or.inl ⟨by rfl, ?_⟩) hHeld ?_
                          rotate_left
                          · intro w hSw
                            obtain ⟨hSw0, hSw1⟩ := hSw
                            go_simp
                            try with_reducible rfl
                          try simp only [Act.put, List.setIfInBounds_toArray, List.set_cons_zero, List.set_cons_succ]
                          refine wpAnyH_done (by kernel_rfl) (NoPanic.normal ?_) _
                          clear hHeld
                          go_wp2_with (refine wpList_load_mid (by rfl) 23 (.tmp 19) (by rfl) gx 0 (by rfl) (cellsB X) _ (HSx.out _ HBd.out).1 Tryd.underlying23 (by rfl) (by rw [cellsB_length, hlX]; exact Tryd.sizeDg) ?_)
                          refine (HWX.out wv).mono ?_
                          rintro e wa ⟨rfl, hba⟩
                          have HBa : Hid (Below wr.heap.size wr wa) := HBd.out.trans (hba.mono HBd.out.size)
                          have HTa : Hid (wa.there gx 0 32 ∧ wa.there gy 0 32) := ⟨there_below HTx.out.1 HBa.out hgxl, there_below HTx.out.2 HBa.out hgyl⟩
                          have HXb : Hid (DAt (wa.setCells gx 0 (cellsB X1)) gx 0 X1 ∧ (wa.setCells gx 0 (cellsB X1)).there gx 0 32) := ⟨dat_stored HTa.out.1 hX1, World.there_setCells HTa.out.1 _ _ _⟩
                          have HYb : Hid (DAt (wa.setCells gx 0 (cellsB X1)) gy 0 Y ∧ (wa.setCells gx 0 (cellsB X1)).there gy 0 32) := ⟨World.rangeAt_setCells_apart (HSx.out _ HBa.out).2 _ _ _ (.inl (Ne.symm hgy2)), World.there_setCells HTa.out.2 _ _ _⟩
                          have HBb : Hid (BB (wa.setCells gx 0 (cellsB X1))) := HBB.out.2.1 _ _ (HBB.out.1 _ _ HB.out HBa.out)
                          clear hba
                          obtain ⟨wb, hwb⟩ : ∃ wb, wa.setCells gx 0 (cellsB X1) = wb := ⟨_, rfl⟩
                          rw [hwb] at HXb HYb HBb
                          go_wp2_with (first
                            | (refine wpList_store_mid (by rfl) 23 (.tmp 19) (.tmp 141) (by rfl) gx 0 (cellsB X1).toArray (by rfl) (by rfl) (by rw [cellsB_size, hX1]; exact HTa.out.1) (by rw [cellsB_size, hX1]; exact Tryd.sizeDg) (all_oneCell_toArray (cellsB_one _)) ?_; rw [show (cellsB X1).toArray.toList = cellsB X1 from rfl, hwb])
                            | (refine wpList_load_mid (by rfl) 23 (.tmp 20) (by rfl) gy 0 (by rfl) (cellsB Y) _ HYb.out.1 Tryd.underlying23 (by rfl) (by rw [cellsB_length, hlY]; exact Tryd.sizeDg) ?_))
                          clear hwb HTa HBa
                          refine (HWY.out wb).mono ?_
                          rintro e wc ⟨rfl, hbc⟩
                          have hgxb : gx < wb.heap.size := there_block HXb.out.2 (by omega)
                          have hgyb : gy < wb.heap.size := there_block HYb.out.2 (by omega)
                          have HXc : Hid (DAt wc gx 0 X1 ∧ wc.there gx 0 32) := ⟨HXb.out.1.below hbc hgxb, there_below HXb.out.2 hbc hgxb⟩
                          have HTc : Hid (wc.there gy 0 32) := there_below HYb.out.2 hbc hgyb
                          have HXe : Hid (DAt (wc.setCells gy 0 (cellsB Y1)) gx 0 X1 ∧ (wc.setCells gy 0 (cellsB Y1)).there gx 0 32) := ⟨World.rangeAt_setCells_apart HXc.out.1 _ _ _ (.inl hgy2), World.there_setCells HXc.out.2 _ _ _⟩
                          have HYe : Hid (DAt (wc.setCells gy 0 (cellsB Y1)) gy 0 Y1 ∧ (wc.setCells gy 0 (cellsB Y1)).there gy 0 32) := ⟨dat_stored HTc.out hY1, World.there_setCells HTc.out _ _ _⟩
                          have HBe : Hid (BB (wc.setCells gy 0 (cellsB Y1))) := HBB.out.2.2.1 _ _ (HBB.out.1 _ _ HBb.out hbc)
                          clear hbc HXb HYb HBb hgxb hgyb HXc
                          go_wp2_with (refine wpList_store_mid (by rfl) 23 (.tmp 20) (.tmp 143) (by rfl) gy 0 (cellsB Y1).toArray (by rfl) (by rfl) (by rw [cellsB_size, hY1]; exact HTc.out) (by rw [cellsB_size, hY1]; exact Tryd.sizeDg) (all_oneCell_toArray (cellsB_one _)) ?_)
                          go_roundw
                          case rel => exact ⟨q + 1, by omega, by omega, by go_num, by rw [HE1.out]; exact HXe.out.1, HXe.out.2, by rw [HE2.out]; exact HYe.out.1, HYe.out.2, HNJ.out (fun h => h.1 HXY.out), HBe.out⟩
                          case measure => simp [intOf]; omega
                        · have hxd : (!decide (X = Y)) = true := by simp [hXY]
                          refine wpAnyH_take (i := 2) (v := .bool true) (by simp only [List.getElem?_toArray, List.getElem?_cons_zero, List.getElem?_cons_succ]; rfl) (by kernel_rfl) (by kernel_rfl) (by kernel_rfl) (fun _ _ _ h => h)
                            (yieldsIf_neqD (by rfl) _ _ rfl X Y hlX hlY rfl rfl true hxd) hHeld ?_
                          try simp only [Act.put, List.setIfInBounds_toArray, List.set_cons_zero, List.set_cons_succ]
                          clear hxd
                          refine wpAnyH_take (i := 3) (v := ?_) (by simp only [List.getElem?_toArray, List.getElem?_cons_zero, List.getElem?_cons_succ]; rfl) (by kernel_rfl) (by kernel_rfl) (by kernel_rfl) (fun _ _ _ h => h) (Or.inl ⟨by rfl, ?_⟩) hHeld ?_
                          rotate_left
                          · intro w hSw
                            obtain ⟨hSw0, hSw1⟩ := hSw
                            go_simp
                            try with_reducible rfl
                          try simp only [Act.put, List.setIfInBounds_toArray, List.set_cons_zero, List.set_cons_succ]
                          refine wpAnyH_take (i := 4) (v := .agg (cellsB X).toArray) (by simp only [List.getElem?_toArray, List.getElem?_cons_zero, List.getElem?_cons_succ]; rfl) (by kernel_rfl) (by kernel_rfl) (by kernel_rfl) (fun _ _ _ h => h)
                            (yieldsIf_load_mid (by rfl) _ _ rfl _ _ rfl _ _ (fun w hw => hw.1) Tryd.underlying23 rfl (by rw [cellsB_length, hlX]; exact Tryd.sizeDg)) hHeld ?_
                          try simp only [Act.put, List.setIfInBounds_toArray, List.set_cons_zero, List.set_cons_succ]
                          refine wpAnyH_take (i := 6) (v := .agg (cellsB Y).toArray) (by simp only [List.getElem?_toArray, List.getElem?_cons_zero, List.getElem?_cons_succ]; rfl) (by kernel_rfl) (by kernel_rfl) (by kernel_rfl) (fun _ _ _ h => h)
                            (yieldsIf_load_mid (by rfl) _ _ rfl _ _ rfl _ _ (fun w hw => hw.2) Tryd.underlying23 rfl (by rw [cellsB_length, hlY]; exact Tryd.sizeDg)) hHeld ?_
                          try simp only [Act.put, List.setIfInBounds_toArray, List.set_cons_zero, List.set_cons_succ]
                          refine wpAnyH_ready (rs := [5]) (by kernel_rfl) (by simp) ?_
                          refine AllReadyH.cons (by simp only [List.getElem?_toArray, List.getElem?_cons_zero, List.getElem?_cons_succ]; rfl) (fun K hK => ?_) AllReadyH.nil
                          rw [if_pos (by rfl)]
                          go_simp
                          refine (HWX.out wv).mono ?_
                          rintro e wf ⟨rfl, hbf⟩
                          have HBf : Hid (Below wr.heap.size wr wf) := HBd.out.trans (hbf.mono HBd.out.size)
                          clear hbf HBd
                          go_wp2_with fail
                          refine hK.out _ _ (HSx.out _ HBf.out) (fun hHeld => ?_)
                          clear hK K
                          try simp only [Act.put, List.setIfInBounds_toArray, List.set_cons_zero, List.set_cons_succ]
                          refine wpAnyH_ready (rs := [7]) (by kernel_rfl) (by simp) ?_
                          refine AllReadyH.cons (by simp only [List.getElem?_toArray, List.getElem?_cons_zero, List.getElem?_cons_succ]; rfl) (fun K hK => ?_) AllReadyH.nil
                          rw [if_pos (by rfl)]
                          go_simp
                          refine (HWY.out wf).mono ?_
                          rintro e wg ⟨rfl, hbg⟩
                          have HBg : Hid (Below wr.heap.size wr wg) := HBf.out.trans (hbg.mono HBf.out.size)
                          clear hbg HBf
                          go_wp2_with fail
                          refine hK.out _ _ (HSx.out _ HBg.out) (fun hHeld => ?_)
                          clear hK K
                          try simp only [Act.put, List.setIfInBounds_toArray, List.set_cons_zero, List.set_cons_succ]
                          by_cases hXY1 : X1 = Y1
                          · have hzd : decide (X1 = Y1) = true := decide_eq_true hXY1
                            refine wpAnyH_take (i := 8) (v := .bool true) (by simp only [List.getElem?_toArray, List.getElem?_cons_zero, List.getElem?_cons_succ]; rfl) (by kernel_rfl) (by kernel_rfl) (by kernel_rfl) (fun _ _ _ h => h)
                              (yieldsIf_eqD (by rfl) _ _ rfl X1 Y1 hX1 hY1 rfl rfl true hzd) hHeld ?_
                            try simp only [Act.put, List.setIfInBounds_toArray, List.set_cons_zero, List.set_cons_succ]
                            refine wpAnyH_take (i := 9) (v := ?_) (by simp only [List.getElem?_toArray, List.getElem?_cons_zero, List.getElem?_cons_succ]; rfl) (by kernel_rfl) (by kernel_rfl) (by kernel_rfl) (fun _ _ _ h => h) (Or.inl ⟨by rfl, ?_⟩) hHeld ?_
                            rotate_left
                            · intro w hSw
                              obtain ⟨hSw0, hSw1⟩ := hSw
                              go_simp
                              try with_reducible rfl
                            try simp only [Act.put, List.setIfInBounds_toArray, List.set_cons_zero, List.set_cons_succ]
                            refine wpAnyH_done (by kernel_rfl) (NoPanic.normal ?_) _
                            clear hHeld
                            go_wp2_with fail
                            go_ret
                            exact ⟨rfl, (HV.out _ (HBB.out.2.2.2 _ (HBB.out.1 _ _ HB.out HBg.out)).2.2).2.2.2.2⟩
                          · have hzd : decide (X1 = Y1) = false := decide_eq_false hXY1
                            refine wpAnyH_take (i := 8) (v := .bool false) (by simp only [List.getElem?_toArray, List.getElem?_cons_zero, List.getElem?_cons_succ]; rfl) (by kernel_rfl) (by kernel_rfl) (by kernel_rfl) (fun _ _ _ h => h)
                              (yieldsIf_eqD (by rfl) _ _ rfl X1 Y1 hX1 hY1 rfl rfl false hzd) hHeld ?_
                            try simp only [Act.put, List.setIfInBounds_toArray, List.set_cons_zero, List.set_cons_succ]
                            refine wpAnyH_take (i := 9) (v := ?_) (by simp only [List.getElem?_toArray, List.getElem?_cons_zero, List.getElem?_cons_succ]; rfl) (by kernel_rfl) (by kernel_rfl) (by kernel_rfl) (fun _ _ _ h => h) (Or.inl ⟨by rfl, ?_⟩) hHeld ?_
                            rotate_left
                            · intro w hSw
                              obtain ⟨hSw0, hSw1⟩ := hSw
                              go_simp
                              try with_reducible rfl
                            try simp only [Act.put, List.setIfInBounds_toArray, List.set_cons_zero, List.set_cons_succ]
                            refine wpAnyH_done (by kernel_rfl) (NoPanic.normal ?_) _
                            clear hHeld
                            go_wp2_with (refine wpList_load_mid (by rfl) 23 (.tmp 19) (by rfl) gx 0 (by rfl) (cellsB X) _ (HSx.out _ HBg.out).1 Tryd.underlying23 (by rfl) (by rw [cellsB_length, hlX]; exact Tryd.sizeDg) ?_)
                            refine (HWX.out wg).mono ?_
                            rintro e wa ⟨rfl, hba⟩
                            have HBa : Hid (Below wr.heap.size wr wa) := HBg.out.trans (hba.mono HBg.out.size)
                            have HTa : Hid (wa.there gx 0 32 ∧ wa.there gy 0 32) := ⟨there_below HTx.out.1 HBa.out hgxl, there_below HTx.out.2 HBa.out hgyl⟩
                            have HXb : Hid (DAt (wa.setCells gx 0 (cellsB X1)) gx 0 X1 ∧ (wa.setCells gx 0 (cellsB X1)).there gx 0 32) := ⟨dat_stored HTa.out.1 hX1, World.there_setCells HTa.out.1 _ _ _⟩
                            have HYb : Hid (DAt (wa.setCells gx 0 (cellsB X1)) gy 0 Y ∧ (wa.setCells gx 0 (cellsB X1)).there gy 0 32) := ⟨World.rangeAt_setCells_apart (HSx.out _ HBa.out).2 _ _ _ (.inl (Ne.symm hgy2)), World.there_setCells HTa.out.2 _ _ _⟩
                            have HBb : Hid (BB (wa.setCells gx 0 (cellsB X1))) := HBB.out.2.1 _ _ (HBB.out.1 _ _ HB.out HBa.out)
                            clear hba
                            obtain ⟨wb, hwb⟩ : ∃ wb, wa.setCells gx 0 (cellsB X1) = wb := ⟨_, rfl⟩
                            rw [hwb] at HXb HYb HBb
                            go_wp2_with (first
                              | (refine wpList_store_mid (by rfl) 23 (.tmp 19) (.tmp 141) (by rfl) gx 0 (cellsB X1).toArray (by rfl) (by rfl) (by rw [cellsB_size, hX1]; exact HTa.out.1) (by rw [cellsB_size, hX1]; exact Tryd.sizeDg) (all_oneCell_toArray (cellsB_one _)) ?_; rw [show (cellsB X1).toArray.toList = cellsB X1 from rfl, hwb])
                              | (refine wpList_load_mid (by rfl) 23 (.tmp 20) (by rfl) gy 0 (by rfl) (cellsB Y) _ HYb.out.1 Tryd.underlying23 (by rfl) (by rw [cellsB_length, hlY]; exact Tryd.sizeDg) ?_))
                            clear hwb HTa HBa
                            refine (HWY.out wb).mono ?_
                            rintro e wc ⟨rfl, hbc⟩
                            have hgxb : gx < wb.heap.size := there_block HXb.out.2 (by omega)
                            have hgyb : gy < wb.heap.size := there_block HYb.out.2 (by omega)
                            have HXc : Hid (DAt wc gx 0 X1 ∧ wc.there gx 0 32) := ⟨HXb.out.1.below hbc hgxb, there_below HXb.out.2 hbc hgxb⟩
                            have HTc : Hid (wc.there gy 0 32) := there_below HYb.out.2 hbc hgyb
                            have HXe : Hid (DAt (wc.setCells gy 0 (cellsB Y1)) gx 0 X1 ∧ (wc.setCells gy 0 (cellsB Y1)).there gx 0 32) := ⟨World.rangeAt_setCells_apart HXc.out.1 _ _ _ (.inl hgy2), World.there_setCells HXc.out.2 _ _ _⟩
                            have HYe : Hid (DAt (wc.setCells gy 0 (cellsB Y1)) gy 0 Y1 ∧ (wc.setCells gy 0 (cellsB Y1)).there gy 0 32) := ⟨dat_stored HTc.out hY1, World.there_setCells HTc.out _ _ _⟩
                            have HBe : Hid (BB (wc.setCells gy 0 (cellsB Y1))) := HBB.out.2.2.1 _ _ (HBB.out.1 _ _ HBb.out hbc)
                            clear hbc HXb HYb HBb hgxb hgyb HXc
                            go_wp2_with (refine wpList_store_mid (by rfl) 23 (.tmp 20) (.tmp 143) (by rfl) gy 0 (cellsB Y1).toArray (by rfl) (by rfl) (by rw [cellsB_size, hY1]; exact HTc.out) (by rw [cellsB_size, hY1]; exact Tryd.sizeDg) (all_oneCell_toArray (cellsB_one _)) ?_)
                            go_roundw
                            case rel => exact ⟨q + 1, by omega, by omega, by go_num, by rw [HE1.out]; exact HXe.out.1, HXe.out.2, by rw [HE2.out]; exact HYe.out.1, HYe.out.2, HNJ.out (fun h => hXY1 h.2), HBe.out⟩
                            case measure => simp [intOf]; omega
                      · have HO := HBB.out.2.2.2 _ hB
                        have HO : Hid (OwnD wr w13.heap.size u16 (wotsEndsL seed k) ∧ OwnD wr w13.heap.size u17 (wotsToldL other sig k) ∧ Below w13.heap.size w13 wr) := HO
                        obtain rfl : q = 15 := by omega
                        have hs4 := HO.out.2.2.size
                        rw [HWD.out] at hX hlX
                        have HX : Hid (DAt wr gx 0 (walkL (wotsSecL seed k) 15)) := hX
                        have HY : Hid (DAt wr gy 0 (walkL Y0 (15 - d))) := hY
                        have HNJ : Hid (∀ i, i < k + 1 → ∀ t, t < 15 - digL other i → ¬ (walkL (walkL (wotsSecL seed i) (digL other i)) t ≠ walkL (sig.getD i []) t ∧ walkL (walkL (wotsSecL seed i) (digL other i)) (t + 1) = walkL (sig.getD i []) (t + 1))) := HNX.out HNI.out
                        clear hX hY hXt hYt hB HNI HNX HWD HB hgxl
                        generalize walkL (wotsSecL seed k) 15 = E at *
                        generalize walkL Y0 (15 - d) = Y at *
                        go_wp2_with (first
                          | (refine wpList_load_mid (by rfl) 23 (.tmp 19) (by rfl) gx 0 (by rfl) (cellsB E) _ HX.out Tryd.underlying23 (by rfl) (by rw [cellsB_length, hlX]; exact Tryd.sizeDg) ?_)
                          | (refine wpList_build1 (by rfl) (.tmp 145) 24 (by rfl) 23 (.agg zeros32) iD E hlX (by rfl) Tryd.underlying24 hiD hzD0 (by rfl) hzD1 ?_)
                          | (at_builtin; refine wpList_append_digests (by rfl) (.tmp 144) (.tmp 146) (by rfl) w13.heap.size u16 (wotsEndsL seed k) (by rfl) (OwnD.alloc HO.out.1 _) ⟨wr.heap.size, 0, none⟩ 1 1 [E] (by rfl) (DRow.lit1 wr E _ hlX) (by omega) (by rw [HLN.out]; omega) (by simp; omega) ?_; intro v5 w5 ho5 hg5 hat5; have HO5 : Hid (OwnD w5 w13.heap.size v5 (wotsEndsL seed (k + 1))) := (by rw [← HSN.out]; exact ho5); have HB5 : Hid (Below w13.heap.size w13 w5) := OwnD.grown (OwnD.alloc HO.out.1 _) (Below.alloc HO.out.2.2 hs4 _) hg5 (Nat.le_refl _) (by simp; omega); have HP5 : Hid (OwnD w5 w13.heap.size u17 (wotsToldL other sig k)) := OwnD.sep (OwnD.alloc HO.out.2.1 _) hg5 HSP.out; have HSP5 : Hid (Sep v5 u17) := Sep.nextD HSP.out hat5 (OwnD.alloc HO.out.2.1 _); have HY5 : Hid (DAt w5 gy 0 Y) := dat_grown (DAt.below HY.out ((Below.refl wr.heap.size wr).alloc (Nat.le_refl _) _) hgyl) hg5 (by simp; omega) HOY.out; have hs5 := HB5.out.size; clear ho5 hg5 hat5)
                          | (refine wpList_load_mid (by rfl) 23 (.tmp 20) (by rfl) gy 0 (by rfl) (cellsB Y) _ HY5.out Tryd.underlying23 (by rfl) (by rw [cellsB_length, hlY]; exact Tryd.sizeDg) ?_)
                          | (refine wpList_build1 (by rfl) (.tmp 149) 24 (by rfl) 23 (.agg zeros32) iD Y hlY (by rfl) Tryd.underlying24 hiD hzD0 (by rfl) hzD1 ?_)
                          | (at_builtin; refine wpList_append_digests (by rfl) (.tmp 148) (.tmp 150) (by rfl) w13.heap.size u17 (wotsToldL other sig k) (by rfl) (OwnD.alloc HP5.out _) ⟨w5.heap.size, 0, none⟩ 1 1 [Y] (by rfl) (DRow.lit1 w5 Y _ hlY) (by omega) (by rw [HLT.out]; omega) (by simp; omega) ?_; intro v8 w8b ho8 hg8 hat8))
                        have B8 := OwnD.grown (OwnD.alloc HP5.out _) (Below.alloc HB5.out hs5 _) hg8 (Nat.le_refl _) (by simp; omega)
                        have O8 := OwnD.sep (OwnD.alloc HO5.out _) hg8 HSP5.out.symm
                        have S8 := (Sep.nextD HSP5.out.symm hat8 (OwnD.alloc HO5.out _)).symm
                        rw [HTN.out] at ho8
                        clear hg8 HO5 HP5 HB5 HTN HLT hat8
                        go_roundw
                        case rel =>
                          (repeat apply Exists.intro)
                          refine ⟨⟨k + 1, ?_, ?_, O8, ho8, S8, HNJ.out, B8⟩, rfl⟩
                          · omega
                          · go_num
                        case measure => simp [intOf]; omega
                · obtain rfl : k = 67 := by omega
                  obtain ⟨a8, c8, rfl, R5, hc8⟩ := OwnD.form hOa
                  obtain ⟨a9, c9, rfl, R6, hc9⟩ := OwnD.form hOb
                  rw [wotsEndsL_len] at R5 hc8 ⊢
                  rw [wotsToldL_len] at R6 hc9 ⊢
                  have HR5 : Hid (∀ wx, Below wr.heap.size wr wx → DRow wx a8 67 (wotsEndsL seed 67) ∧ DRow wx a9 67 (wotsToldL other sig 67)) := fun wx hx => ⟨R5.below hx, R6.below hx⟩
                  have HB : Hid (Below w13.heap.size w13 wr) := hB
                  have HE1 : Hid (shaL (7 :: (wotsEndsL seed 67).flatten) = Qd) := HPD.out
                  have HE2 : Hid (shaL (7 :: (wotsToldL other sig 67).flatten) = Qd) := HQD.out
                  have HNE : Hid (wotsEndsL seed 67 ≠ wotsToldL other sig 67) := HNF.out HN2.out
                  clear hOa hOb hsep hB R5 R6 hc8 hc9 HPD HQD HN2 HNF
                  generalize wotsEndsL seed 67 = La at *
                  generalize wotsToldL other sig 67 = Lb at *
                  have hne : decide (La = Lb) = false := decide_eq_false HNE.out
                  have H0 : Hid (Below wr.heap.size wr wr) := Below.refl _ _
                  go_wp2_with fail
                  refine (sdigests_any a8 a9 67 67 c8 c9 La Lb wr (HR5.out _ H0.out).1 (HR5.out _ H0.out).2 (by omega)).mono ?_
                  rintro e w14 ⟨rfl, hb14⟩
                  rw [hne]
                  have HB14 : Hid (Below wr.heap.size wr w14) := hb14
                  clear hb14 H0 hne
                  go_wp2_with fail
                  refine (rof_any 7 a8 67 c8 La w14 (HR5.out _ HB14.out).1 (by omega)).mono ?_
                  rintro e w15 ⟨rfl, hb15⟩
                  rw [HE1.out]
                  have HB15 : Hid (Below wr.heap.size wr w15) := HB14.out.trans (hb15.mono HB14.out.size)
                  clear hb15 HB14
                  go_wp2_with fail
                  refine (rof_any 7 a9 67 c9 Lb w15 (HR5.out _ HB15.out).2 (by omega)).mono ?_
                  rintro e w16 ⟨rfl, hb16⟩
                  rw [HE2.out]
                  have HB16 : Hid (Below wr.heap.size wr w16) := HB15.out.trans (hb16.mono HB15.out.size)
                  clear hb16 HB15
                  go_wp2_with (refine wpList_eqD (.tmp 159) (.tmp 161) (by rfl) (by rfl) Qd Qd lQ lQ (by rfl) (by rfl) true (by simp) ?_)
                  go_ret
                  exact ⟨rfl, (HV.out _ (HB.out.trans (HB16.out.mono HB.out.size))).2.2.2.2⟩
      · have hQP2 : (!decide (Qd = P)) = true := by rw [decide_eq_false hQP]; rfl
        go_wp2_with (first
          | (refine wpList_allocE (by rfl) 23 (by rfl) (cellsB zD).toArray Tryd.zeroDg w8.heap.size rfl w9 hw9 ?_)
          | (refine wpList_store_mid (by rfl) 23 (.tmp 11) (.tmp 43) (by rfl) w8.heap.size 0 (cellsB Qd).toArray (by rfl) (by rfl) (by rw [cellsB_size, lQ]; exact HT9.out) (by rw [cellsB_size, lQ]; exact Tryd.sizeDg) (all_oneCell_toArray (cellsB_one _)) ?_; rw [show (cellsB Qd).toArray.toList = cellsB Qd from rfl, hw10])
          | (refine wpList_load_midG (by rfl) 23 (.tmp 11) (by rfl) w8.heap.size 0 (by rfl) (cellsB Qd) _ HX10.out Tryd.underlying23 (by rfl) (by rw [cellsB_length, lQ]; exact Tryd.sizeDg) ?_)
          | (refine wpList_load_midG (by rfl) 23 (.tmp 9) (by rfl) g 0 (by rfl) (cellsB P) _ (HW.out _ HB10.out).1 Tryd.underlying23 (by rfl) (by rw [cellsB_length, hPl]; exact Tryd.sizeDg) ?_)
          | (refine wpList_neqD (.tmp 48) (.tmp 49) (by rfl) (by rfl) Qd P lQ hPl (by rfl) (by rfl) true hQP2 ?_))
        go_ret
        exact ⟨rfl, (HW.out _ HB10.out).2.2.2.2.2.2⟩
    · go_wp2_with (refine wpList_load_mid (by rfl) 23 (.tmp 6) (by rfl) (w.heap.size + 2) 0 (by rfl) (cellsB other) _ (HW.out _ H0.out).2.2.2.1 Tryd.underlying23 (by rfl) (by rw [cellsB_length, ho]; exact Tryd.sizeDg) ?_)
      refine (wwots_short other sa n c w7 (HW.out _ H0.out).2.2.2.2.1 ho h67 (by omega)).mono ?_
      rintro e w8 ⟨rfl, hb8⟩
      obtain ⟨w9, hw9⟩ : ∃ w9, w8.alloc (.cells (cellsB zD).toArray 23) = w9 := ⟨_, rfl⟩
      have HT9 : Hid (w9.there w8.heap.size 0 32) := by rw [← hw9]; exact alloc_thereAt _ _ _ 32 _ rfl zD_size.symm
      have hb9 : Below w8.heap.size w8 w9 := by rw [← hw9]; exact (Below.refl _ _).alloc (Nat.le_refl _) _
      have HB10 : Hid (Below w7.heap.size w7 (w9.setCells w8.heap.size 0 (cellsB zD))) := below_setCells _ hb8.size _ _ _ (hb8.trans (hb9.mono hb8.size))
      clear hb8 hb9 H0
      have HLZ : Hid (zD.length = 32) := lz
      clear lz
      generalize hzz : zD = zz at HT9 HB10 HLZ ⊢
      rw [hzz] at hw9
      have HZZ : Hid ((Tryd.prog.info? 23).map (·.zero) = some (some (.agg (cellsB zz).toArray))) := by rw [← hzz]; exact Tryd.zeroDg
      clear hzz
      go_wp2_with (first
        | (refine wpList_allocE (by rfl) 23 (by rfl) (cellsB zz).toArray HZZ.out w8.heap.size rfl w9 hw9 ?_)
        | (refine wpList_store_mid (by rfl) 23 (.tmp 11) (.tmp 43) (by rfl) w8.heap.size 0 (cellsB zz).toArray (by rfl) (by rfl) (by rw [cellsB_size, HLZ.out]; exact HT9.out) (by rw [cellsB_size, HLZ.out]; exact Tryd.sizeDg) (all_oneCell_toArray (cellsB_one _)) ?_))
      go_ret
      exact ⟨rfl, (HW.out _ HB10.out).2.2.2.2.2.2⟩
end Go.Proofs.YtdplajhebapkgaaDoor
