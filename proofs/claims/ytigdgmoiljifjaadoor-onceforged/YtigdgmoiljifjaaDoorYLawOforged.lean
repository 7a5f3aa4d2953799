/- The law OnceForged: whoever signs another digest shows a secret that was not shown, or two texts with one digest. -/
import Derived.Test.YtigdgmoiljifjaaDoorJ16
import Derived.Test.YtigdgmoiljifjaaDoorJ12
import Derived.Test.YtigdgmoiljifjaaDoorJ11
import Derived.Deep.RegionHeld3
namespace Go.Proofs.YtigdgmoiljifjaaDoor
open Go.RowKit
set_option linter.unusedVariables false
set_option linter.unusedSimpArgs false

theorem oPub_len (seed : List UInt8) : (oncePubL seed).length = 32 := shaL_length _
theorem oKey_len (m : List UInt8) (sig : List (List UInt8)) : (onceKeyL m sig).length = 32 := shaL_length _
/-- Which operations of 'p, err := Recover(m, Sign(seed, m))' have come up. -/
def recF (k : Nat) (b : Bool) : Array Bool := #[true, true, true, decide (1 ≤ k), decide (2 ≤ k), decide (3 ≤ k), decide (4 ≤ k), decide (5 ≤ k), b, false, false]
/-- A value that is there from the n-th step on. -/
def fromF (n : Nat) (v : Value) (k : Nat) : Value := if n ≤ k then v else undef
def ptrF : Option Nat → Value
  | none => undef
  | some g => .pointer (some ⟨g, 0, none⟩)
theorem OwnD.sep {w w1 : World} {B : Nat} {v v' : Value} {l' : List (List UInt8)} (h' : OwnD w B v' l') (hg : w.grownBy w1 v.ownBlock) (hs : Sep v v') : OwnD w1 B v' l' := by
  refine ⟨h'.1, ?_⟩
  have h := h'.2
  rcases h.2 with ⟨h1, h0⟩ | ⟨g, cap, cur, e1, e2, e3, e4⟩
  · exact ⟨h.1, .inl ⟨h1, h0⟩⟩
  · have hgl : g < w.heap.size := (World.ownsRow.lt h g (by rw [e1]; rfl)).2
    refine ⟨h.1, .inr ⟨g, cap, cur, e1, e2, (hg.block g hgl ?_).trans e3, e4⟩⟩
    intro e
    have hv : v'.ownBlock = some g := by rw [e1]; rfl
    rcases hs with h | h | h
    · rw [h] at e; cases e
    · rw [h] at hv; cases hv
    · exact h (by rw [hv, e])
theorem Sep.nextD {w : World} {B : Nat} {v v1 v' : Value} {l' : List (List UInt8)} (hs : Sep v v') (hat : v1.ownBlock = v.ownBlock ∨ v1.ownBlock = some w.heap.size) (h' : OwnD w B v' l') : Sep v1 v' := by
  rcases hat with h | h
  · unfold Sep at *; rw [h]; exact hs
  · cases hv : v'.ownBlock with
    | none => exact .inr (.inl hv)
    | some g =>
      have := (World.ownsRow.lt h'.2 g hv).2
      refine .inr (.inr ?_)
      rw [h, hv]
      intro e
      have := Option.some.inj e
      omega

set_option maxRecDepth 100000 in
set_option maxHeartbeats 4000000 in
theorem oforged_walk (seed m other : List UInt8) (sa : Option Addr) (n c : Nat) (sig : List (List UInt8)) (w : World) (G : Env w) (hs : seed.length = 32) (hm : m.length = 32) (ho : other.length = 32) (R : DRow w sa n sig) (hc : n ≤ c) (hn : 32 * n ≤ 140737488351232) :
    Calls Tryd.prog 5 #[digestV seed, digestV m, digestV other, .slice sa n c] w fun e w' => e = .returned (.bool true) ∧ Below w.heap.size w w' := by
  obtain ⟨w3, hw3⟩ : ∃ w3, ((w.alloc (.cells (cellsB seed).toArray 23)).alloc (.cells (cellsB m).toArray 23)).alloc (.cells (cellsB other).toArray 23) = w3 := ⟨_, rfl⟩
  have hs1 : (w.alloc (.cells (cellsB seed).toArray 23)).heap.size = w.heap.size + 1 := by simp
  have hs2 : ((w.alloc (.cells (cellsB seed).toArray 23)).alloc (.cells (cellsB m).toArray 23)).heap.size = w.heap.size + 2 := by simp
  have HS3 : Hid (w3.heap.size = w.heap.size + 3) := by unfold Hid; rw [← hw3]; simp
  have HB3 : Hid (Below w.heap.size w w3) := by rw [← hw3]; exact (((Below.refl _ _).alloc (Nat.le_refl _) _).alloc (by simp) _).alloc (by simp; omega) _
  have HK : Hid (∀ wx, Below w3.heap.size w3 wx → DAt wx w.heap.size 0 seed ∧ DAt wx (w.heap.size + 1) 0 m ∧ DAt wx (w.heap.size + 2) 0 other ∧ Env wx ∧ DRow wx sa n sig ∧ Below w.heap.size w wx) := fun wx hx => by
    have s3 := HS3.out
    have b : Below w.heap.size w wx := HB3.out.trans (hx.mono (by omega))
    refine ⟨?_, ?_, ?_, G.below b, R.below b, b⟩
    · refine DAt.below ?_ hx (by omega)
      rw [← hw3]; exact World.rangeAt_alloc (World.rangeAt_alloc (box_dat w seed _) _) _
    · refine DAt.below ?_ hx (by omega)
      rw [← hw3]; exact World.rangeAt_alloc (box_rangeAt _ _ _ _ hs1) _
    · refine DAt.below ?_ hx (by omega)
      rw [← hw3]; exact box_rangeAt _ _ _ _ hs2
  have HS32 : Hid (∀ i, i < n → (sig.getD i []).length = 32) := R.len
  clear G R
  go_enter Tryd.func5, Tryd.ntmps5
  go_wp2_with fail
  try rw [hw3]
  clear hw3 hs1 hs2 HB3
  refine wp_region_noPanic ?_
  refine wp_region_held_drew (S := fun w' => w'.rangeAt w.heap.size 0 (cellsB seed) ∧ w'.rangeAt (w.heap.size + 1) 0 (cellsB m)) (by kernel_rfl) ⟨(HK.out _ (below_drewN w3 1)).1, (HK.out _ (below_drewN w3 1)).2.1⟩ (fun hHeld => ?_)
  try simp only [Act.put, List.setIfInBounds_toArray, List.set_cons_zero, List.set_cons_succ]
  have HBd : Hid (Below w3.heap.size w3 w3.drew) := below_drewN w3 1
  generalize w3.drew = wd at *
  refine wpAnyH_take (i := 0) (v := .agg (cellsB m).toArray) (by simp only [List.getElem?_toArray, List.getElem?_cons_zero, List.getElem?_cons_succ]; rfl) (by kernel_rfl) (by kernel_rfl) (by kernel_rfl) (fun _ _ _ h => h)
    (yieldsIf_load_mid (by rfl) _ _ rfl _ _ rfl _ _ (fun w hw => hw.2) Tryd.underlying23 rfl (by rw [cellsB_length, hm]; exact Tryd.sizeDg)) hHeld ?_
  try simp only [Act.put, List.setIfInBounds_toArray, List.set_cons_zero, List.set_cons_succ]
  refine wpAnyH_take (i := 1) (v := .agg (cellsB seed).toArray) (by simp only [List.getElem?_toArray, List.getElem?_cons_zero, List.getElem?_cons_succ]; rfl) (by kernel_rfl) (by kernel_rfl) (by kernel_rfl) (fun _ _ _ h => h)
    (yieldsIf_load_mid (by rfl) _ _ rfl _ _ rfl _ _ (fun w hw => hw.1) Tryd.underlying23 rfl (by rw [cellsB_length, hs]; exact Tryd.sizeDg)) hHeld ?_
  try simp only [Act.put, List.setIfInBounds_toArray, List.set_cons_zero, List.set_cons_succ]
  refine wpAnyH_take (i := 2) (v := .agg (cellsB m).toArray) (by simp only [List.getElem?_toArray, List.getElem?_cons_zero, List.getElem?_cons_succ]; rfl) (by kernel_rfl) (by kernel_rfl) (by kernel_rfl) (fun _ _ _ h => h)
    (yieldsIf_load_mid (by rfl) _ _ rfl _ _ rfl _ _ (fun w hw => hw.2) Tryd.underlying23 rfl (by rw [cellsB_length, hm]; exact Tryd.sizeDg)) hHeld ?_
  try simp only [Act.put, List.setIfInBounds_toArray, List.set_cons_zero, List.set_cons_succ]
  have HKS : Hid (∀ wx, Below wd.heap.size wd wx → (wx.rangeAt w.heap.size 0 (cellsB seed) ∧ wx.rangeAt (w.heap.size + 1) 0 (cellsB m)) ∧ Env wx) := fun wx hx => by
    have h := HK.out _ (HBd.out.trans (hx.mono HBd.out.size))
    exact ⟨⟨h.1, h.2.1⟩, h.2.2.2.1⟩
  refine news1_any 5 2 (fun k p a wx => ∃ sl, a = ({ tmps := #[digestV seed, digestV m, digestV other, .slice sa n c, .pointer (some ⟨w.heap.size, 0, none⟩), .pointer (some ⟨w.heap.size + 1, 0, none⟩), .pointer (some ⟨w.heap.size + 2, 0, none⟩), undef, .bool false, ptrF p, undef, undef, undef, undef, undef, undef, undef, undef, fromF 3 (.tuple #[digestV (oncePubL seed), .nilIface]) k, .agg (cellsB m).toArray, .agg (cellsB seed).toArray, .agg (cellsB m).toArray, fromF 1 sl k, fromF 2 (.tuple #[digestV (oncePubL seed), .nilIface]) k, fromF 4 (digestV (oncePubL seed)) k, fromF 5 .nilIface k, undef, undef, undef, undef, undef, undef, undef, undef, undef, undef, undef, undef, undef, undef, undef, undef, undef, undef, undef, undef, undef, undef, undef, undef, undef, undef, undef, undef, undef, undef, undef, undef, undef, undef, undef, undef, undef, undef, undef, undef, undef, undef, undef, undef, undef, undef, undef, undef, undef, undef, undef, undef, undef, undef, undef, undef, undef, undef, undef, undef, undef, undef, undef, undef, undef, undef, undef, undef, undef, undef, undef, undef, undef, undef, undef, undef, undef, undef, undef, undef, undef, undef, undef, undef, undef, undef, undef, undef, undef, undef, undef, undef, undef, undef, undef, undef, undef, undef, undef, undef, undef, undef, undef, undef, undef, undef, undef, undef, undef, undef, undef, undef, undef, undef, undef, undef, undef, undef], defers := [] } : Act) ∧ Below wd.heap.size wd wx ∧ (1 ≤ k → ∃ a3 c3, sl = .slice a3 512 c3 ∧ DRow wx a3 512 (onceSigL seed m 256)) ∧ (∀ g, p = some g → wd.heap.size ≤ g ∧ g < wx.heap.size ∧ wx.there g 0 32)) recF ?step ?last ?fin 6 0 none _ _ rfl (by omega) ⟨undef, rfl, Below.refl _ _, (fun h => by omega), (fun g h => by cases h)⟩
  case step =>
    intro k p a wx fuel hk hSt next al
    obtain ⟨sl, rfl, hb, h1, hp⟩ := hSt
    have hk5 : k = 0 ∨ k = 1 ∨ k = 2 ∨ k = 3 ∨ k = 4 := by omega
    rcases hk5 with rfl | rfl | rfl | rfl | rfl
    · cases p with
      | none =>
        refine wpAnyH_ready (rs := [3, 8]) (by kernel_rfl) (by simp) ?_
        refine AllReadyH.cons (by simp only [List.getElem?_toArray, List.getElem?_cons_zero, List.getElem?_cons_succ]; rfl) (fun K hK => ?_) (AllReadyH.cons (by simp only [List.getElem?_toArray, List.getElem?_cons_zero, List.getElem?_cons_succ]; rfl) (fun K hK => ?_) AllReadyH.nil)
        · simp only [fromF, Nat.reduceLeDiff, ↓reduceIte, Nat.reduceAdd, Nat.zero_add]
          rw [if_pos (by rfl)]
          go_simp
          refine (wonce_sign seed m wx (HKS.out _ hb).2 hs hm).mono ?_
          rintro e w' ⟨⟨a3, c3, rfl, hc3, r3⟩, hb3⟩
          have hb' : Below wd.heap.size wd w' := hb.trans (hb3.mono hb.size)
          go_wp2_with fail
          refine hK.out _ _ (HKS.out _ hb').1 (fun hHeld => ?_)
          exact next _ _ ⟨.slice a3 512 c3, rfl, hb', fun _ => ⟨a3, c3, rfl, r3⟩, fun g hg => ⟨(hp g hg).1, Nat.lt_of_lt_of_le (hp g hg).2.1 hb3.size, there_below (hp g hg).2.2 hb3 (hp g hg).2.1⟩⟩
        ·
          rw [if_pos (by rfl)]
          refine wp_allocE 23 (by rfl) (cellsB zD).toArray Tryd.zeroDg ?_
          have hb8 : Below wx.heap.size wx (wx.alloc (.cells (cellsB zD).toArray 23)) := (Below.refl _ _).alloc (Nat.le_refl _) _
          have hb' : Below wd.heap.size wd (wx.alloc (.cells (cellsB zD).toArray 23)) := hb.trans (hb8.mono hb.size)
          refine hK.out _ _ (HKS.out _ hb').1 (fun hHeld => ?_)
          exact al wx.heap.size _ _ rfl ⟨sl, rfl, hb', (fun h => by omega), fun g hg => by cases hg; exact ⟨hb.size, by simp, alloc_thereAt _ _ _ 32 _ rfl zD_size.symm⟩⟩
      | some g =>
        refine wpAnyH_ready (rs := [3]) (by kernel_rfl) (by simp) ?_
        refine AllReadyH.cons (by simp only [List.getElem?_toArray, List.getElem?_cons_zero, List.getElem?_cons_succ]; rfl) (fun K hK => ?_) AllReadyH.nil
        simp only [fromF, Nat.reduceLeDiff, ↓reduceIte, Nat.reduceAdd, Nat.zero_add]
        rw [if_pos (by rfl)]
        go_simp
        refine (wonce_sign seed m wx (HKS.out _ hb).2 hs hm).mono ?_
        rintro e w' ⟨⟨a3, c3, rfl, hc3, r3⟩, hb3⟩
        have hb' : Below wd.heap.size wd w' := hb.trans (hb3.mono hb.size)
        go_wp2_with fail
        refine hK.out _ _ (HKS.out _ hb').1 (fun hHeld => ?_)
        exact next _ _ ⟨.slice a3 512 c3, rfl, hb', fun _ => ⟨a3, c3, rfl, r3⟩, fun g hg => ⟨(hp g hg).1, Nat.lt_of_lt_of_le (hp g hg).2.1 hb3.size, there_below (hp g hg).2.2 hb3 (hp g hg).2.1⟩⟩
    · obtain ⟨a3, c3, rfl, r3⟩ := h1 (by omega)
      cases p with
      | none =>
        refine wpAnyH_ready (rs := [4, 8]) (by kernel_rfl) (by simp) ?_
        refine AllReadyH.cons (by simp only [List.getElem?_toArray, List.getElem?_cons_zero, List.getElem?_cons_succ]; rfl) (fun K hK => ?_) (AllReadyH.cons (by simp only [List.getElem?_toArray, List.getElem?_cons_zero, List.getElem?_cons_succ]; rfl) (fun K hK => ?_) AllReadyH.nil)
        · simp only [fromF, Nat.reduceLeDiff, ↓reduceIte, Nat.reduceAdd, Nat.zero_add]
          rw [if_pos (by rfl)]
          go_simp
          refine (wonce_recover m a3 c3 (onceSigL seed m 256) wx (HKS.out _ hb).2 hm r3).mono ?_
          rintro e w' ⟨rfl, hb3⟩
          rw [onceKey_signed]
          have hb' : Below wd.heap.size wd w' := hb.trans (hb3.mono hb.size)
          go_wp2_with fail
          refine hK.out _ _ (HKS.out _ hb').1 (fun hHeld => ?_)
          exact next _ _ ⟨.slice a3 512 c3, rfl, hb', fun _ => ⟨a3, c3, rfl, r3.below hb3⟩, fun g hg => ⟨(hp g hg).1, Nat.lt_of_lt_of_le (hp g hg).2.1 hb3.size, there_below (hp g hg).2.2 hb3 (hp g hg).2.1⟩⟩
        ·
          rw [if_pos (by rfl)]
          refine wp_allocE 23 (by rfl) (cellsB zD).toArray Tryd.zeroDg ?_
          have hb8 : Below wx.heap.size wx (wx.alloc (.cells (cellsB zD).toArray 23)) := (Below.refl _ _).alloc (Nat.le_refl _) _
          have hb' : Below wd.heap.size wd (wx.alloc (.cells (cellsB zD).toArray 23)) := hb.trans (hb8.mono hb.size)
          refine hK.out _ _ (HKS.out _ hb').1 (fun hHeld => ?_)
          exact al wx.heap.size _ _ rfl ⟨.slice a3 512 c3, rfl, hb', (fun _ => ⟨a3, c3, rfl, r3.below hb8⟩), fun g hg => by cases hg; exact ⟨hb.size, by simp, alloc_thereAt _ _ _ 32 _ rfl zD_size.symm⟩⟩
      | some g =>
        refine wpAnyH_ready (rs := [4]) (by kernel_rfl) (by simp) ?_
        refine AllReadyH.cons (by simp only [List.getElem?_toArray, List.getElem?_cons_zero, List.getElem?_cons_succ]; rfl) (fun K hK => ?_) AllReadyH.nil
        simp only [fromF, Nat.reduceLeDiff, ↓reduceIte, Nat.reduceAdd, Nat.zero_add]
        rw [if_pos (by rfl)]
        go_simp
        refine (wonce_recover m a3 c3 (onceSigL seed m 256) wx (HKS.out _ hb).2 hm r3).mono ?_
        rintro e w' ⟨rfl, hb3⟩
        rw [onceKey_signed]
        have hb' : Below wd.heap.size wd w' := hb.trans (hb3.mono hb.size)
        go_wp2_with fail
        refine hK.out _ _ (HKS.out _ hb').1 (fun hHeld => ?_)
        exact next _ _ ⟨.slice a3 512 c3, rfl, hb', fun _ => ⟨a3, c3, rfl, r3.below hb3⟩, fun g hg => ⟨(hp g hg).1, Nat.lt_of_lt_of_le (hp g hg).2.1 hb3.size, there_below (hp g hg).2.2 hb3 (hp g hg).2.1⟩⟩
    · have hS := (HKS.out _ hb).1
      cases p with
      | none =>
        refine wpAnyH_take (i := 5) (v := .tuple #[digestV (oncePubL seed), .nilIface]) (by simp only [List.getElem?_toArray, List.getElem?_cons_zero, List.getElem?_cons_succ]; rfl) (by kernel_rfl) (by kernel_rfl) (by kernel_rfl) (fun _ _ _ h => h) (Or.inl ⟨by rfl, fun w hSw => by rfl⟩) hS ?_
        exact next _ _ ⟨sl, rfl, hb, fun _ => h1 (by omega), hp⟩
      | some g =>
        refine wpAnyH_take (i := 5) (v := .tuple #[digestV (oncePubL seed), .nilIface]) (by simp only [List.getElem?_toArray, List.getElem?_cons_zero, List.getElem?_cons_succ]; rfl) (by kernel_rfl) (by kernel_rfl) (by kernel_rfl) (fun _ _ _ h => h) (Or.inl ⟨by rfl, fun w hSw => by rfl⟩) hS ?_
        exact next _ _ ⟨sl, rfl, hb, fun _ => h1 (by omega), hp⟩
    · have hS := (HKS.out _ hb).1
      cases p with
      | none =>
        refine wpAnyH_take (i := 6) (v := digestV (oncePubL seed)) (by simp only [List.getElem?_toArray, List.getElem?_cons_zero, List.getElem?_cons_succ]; rfl) (by kernel_rfl) (by kernel_rfl) (by kernel_rfl) (fun _ _ _ h => h) (Or.inl ⟨by rfl, fun w hSw => by rfl⟩) hS ?_
        exact next _ _ ⟨sl, rfl, hb, fun _ => h1 (by omega), hp⟩
      | some g =>
        refine wpAnyH_take (i := 6) (v := digestV (oncePubL seed)) (by simp only [List.getElem?_toArray, List.getElem?_cons_zero, List.getElem?_cons_succ]; rfl) (by kernel_rfl) (by kernel_rfl) (by kernel_rfl) (fun _ _ _ h => h) (Or.inl ⟨by rfl, fun w hSw => by rfl⟩) hS ?_
        exact next _ _ ⟨sl, rfl, hb, fun _ => h1 (by omega), hp⟩
    · have hS := (HKS.out _ hb).1
      cases p with
      | none =>
        refine wpAnyH_take (i := 7) (v := .nilIface) (by simp only [List.getElem?_toArray, List.getElem?_cons_zero, List.getElem?_cons_succ]; rfl) (by kernel_rfl) (by kernel_rfl) (by kernel_rfl) (fun _ _ _ h => h) (Or.inl ⟨by rfl, fun w hSw => by rfl⟩) hS ?_
        exact next _ _ ⟨sl, rfl, hb, fun _ => h1 (by omega), hp⟩
      | some g =>
        refine wpAnyH_take (i := 7) (v := .nilIface) (by simp only [List.getElem?_toArray, List.getElem?_cons_zero, List.getElem?_cons_succ]; rfl) (by kernel_rfl) (by kernel_rfl) (by kernel_rfl) (fun _ _ _ h => h) (Or.inl ⟨by rfl, fun w hSw => by rfl⟩) hS ?_
        exact next _ _ ⟨sl, rfl, hb, fun _ => h1 (by omega), hp⟩
  case last =>
    intro a wx fuel hSt al
    obtain ⟨sl, rfl, hb, h1, hp⟩ := hSt
    refine wpAnyH_ready (rs := [8]) (by kernel_rfl) (by simp) ?_
    refine AllReadyH.cons (by simp only [List.getElem?_toArray, List.getElem?_cons_zero, List.getElem?_cons_succ]; rfl) (fun K hK => ?_) AllReadyH.nil
    rw [if_pos (by rfl)]
    refine wp_allocE 23 (by rfl) (cellsB zD).toArray Tryd.zeroDg ?_
    have hb8 : Below wx.heap.size wx (wx.alloc (.cells (cellsB zD).toArray 23)) := (Below.refl _ _).alloc (Nat.le_refl _) _
    have hb' : Below wd.heap.size wd (wx.alloc (.cells (cellsB zD).toArray 23)) := hb.trans (hb8.mono hb.size)
    refine hK.out _ _ (HKS.out _ hb').1 (fun hHeld => ?_)
    exact al wx.heap.size _ _ ⟨sl, rfl, hb', (fun _ => by obtain ⟨a3, c3, e, r3⟩ := h1 (by omega); exact ⟨a3, c3, e, r3.below hb8⟩), fun g hg => by cases hg; exact ⟨hb.size, by simp, alloc_thereAt _ _ _ 32 _ rfl zD_size.symm⟩⟩
  case fin =>
    intro g a wx hSt
    obtain ⟨sl, rfl, hb, h1, hp⟩ := hSt
    obtain ⟨g1, g2, g3⟩ := hp g rfl
    have hPl := oPub_len seed
    have HPE : Hid (∀ wx, Env wx → Calls Tryd.prog 9 #[digestV seed] wx fun e w' => e = .returned (digestV (oncePubL seed)) ∧ Below wx.heap.size wx w') := fun wx hx => wonce_public seed wx hx hs
    clear h1 hp
    generalize hPd : oncePubL seed = P at *
    have HPD : Hid (oncePubL seed = P) := hPd
    clear hPd
    refine wpAnyH_ready (rs := [9]) (by kernel_rfl) (by simp) ?_
    refine AllReadyH.cons (by simp only [List.getElem?_toArray, List.getElem?_cons_zero, List.getElem?_cons_succ]; rfl) (fun K hK => ?_) AllReadyH.nil
    rw [if_pos (by rfl)]
    refine wp_store_mid _ _ _ rfl g 0 (cellsB P).toArray rfl rfl (by rw [cellsB_size, hPl]; exact g3) (by rw [cellsB_size, hPl]; exact Tryd.sizeDg) (all_oneCell_toArray (cellsB_one _)) ?_
    have hb' : Below wd.heap.size wd (wx.setCells g 0 (cellsB P)) := below_setCells _ g1 _ _ _ hb
    refine hK.out _ _ (HKS.out _ hb').1 (fun hHeld => ?_)
    clear hK K
    have HX : Hid (DAt (wx.setCells g 0 (cellsB P)) g 0 P) := dat_stored g3 hPl
    have HBx : Hid (Below wd.heap.size wd (wx.setCells g 0 (cellsB P))) := hb'
    try simp only [Act.put, List.setIfInBounds_toArray, List.set_cons_zero, List.set_cons_succ]
    refine wpAnyH_take (i := 10) (v := .nilIface) (by simp only [List.getElem?_toArray, List.getElem?_cons_zero, List.getElem?_cons_succ]; rfl) (by kernel_rfl) (by kernel_rfl) (by kernel_rfl) (fun _ _ _ h => h) (Or.inl ⟨by rfl, fun w hSw => by rfl⟩) hHeld ?_
    try simp only [Act.put, List.setIfInBounds_toArray, List.set_cons_zero, List.set_cons_succ]
    refine wpAnyH_done (by kernel_rfl) (NoPanic.normal ?_) _
    clear hHeld hb hb' g3
    have hlx : g < (wx.setCells g 0 (cellsB P)).heap.size := cell_block (HX.out.cell 0 (by omega))
    generalize wx.setCells g 0 (cellsB P) = wy at *
    simp only [fromF, Nat.reduceLeDiff, ↓reduceIte, Nat.reduceAdd, Nat.zero_add] 
    simp only [ptrF]
    go_wp2_with fail
    have HKT : Hid (∀ wz, Below wy.heap.size wy wz → (wz.rangeAt g 0 (cellsB P) ∧ wz.rangeAt w.heap.size 0 (cellsB seed)) ∧ Below w3.heap.size w3 wz) := fun wz hz => by
      have b1 : Below wd.heap.size wd wz := HBx.out.trans (hz.mono HBx.out.size)
      have b2 := HBd.out.trans (b1.mono HBd.out.size)
      exact ⟨⟨HX.out.below hz hlx, (HK.out _ b2).1⟩, b2⟩
    refine wp_region_noPanic ?_
    refine wp_region_held_drew (S := fun w' => w'.rangeAt g 0 (cellsB P) ∧ w'.rangeAt w.heap.size 0 (cellsB seed)) (by kernel_rfl) (HKT.out _ (below_drewN wy 1)).1 (fun hHeld => ?_)
    try simp only [Act.put, List.setIfInBounds_toArray, List.set_cons_zero, List.set_cons_succ]
    have HBz : Hid (Below wy.heap.size wy wy.drew) := below_drewN wy 1
    generalize wy.drew = wz at *
    refine wpAnyH_take (i := 0) (v := ?_) (by simp only [List.getElem?_toArray, List.getElem?_cons_zero, List.getElem?_cons_succ]; rfl) (by kernel_rfl) (by kernel_rfl) (by kernel_rfl) (fun _ _ _ h => h) (Or.inl ⟨by rfl, ?_⟩) hHeld ?_
    rotate_left
    · intro w hSw
      go_simp
      try with_reducible rfl
    try simp only [Act.put, List.setIfInBounds_toArray, List.set_cons_zero, List.set_cons_succ]
    refine wpAnyH_take (i := 1) (v := ?_) (by simp only [List.getElem?_toArray, List.getElem?_cons_zero, List.getElem?_cons_succ]; rfl) (by kernel_rfl) (by kernel_rfl) (by kernel_rfl) (fun _ _ _ h => h) (Or.inl ⟨by rfl, ?_⟩) hHeld ?_
    rotate_left
    · intro w hSw
      go_simp
      try with_reducible rfl
    try simp only [Act.put, List.setIfInBounds_toArray, List.set_cons_zero, List.set_cons_succ]
    refine wpAnyH_take (i := 2) (v := ?_) (by simp only [List.getElem?_toArray, List.getElem?_cons_zero, List.getElem?_cons_succ]; rfl) (by kernel_rfl) (by kernel_rfl) (by kernel_rfl) (fun _ _ _ h => h) (Or.inl ⟨by rfl, ?_⟩) hHeld ?_
    rotate_left
    · intro w hSw
      go_simp
      try with_reducible rfl
    try simp only [Act.put, List.setIfInBounds_toArray, List.set_cons_zero, List.set_cons_succ]
    refine wpAnyH_take (i := 3) (v := .agg (cellsB P).toArray) (by simp only [List.getElem?_toArray, List.getElem?_cons_zero, List.getElem?_cons_succ]; rfl) (by kernel_rfl) (by kernel_rfl) (by kernel_rfl) (fun _ _ _ h => h)
      (yieldsIf_load_mid (by rfl) _ _ rfl _ _ rfl _ _ (fun w hw => hw.1) Tryd.underlying23 rfl (by rw [cellsB_length, hPl]; exact Tryd.sizeDg)) hHeld ?_
    try simp only [Act.put, List.setIfInBounds_toArray, List.set_cons_zero, List.set_cons_succ]
    refine wpAnyH_take (i := 4) (v := .agg (cellsB seed).toArray) (by simp only [List.getElem?_toArray, List.getElem?_cons_zero, List.getElem?_cons_succ]; rfl) (by kernel_rfl) (by kernel_rfl) (by kernel_rfl) (fun _ _ _ h => h)
      (yieldsIf_load_mid (by rfl) _ _ rfl _ _ rfl _ _ (fun w hw => hw.2) Tryd.underlying23 rfl (by rw [cellsB_length, hs]; exact Tryd.sizeDg)) hHeld ?_
    try simp only [Act.put, List.setIfInBounds_toArray, List.set_cons_zero, List.set_cons_succ]
    refine wpAnyH_ready (rs := [5]) (by kernel_rfl) (by simp) ?_
    refine AllReadyH.cons (by simp only [List.getElem?_toArray, List.getElem?_cons_zero, List.getElem?_cons_succ]; rfl) (fun K hK => ?_) AllReadyH.nil
    rw [if_pos (by rfl)]
    go_simp
    refine (HPE.out wz (HK.out _ (HKT.out _ HBz.out).2).2.2.2.1).mono ?_
    rintro e w7 ⟨rfl, hb7⟩
    have HB7 : Hid (Below wy.heap.size wy w7) := HBz.out.trans (hb7.mono HBz.out.size)
    clear hb7 HBz
    go_wp2_with fail
    refine hK.out _ _ (HKT.out _ HB7.out).1 (fun hHeld => ?_)
    clear hK K
    try simp only [Act.put, List.setIfInBounds_toArray, List.set_cons_zero, List.set_cons_succ]
    refine wpAnyH_take (i := 6) (v := .bool false) (by simp only [List.getElem?_toArray, List.getElem?_cons_zero, List.getElem?_cons_succ]; rfl) (by kernel_rfl) (by kernel_rfl) (by kernel_rfl) (fun _ _ _ h => h)
      (yieldsIf_neqD (by rfl) _ _ rfl P P hPl hPl rfl rfl false (by simp)) hHeld ?_
    try simp only [Act.put, List.setIfInBounds_toArray, List.set_cons_zero, List.set_cons_succ]
    refine wpAnyH_take (i := 7) (v := ?_) (by simp only [List.getElem?_toArray, List.getElem?_cons_zero, List.getElem?_cons_succ]; rfl) (by kernel_rfl) (by kernel_rfl) (by kernel_rfl) (fun _ _ _ h => h) (Or.inl ⟨by rfl, ?_⟩) hHeld ?_
    rotate_left
    · intro w hSw
      go_simp
      try with_reducible rfl
    try simp only [Act.put, List.setIfInBounds_toArray, List.set_cons_zero, List.set_cons_succ]
    refine wpAnyH_done (by kernel_rfl) (NoPanic.normal ?_) _
    clear hHeld
    have HW : Hid (∀ wx, Below w7.heap.size w7 wx → DAt wx g 0 P ∧ DAt wx w.heap.size 0 seed ∧ DAt wx (w.heap.size + 1) 0 m ∧ DAt wx (w.heap.size + 2) 0 other ∧ Env wx ∧ DRow wx sa n sig ∧ Below w.heap.size w wx) := fun wx hx => by
      have b1 : Below wy.heap.size wy wx := HB7.out.trans (hx.mono HB7.out.size)
      have k := HK.out _ (HKT.out _ b1).2
      exact ⟨(HKT.out _ b1).1.1, k.1, k.2.1, k.2.2.1, k.2.2.2.1, k.2.2.2.2.1, k.2.2.2.2.2⟩
    have hgl : g < w7.heap.size := Nat.lt_of_lt_of_le hlx HB7.out.size
    clear HKT HB7 HX HBx hlx HKS HBd HK HS3 HPE g1 g2
    have H0 : Hid (Below w7.heap.size w7 w7) := Below.refl _ _
    have lz : zD.length = 32 := rfl
    by_cases h512 : n = 512
    · subst h512
      go_wp2_with (refine wpList_load_mid (by rfl) 23 (.tmp 6) (by rfl) (w.heap.size + 2) 0 (by rfl) (cellsB other) _ (HW.out _ H0.out).2.2.2.1 Tryd.underlying23 (by rfl) (by rw [cellsB_length, ho]; exact Tryd.sizeDg) ?_)
      refine (wonce_recover other sa c sig w7 (HW.out _ H0.out).2.2.2.2.1 ho (HW.out _ H0.out).2.2.2.2.2.1).mono ?_
      rintro e w8 ⟨rfl, hb8⟩
      have lQ := oKey_len other sig
      generalize hQd : onceKeyL other sig = Qd at *
      have HQD : Hid (onceKeyL other sig = Qd) := hQd
      clear hQd H0
      obtain ⟨w9, hw9⟩ : ∃ w9, w8.alloc (.cells (cellsB zD).toArray 23) = w9 := ⟨_, rfl⟩
      have HT9 : Hid (w9.there w8.heap.size 0 32) := by rw [← hw9]; exact alloc_thereAt _ _ _ 32 _ rfl zD_size.symm
      have hb9 : Below w8.heap.size w8 w9 := by rw [← hw9]; exact (Below.refl _ _).alloc (Nat.le_refl _) _
      have HB10 : Hid (Below w7.heap.size w7 (w9.setCells w8.heap.size 0 (cellsB Qd))) := below_setCells _ hb8.size _ _ _ (hb8.trans (hb9.mono hb8.size))
      have HX10 : Hid (DAt (w9.setCells w8.heap.size 0 (cellsB Qd)) w8.heap.size 0 Qd) := dat_stored HT9.out lQ
      clear hb8 hb9
      obtain ⟨w10, hw10⟩ : ∃ w10, w9.setCells w8.heap.size 0 (cellsB Qd) = w10 := ⟨_, rfl⟩
      rw [hw10] at HB10 HX10
      by_cases hQP : Qd = P
      · subst hQP
        by_cases hom : other = m
        · go_wp2_with (first
            | (refine wpList_allocE (by rfl) 23 (by rfl) (cellsB zD).toArray Tryd.zeroDg w8.heap.size rfl w9 hw9 ?_)
            | (refine wpList_store_mid (by rfl) 23 (.tmp 11) (.tmp 38) (by rfl) w8.heap.size 0 (cellsB Qd).toArray (by rfl) (by rfl) (by rw [cellsB_size, lQ]; exact HT9.out) (by rw [cellsB_size, lQ]; exact Tryd.sizeDg) (all_oneCell_toArray (cellsB_one _)) ?_; rw [show (cellsB Qd).toArray.toList = cellsB Qd from rfl, hw10])
            | (refine wpList_load_midG (by rfl) 23 (.tmp 11) (by rfl) w8.heap.size 0 (by rfl) (cellsB Qd) _ HX10.out Tryd.underlying23 (by rfl) (by rw [cellsB_length, lQ]; exact Tryd.sizeDg) ?_)
            | (refine wpList_load_midG (by rfl) 23 (.tmp 9) (by rfl) g 0 (by rfl) (cellsB Qd) _ (HW.out _ HB10.out).1 Tryd.underlying23 (by rfl) (by rw [cellsB_length, lQ]; exact Tryd.sizeDg) ?_)
            | (refine wpList_neqD (.tmp 43) (.tmp 44) (by rfl) (by rfl) Qd Qd lQ lQ (by rfl) (by rfl) false (by simp) ?_)
            | (refine wpList_load_midG (by rfl) 23 (.tmp 6) (by rfl) (w.heap.size + 2) 0 (by rfl) (cellsB other) _ (HW.out _ HB10.out).2.2.2.1 Tryd.underlying23 (by rfl) (by rw [cellsB_length, ho]; exact Tryd.sizeDg) ?_)
            | (refine wpList_load_midG (by rfl) 23 (.tmp 5) (by rfl) (w.heap.size + 1) 0 (by rfl) (cellsB m) _ (HW.out _ HB10.out).2.2.1 Tryd.underlying23 (by rfl) (by rw [cellsB_length, hm]; exact Tryd.sizeDg) ?_)
            | (refine wpList_eqD (.tmp 48) (.tmp 49) (by rfl) (by rfl) other m ho hm (by rfl) (by rfl) true (by rw [decide_eq_true hom]) ?_))
          go_ret
          exact ⟨rfl, (HW.out _ HB10.out).2.2.2.2.2.2⟩
        · have hom2 : decide (other = m) = false := decide_eq_false hom
          go_wp2_with (first
            | (refine wpList_allocE (by rfl) 23 (by rfl) (cellsB zD).toArray Tryd.zeroDg w8.heap.size rfl w9 hw9 ?_)
            | (refine wpList_store_mid (by rfl) 23 (.tmp 11) (.tmp 38) (by rfl) w8.heap.size 0 (cellsB Qd).toArray (by rfl) (by rfl) (by rw [cellsB_size, lQ]; exact HT9.out) (by rw [cellsB_size, lQ]; exact Tryd.sizeDg) (all_oneCell_toArray (cellsB_one _)) ?_; rw [show (cellsB Qd).toArray.toList = cellsB Qd from rfl, hw10])
            | (refine wpList_load_midG (by rfl) 23 (.tmp 11) (by rfl) w8.heap.size 0 (by rfl) (cellsB Qd) _ HX10.out Tryd.underlying23 (by rfl) (by rw [cellsB_length, lQ]; exact Tryd.sizeDg) ?_)
            | (refine wpList_load_midG (by rfl) 23 (.tmp 9) (by rfl) g 0 (by rfl) (cellsB Qd) _ (HW.out _ HB10.out).1 Tryd.underlying23 (by rfl) (by rw [cellsB_length, lQ]; exact Tryd.sizeDg) ?_)
            | (refine wpList_neqD (.tmp 43) (.tmp 44) (by rfl) (by rfl) Qd Qd lQ lQ (by rfl) (by rfl) false (by simp) ?_)
            | (refine wpList_load_midG (by rfl) 23 (.tmp 6) (by rfl) (w.heap.size + 2) 0 (by rfl) (cellsB other) _ (HW.out _ HB10.out).2.2.2.1 Tryd.underlying23 (by rfl) (by rw [cellsB_length, ho]; exact Tryd.sizeDg) ?_)
            | (refine wpList_load_midG (by rfl) 23 (.tmp 5) (by rfl) (w.heap.size + 1) 0 (by rfl) (cellsB m) _ (HW.out _ HB10.out).2.2.1 Tryd.underlying23 (by rfl) (by rw [cellsB_length, hm]; exact Tryd.sizeDg) ?_)
            | (refine wpList_eqD (.tmp 48) (.tmp 49) (by rfl) (by rfl) other m ho hm (by rfl) (by rfl) false hom2 ?_)
            | (refine wpList_load_mid (by rfl) 23 (.tmp 4) (by rfl) w.heap.size 0 (by rfl) (cellsB seed) _ (HW.out _ HB10.out).2.1 Tryd.underlying23 (by rfl) (by rw [cellsB_length, hs]; exact Tryd.sizeDg) ?_))
          refine (wonce_sign seed m w10 (HW.out _ HB10.out).2.2.2.2.1 hs hm).mono ?_
          rintro e w11 ⟨⟨a4, c4, rfl, hc4, r4⟩, hb11⟩
          have HV : Hid (∀ wx, Below w11.heap.size w11 wx → DAt wx w.heap.size 0 seed ∧ DAt wx (w.heap.size + 1) 0 m ∧ DAt wx (w.heap.size + 2) 0 other ∧ Env wx ∧ DRow wx sa 512 sig ∧ DRow wx a4 512 (onceSigL seed m 256) ∧ Below w.heap.size w wx) := fun wx hx => by
            have b1 : Below w10.heap.size w10 wx := hb11.trans (hx.mono hb11.size)
            have b2 : Below w7.heap.size w7 wx := HB10.out.trans (b1.mono HB10.out.size)
            have k := HW.out _ b2
            exact ⟨k.2.1, k.2.2.1, k.2.2.2.1, k.2.2.2.2.1, k.2.2.2.2.2.1, r4.below hx, k.2.2.2.2.2.2⟩
          have HSG : Hid (∀ i, i < 256 → (onceSigL seed m 256).getD (2 * i + 1) [] = onceLeafL (onceSecL seed i (1 - bitL m i))) := fun i hi => (onceSigL_at seed m 256 i hi).2
          clear HW HB10 HX10 HT9 hw9 hw10 r4 hb11 hgl
          generalize onceSigL seed m 256 = SL at *
          go_wp2_with fail
          go_loopw [13] (fun i wr => ∃ k : Nat, k ≤ 256 ∧ i = .int .i64 (k : Int) ∧ Hid (∀ i, i < k → bitL m i ≠ bitL other i → onceLeafL (sig.getD (2 * i) []) ≠ onceLeafL (onceSecL seed i (1 - bitL m i))) ∧ Below w11.heap.size w11 wr) (fun i _ => 256 - (intOf i).toNat)
          case atStart => exact ⟨0, Nat.zero_le _, rfl, fun i hi => by omega, Below.refl _ _⟩
          case round =>
            obtain ⟨k, hk, rfl, HN, hB⟩ := hrel
            by_cases hlt : k < 256
            · have HB : Hid (Below w11.heap.size w11 wr) := hB
              have hD := HV.out _ hB
              obtain ⟨ba, oa, rfl, hcs⟩ : ∃ ba oa, sa = some ⟨ba, oa, none⟩ ∧ ∀ i, i < 512 → DAt wr ba (oa + 32 * i) (sig.getD i []) := by
                rcases hD.2.2.2.2.1.2.2 with h | h
                · omega
                · exact h
              obtain ⟨bb, ob, rfl, hcf⟩ : ∃ bb ob, a4 = some ⟨bb, ob, none⟩ ∧ ∀ i, i < 512 → DAt wr bb (ob + 32 * i) (SL.getD i []) := by
                rcases hD.2.2.2.2.2.1.2.2 with h | h
                · omega
                · exact h
              obtain ⟨q, hq⟩ : ∃ q : Nat, 2 * k = q := ⟨_, rfl⟩
              obtain ⟨p, hp⟩ : ∃ p : Nat, 2 * k + 1 = p := ⟨_, rfl⟩
              have lX := HS32.out (2 * k) (by omega)
              have lF := hD.2.2.2.2.2.1.len (2 * k + 1) (by omega)
              have eF := HSG.out k hlt
              have HX : Hid (DAt wr ba (oa + q * 32) (sig.getD (2 * k) [])) := by have := hcs (2 * k) (by omega); rwa [show oa + 32 * (2 * k) = oa + q * 32 by omega] at this
              have HF : Hid (DAt wr bb (ob + p * 32) (SL.getD (2 * k + 1) [])) := by have := hcf (2 * k + 1) (by omega); rwa [show ob + 32 * (2 * k + 1) = ob + p * 32 by omega] at this
              have hba : ba < wr.heap.size := cell_block (HX.out.cell 0 (by omega))
              have hbb : bb < wr.heap.size := cell_block (HF.out.cell 0 (by omega))
              rw [eF] at HF lF
              have HSd : Hid (∀ wx, Below wr.heap.size wr wx → wx.rangeAt (w.heap.size + 1) 0 (cellsB m) ∧ wx.rangeAt (w.heap.size + 2) 0 (cellsB other) ∧ wx.rangeAt ba (oa + q * 32) (cellsB (sig.getD (2 * k) [])) ∧ wx.rangeAt bb (ob + p * 32) (cellsB (onceLeafL (onceSecL seed k (1 - bitL m k))))) := fun wx hx => by
                have h := HV.out _ (HB.out.trans (hx.mono HB.out.size))
                exact ⟨h.2.1, h.2.2.1, HX.out.below hx hba, HF.out.below hx hbb⟩
              have HNX : Hid ((bitL m k ≠ bitL other k → onceLeafL (sig.getD (2 * k) []) ≠ onceLeafL (onceSecL seed k (1 - bitL m k))) → (∀ i, i < k + 1 → bitL m i ≠ bitL other i → onceLeafL (sig.getD (2 * i) []) ≠ onceLeafL (onceSecL seed i (1 - bitL m i)))) := fun h i hi => by
                by_cases c : i = k
                · rw [c]; exact h
                · exact HN.out i (by omega)
              clear hD hcs hcf eF hB HX HF hba hbb
              generalize sig.getD (2 * k) [] = X at *
              generalize onceLeafL (onceSecL seed k (1 - bitL m k)) = F at *
              have lL := onceLeafL_length X
              have HB1 : Hid (∀ wx, Calls Tryd.prog 14 #[digestV m, .int .i64 (k : Int)] wx fun e w' => e = .returned (.int .i64 (bitL m k : Nat)) ∧ Below wx.heap.size wx w') := fun wx => rbit_any m k wx hm hlt
              have HB2 : Hid (∀ wx, Calls Tryd.prog 14 #[digestV other, .int .i64 (k : Int)] wx fun e w' => e = .returned (.int .i64 (bitL other k : Nat)) ∧ Below wx.heap.size wx w') := fun wx => rbit_any other k wx ho hlt
              have t1l := bitL_lt m k
              have t2l := bitL_lt other k
              generalize bitL m k = t1 at *
              generalize bitL other k = t2 at *
              have eq1 : (2 : Int) * (k : Int) = (q : Int) := by omega
              have eq2 : (q : Int) + 1 = (p : Int) := by omega
              have wq : IntKind.i64.wrap (q : Int) = (q : Int) := wrap_small q (by omega)
              have wp : IntKind.i64.wrap (p : Int) = (p : Int) := wrap_small p (by omega)
              have q0 : (0 : Int) ≤ (q : Int) := by omega
              have q1 : (q : Int) < 512 := by omega
              have p0 : (0 : Int) ≤ (p : Int) := by omega
              have p1 : (p : Int) < 512 := by omega
              clear hq hp
              go_wp2_with fail
              refine wp_region_noPanic ?_
              refine wp_region_held_drew (S := fun w' => w'.rangeAt (w.heap.size + 1) 0 (cellsB m) ∧ w'.rangeAt (w.heap.size + 2) 0 (cellsB other) ∧ w'.rangeAt ba (oa + q * 32) (cellsB X) ∧ w'.rangeAt bb (ob + p * 32) (cellsB F)) (by kernel_rfl) (HSd.out _ (below_drewN wr 1)) (fun hHeld => ?_)
              try simp only [Act.put, List.setIfInBounds_toArray, List.set_cons_zero, List.set_cons_succ]
              have HBd : Hid (Below wr.heap.size wr wr.drew) := below_drewN wr 1
              generalize wr.drew = wd2 at *
              refine wpAnyH_take (i := 0) (v := .agg (cellsB m).toArray) (by simp only [List.getElem?_toArray, List.getElem?_cons_zero, List.getElem?_cons_succ]; rfl) (by kernel_rfl) (by kernel_rfl) (by kernel_rfl) (fun _ _ _ h => h)
                (yieldsIf_load_mid (by rfl) _ _ rfl _ _ rfl _ _ (fun w hw => hw.1) Tryd.underlying23 rfl (by rw [cellsB_length, hm]; exact Tryd.sizeDg)) hHeld ?_
              try simp only [Act.put, List.setIfInBounds_toArray, List.set_cons_zero, List.set_cons_succ]
              refine wpAnyH_take (i := 1) (v := ?_) (by simp only [List.getElem?_toArray, List.getElem?_cons_zero, List.getElem?_cons_succ]; rfl) (by kernel_rfl) (by kernel_rfl) (by kernel_rfl) (fun _ _ _ h => h) (Or.inl ⟨by rfl, ?_⟩) hHeld ?_
              rotate_left
              · intro w hSw
                go_simp
                try with_reducible rfl
              try simp only [Act.put, List.setIfInBounds_toArray, List.set_cons_zero, List.set_cons_succ]
              refine wpAnyH_take (i := 3) (v := .agg (cellsB other).toArray) (by simp only [List.getElem?_toArray, List.getElem?_cons_zero, List.getElem?_cons_succ]; rfl) (by kernel_rfl) (by kernel_rfl) (by kernel_rfl) (fun _ _ _ h => h)
                (yieldsIf_load_mid (by rfl) _ _ rfl _ _ rfl _ _ (fun w hw => hw.2.1) Tryd.underlying23 rfl (by rw [cellsB_length, ho]; exact Tryd.sizeDg)) hHeld ?_
              try simp only [Act.put, List.setIfInBounds_toArray, List.set_cons_zero, List.set_cons_succ]
              refine wpAnyH_take (i := 4) (v := ?_) (by simp only [List.getElem?_toArray, List.getElem?_cons_zero, List.getElem?_cons_succ]; rfl) (by kernel_rfl) (by kernel_rfl) (by kernel_rfl) (fun _ _ _ h => h) (Or.inl ⟨by rfl, ?_⟩) hHeld ?_
              rotate_left
              · intro w hSw
                go_simp
                try with_reducible rfl
              try simp only [Act.put, List.setIfInBounds_toArray, List.set_cons_zero, List.set_cons_succ]
              refine wpAnyH_ready (rs := [2]) (by kernel_rfl) (by simp) ?_
              refine AllReadyH.cons (by simp only [List.getElem?_toArray, List.getElem?_cons_zero, List.getElem?_cons_succ]; rfl) (fun K hK => ?_) AllReadyH.nil
              rw [if_pos (by rfl)]
              go_simp
              refine (HB1.out wd2).mono ?_
              rintro e w12 ⟨rfl, hb12⟩
              have HB12 : Hid (Below wr.heap.size wr w12) := HBd.out.trans (hb12.mono HBd.out.size)
              clear hb12 HBd
              go_wp2_with fail
              refine hK.out _ _ (HSd.out _ HB12.out) (fun hHeld => ?_)
              clear hK K
              try simp only [Act.put, List.setIfInBounds_toArray, List.set_cons_zero, List.set_cons_succ]
              refine wpAnyH_ready (rs := [5]) (by kernel_rfl) (by simp) ?_
              refine AllReadyH.cons (by simp only [List.getElem?_toArray, List.getElem?_cons_zero, List.getElem?_cons_succ]; rfl) (fun K hK => ?_) AllReadyH.nil
              rw [if_pos (by rfl)]
              go_simp
              refine (HB2.out w12).mono ?_
              rintro e w13 ⟨rfl, hb13⟩
              have HB13 : Hid (Below wr.heap.size wr w13) := HB12.out.trans (hb13.mono HB12.out.size)
              clear hb13 HB12
              go_wp2_with fail
              refine hK.out _ _ (HSd.out _ HB13.out) (fun hHeld => ?_)
              clear hK K
              try simp only [Act.put, List.setIfInBounds_toArray, List.set_cons_zero, List.set_cons_succ]
              by_cases htt : t1 = t2
              · subst htt
                refine wpAnyH_take (i := 6) (v := ?_) (by simp only [List.getElem?_toArray, List.getElem?_cons_zero, List.getElem?_cons_succ]; rfl) (by kernel_rfl) (by kernel_rfl) (by kernel_rfl) (fun _ _ _ h => h) (Or.inl ⟨by rfl, ?_⟩) hHeld ?_
                rotate_left
                · intro w hSw
                  go_simp
                  try with_reducible rfl
                try simp only [Act.put, List.setIfInBounds_toArray, List.set_cons_zero, List.set_cons_succ]
                refine wpAnyH_take (i := 7) (v := ?_) (by simp only [List.getElem?_toArray, List.getElem?_cons_zero, List.getElem?_cons_succ]; rfl) (by kernel_rfl) (by kernel_rfl) (by kernel_rfl) (fun _ _ _ h => h) (Or.inl ⟨by rfl, ?_⟩) hHeld ?_
                rotate_left
                · intro w hSw
                  go_simp
                  try with_reducible rfl
                try simp only [Act.put, List.setIfInBounds_toArray, List.set_cons_zero, List.set_cons_succ]
                refine wpAnyH_take (i := 8) (v := undef) (by simp only [List.getElem?_toArray, List.getElem?_cons_zero, List.getElem?_cons_succ]; rfl) (by kernel_rfl) (by kernel_rfl) (by kernel_rfl) (fun _ _ _ h => h) (Or.inr ⟨by rfl, rfl⟩) hHeld ?_
                try simp only [Act.put, List.setIfInBounds_toArray, List.set_cons_zero, List.set_cons_succ]
                refine wpAnyH_take (i := 9) (v := undef) (by simp only [List.getElem?_toArray, List.getElem?_cons_zero, List.getElem?_cons_succ]; rfl) (by kernel_rfl) (by kernel_rfl) (by kernel_rfl) (fun _ _ _ h => h) (Or.inr ⟨by rfl, rfl⟩) hHeld ?_
                try simp only [Act.put, List.setIfInBounds_toArray, List.set_cons_zero, List.set_cons_succ]
                refine wpAnyH_take (i := 10) (v := undef) (by simp only [List.getElem?_toArray, List.getElem?_cons_zero, List.getElem?_cons_succ]; rfl) (by kernel_rfl) (by kernel_rfl) (by kernel_rfl) (fun _ _ _ h => h) (Or.inr ⟨by rfl, rfl⟩) hHeld ?_
                try simp only [Act.put, List.setIfInBounds_toArray, List.set_cons_zero, List.set_cons_succ]
                refine wpAnyH_take (i := 11) (v := undef) (by simp only [List.getElem?_toArray, List.getElem?_cons_zero, List.getElem?_cons_succ]; rfl) (by kernel_rfl) (by kernel_rfl) (by kernel_rfl) (fun _ _ _ h => h) (Or.inr ⟨by rfl, rfl⟩) hHeld ?_
                try simp only [Act.put, List.setIfInBounds_toArray, List.set_cons_zero, List.set_cons_succ]
                refine wpAnyH_take (i := 12) (v := undef) (by simp only [List.getElem?_toArray, List.getElem?_cons_zero, List.getElem?_cons_succ]; rfl) (by kernel_rfl) (by kernel_rfl) (by kernel_rfl) (fun _ _ _ h => h) (Or.inr ⟨by rfl, rfl⟩) hHeld ?_
                try simp only [Act.put, List.setIfInBounds_toArray, List.set_cons_zero, List.set_cons_succ]
                refine wpAnyH_take (i := 13) (v := undef) (by simp only [List.getElem?_toArray, List.getElem?_cons_zero, List.getElem?_cons_succ]; rfl) (by kernel_rfl) (by kernel_rfl) (by kernel_rfl) (fun _ _ _ h => h) (Or.inr ⟨by rfl, rfl⟩) hHeld ?_
                try simp only [Act.put, List.setIfInBounds_toArray, List.set_cons_zero, List.set_cons_succ]
                refine wpAnyH_take (i := 14) (v := undef) (by simp only [List.getElem?_toArray, List.getElem?_cons_zero, List.getElem?_cons_succ]; rfl) (by kernel_rfl) (by kernel_rfl) (by kernel_rfl) (fun _ _ _ h => h) (Or.inr ⟨by rfl, rfl⟩) hHeld ?_
                try simp only [Act.put, List.setIfInBounds_toArray, List.set_cons_zero, List.set_cons_succ]
                refine wpAnyH_take (i := 15) (v := undef) (by simp only [List.getElem?_toArray, List.getElem?_cons_zero, List.getElem?_cons_succ]; rfl) (by kernel_rfl) (by kernel_rfl) (by kernel_rfl) (fun _ _ _ h => h) (Or.inr ⟨by rfl, rfl⟩) hHeld ?_
                try simp only [Act.put, List.setIfInBounds_toArray, List.set_cons_zero, List.set_cons_succ]
                refine wpAnyH_take (i := 16) (v := undef) (by simp only [List.getElem?_toArray, List.getElem?_cons_zero, List.getElem?_cons_succ]; rfl) (by kernel_rfl) (by kernel_rfl) (by kernel_rfl) (fun _ _ _ h => h) (Or.inr ⟨by rfl, rfl⟩) hHeld ?_
                try simp only [Act.put, List.setIfInBounds_toArray, List.set_cons_zero, List.set_cons_succ]
                refine wpAnyH_take (i := 17) (v := undef) (by simp only [List.getElem?_toArray, List.getElem?_cons_zero, List.getElem?_cons_succ]; rfl) (by kernel_rfl) (by kernel_rfl) (by kernel_rfl) (fun _ _ _ h => h) (Or.inr ⟨by rfl, rfl⟩) hHeld ?_
                try simp only [Act.put, List.setIfInBounds_toArray, List.set_cons_zero, List.set_cons_succ]
                refine wpAnyH_take (i := 18) (v := undef) (by simp only [List.getElem?_toArray, List.getElem?_cons_zero, List.getElem?_cons_succ]; rfl) (by kernel_rfl) (by kernel_rfl) (by kernel_rfl) (fun _ _ _ h => h) (Or.inr ⟨by rfl, rfl⟩) hHeld ?_
                try simp only [Act.put, List.setIfInBounds_toArray, List.set_cons_zero, List.set_cons_succ]
                refine wpAnyH_take (i := 19) (v := undef) (by simp only [List.getElem?_toArray, List.getElem?_cons_zero, List.getElem?_cons_succ]; rfl) (by kernel_rfl) (by kernel_rfl) (by kernel_rfl) (fun _ _ _ h => h) (Or.inr ⟨by rfl, rfl⟩) hHeld ?_
                try simp only [Act.put, List.setIfInBounds_toArray, List.set_cons_zero, List.set_cons_succ]
                refine wpAnyH_take (i := 20) (v := undef) (by simp only [List.getElem?_toArray, List.getElem?_cons_zero, List.getElem?_cons_succ]; rfl) (by kernel_rfl) (by kernel_rfl) (by kernel_rfl) (fun _ _ _ h => h) (Or.inr ⟨by rfl, rfl⟩) hHeld ?_
                try simp only [Act.put, List.setIfInBounds_toArray, List.set_cons_zero, List.set_cons_succ]
                refine wpAnyH_take (i := 21) (v := ?_) (by simp only [List.getElem?_toArray, List.getElem?_cons_zero, List.getElem?_cons_succ]; rfl) (by kernel_rfl) (by kernel_rfl) (by kernel_rfl) (fun _ _ _ h => h) (Or.inl ⟨by rfl, ?_⟩) hHeld ?_
                rotate_left
                · intro w hSw
                  go_simp
                  try with_reducible rfl
                try simp only [Act.put, List.setIfInBounds_toArray, List.set_cons_zero, List.set_cons_succ]
                refine wpAnyH_done (by kernel_rfl) (NoPanic.normal ?_) _
                clear hHeld
                have HBw : Hid (Below w11.heap.size w11 w13) := HB.out.trans (HB13.out.mono HB.out.size)
                go_wp2_with fail
                go_roundw
                case rel => exact ⟨k + 1, by omega, by go_num, HNX.out (fun h => absurd rfl h), HBw.out⟩
                case measure => simp [intOf]; omega
              · have hti : ¬ ((t1 : Int) = (t2 : Int)) := by omega
                have hbe : ((t1 : Int) == (t2 : Int)) = false := by simp; omega
                refine wpAnyH_take (i := 6) (v := .bool true) (by simp only [List.getElem?_toArray, List.getElem?_cons_zero, List.getElem?_cons_succ]; rfl) (by kernel_rfl) (by kernel_rfl) (by kernel_rfl) (fun _ _ _ h => h) (Or.inl ⟨by rfl, ?_⟩) hHeld ?_
                · intro w hSw
                  go_simp
                try simp only [Act.put, List.setIfInBounds_toArray, List.set_cons_zero, List.set_cons_succ]
                refine wpAnyH_take (i := 7) (v := ?_) (by simp only [List.getElem?_toArray, List.getElem?_cons_zero, List.getElem?_cons_succ]; rfl) (by kernel_rfl) (by kernel_rfl) (by kernel_rfl) (fun _ _ _ h => h) (Or.inl ⟨by rfl, ?_⟩) hHeld ?_
                rotate_left
                · intro w hSw
                  go_simp
                  try with_reducible rfl
                try simp only [Act.put, List.setIfInBounds_toArray, List.set_cons_zero, List.set_cons_succ]
                refine wpAnyH_take (i := 8) (v := ?_) (by simp only [List.getElem?_toArray, List.getElem?_cons_zero, List.getElem?_cons_succ]; rfl) (by kernel_rfl) (by kernel_rfl) (by kernel_rfl) (fun _ _ _ h => h) (Or.inl ⟨by rfl, ?_⟩) hHeld ?_
                rotate_left
                · intro w hSw
                  go_simp
                  try with_reducible rfl
                try simp only [Act.put, List.setIfInBounds_toArray, List.set_cons_zero, List.set_cons_succ]
                refine wpAnyH_take (i := 9) (v := ?_) (by simp only [List.getElem?_toArray, List.getElem?_cons_zero, List.getElem?_cons_succ]; rfl) (by kernel_rfl) (by kernel_rfl) (by kernel_rfl) (fun _ _ _ h => h) (Or.inl ⟨by rfl, ?_⟩) hHeld ?_
                rotate_left
                · intro w hSw
                  go_simp
                  try with_reducible rfl
                try simp only [Act.put, List.setIfInBounds_toArray, List.set_cons_zero, List.set_cons_succ]
                refine wpAnyH_take (i := 10) (v := .int .i64 (q : Int)) (by simp only [List.getElem?_toArray, List.getElem?_cons_zero, List.getElem?_cons_succ]; rfl) (by kernel_rfl) (by kernel_rfl) (by kernel_rfl) (fun _ _ _ h => h) (Or.inl ⟨by rfl, ?_⟩) hHeld ?_
                · intro w hSw
                  go_simp
                try simp only [Act.put, List.setIfInBounds_toArray, List.set_cons_zero, List.set_cons_succ]
                refine wpAnyH_take (i := 11) (v := .pointer (some ⟨ba, oa + q * 32, none⟩)) (by simp only [List.getElem?_toArray, List.getElem?_cons_zero, List.getElem?_cons_succ]; rfl) (by kernel_rfl) (by kernel_rfl) (by kernel_rfl) (fun _ _ _ h => h) (Or.inl ⟨by rfl, ?_⟩) hHeld ?_
                · intro w hSw
                  go_simp
                try simp only [Act.put, List.setIfInBounds_toArray, List.set_cons_zero, List.set_cons_succ]
                refine wpAnyH_take (i := 12) (v := .agg (cellsB X).toArray) (by simp only [List.getElem?_toArray, List.getElem?_cons_zero, List.getElem?_cons_succ]; rfl) (by kernel_rfl) (by kernel_rfl) (by kernel_rfl) (fun _ _ _ h => h)
                  (yieldsIf_load_mid (by rfl) _ _ rfl _ _ rfl _ _ (fun w hw => hw.2.2.1) Tryd.underlying23 rfl (by rw [cellsB_length, lX]; exact Tryd.sizeDg)) hHeld ?_
                try simp only [Act.put, List.setIfInBounds_toArray, List.set_cons_zero, List.set_cons_succ]
                refine wpAnyH_take (i := 14) (v := ?_) (by simp only [List.getElem?_toArray, List.getElem?_cons_zero, List.getElem?_cons_succ]; rfl) (by kernel_rfl) (by kernel_rfl) (by kernel_rfl) (fun _ _ _ h => h) (Or.inl ⟨by rfl, ?_⟩) hHeld ?_
                rotate_left
                · intro w hSw
                  go_simp
                  try with_reducible rfl
                try simp only [Act.put, List.setIfInBounds_toArray, List.set_cons_zero, List.set_cons_succ]
                refine wpAnyH_take (i := 15) (v := ?_) (by simp only [List.getElem?_toArray, List.getElem?_cons_zero, List.getElem?_cons_succ]; rfl) (by kernel_rfl) (by kernel_rfl) (by kernel_rfl) (fun _ _ _ h => h) (Or.inl ⟨by rfl, ?_⟩) hHeld ?_
                rotate_left
                · intro w hSw
                  go_simp
                  try with_reducible rfl
                try simp only [Act.put, List.setIfInBounds_toArray, List.set_cons_zero, List.set_cons_succ]
                refine wpAnyH_take (i := 16) (v := .int .i64 (q : Int)) (by simp only [List.getElem?_toArray, List.getElem?_cons_zero, List.getElem?_cons_succ]; rfl) (by kernel_rfl) (by kernel_rfl) (by kernel_rfl) (fun _ _ _ h => h) (Or.inl ⟨by rfl, ?_⟩) hHeld ?_
                · intro w hSw
                  go_simp
                try simp only [Act.put, List.setIfInBounds_toArray, List.set_cons_zero, List.set_cons_succ]
                refine wpAnyH_take (i := 17) (v := .int .i64 (p : Int)) (by simp only [List.getElem?_toArray, List.getElem?_cons_zero, List.getElem?_cons_succ]; rfl) (by kernel_rfl) (by kernel_rfl) (by kernel_rfl) (fun _ _ _ h => h) (Or.inl ⟨by rfl, ?_⟩) hHeld ?_
                · intro w hSw
                  go_simp
                try simp only [Act.put, List.setIfInBounds_toArray, List.set_cons_zero, List.set_cons_succ]
                refine wpAnyH_take (i := 18) (v := .pointer (some ⟨bb, ob + p * 32, none⟩)) (by simp only [List.getElem?_toArray, List.getElem?_cons_zero, List.getElem?_cons_succ]; rfl) (by kernel_rfl) (by kernel_rfl) (by kernel_rfl) (fun _ _ _ h => h) (Or.inl ⟨by rfl, ?_⟩) hHeld ?_
                · intro w hSw
                  go_simp
                try simp only [Act.put, List.setIfInBounds_toArray, List.set_cons_zero, List.set_cons_succ]
                refine wpAnyH_take (i := 19) (v := .agg (cellsB F).toArray) (by simp only [List.getElem?_toArray, List.getElem?_cons_zero, List.getElem?_cons_succ]; rfl) (by kernel_rfl) (by kernel_rfl) (by kernel_rfl) (fun _ _ _ h => h)
                  (yieldsIf_load_mid (by rfl) _ _ rfl _ _ rfl _ _ (fun w hw => hw.2.2.2) Tryd.underlying23 rfl (by rw [cellsB_length, lF]; exact Tryd.sizeDg)) hHeld ?_
                try simp only [Act.put, List.setIfInBounds_toArray, List.set_cons_zero, List.set_cons_succ]
                refine wpAnyH_ready (rs := [13]) (by kernel_rfl) (by simp) ?_
                refine AllReadyH.cons (by simp only [List.getElem?_toArray, List.getElem?_cons_zero, List.getElem?_cons_succ]; rfl) (fun K hK => ?_) AllReadyH.nil
                rw [if_pos (by rfl)]
                go_simp
                refine (ronceLeaf_any X w13 lX).mono ?_
                rintro e w14 ⟨rfl, hb14⟩
                have HB14 : Hid (Below wr.heap.size wr w14) := HB13.out.trans (hb14.mono HB13.out.size)
                clear hb14 HB13
                generalize onceLeafL X = Z at *
                go_wp2_with fail
                refine hK.out _ _ (HSd.out _ HB14.out) (fun hHeld => ?_)
                clear hK K
                try simp only [Act.put, List.setIfInBounds_toArray, List.set_cons_zero, List.set_cons_succ]
                by_cases hzf : Z = F
                · have hzd : decide (Z = F) = true := decide_eq_true hzf
                  refine wpAnyH_take (i := 20) (v := .bool true) (by simp only [List.getElem?_toArray, List.getElem?_cons_zero, List.getElem?_cons_succ]; rfl) (by kernel_rfl) (by kernel_rfl) (by kernel_rfl) (fun _ _ _ h => h)
                    (yieldsIf_eqD (by rfl) _ _ rfl Z F lL lF rfl rfl true hzd) hHeld ?_
                  try simp only [Act.put, List.setIfInBounds_toArray, List.set_cons_zero, List.set_cons_succ]
                  refine wpAnyH_take (i := 21) (v := ?_) (by simp only [List.getElem?_toArray, List.getElem?_cons_zero, List.getElem?_cons_succ]; rfl) (by kernel_rfl) (by kernel_rfl) (by kernel_rfl) (fun _ _ _ h => h) (Or.inl ⟨by rfl, ?_⟩) hHeld ?_
                  rotate_left
                  · intro w hSw
                    go_simp
                    try with_reducible rfl
                  try simp only [Act.put, List.setIfInBounds_toArray, List.set_cons_zero, List.set_cons_succ]
                  refine wpAnyH_done (by kernel_rfl) (NoPanic.normal ?_) _
                  clear hHeld
                  have HBw : Hid (Below w11.heap.size w11 w14) := HB.out.trans (HB14.out.mono HB.out.size)
                  go_wp2_with fail
                  go_ret
                  exact ⟨rfl, (HV.out _ HBw.out).2.2.2.2.2.2⟩
                · have hzd : decide (Z = F) = false := decide_eq_false hzf
                  refine wpAnyH_take (i := 20) (v := .bool false) (by simp only [List.getElem?_toArray, List.getElem?_cons_zero, List.getElem?_cons_succ]; rfl) (by kernel_rfl) (by kernel_rfl) (by kernel_rfl) (fun _ _ _ h => h)
                    (yieldsIf_eqD (by rfl) _ _ rfl Z F lL lF rfl rfl false hzd) hHeld ?_
                  try simp only [Act.put, List.setIfInBounds_toArray, List.set_cons_zero, List.set_cons_succ]
                  refine wpAnyH_take (i := 21) (v := ?_) (by simp only [List.getElem?_toArray, List.getElem?_cons_zero, List.getElem?_cons_succ]; rfl) (by kernel_rfl) (by kernel_rfl) (by kernel_rfl) (fun _ _ _ h => h) (Or.inl ⟨by rfl, ?_⟩) hHeld ?_
                  rotate_left
                  · intro w hSw
                    go_simp
                    try with_reducible rfl
                  try simp only [Act.put, List.setIfInBounds_toArray, List.set_cons_zero, List.set_cons_succ]
                  refine wpAnyH_done (by kernel_rfl) (NoPanic.normal ?_) _
                  clear hHeld
                  have HBw : Hid (Below w11.heap.size w11 w14) := HB.out.trans (HB14.out.mono HB.out.size)
                  go_wp2_with fail
                  go_roundw
                  case rel => exact ⟨k + 1, by omega, by go_num, HNX.out (fun _ => hzf), HBw.out⟩
                  case measure => simp [intOf]; omega
            · obtain rfl : k = 256 := by omega
              have HNE : Hid (onceLeavesL seed 512 ≠ onceToldL other sig 512) := onceForged seed m other sig hm ho (fun h => hom h.symm) HN.out
              have HB0 : Hid (Below w11.heap.size w11 wr) := hB
              clear hB HN HSG
              obtain ⟨iD, hiD, hzD0, hzD1, hzD2⟩ := info_parts Tryd.infoDg
              go_wp2_with fail
              go_loopw [14, 15, 16] (fun va vb i wq => ∃ k : Nat, k ≤ 512 ∧ i = .int .i64 (k : Int) ∧ OwnD wq w11.heap.size va (onceLeavesL seed k) ∧ OwnD wq w11.heap.size vb (onceToldL other sig k) ∧ Sep va vb ∧ Below w11.heap.size w11 wq) (fun _ _ i _ => 512 - (intOf i).toNat)
              case atStart => exact ⟨0, Nat.zero_le _, rfl, OwnD.nil _ _, OwnD.nil _ _, Or.inl rfl, HB0.out⟩
              case round =>
                clear HB0
                obtain ⟨k, hk, rfl, hOa, hOb, hsep, hB⟩ := hrel
                by_cases hlt : k < 512
                · have HO : Hid (OwnD wr w11.heap.size u14 (onceLeavesL seed k)) := hOa
                  have HP : Hid (OwnD wr w11.heap.size u15 (onceToldL other sig k)) := hOb
                  have HSP : Hid (Sep u14 u15) := hsep
                  have HB : Hid (Below w11.heap.size w11 wr) := hB
                  have HSN : Hid (onceLeavesL seed k ++ [onceLeafL (onceSecL seed (k / 2) (k % 2))] = onceLeavesL seed (k + 1)) := onceLeavesL_succ seed k
                  have HLN : Hid ((onceLeavesL seed k).length = k) := onceLeavesL_len seed k
                  have HTN : Hid (onceToldL other sig k ++ [onceAt other sig k] = onceToldL other sig (k + 1)) := onceToldL_succ other sig k
                  have HLT : Hid ((onceToldL other sig k).length = k) := onceToldL_len other sig k
                  have HAT : Hid (onceAt other sig k = if bitL other (k / 2) = k % 2 then onceLeafL (sig.getD (k - k % 2) []) else sig.getD (k - k % 2 + 1) []) := rfl
                  have hl9 := onceAt_length other sig HS32.out k hlt
                  obtain ⟨e1, e2, e3, e4⟩ := half_int k
                  have hq : k / 2 < 256 := by omega
                  have hr : k % 2 < 2 := by omega
                  have hrk : k % 2 ≤ k := Nat.mod_le _ _
                  have hk1 : k - k % 2 + 1 < 512 := by omega
                  have hsub : (k : Int) - ((k % 2 : Nat) : Int) = ((k - k % 2 : Nat) : Int) := by omega
                  clear hOa hOb hsep hB
                  generalize k / 2 = q at *
                  generalize k % 2 = r at *
                  have q0 : (0 : Int) ≤ (q : Int) := by omega
                  have q1 : (q : Int) < 256 := by omega
                  have r0 : (0 : Int) ≤ (r : Int) := by omega
                  have r1 : (r : Int) < 2 := by omega
                  go_wp2_with (refine wpList_load_mid (by rfl) 23 (.tmp 4) (by rfl) w.heap.size 0 (by rfl) (cellsB seed) _ (HV.out _ HB.out).1 Tryd.underlying23 (by rfl) (by rw [cellsB_length, hs]; exact Tryd.sizeDg) ?_)
                  refine (ronceSecret_any seed q r wr hs hq (by omega)).mono ?_
                  rintro e w12 ⟨rfl, hb12⟩
                  have hl3 := onceSecL_length seed q r
                  generalize onceSecL seed q r = X at *
                  go_wp2_with fail
                  refine (ronceLeaf_any X w12 hl3).mono ?_
                  rintro e w13 ⟨rfl, hb13⟩
                  have hl4 := onceLeafL_length X
                  have b4 := below_trans hb12 hb13
                  have HO4 : Hid (OwnD w13 w11.heap.size u14 (onceLeavesL seed k)) := OwnD.below HO.out b4
                  have HP4 : Hid (OwnD w13 w11.heap.size u15 (onceToldL other sig k)) := OwnD.below HP.out b4
                  have HB4 : Hid (Below w11.heap.size w11 w13) := HB.out.trans (b4.mono HB.out.size)
                  clear hb12 hb13 b4 HO HP HB
                  generalize onceLeafL X = Y at *
                  have hs4 := HB4.out.size
                  go_wp2_with (first
                    | (refine wpList_build1 (by rfl) (.tmp 100) 24 (by rfl) 23 (.agg zeros32) iD Y hl4 (by rfl) Tryd.underlying24 hiD hzD0 (by rfl) hzD1 ?_)
                    | (at_builtin; refine wpList_append_digests (by rfl) (.tmp 93) (.tmp 101) (by rfl) w11.heap.size u14 (onceLeavesL seed k) (by rfl) (OwnD.alloc HO4.out _) ⟨w13.heap.size, 0, none⟩ 1 1 [Y] (by rfl) (DRow.lit1 w13 Y _ hl4) (by omega) (by rw [HLN.out]; omega) (by simp; omega) ?_; intro v5 w5 ho5 hg5 hat5; have HO5 : Hid (OwnD w5 w11.heap.size v5 (onceLeavesL seed (k + 1))) := (by rw [← HSN.out]; exact ho5); have HB5 : Hid (Below w11.heap.size w11 w5) := OwnD.grown (OwnD.alloc HO4.out _) (Below.alloc HB4.out hs4 _) hg5 (Nat.le_refl _) (by simp; omega); have HP5 : Hid (OwnD w5 w11.heap.size u15 (onceToldL other sig k)) := OwnD.sep (OwnD.alloc HP4.out _) hg5 HSP.out; have HSP5 : Hid (Sep v5 u15) := Sep.nextD HSP.out hat5 (OwnD.alloc HP4.out _); clear ho5 hg5 hat5)
                    | (refine wpList_load_mid (by rfl) 23 (.tmp 6) (by rfl) (w.heap.size + 2) 0 (by rfl) (cellsB other) _ (HV.out _ HB5.out).2.2.1 Tryd.underlying23 (by rfl) (by rw [cellsB_length, ho]; exact Tryd.sizeDg) ?_))
                  clear HO4 HP4 HB4 HSN HLN hs4 HSP
                  refine (rbit_any other q w5 ho hq).mono ?_
                  rintro e w6 ⟨rfl, hb6⟩
                  have hbl := bitL_lt other q
                  have HO6 : Hid (OwnD w6 w11.heap.size v5 (onceLeavesL seed (k + 1))) := OwnD.below HO5.out hb6
                  have HP6 : Hid (OwnD w6 w11.heap.size u15 (onceToldL other sig k)) := OwnD.below HP5.out hb6
                  have HB6 : Hid (Below w11.heap.size w11 w6) := HB5.out.trans (hb6.mono HB5.out.size)
                  clear hb6 HO5 HP5 HB5
                  obtain ⟨ba, oa, rfl, hcs⟩ : ∃ ba oa, sa = some ⟨ba, oa, none⟩ ∧ ∀ i, i < 512 → DAt w6 ba (oa + 32 * i) (sig.getD i []) := by
                    rcases (HV.out _ HB6.out).2.2.2.2.1.2.2 with h | h
                    · omega
                    · exact h
                  generalize bitL other q = t at *
                  generalize hp : k - r = p at *
                  have p0 : (0 : Int) ≤ (p : Int) := by omega
                  have p1 : (p : Int) < 512 := by omega
                  have p2 : (p : Int) + 1 < 512 := by omega
                  have hl0 := HS32.out p (by omega)
                  have hl1 := HS32.out (p + 1) hk1
                  have HD0 : Hid (DAt w6 ba (oa + p * 32) (sig.getD p [])) := by have := hcs p (by omega); rwa [show oa + 32 * p = oa + p * 32 by omega] at this
                  have HD1 : Hid (DAt w6 ba (oa + (p + 1) * 32) (sig.getD (p + 1) [])) := by have := hcs (p + 1) hk1; rwa [show oa + 32 * (p + 1) = oa + (p + 1) * 32 by omega] at this
                  clear hcs hp
                  by_cases htr : t = r
                  · have hbe : ((t : Int) == (r : Int)) = true := by simp [htr]
                    rw [if_pos htr] at HAT
                    have HTR : Hid (t = r) := htr
                    clear htr HD1
                    generalize sig.getD p [] = X2 at *
                    go_wp2_with (refine wpList_load_mid (by rfl) 23 (.tmp 116) (by rfl) ba (oa + p * 32) (by rfl) (cellsB X2) _ HD0.out Tryd.underlying23 (by rfl) (by rw [cellsB_length, hl0]; exact Tryd.sizeDg) ?_)
                    refine (ronceLeaf_any X2 w6 hl0).mono ?_
                    rintro e w7b ⟨rfl, hb7⟩
                    rw [← HAT.out]
                    have HO7 : Hid (OwnD w7b w11.heap.size v5 (onceLeavesL seed (k + 1))) := OwnD.below HO6.out hb7
                    have HP7 : Hid (OwnD w7b w11.heap.size u15 (onceToldL other sig k)) := OwnD.below HP6.out hb7
                    have HB7 : Hid (Below w11.heap.size w11 w7b) := HB6.out.trans (hb7.mono HB6.out.size)
                    clear hb7 HO6 HP6 HB6 HAT
                    generalize onceAt other sig k = Y2 at *
                    have hs7 := HB7.out.size
                    go_wp2_with (first
                      | (refine wpList_build1 (by rfl) (.tmp 118) 24 (by rfl) 23 (.agg zeros32) iD Y2 hl9 (by rfl) Tryd.underlying24 hiD hzD0 (by rfl) hzD1 ?_)
                      | (at_builtin; refine wpList_append_digests (by rfl) (.tmp 110) (.tmp 119) (by rfl) w11.heap.size u15 (onceToldL other sig k) (by rfl) (OwnD.alloc HP7.out _) ⟨w7b.heap.size, 0, none⟩ 1 1 [Y2] (by rfl) (DRow.lit1 w7b Y2 _ hl9) (by omega) (by rw [HLT.out]; omega) (by simp; omega) ?_; intro v8 w8b ho8 hg8 hat8))
                    have B8 := OwnD.grown (OwnD.alloc HP7.out _) (Below.alloc HB7.out hs7 _) hg8 (Nat.le_refl _) (by simp; omega)
                    have O8 := OwnD.sep (OwnD.alloc HO7.out _) hg8 HSP5.out.symm
                    have S8 := (Sep.nextD HSP5.out.symm hat8 (OwnD.alloc HO7.out _)).symm
                    rw [HTN.out] at ho8
                    clear hg8 HO7 HP7 HB7 HTN HLT hat8
                    go_wp2
                    go_roundw
                    case rel =>
                      (repeat apply Exists.intro)
                      refine ⟨⟨k + 1, ?_, ?_, O8, ho8, S8, B8⟩, rfl⟩
                      · omega
                      · go_num
                    case measure => simp [intOf]; omega
                  · have hbe : ((t : Int) == (r : Int)) = false := by simp; omega
                    rw [if_neg htr] at HAT
                    have HTR : Hid (¬ t = r) := htr
                    clear htr HD0
                    rw [HAT.out] at hl9 HTN
                    clear HAT
                    generalize sig.getD (p + 1) [] = Y2 at *
                    have hs7 := HB6.out.size
                    go_wp2_with (first
                      | (refine wpList_load_mid (by rfl) 23 (.tmp 128) (by rfl) ba (oa + (p + 1) * 32) (by rfl) (cellsB Y2) _ HD1.out Tryd.underlying23 (by rfl) (by rw [cellsB_length, hl1]; exact Tryd.sizeDg) ?_)
                      | (refine wpList_build1 (by rfl) (.tmp 129) 24 (by rfl) 23 (.agg zeros32) iD Y2 hl9 (by rfl) Tryd.underlying24 hiD hzD0 (by rfl) hzD1 ?_)
                      | (at_builtin; refine wpList_append_digests (by rfl) (.tmp 121) (.tmp 130) (by rfl) w11.heap.size u15 (onceToldL other sig k) (by rfl) (OwnD.alloc HP6.out _) ⟨w6.heap.size, 0, none⟩ 1 1 [Y2] (by rfl) (DRow.lit1 w6 Y2 _ hl9) (by omega) (by rw [HLT.out]; omega) (by simp; omega) ?_; intro v8 w8b ho8 hg8 hat8))
                    have B8 := OwnD.grown (OwnD.alloc HP6.out _) (Below.alloc HB6.out hs7 _) hg8 (Nat.le_refl _) (by simp; omega)
                    have O8 := OwnD.sep (OwnD.alloc HO6.out _) hg8 HSP5.out.symm
                    have S8 := (Sep.nextD HSP5.out.symm hat8 (OwnD.alloc HO6.out _)).symm
                    rw [HTN.out] at ho8
                    clear hg8 HO6 HP6 HB6 HTN HLT hat8
                    go_roundw
                    case rel =>
                      (repeat apply Exists.intro)
                      refine ⟨⟨k + 1, ?_, ?_, O8, ho8, S8, B8⟩, rfl⟩
                      · omega
                      · go_num
                    case measure => simp [intOf]; omega
                · obtain rfl : k = 512 := by omega
                  obtain ⟨a5, c5, rfl, R5, hc5⟩ := OwnD.form hOa
                  obtain ⟨a6, c6, rfl, R6, hc6⟩ := OwnD.form hOb
                  rw [onceLeavesL_len] at R5 hc5 ⊢
                  rw [onceToldL_len] at R6 hc6 ⊢
                  have HR5 : Hid (∀ wx, Below wr.heap.size wr wx → DRow wx a5 512 (onceLeavesL seed 512) ∧ DRow wx a6 512 (onceToldL other sig 512)) := fun wx hx => ⟨R5.below hx, R6.below hx⟩
                  have HB : Hid (Below w11.heap.size w11 wr) := hB
                  have hE1 : shaL (4 :: (onceLeavesL seed 512).flatten) = Qd := HPD.out
                  have hE2 : shaL (4 :: (onceToldL other sig 512).flatten) = Qd := HQD.out
                  have HE1 : Hid (shaL (4 :: (onceLeavesL seed 512).flatten) = Qd) := hE1
                  have HE2 : Hid (shaL (4 :: (onceToldL other sig 512).flatten) = Qd) := hE2
                  clear hOa hOb hsep hB R5 R6 hc5 hc6 hE1 hE2 HPD HQD
                  generalize onceLeavesL seed 512 = La at *
                  generalize onceToldL other sig 512 = Lb at *
                  have hne : decide (La = Lb) = false := decide_eq_false HNE.out
                  have H0 : Hid (Below wr.heap.size wr wr) := Below.refl _ _
                  go_wp2_with fail
                  refine (sdigests_any a5 a6 512 512 c5 c6 La Lb wr (HR5.out _ H0.out).1 (HR5.out _ H0.out).2 (by omega)).mono ?_
                  rintro e w12 ⟨rfl, hb12⟩
                  rw [hne]
                  have HB12 : Hid (Below wr.heap.size wr w12) := hb12
                  clear hb12 H0 hne
                  go_wp2_with fail
                  refine (rof_any 4 a5 512 c5 La w12 (HR5.out _ HB12.out).1 (by omega)).mono ?_
                  rintro e w13 ⟨rfl, hb13⟩
                  rw [HE1.out]
                  have HB13 : Hid (Below wr.heap.size wr w13) := HB12.out.trans (hb13.mono HB12.out.size)
                  clear hb13 HB12
                  go_wp2_with fail
                  refine (rof_any 4 a6 512 c6 Lb w13 (HR5.out _ HB13.out).2 (by omega)).mono ?_
                  rintro e w14 ⟨rfl, hb14⟩
                  rw [HE2.out]
                  have HB14 : Hid (Below wr.heap.size wr w14) := HB13.out.trans (hb14.mono HB13.out.size)
                  clear hb14 HB13
                  go_wp2_with (refine wpList_eqD (.tmp 139) (.tmp 141) (by rfl) (by rfl) Qd Qd lQ lQ (by rfl) (by rfl) true (by simp) ?_)
                  go_ret
                  exact ⟨rfl, (HV.out _ (HB.out.trans (HB14.out.mono HB.out.size))).2.2.2.2.2.2⟩
      · have hQP2 : (!decide (Qd = P)) = true := by rw [decide_eq_false hQP]; rfl
        go_wp2_with (first
          | (refine wpList_allocE (by rfl) 23 (by rfl) (cellsB zD).toArray Tryd.zeroDg w8.heap.size rfl w9 hw9 ?_)
          | (refine wpList_store_mid (by rfl) 23 (.tmp 11) (.tmp 38) (by rfl) w8.heap.size 0 (cellsB Qd).toArray (by rfl) (by rfl) (by rw [cellsB_size, lQ]; exact HT9.out) (by rw [cellsB_size, lQ]; exact Tryd.sizeDg) (all_oneCell_toArray (cellsB_one _)) ?_; rw [show (cellsB Qd).toArray.toList = cellsB Qd from rfl, hw10])
          | (refine wpList_load_midG (by rfl) 23 (.tmp 11) (by rfl) w8.heap.size 0 (by rfl) (cellsB Qd) _ HX10.out Tryd.underlying23 (by rfl) (by rw [cellsB_length, lQ]; exact Tryd.sizeDg) ?_)
          | (refine wpList_load_midG (by rfl) 23 (.tmp 9) (by rfl) g 0 (by rfl) (cellsB P) _ (HW.out _ HB10.out).1 Tryd.underlying23 (by rfl) (by rw [cellsB_length, hPl]; exact Tryd.sizeDg) ?_)
          | (refine wpList_neqD (.tmp 43) (.tmp 44) (by rfl) (by rfl) Qd P lQ hPl (by rfl) (by rfl) true hQP2 ?_))
        go_ret
        exact ⟨rfl, (HW.out _ HB10.out).2.2.2.2.2.2⟩
    · go_wp2_with (refine wpList_load_mid (by rfl) 23 (.tmp 6) (by rfl) (w.heap.size + 2) 0 (by rfl) (cellsB other) _ (HW.out _ H0.out).2.2.2.1 Tryd.underlying23 (by rfl) (by rw [cellsB_length, ho]; exact Tryd.sizeDg) ?_)
      refine (wonce_short other sa n c w7 (HW.out _ H0.out).2.2.2.2.1 ho h512 (by omega)).mono ?_
      rintro e w8 ⟨rfl, hb8⟩
      obtain ⟨w9, hw9⟩ : ∃ w9, w8.alloc (.cells (cellsB zD).toArray 23) = w9 := ⟨_, rfl⟩
      have HT9 : Hid (w9.there w8.heap.size 0 32) := by rw [← hw9]; exact alloc_thereAt _ _ _ 32 _ rfl zD_size.symm
      have hb9 : Below w8.heap.size w8 w9 := by rw [← hw9]; exact (Below.refl _ _).alloc (Nat.le_refl _) _
      have HB10 : Hid (Below w7.heap.size w7 (w9.setCells w8.heap.size 0 (cellsB zD))) := below_setCells _ hb8.size _ _ _ (hb8.trans (hb9.mono hb8.size))
      clear hb8 hb9 H0
      have HLZ : Hid (zD.length = 32) := lz
      clear lz
      generalize hzz : zD = zz at HT9 HB10 HLZ ⊢
      rw [hzz] at hw9
      have HZZ : Hid ((Tryd.prog.info? 23).map (·.zero) = some (some (.agg (cellsB zz).toArray))) := by rw [← hzz]; exact Tryd.zeroDg
      clear hzz
      go_wp2_with (first
        | (refine wpList_allocE (by rfl) 23 (by rfl) (cellsB zz).toArray HZZ.out w8.heap.size rfl w9 hw9 ?_)
        | (refine wpList_store_mid (by rfl) 23 (.tmp 11) (.tmp 38) (by rfl) w8.heap.size 0 (cellsB zz).toArray (by rfl) (by rfl) (by rw [cellsB_size, HLZ.out]; exact HT9.out) (by rw [cellsB_size, HLZ.out]; exact Tryd.sizeDg) (all_oneCell_toArray (cellsB_one _)) ?_))
      go_ret
      exact ⟨rfl, (HW.out _ HB10.out).2.2.2.2.2.2⟩
end Go.Proofs.YtigdgmoiljifjaaDoor
