/- Texts of this claim, joined: Rtree, Rtree2, StepD, Rtree3. -/
import Derived.Test.YtdldkhhcicjbmabDoorJ12
import Derived.Test.YtdldkhhcicjbmabDoorJ08
import Derived.Test.YtdldkhhcicjbmabDoorJ06
import Derived.Test.YtdldkhhcicjbmabDoorJ07
import Derived.Deep.RegionHeld3
/- The contracts of oathbookref1.Leaf, Node, Half and Long. -/
namespace Go.Proofs.YtdldkhhcicjbmabDoor
open Go.RowKit
set_option linter.unusedVariables false
set_option linter.unusedSimpArgs false

theorem Tryd.infoTu8 : (Tryd.prog.info? 5).map (fun i => (i.zero, i.size, i.bytes)) = some (some (.int .u8 0), 1, 1) := by kernel_rfl
set_option maxRecDepth 100000 in
set_option maxHeartbeats 1000000 in
theorem rnode_any (l r : List UInt8) (w : World) (hl : l.length = 32) (hr : r.length = 32) :
    Calls Tryd.prog 21 #[digestV l, digestV r] w fun e w' => e = .returned (digestV (nodeT l r)) ∧ Below w.heap.size w w' := by
  obtain ⟨iD, hiD, hzD0, hzD1, hzD2⟩ := info_parts Tryd.infoDg
  obtain ⟨w2, hw2⟩ : ∃ w2, ((w.alloc (.cells (cellsB l).toArray 24)).alloc (.cells (cellsB r).toArray 24)).alloc (.cells (cellsB zD).toArray 24) = w2 := ⟨_, rfl⟩
  have hs0 : (w.alloc (.cells (cellsB l).toArray 24)).heap.size = w.heap.size + 1 := by simp
  have hs1 : ((w.alloc (.cells (cellsB l).toArray 24)).alloc (.cells (cellsB r).toArray 24)).heap.size = w.heap.size + 1 + 1 := by simp
  have hs2 : w2.heap.size = w.heap.size + 1 + 1 + 1 := by rw [← hw2]; simp
  have HD2 : Hid (DAt w2 w.heap.size 0 l ∧ DAt w2 (w.heap.size + 1) 0 r) := by rw [← hw2]; exact ⟨World.rangeAt_alloc (World.rangeAt_alloc (box_dat w l _) _) _, World.rangeAt_alloc (box_rangeAt _ _ _ _ hs0) _⟩
  have HT2 : Hid (w2.there (w.heap.size + 1 + 1) 0 32) := by rw [← hw2]; exact alloc_thereAt _ _ _ 32 _ hs1 zD_size.symm
  have HB2 : Hid (Below w.heap.size w w2) := by rw [← hw2]; exact (((Below.refl _ _).alloc (Nat.le_refl _) _).alloc (by simp) _).alloc (by simp; omega) _
  have hb3 : Below w2.heap.size w2 (w2.alloc (.cells (cellsB (l ++ r)).toArray 24)) := (Below.refl _ _).alloc (Nat.le_refl _) _
  have HR3 : Hid (DRow (w2.alloc (.cells (cellsB (l ++ r)).toArray 24)) (some ⟨w.heap.size + 1 + 1 + 1, 0, none⟩) 2 [l, r]) := by rw [← hs2]; exact DRow.lit2 w2 l r _ hl hr
  have HB3 : Hid (Below w.heap.size w (w2.alloc (.cells (cellsB (l ++ r)).toArray 24))) := below_trans HB2.out hb3
  have HT3 : Hid ((w2.alloc (.cells (cellsB (l ++ r)).toArray 24)).there (w.heap.size + 1 + 1) 0 32) := there_below HT2.out hb3 (by omega)
  have HS3 : Hid ((w2.alloc (.cells (cellsB (l ++ r)).toArray 24)).heap.size = w.heap.size + 1 + 1 + 1 + 1) := by unfold Hid; simp [hs2]
  clear hb3
  go_enter Tryd.func21, Tryd.ntmps21
  go_wp2_with (first
    | (refine wpList_allocE (by rfl) 24 (by rfl) (cellsB zD).toArray Tryd.zeroDg (w.heap.size + 1 + 1) hs1 w2 hw2 ?_)
    | (refine wpList_load_mid (by rfl) 24 (.tmp 2) (by rfl) w.heap.size 0 (by rfl) (cellsB l) _ HD2.out.1 Tryd.underlying24 (by rfl) (by rw [cellsB_length, hl]; exact Tryd.sizeDg) ?_)
    | (refine wpList_load_mid (by rfl) 24 (.tmp 3) (by rfl) (w.heap.size + 1) 0 (by rfl) (cellsB r) _ HD2.out.2 Tryd.underlying24 (by rfl) (by rw [cellsB_length, hr]; exact Tryd.sizeDg) ?_)
    | (refine wpList_build2 (by rfl) (.tmp 5) (.tmp 6) 22 (by rfl) 24 (.agg zeros32) iD l r hl hr (by rfl) (by rfl) Tryd.underlying22 hiD hzD0 (by rfl) hzD1 ?_))
  try rw [hs2]
  refine (rof_any 1 _ 2 2 [l, r] _ HR3.out (by omega)).mono ?_
  rintro e w4 ⟨rfl, hb4⟩
  have hE : shaL (1 :: [l, r].flatten) = nodeT l r := by simp [nodeT]
  rw [hE]
  have HB4 : Hid (Below w.heap.size w w4) := below_trans HB3.out hb4
  have HT4 : Hid (w4.there (w.heap.size + 1 + 1) 0 32) := there_below HT3.out hb4 (by have := HS3.out; omega)
  have hlen := nodeT_length l r
  clear hb4 HB2 HT2 HD2 hw2 hs2 hs1 hs0 HR3 HB3 HT3 hE HS3
  generalize hD : nodeT l r = D at *
  have HD : Hid (nodeT l r = D) := hD
  clear hD
  go_wp2_with (refine wpList_store_mid (by rfl) 24 (.tmp 4) (.tmp 8) (by rfl) (w.heap.size + 1 + 1) 0 (cellsB D).toArray (by rfl) (by rfl) (by rw [cellsB_size, hlen]; exact HT4.out) (by rw [cellsB_size, hlen]; exact Tryd.sizeDg) (all_oneCell_toArray (cellsB_one _)) ?_)
  refine bodyPost_ret (v := digestV D) (run_results_row Tryd.results21 _ _ (w.heap.size + 1 + 1) 0 (by rfl) (cellsB D) (World.rangeAt_setCells_same _ _ _ _ (by rw [cellsB_length, hlen]; exact HT4.out)) _ Tryd.underlying24 (by rfl) (by rw [cellsB_length, hlen]; exact Tryd.sizeDg)) rfl ⟨by rw [HD.out], ?_⟩
  exact below_setCells _ (by omega) _ _ _ HB4.out

set_option maxRecDepth 100000 in
set_option maxHeartbeats 1000000 in
theorem rhalf_any (n : Nat) (w : World) (hn : 2 ≤ n) (hn2 : n ≤ 1000000) :
    Calls Tryd.prog 18 #[.int .i64 (n : Int)] w fun e w' => e = .returned (.int .i64 (halfT n : Int)) ∧ w' = w := by
  go_enter Tryd.func18, Tryd.ntmps18
  go_wp2_with fail
  go_loopw [3] (fun v wr => ∃ k f : Nat, v = .int .i64 (k : Int) ∧ 0 < k ∧ k < n ∧ n ≤ k + f ∧ Hid (halfF f k n = halfT n) ∧ Hid (wr = w)) (fun v _ => n - (intOf v).toNat)
  case atStart => exact ⟨1, n, rfl, by omega, by omega, by omega, rfl, rfl⟩
  case round =>
    obtain ⟨k, f, rfl, h0, h1, h2, HE, HW⟩ := hrel
    by_cases hlt : 2 * k < n
    · have g1 : (2 : Int) * (k : Int) < (n : Int) := by omega
      cases f with
      | zero => omega
      | succ f =>
        go_wp2_with fail
        go_roundw
        case rel => exact ⟨2 * k, f, by go_num, by omega, hlt, by omega, (by have := HE.out; rw [halfF, if_pos hlt] at this; exact this), HW⟩
        case measure => simp [intOf]; omega
    · have g1 : ¬ (2 : Int) * (k : Int) < (n : Int) := by omega
      have hk : halfT n = k := by
        have := HE.out
        cases f with
        | zero => exact this.symm
        | succ f => rw [halfF, if_neg hlt] at this; exact this.symm
      have HK : Hid (halfT n = k) := hk
      clear hk
      go_wp2_with fail
      go_ret
      exact ⟨by rw [HK.out]; rfl, HW.out⟩
end Go.Proofs.YtdldkhhcicjbmabDoor
/- The contracts of oathbookref1.Long and Root: they call themselves. -/
namespace Go.Proofs.YtdldkhhcicjbmabDoor
open Go.RowKit
set_option linter.unusedVariables false
set_option linter.unusedSimpArgs false

set_option maxRecDepth 100000 in
set_option maxHeartbeats 1000000 in
theorem rroot_any : ∀ (n : Nat) (a : Option Addr) (c : Nat) (ls : List (List UInt8)) (w : World), DRow w a n ls → n ≤ c → n ≤ 100000 →
    Calls Tryd.prog 17 #[.slice a n c] w fun e w' => e = .returned (digestV (rootT ls)) ∧ Below w.heap.size w w' := by
  intro n
  induction n using Nat.strongRecOn with
  | ind n ih =>
    intro a c ls w R hc hn
    have HI : Hid (∀ m, m < n → ∀ (a : Option Addr) (c : Nat) (ls : List (List UInt8)) (w : World), DRow w a m ls → m ≤ c → m ≤ 100000 → Calls Tryd.prog 17 #[.slice a m c] w fun e w' => e = .returned (digestV (rootT ls)) ∧ Below w.heap.size w w') := ih
    clear ih
    obtain ⟨w2, hw2⟩ : ∃ w2, w.alloc (.cells (cellsB zD).toArray 24) = w2 := ⟨_, rfl⟩
    have HS2 : Hid (w2.heap.size = w.heap.size + 1) := by unfold Hid; rw [← hw2]; simp
    have HB2 : Hid (Below w.heap.size w w2) := by rw [← hw2]; exact (Below.refl _ _).alloc (Nat.le_refl _) _
    have HT2 : Hid (w2.there w.heap.size 0 32) := by rw [← hw2]; exact alloc_thereAt _ _ _ 32 _ rfl zD_size.symm
    have HR2 : Hid (DRow w2 a n ls) := R.below HB2.out
    have HLEN : Hid (ls.length = n) := R.1
    have HKT : Hid (∀ wx, Below w2.heap.size w2 wx → DRow wx a n ls ∧ wx.there w.heap.size 0 32 ∧ Below w.heap.size w wx) := fun wx hx => ⟨HR2.out.below hx, there_below HT2.out hx (by have := HS2.out; omega), HB2.out.trans (hx.mono (by have := HS2.out; omega))⟩
    clear R
    have hlen := rootT_length HR2.out.2.1
    go_enter Tryd.func17, Tryd.ntmps17
    by_cases h2 : 2 ≤ n
    · have e0 : ((n : Int) == 0) = false := by simp; omega
      have e1 : ((n : Int) == 1) = false := by simp; omega
      go_wp2_with (refine wpList_allocE (by rfl) 24 (by rfl) (cellsB zD).toArray Tryd.zeroDg w.heap.size rfl w2 hw2 ?_)
      refine (rhalf_any n w2 h2 (by omega)).mono ?_
      rintro e w' ⟨rfl, rfl⟩
      clear hw2
      have hk1 := halfT_lt h2
      have hk2 := halfT_pos n
      have HE : Hid (rootT ls = nodeT (rootT (ls.take (halfT n))) (rootT (ls.drop (halfT n)))) := by
        have := rootT_two (ls := ls) (by rw [HLEN.out]; exact h2)
        rw [HLEN.out] at this
        exact this
      obtain ⟨b, o, rfl⟩ := HR2.out.addr (by omega)
      have HKL : Hid (∀ wx, Below w'.heap.size w' wx → DRow wx (some ⟨b, o, none⟩) (halfT n) (ls.take (halfT n)) ∧ DRow wx (some ⟨b, o + halfT n * 32, none⟩) (n - halfT n) (ls.drop (halfT n))) := fun wx hx => ⟨(HKT.out wx hx).1.take _ (by omega), (HKT.out wx hx).1.drop _ (by omega)⟩
      have HC1 : Hid (∀ wx, DRow wx (some ⟨b, o, none⟩) (halfT n) (ls.take (halfT n)) → Calls Tryd.prog 17 #[.slice (some ⟨b, o, none⟩) (halfT n) c] wx fun e w' => e = .returned (digestV (rootT (ls.take (halfT n)))) ∧ Below wx.heap.size wx w') := fun wx hr => HI.out (halfT n) hk1 _ c _ wx hr (by omega) (by omega)
      have HC2 : Hid (∀ wx, DRow wx (some ⟨b, o + halfT n * 32, none⟩) (n - halfT n) (ls.drop (halfT n)) → Calls Tryd.prog 17 #[.slice (some ⟨b, o + halfT n * 32, none⟩) (n - halfT n) (c - halfT n)] wx fun e w' => e = .returned (digestV (rootT (ls.drop (halfT n)))) ∧ Below wx.heap.size wx w') := fun wx hr => HI.out (n - halfT n) (by omega) _ (c - halfT n) _ wx hr (by omega) (by omega)
      have lA := rootT_length (HKL.out w' (Below.refl _ _)).1.2.1
      have lB := rootT_length (HKL.out w' (Below.refl _ _)).2.2.1
      rw [HE.out] at hlen
      generalize halfT n = k at *
      generalize rootT (ls.take k) = X at *
      generalize rootT (ls.drop k) = Y at *
      have k0 : (0 : Int) ≤ (k : Int) := by omega
      have k1 : (k : Int) ≤ (n : Int) := by omega
      have k2 : (k : Int) ≤ (c : Int) := by omega
      have n1 : (n : Int) ≤ (c : Int) := by omega
      go_wp2_with fail
      refine wp_region_noPanic ?_
      refine wp_region_held_drew (S := fun _ => True) (by kernel_rfl) True.intro (fun hHeld => ?_)
      try simp only [Act.put, List.setIfInBounds_toArray, List.set_cons_zero, List.set_cons_succ]
      have HBd : Hid (Below w'.heap.size w' w'.drew) := below_drewN w' 1
      generalize w'.drew = wd at *
      refine wpAnyH_take (i := 0) (v := ?_) (by simp only [List.getElem?_toArray, List.getElem?_cons_zero, List.getElem?_cons_succ]; rfl) (by kernel_rfl) (by kernel_rfl) (by kernel_rfl) (fun _ _ _ h => h) (Or.inl ⟨by rfl, ?_⟩) hHeld ?_
      rotate_left
      · intro w hSw
        go_simp
        try with_reducible rfl
      try simp only [Act.put, List.setIfInBounds_toArray, List.set_cons_zero, List.set_cons_succ]
      refine wpAnyH_take (i := 1) (v := ?_) (by simp only [List.getElem?_toArray, List.getElem?_cons_zero, List.getElem?_cons_succ]; rfl) (by kernel_rfl) (by kernel_rfl) (by kernel_rfl) (fun _ _ _ h => h) (Or.inl ⟨by rfl, ?_⟩) hHeld ?_
      rotate_left
      · intro w hSw
        go_simp
        try with_reducible rfl
      try simp only [Act.put, List.setIfInBounds_toArray, List.set_cons_zero, List.set_cons_succ]
      refine wpAnyH_take (i := 2) (v := .slice (some ⟨b, o, none⟩) k c) (by simp only [List.getElem?_toArray, List.getElem?_cons_zero, List.getElem?_cons_succ]; rfl) (by kernel_rfl) (by kernel_rfl) (by kernel_rfl) (fun _ _ _ h => h) (Or.inl ⟨by rfl, ?_⟩) hHeld ?_
      · intro w hSw
        go_simp
      try simp only [Act.put, List.setIfInBounds_toArray, List.set_cons_zero, List.set_cons_succ]
      refine wpAnyH_take (i := 4) (v := ?_) (by simp only [List.getElem?_toArray, List.getElem?_cons_zero, List.getElem?_cons_succ]; rfl) (by kernel_rfl) (by kernel_rfl) (by kernel_rfl) (fun _ _ _ h => h) (Or.inl ⟨by rfl, ?_⟩) hHeld ?_
      rotate_left
      · intro w hSw
        go_simp
        try with_reducible rfl
      try simp only [Act.put, List.setIfInBounds_toArray, List.set_cons_zero, List.set_cons_succ]
      refine wpAnyH_take (i := 5) (v := ?_) (by simp only [List.getElem?_toArray, List.getElem?_cons_zero, List.getElem?_cons_succ]; rfl) (by kernel_rfl) (by kernel_rfl) (by kernel_rfl) (fun _ _ _ h => h) (Or.inl ⟨by rfl, ?_⟩) hHeld ?_
      rotate_left
      · intro w hSw
        go_simp
        try with_reducible rfl
      try simp only [Act.put, List.setIfInBounds_toArray, List.set_cons_zero, List.set_cons_succ]
      refine wpAnyH_take (i := 6) (v := .slice (some ⟨b, o + k * 32, none⟩) (n - k) (c - k)) (by simp only [List.getElem?_toArray, List.getElem?_cons_zero, List.getElem?_cons_succ]; rfl) (by kernel_rfl) (by kernel_rfl) (by kernel_rfl) (fun _ _ _ h => h) (Or.inl ⟨by rfl, ?_⟩) hHeld ?_
      · intro w hSw
        go_simp
        omega
      try simp only [Act.put, List.setIfInBounds_toArray, List.set_cons_zero, List.set_cons_succ]
      refine wpAnyH_ready (rs := [3]) (by kernel_rfl) (by simp) ?_
      refine AllReadyH.cons (by simp only [List.getElem?_toArray, List.getElem?_cons_zero, List.getElem?_cons_succ]; rfl) (fun K hK => ?_) AllReadyH.nil
      rw [if_pos (by rfl)]
      go_simp
      refine (HC1.out wd (HKL.out _ HBd.out).1).mono ?_
      rintro e w3 ⟨rfl, hb3⟩
      have HB3 : Hid (Below w'.heap.size w' w3) := HBd.out.trans (hb3.mono HBd.out.size)
      clear hb3 HBd HC1
      go_wp2_with fail
      refine hK.out _ _ True.intro (fun hHeld => ?_)
      clear hK K
      try simp only [Act.put, List.setIfInBounds_toArray, List.set_cons_zero, List.set_cons_succ]
      refine wpAnyH_ready (rs := [7]) (by kernel_rfl) (by simp) ?_
      refine AllReadyH.cons (by simp only [List.getElem?_toArray, List.getElem?_cons_zero, List.getElem?_cons_succ]; rfl) (fun K hK => ?_) AllReadyH.nil
      rw [if_pos (by rfl)]
      go_simp
      refine (HC2.out w3 (HKL.out _ HB3.out).2).mono ?_
      rintro e w4 ⟨rfl, hb4⟩
      have HB4 : Hid (Below w'.heap.size w' w4) := HB3.out.trans (hb4.mono HB3.out.size)
      clear hb4 HB3 HC2
      go_wp2_with fail
      refine hK.out _ _ True.intro (fun hHeld => ?_)
      clear hK K
      try simp only [Act.put, List.setIfInBounds_toArray, List.set_cons_zero, List.set_cons_succ]
      refine wpAnyH_ready (rs := [8]) (by kernel_rfl) (by simp) ?_
      refine AllReadyH.cons (by simp only [List.getElem?_toArray, List.getElem?_cons_zero, List.getElem?_cons_succ]; rfl) (fun K hK => ?_) AllReadyH.nil
      rw [if_pos (by rfl)]
      go_simp
      refine (rnode_any X Y w4 lA lB).mono ?_
      rintro e w5 ⟨rfl, hb5⟩
      have HB5 : Hid (Below w'.heap.size w' w5) := HB4.out.trans (hb5.mono HB4.out.size)
      clear hb5 HB4
      generalize nodeT X Y = D at *
      go_wp2_with fail
      refine hK.out _ _ True.intro (fun hHeld => ?_)
      clear hK K
      try simp only [Act.put, List.setIfInBounds_toArray, List.set_cons_zero, List.set_cons_succ]
      refine wpAnyH_ready (rs := [9]) (by kernel_rfl) (by simp) ?_
      refine AllReadyH.cons (by simp only [List.getElem?_toArray, List.getElem?_cons_zero, List.getElem?_cons_succ]; rfl) (fun K hK => ?_) AllReadyH.nil
      rw [if_pos (by rfl)]
      refine wp_store_mid _ _ _ rfl w.heap.size 0 (cellsB D).toArray rfl rfl (by rw [cellsB_size, hlen]; exact (HKT.out _ HB5.out).2.1) (by rw [cellsB_size, hlen]; exact Tryd.sizeDg) (all_oneCell_toArray (cellsB_one _)) ?_
      refine hK.out _ _ True.intro (fun hHeld => ?_)
      clear hK K
      try simp only [Act.put, List.setIfInBounds_toArray, List.set_cons_zero, List.set_cons_succ]
      refine wpAnyH_done (by kernel_rfl) (NoPanic.normal ?_) _
      clear hHeld
      go_wp2_with fail
      refine bodyPost_ret (v := digestV D) (run_results_row Tryd.results17 _ _ w.heap.size 0 (by rfl) (cellsB D) (World.rangeAt_setCells_same _ _ _ _ (by rw [cellsB_length, hlen]; exact (HKT.out _ HB5.out).2.1)) _ Tryd.underlying24 (by rfl) (by rw [cellsB_length, hlen]; exact Tryd.sizeDg)) rfl ⟨by rw [HE.out], ?_⟩
      exact below_setCells _ (Nat.le_refl _) _ _ _ (HKT.out _ HB5.out).2.2
    · by_cases h0 : n = 0
      · subst h0
        have HE : Hid (rootT ls = shaL []) := rootT_none HLEN.out
        rw [HE.out] at hlen
        go_wp2_with (refine wpList_allocE (by rfl) 24 (by rfl) (cellsB zD).toArray Tryd.zeroDg w.heap.size rfl w2 hw2 ?_)
        refine (rsum_any none 0 0 [] w2 (Row.nil _) (by omega)).mono ?_
        rintro e w3 ⟨rfl, hb3⟩
        have HB3 : Hid (Below w2.heap.size w2 w3) := hb3
        clear hb3
        generalize shaL [] = D at *
        go_wp2_with (refine wpList_store_mid (by rfl) 24 (.tmp 2) (.tmp 7) (by rfl) w.heap.size 0 (cellsB D).toArray (by rfl) (by rfl) (by rw [cellsB_size, hlen]; exact (HKT.out _ HB3.out).2.1) (by rw [cellsB_size, hlen]; exact Tryd.sizeDg) (all_oneCell_toArray (cellsB_one _)) ?_)
        refine bodyPost_ret (v := digestV D) (run_results_row Tryd.results17 _ _ w.heap.size 0 (by rfl) (cellsB D) (World.rangeAt_setCells_same _ _ _ _ (by rw [cellsB_length, hlen]; exact (HKT.out _ HB3.out).2.1)) _ Tryd.underlying24 (by rfl) (by rw [cellsB_length, hlen]; exact Tryd.sizeDg)) rfl ⟨by rw [HE.out], ?_⟩
        exact below_setCells _ (Nat.le_refl _) _ _ _ (HKT.out _ HB3.out).2.2
      · obtain rfl : n = 1 := by omega
        have HE : Hid (rootT ls = ls.getD 0 []) := rootT_one HLEN.out
        rw [HE.out] at hlen
        obtain ⟨b, o, rfl⟩ := HR2.out.addr (by omega)
        have HX : Hid (DAt w2 b o (ls.getD 0 [])) := by have := HR2.out.at 0 (by omega); rwa [Nat.zero_mul, Nat.add_zero] at this
        generalize ls.getD 0 [] = D at *
        go_wp2_with (first
          | (refine wpList_allocE (by rfl) 24 (by rfl) (cellsB zD).toArray Tryd.zeroDg w.heap.size rfl w2 hw2 ?_)
          | (refine wpList_load_mid (by rfl) 24 (.tmp 12) (by rfl) b o (by rfl) (cellsB D) _ HX.out Tryd.underlying24 (by rfl) (by rw [cellsB_length, hlen]; exact Tryd.sizeDg) ?_)
          | (refine wpList_store_mid (by rfl) 24 (.tmp 2) (.tmp 13) (by rfl) w.heap.size 0 (cellsB D).toArray (by rfl) (by rfl) (by rw [cellsB_size, hlen]; exact HT2.out) (by rw [cellsB_size, hlen]; exact Tryd.sizeDg) (all_oneCell_toArray (cellsB_one _)) ?_))
        refine bodyPost_ret (v := digestV D) (run_results_row Tryd.results17 _ _ w.heap.size 0 (by rfl) (cellsB D) (World.rangeAt_setCells_same _ _ _ _ (by rw [cellsB_length, hlen]; exact HT2.out)) _ Tryd.underlying24 (by rfl) (by rw [cellsB_length, hlen]; exact Tryd.sizeDg)) rfl ⟨by rw [HE.out], ?_⟩
        exact below_setCells _ (Nat.le_refl _) _ _ _ HB2.out
end Go.Proofs.YtdldkhhcicjbmabDoor
/- A literal of a digest, and digests appended, as steps of a region that draws its order. -/
namespace Go.Proofs.YtdldkhhcicjbmabDoor
open Go.RowKit
set_option linter.unusedVariables false
set_option linter.unusedSimpArgs false

theorem wp_buildD1 {w : World} {o : Oper} {a : Act} {K : Act → World → Prop} {Q : Exit → Act → World → Prop} (x : Operand) (ho : o.op = .buildSlice 22 1 #[(0, x)])
    (l : List UInt8) (hl : l.length = 32) (hx : a.eval x = digestV l)
    (h : K (a.put o.dst (.slice (some ⟨w.heap.size, 0, none⟩) 1 1)) (w.alloc (.cells (cellsB l).toArray 24))) : o.wp Tryd.prog a w K Q := by
  obtain ⟨i0, hi, hz0, hz1, hz2⟩ := info_parts Tryd.infoDg
  have hrun := run_buildD (P := Tryd.prog) w 22 24 (.agg zeros32) i0 [l] (by intro q hq; rw [List.mem_singleton] at hq; rw [hq]; exact hl) (by simp) (by simp) Tryd.underlying22 hi hz0 (by rfl) hz1
  simp only [List.length_singleton, List.zipIdx_cons, List.zipIdx_nil, List.map_cons, List.map_nil, List.flatten_cons, List.flatten_nil, List.append_nil] at hrun
  unfold Oper.wp
  simp [execOp, ho, hx, hrun, Result.andThen]
  exact h
theorem wp_appendD {w : World} {o : Oper} {a : Act} {K : Act → World → Prop} {Q : Exit → Act → World → Prop} (s x : Operand)
    (ho : o.op = .call { callee := .builtin .append, args := #[s, x], argTypes := #[22, 22] })
    (base : Nat) (v : Value) (ls : List (List UInt8)) (hs : a.eval s = v) (hown : OwnD w base v ls)
    (ad : Addr) (n c : Nat) (ds : List (List UInt8)) (hx : a.eval x = .slice (some ad) n c) (hr : DRow w (some ad) n ds) (hn0 : 0 < n) (h47 : (ls.length + n) * 32 ≤ 140737488355328) (hbase : base ≤ w.heap.size)
    (h : ∀ v' w', OwnD w' base v' (ls ++ ds) → w.grownBy w' v.ownBlock → (v'.ownBlock = v.ownBlock ∨ v'.ownBlock = some w.heap.size) → K (a.put o.dst v') w') : o.wp Tryd.prog a w K Q := by
  obtain ⟨i0, hi, hz0, hz1, hz2⟩ := info_parts Tryd.infoDg
  have hlen := hr.len
  obtain ⟨hl, h32, h1 | ⟨b, off, e1, hc⟩⟩ := hr
  · omega
  cases e1
  have hf := flat_len h32
  have hnews : ∀ j u, (cellsB ds.flatten)[j]? = some u → w.cell? ((⟨b, off, none⟩ : Addr).add j) = some u := by
    intro j u hj
    have hj' : j < ds.flatten.length := by have := (List.getElem?_eq_some_iff.1 hj).1; rwa [cellsB_length] at this
    have hq : j / 32 < n := by omega
    have hm : j % 32 < 32 := Nat.mod_lt _ (by omega)
    have e : j = 32 * (j / 32) + j % 32 := by omega
    rw [Go.WideShapes.add_plain, ← hj, cellsB_at _ j hj']
    have := (hc (j / 32) hq).cell (j % 32) (by rw [hlen _ hq]; exact hm)
    rw [show off + 32 * (j / 32) + j % 32 = off + j by omega] at this
    rw [this]
    have hn := nth_flat h32 (j / 32) (j % 32) (by omega) hm
    rw [← e] at hn
    rw [hn]
  obtain ⟨v', w', hrun, h2, h3, h4, h5⟩ := run_append_own_at (P := Tryd.prog) w base 22 o.type 24 i0 (.agg zeros32) 32 32 Tryd.underlying22 hi hz0 hz1 hz2 rfl (by decide) v ls.length (cellsB ls.flatten) hown.2 ⟨b, off, none⟩ n c (cellsB ds.flatten) (by rw [cellsB_length, hf, hl]; omega) hnews (cellsB_one _) (by unfold maxLen; omega) h47 hbase
  unfold Oper.wp execOp
  simp only [ho, resolve, invoke, builtin, Sem.run_bind, Sem.run_pure, Result.andThen_ok, List.map_toArray, List.map_cons, List.map_nil, hs, hx, hrun]
  refine h v' w' ⟨?_, ?_⟩ h3 h5
  · intro l hl'
    rcases List.mem_append.1 hl' with h' | h'
    · exact hown.1 l h'
    · exact h32 l h'
  · rw [List.length_append, List.flatten_append, cellsB_append, hl]
    exact h2
end Go.Proofs.YtdldkhhcicjbmabDoor
/- The contracts of oathbookref1.Path and Folded: they call themselves. -/
namespace Go.Proofs.YtdldkhhcicjbmabDoor
open Go.RowKit
set_option linter.unusedVariables false
set_option linter.unusedSimpArgs false

theorem wrapT (n : Nat) (h : n < 9223372036854775808) : IntKind.i64.wrap (n : Int) = n := by
  simp only [IntKind.wrap, IntKind.bits, IntKind.signed, Bool.true_and]
  rw [if_neg (by simp; omega)]
  omega
theorem OwnD.lower {w : World} {B B' : Nat} {v : Value} {ls : List (List UInt8)} (h : OwnD w B v ls) (hb : B' ≤ B) : OwnD w B' v ls := by
  refine ⟨h.1, ?_⟩
  have h := h.2
  rcases h.2 with ⟨h1, h0⟩ | ⟨g, cap, cur, e1, e2, e3, e4⟩
  · exact ⟨h.1, .inl ⟨h1, h0⟩⟩
  · exact ⟨h.1, .inr ⟨g, cap, cur, e1, Nat.le_trans hb e2, e3, e4⟩⟩

end Go.Proofs.YtdldkhhcicjbmabDoor
