/- The law StampOthers: a signature is of its place. -/
import Derived.Test.YtdgaimlccpmojaaDoorJ22
import Derived.Test.YtdgaimlccpmojaaDoorJ06
import Derived.Test.YtdgaimlccpmojaaDoorJ07
import Derived.Deep.DeepCutAuto
import Derived.Deep.RegionHeld3
import Derived.Test.YtdgaimlccpmojaaDoorJ23
import Derived.Test.YtdgaimlccpmojaaDoorJ15
import Derived.Test.YtdgaimlccpmojaaDoorJ20
namespace Go.Proofs.YtdgaimlccpmojaaDoor
open Go.RowKit
set_option linter.unusedVariables false
set_option linter.unusedSimpArgs false

theorem long_two : longT 0 2 = 1 ∧ longT 1 2 = 1 := by
  have h := stamp_path [] 0 2 (by omega)
  have k := stamp_path [] 1 2 (by omega)
  rw [stamp_path0] at h
  rw [stamp_path1] at k
  exact ⟨h.symm, k.symm⟩
set_option maxRecDepth 100000 in
set_option maxHeartbeats 2000000 in
theorem sothers_walk (seed m : List UInt8) (i : Int) (w : World) (G : Env w) (hs : seed.length = 32) (hm : m.length = 32) (i1 : -9223372036854775808 ≤ i) (i2 : i ≤ 9223372036854775807) :
    Calls Tryd.prog 4 #[digestV seed, digestV m, .int .i64 i] w fun e w' => e = .returned (.bool true) ∧ Below w.heap.size w w' := by
  obtain ⟨w2, hw2⟩ : ∃ w2, (w.alloc (.cells (cellsB seed).toArray 23)).alloc (.cells (cellsB m).toArray 23) = w2 := ⟨_, rfl⟩
  have hs1 : (w.alloc (.cells (cellsB seed).toArray 23)).heap.size = w.heap.size + 1 := by simp
  have HS2 : Hid (w2.heap.size = w.heap.size + 1 + 1) := by unfold Hid; rw [← hw2]; simp
  have HB2 : Hid (Below w.heap.size w w2) := by rw [← hw2]; exact ((Below.refl _ _).alloc (Nat.le_refl _) _).alloc (by simp) _
  have hx2 : w2.rangeAt w.heap.size 0 (cellsB seed) := by rw [← hw2]; exact World.rangeAt_alloc (box_dat w seed _) _
  have hm2 : w2.rangeAt (w.heap.size + 1) 0 (cellsB m) := by rw [← hw2]; exact box_rangeAt _ _ _ _ hs1
  have HALL : Hid (∀ wx, Below w2.heap.size w2 wx → Env wx ∧ wx.rangeAt w.heap.size 0 (cellsB seed) ∧ wx.rangeAt (w.heap.size + 1) 0 (cellsB m) ∧ Below w.heap.size w wx) := fun wx hx => by
    have s := HS2.out
    have b : Below w.heap.size w wx := HB2.out.trans (hx.mono (by omega))
    exact ⟨G.below b, range_below hx2 hx (by omega), range_below hm2 hx (by omega), b⟩
  have H0 : Hid (Below w2.heap.size w2 w2) := Below.refl _ _
  have HX2 : Hid (w2.rangeAt w.heap.size 0 (cellsB seed)) := hx2
  have HPC : Hid (∀ wx, Env wx → Calls Tryd.prog 5 #[digestV seed, .int .i64 1] wx fun e w' => e = .returned (.tuple #[digestV (nodeT (wotsPubL (stampKeyL seed 0)) (wotsPubL (stampKeyL seed 1))), .nilIface]) ∧ Below wx.heap.size wx w') := fun wx hx => by
    have := wstamp_public seed 1 wx hx hs (by omega)
    rw [show (2 : Nat) ^ 1 = 2 from rfl, stamp_root2] at this
    exact this
  have HNC : Hid (∀ wx, Env wx → Calls Tryd.prog 7 #[digestV seed, .int .i64 1] wx fun e w' => (∃ g, e = .returned (.tuple #[.pointer (some ⟨g, 0, none⟩), .nilIface]) ∧ wx.heap.size ≤ g ∧ Stm w' g seed 1 0) ∧ Below wx.heap.size wx w') := fun wx hx => wstamp_new seed 1 wx hx hs (by omega)
  have HSA : Hid (∀ g wx, Env wx → Stm wx g seed 1 0 → Calls Tryd.prog 8 #[.pointer (some ⟨g, 0, none⟩), digestV m] wx fun e w' => (∃ a1 c1 a2 c2, e = .returned (.tuple #[.agg #[.int .i64 0, .slice a1 67 c1, .slice a2 1 c2], .nilIface]) ∧ 67 ≤ c1 ∧ 1 ≤ c2 ∧ DRow w' a1 67 (wotsSigL (stampKeyL seed 0) m 67) ∧ DRow w' a2 1 (pathT (stampLeavesL seed 2) 0) ∧ Stm w' g seed 1 1 ∧ (∀ wy, w'.grownBy wy (some g) → DRow wy a1 67 (wotsSigL (stampKeyL seed 0) m 67) ∧ DRow wy a2 1 (pathT (stampLeavesL seed 2) 0))) ∧ wx.grownBy w' (some g)) := fun g wx hx hst => by
    have := wstamp_signk g seed m 1 0 wx hx hst hm (by omega)
    rw [show (2 : Nat) ^ 1 = 2 from rfl, long_two.1] at this
    exact this
  have HSB : Hid (∀ g wx, Env wx → Stm wx g seed 1 1 → Calls Tryd.prog 8 #[.pointer (some ⟨g, 0, none⟩), digestV m] wx fun e w' => (∃ b1 d1 b2 d2, e = .returned (.tuple #[.agg #[.int .i64 1, .slice b1 67 d1, .slice b2 1 d2], .nilIface]) ∧ 67 ≤ d1 ∧ 1 ≤ d2 ∧ DRow w' b1 67 (wotsSigL (stampKeyL seed 1) m 67) ∧ DRow w' b2 1 (pathT (stampLeavesL seed 2) 1) ∧ Stm w' g seed 1 2 ∧ (∀ wy, w'.grownBy wy (some g) → DRow wy b1 67 (wotsSigL (stampKeyL seed 1) m 67) ∧ DRow wy b2 1 (pathT (stampLeavesL seed 2) 1))) ∧ wx.grownBy w' (some g)) := fun g wx hx hst => by
    have := wstamp_signk g seed m 1 1 wx hx hst hm (by omega)
    rw [show (2 : Nat) ^ 1 = 2 from rfl, long_two.2] at this
    exact this
  have HRA : Hid (∀ a1 c1 a2 c2 wx, Env wx → 67 ≤ c1 → 1 ≤ c2 → DRow wx a1 67 (wotsSigL (stampKeyL seed 0) m 67) → DRow wx a2 1 (pathT (stampLeavesL seed 2) 0) → Calls Tryd.prog 10 #[digestV m, .int .i64 1, .agg #[.int .i64 1, .slice a1 67 c1, .slice a2 1 c2]] wx fun e w' => e = .returned (.tuple #[digestV (nodeT (wotsPubL (stampKeyL seed 1)) (wotsPubL (stampKeyL seed 0))), .nilIface]) ∧ Below wx.heap.size wx w') := fun a1 c1 a2 c2 wx hx h1 h2 r1 r2 => by
    have := wstamp_recover m 1 1 2 a1 c1 a2 1 c2 _ _ wx hx hm (by omega) rfl (by omega) r1 h1 r2 h2 long_two.2.symm
    rw [stamp_other0] at this
    exact this
  have HRB : Hid (∀ a1 c1 a2 c2 wx, Env wx → 67 ≤ c1 → 1 ≤ c2 → DRow wx a1 67 (wotsSigL (stampKeyL seed 1) m 67) → DRow wx a2 1 (pathT (stampLeavesL seed 2) 1) → Calls Tryd.prog 10 #[digestV m, .int .i64 1, .agg #[.int .i64 0, .slice a1 67 c1, .slice a2 1 c2]] wx fun e w' => e = .returned (.tuple #[digestV (nodeT (wotsPubL (stampKeyL seed 1)) (wotsPubL (stampKeyL seed 0))), .nilIface]) ∧ Below wx.heap.size wx w') := fun a1 c1 a2 c2 wx hx h1 h2 r1 r2 => by
    have := wstamp_recover m 1 0 2 a1 c1 a2 1 c2 _ _ wx hx hm (by omega) rfl (by omega) r1 h1 r2 h2 long_two.1.symm
    rw [stamp_other1] at this
    exact this
  have HKE : Hid (∀ (j : Nat) wx, j < 256 → Calls Tryd.prog 12 #[digestV seed, .int .i64 (j : Int)] wx fun e w' => e = .returned (digestV (stampKeyL seed j)) ∧ Below wx.heap.size wx w') := fun j wx hj => rstampKey_any seed j wx hs hj
  have lL : (wotsPubL (stampKeyL seed 0)).length = 32 := wotsPubL_length _
  have lR : (wotsPubL (stampKeyL seed 1)).length = 32 := wotsPubL_length _
  have HPL : Hid (∀ (j : Nat) wx, Calls Tryd.prog 11 #[digestV (stampKeyL seed j)] wx fun e w' => e = .returned (digestV (wotsPubL (stampKeyL seed j))) ∧ Below wx.heap.size wx w') := fun j wx => rwotsPublic_any _ wx (stampKeyL_length seed j)
  generalize wotsSigL (stampKeyL seed 0) m 67 = SA at *
  generalize wotsSigL (stampKeyL seed 1) m 67 = SB at *
  generalize pathT (stampLeavesL seed 2) 0 = PA at *
  generalize pathT (stampLeavesL seed 2) 1 = PB at *
  have HPL0 := HPL.out 0
  have HPL1 := HPL.out 1
  have HKE0 := fun wx => HKE.out 0 wx (by omega)
  have HKE1 := fun wx => HKE.out 1 wx (by omega)
  generalize hL : wotsPubL (stampKeyL seed 0) = L at *
  generalize hR : wotsPubL (stampKeyL seed 1) = R at *
  generalize stampKeyL seed 0 = KL at *
  generalize stampKeyL seed 1 = KR at *
  have HP0 : Hid (∀ wx, Calls Tryd.prog 11 #[digestV KL] wx fun e w' => e = .returned (digestV L) ∧ Below wx.heap.size wx w') := HPL0
  have HP1 : Hid (∀ wx, Calls Tryd.prog 11 #[digestV KR] wx fun e w' => e = .returned (digestV R) ∧ Below wx.heap.size wx w') := HPL1
  have HK0 : Hid (∀ wx, Calls Tryd.prog 12 #[digestV seed, .int .i64 0] wx fun e w' => e = .returned (digestV KL) ∧ Below wx.heap.size wx w') := HKE0
  have HK1 : Hid (∀ wx, Calls Tryd.prog 12 #[digestV seed, .int .i64 1] wx fun e w' => e = .returned (digestV KR) ∧ Below wx.heap.size wx w') := HKE1
  clear HPL0 HPL1 HKE0 HKE1 HKE HPL hL hR hx2 hm2 hs1 G
  have lP := nodeT_length L R
  have lQ := nodeT_length R L
  have HND : Hid (∀ (x y : List UInt8) wx, x.length = 32 → y.length = 32 → Calls Tryd.prog 13 #[digestV x, digestV y] wx fun e w' => e = .returned (digestV (nodeT x y)) ∧ Below wx.heap.size wx w') := fun x y wx hx hy => rnode_any x y wx hx hy
  generalize hP : nodeT L R = P at *
  generalize hQ : nodeT R L = Q at *
  have HP : Hid (nodeT L R = P) := hP
  have HQ : Hid (nodeT R L = Q) := hQ
  clear hP hQ
  go_enter Tryd.func4, Tryd.ntmps4
  go_wp2_with (refine wpList_load_mid (by rfl) 23 (.tmp 3) (by rfl) w.heap.size 0 (by rfl) (cellsB seed) _ HX2.out Tryd.underlying23 (by rfl) (by rw [cellsB_length, hs]; exact Tryd.sizeDg) ?_)
  refine (HNC.out w2 (HALL.out w2 H0.out).1).mono ?_
  rintro e w3 ⟨⟨g, rfl, hg, hst⟩, hb3⟩
  have HGG : Hid (w2.heap.size ≤ g) := hg
  have HB3 : Hid (Below w2.heap.size w2 w3) := hb3
  have HST3 : Hid (Stm w3 g seed 1 0) := hst
  have HX3 : Hid (w3.rangeAt w.heap.size 0 (cellsB seed)) := (HALL.out w3 hb3).2.1
  clear hg hb3 hst hw2 HX2 HNC
  go_wp2_with (refine wpList_load_mid (by rfl) 23 (.tmp 3) (by rfl) w.heap.size 0 (by rfl) (cellsB seed) _ HX3.out Tryd.underlying23 (by rfl) (by rw [cellsB_length, hs]; exact Tryd.sizeDg) ?_)
  refine (HPC.out w3 (HALL.out w3 HB3.out).1).mono ?_
  rintro e w4 ⟨rfl, hb4⟩
  have HB4 : Hid (Below w2.heap.size w2 w4) := HB3.out.trans (hb4.mono HB3.out.size)
  have HST4 : Hid (Stm w4 g seed 1 0) := HST3.out.below hb4
  clear hb4 HX3 HST3 HB3 HPC
  obtain ⟨g9, hg9⟩ : ∃ g9, w4.heap.size = g9 := ⟨_, rfl⟩
  obtain ⟨w5, hw5⟩ : ∃ w5, w4.alloc (.cells (cellsB zD).toArray 23) = w5 := ⟨_, rfl⟩
  have HTw5 : Hid (w5.there g9 0 32) := by rw [← hw5]; exact alloc_thereAt _ _ _ 32 _ hg9 zD_size.symm
  have HBw6 : Hid (Below w4.heap.size w4 (w5.setCells g9 0 (cellsB P))) := below_setCells _ (by rw [hg9]; exact Nat.le_refl _) _ _ _ (by rw [← hw5]; exact (Below.refl _ _).alloc (Nat.le_refl _) _)
  have HRw6 : Hid (DAt (w5.setCells g9 0 (cellsB P)) g9 0 P) := dat_stored HTw5.out lP
  have HB6w : Hid (Below w2.heap.size w2 (w5.setCells g9 0 (cellsB P))) := HB4.out.trans (HBw6.out.mono HB4.out.size)
  have HM6 : Hid ((w5.setCells g9 0 (cellsB P)).rangeAt (w.heap.size + 1) 0 (cellsB m)) := (HALL.out _ HB6w.out).2.2.1
  have HST6 : Hid (Stm (w5.setCells g9 0 (cellsB P)) g seed 1 0) := HST4.out.below HBw6.out
  have HG9 : Hid (g < g9) := by rw [← hg9]; exact HST4.out.block
  go_wp2_with (first
    | (refine wpList_allocE (by rfl) 23 (by rfl) (cellsB zD).toArray Tryd.zeroDg g9 hg9 w5 hw5 ?_)
    | (refine wpList_store_mid (by rfl) 23 (.tmp 9) (.tmp 29) (by rfl) g9 0 (cellsB P).toArray (by rfl) (by rfl) (by rw [cellsB_size, lP]; exact HTw5.out) (by rw [cellsB_size, lP]; exact Tryd.sizeDg) (all_oneCell_toArray (cellsB_one _)) ?_)
    | (refine wpList_load_mid (by rfl) 23 (.tmp 4) (by rfl) (w.heap.size + 1) 0 (by rfl) (cellsB m) _ HM6.out Tryd.underlying23 (by rfl) (by rw [cellsB_length, hm]; exact Tryd.sizeDg) ?_))
  generalize w5.setCells g9 0 (cellsB P) = w6 at *
  clear hw5 HTw5 hg9
  refine (HSA.out g w6 (HALL.out w6 HB6w.out).1 HST6.out).mono ?_
  rintro e w7 ⟨⟨a1, c1, a2, c2, rfl, hc1, hc2, r1, r2, hst, hkp⟩, hgr⟩
  have HB7 : Hid (Below w2.heap.size w2 w7) := below_grs HB6w.out hgr HB6w.out.size HGG.out
  have HR7 : Hid (DAt w7 g9 0 P) := range_grs HRw6.out hgr (cell_block (DAt.cell HRw6.out 0 (by omega))) (by have := HG9.out; omega)
  have HA7 : Hid (DRow w7 a1 67 SA ∧ DRow w7 a2 1 PA) := ⟨r1, r2⟩
  have HKP7 : Hid (∀ wy, w7.grownBy wy (some g) → DRow wy a1 67 SA ∧ DRow wy a2 1 PA) := hkp
  have HST7 : Hid (Stm w7 g seed 1 1) := hst
  clear r1 r2 hst hkp hgr HST6 HRw6 HM6 HSA HB4 HBw6 HST4
  obtain ⟨g11, hg11⟩ : ∃ g11, w7.heap.size = g11 := ⟨_, rfl⟩
  obtain ⟨w8, hw8⟩ : ∃ w8, w7.alloc (.cells #[.int .i64 0, .slice none 0 0, .slice none 0 0] 35) = w8 := ⟨_, rfl⟩
  have HTw8 : Hid (w8.there g11 0 3) := by rw [← hw8]; exact alloc_thereAt _ _ _ 3 _ hg11 rfl
  have HBw9 : Hid (Below w7.heap.size w7 (w8.setCells g11 0 [.int .i64 0, .slice a1 67 c1, .slice a2 1 c2])) := below_setCells _ (by rw [hg11]; exact Nat.le_refl _) _ _ _ (by rw [← hw8]; exact (Below.refl _ _).alloc (Nat.le_refl _) _)
  have HRw9 : Hid ((w8.setCells g11 0 [.int .i64 0, .slice a1 67 c1, .slice a2 1 c2]).rangeAt g11 0 [.int .i64 0, .slice a1 67 c1, .slice a2 1 c2]) := World.rangeAt_setCells_same _ _ _ _ HTw8.out
  have HB9w : Hid (Below w2.heap.size w2 (w8.setCells g11 0 [.int .i64 0, .slice a1 67 c1, .slice a2 1 c2])) := HB7.out.trans (HBw9.out.mono HB7.out.size)
  have HM9 : Hid ((w8.setCells g11 0 [.int .i64 0, .slice a1 67 c1, .slice a2 1 c2]).rangeAt (w.heap.size + 1) 0 (cellsB m)) := (HALL.out _ HB9w.out).2.2.1
  have HA9 : Hid (DRow (w8.setCells g11 0 [.int .i64 0, .slice a1 67 c1, .slice a2 1 c2]) a1 67 SA ∧ DRow (w8.setCells g11 0 [.int .i64 0, .slice a1 67 c1, .slice a2 1 c2]) a2 1 PA ∧ DAt (w8.setCells g11 0 [.int .i64 0, .slice a1 67 c1, .slice a2 1 c2]) g9 0 P) := ⟨HA7.out.1.below HBw9.out, HA7.out.2.below HBw9.out, DAt.below HR7.out HBw9.out (cell_block (DAt.cell HR7.out 0 (by omega)))⟩
  have HST9 : Hid (Stm (w8.setCells g11 0 [.int .i64 0, .slice a1 67 c1, .slice a2 1 c2]) g seed 1 1) := HST7.out.below HBw9.out
  have HG11 : Hid (g < g11) := by rw [← hg11]; exact HST7.out.block
  go_wp2_with (first
    | (refine wpList_allocE (by rfl) 35 (by rfl) #[.int .i64 0, .slice none 0 0, .slice none 0 0] Tryd.zeroSg g11 hg11 w8 hw8 ?_)
    | (refine wpList_store_mid (by rfl) 35 (.tmp 11) (.tmp 45) (by rfl) g11 0 #[.int .i64 0, .slice a1 67 c1, .slice a2 1 c2] (by rfl) (by rfl) HTw8.out Tryd.sizeSg (sig_one _ _ _ _ _ _ _) ?_)
    | (refine wpList_load_mid (by rfl) 23 (.tmp 4) (by rfl) (w.heap.size + 1) 0 (by rfl) (cellsB m) _ HM9.out Tryd.underlying23 (by rfl) (by rw [cellsB_length, hm]; exact Tryd.sizeDg) ?_))
  generalize w8.setCells g11 0 [.int .i64 0, .slice a1 67 c1, .slice a2 1 c2] = w9 at *
  clear hw8 HTw8 hg11
  refine (HSB.out g w9 (HALL.out w9 HB9w.out).1 HST9.out).mono ?_
  rintro e w10 ⟨⟨b1, d1, b2, d2, rfl, hd1, hd2, s1, s2, hst, _⟩, hgr⟩
  have HB10 : Hid (Below w2.heap.size w2 w10) := below_grs HB9w.out hgr HB9w.out.size HGG.out
  have HA10 : Hid (DRow w10 a1 67 SA ∧ DRow w10 a2 1 PA) := HKP7.out _ (grs_trans (grs_below HBw9.out _) hgr)
  have HP10 : Hid (DAt w10 g9 0 P) := range_grs HA9.out.2.2 hgr (cell_block (DAt.cell HA9.out.2.2 0 (by omega))) (by have := HG9.out; omega)
  have HR10 : Hid (w10.rangeAt g11 0 [.int .i64 0, .slice a1 67 c1, .slice a2 1 c2]) := range_grs HRw9.out hgr (cell_block (HRw9.out 0 _ rfl)) (by have := HG11.out; omega)
  have HS10 : Hid (DRow w10 b1 67 SB ∧ DRow w10 b2 1 PB) := ⟨s1, s2⟩
  clear s1 s2 hst hgr HST9 HRw9 HM9 HSB HBw9 HA9 HKP7 HB7 HR7 HA7 HST7 HG9 HG11
  obtain ⟨g13, hg13⟩ : ∃ g13, w10.heap.size = g13 := ⟨_, rfl⟩
  obtain ⟨w11, hw11⟩ : ∃ w11, w10.alloc (.cells #[.int .i64 0, .slice none 0 0, .slice none 0 0] 35) = w11 := ⟨_, rfl⟩
  have HTw11 : Hid (w11.there g13 0 3) := by rw [← hw11]; exact alloc_thereAt _ _ _ 3 _ hg13 rfl
  have HBw12 : Hid (Below w10.heap.size w10 (w11.setCells g13 0 [.int .i64 1, .slice b1 67 d1, .slice b2 1 d2])) := below_setCells _ (by rw [hg13]; exact Nat.le_refl _) _ _ _ (by rw [← hw11]; exact (Below.refl _ _).alloc (Nat.le_refl _) _)
  have HRw12 : Hid ((w11.setCells g13 0 [.int .i64 1, .slice b1 67 d1, .slice b2 1 d2]).rangeAt g13 0 [.int .i64 1, .slice b1 67 d1, .slice b2 1 d2]) := World.rangeAt_setCells_same _ _ _ _ HTw11.out
  have HK12 : Hid (∀ wx, Below (w11.setCells g13 0 [.int .i64 1, .slice b1 67 d1, .slice b2 1 d2]).heap.size (w11.setCells g13 0 [.int .i64 1, .slice b1 67 d1, .slice b2 1 d2]) wx → Env wx ∧ wx.rangeAt w.heap.size 0 (cellsB seed) ∧ wx.rangeAt (w.heap.size + 1) 0 (cellsB m) ∧ DAt wx g9 0 P ∧ DRow wx a1 67 SA ∧ DRow wx a2 1 PA ∧ DRow wx b1 67 SB ∧ DRow wx b2 1 PB ∧ wx.rangeAt g11 0 [.int .i64 0, .slice a1 67 c1, .slice a2 1 c2] ∧ wx.rangeAt g13 0 [.int .i64 1, .slice b1 67 d1, .slice b2 1 d2] ∧ Below w.heap.size w wx) := fun wx hx => by
    have b0 : Below w10.heap.size w10 wx := HBw12.out.trans (hx.mono HBw12.out.size)
    have b1 : Below w2.heap.size w2 wx := HB10.out.trans (b0.mono HB10.out.size)
    exact ⟨(HALL.out _ b1).1, (HALL.out _ b1).2.1, (HALL.out _ b1).2.2.1, DAt.below HP10.out b0 (cell_block (DAt.cell HP10.out 0 (by omega))), HA10.out.1.below b0, HA10.out.2.below b0, HS10.out.1.below b0, HS10.out.2.below b0, range_below HR10.out b0 (cell_block (HR10.out 0 _ rfl)), range_below HRw12.out hx (cell_block (HRw12.out 0 _ rfl)), (HALL.out _ b1).2.2.2⟩
  go_upto_region 7 with (first
    | (refine wpList_allocE (by rfl) 35 (by rfl) #[.int .i64 0, .slice none 0 0, .slice none 0 0] Tryd.zeroSg g13 hg13 w11 hw11 ?_)
    | (refine wpList_store_mid (by rfl) 35 (.tmp 13) (.tmp 51) (by rfl) g13 0 #[.int .i64 1, .slice b1 67 d1, .slice b2 1 d2] (by rfl) (by rfl) HTw11.out Tryd.sizeSg (sig_one _ _ _ _ _ _ _) ?_))
  generalize w11.setCells g13 0 [.int .i64 1, .slice b1 67 d1, .slice b2 1 d2] = w12 at *
  clear hw11 HTw11 hg13
  try simp only [Act.put, List.setIfInBounds_toArray, List.set_cons_zero, List.set_cons_succ]
  clear HB10 HA10 HP10 HR10 HS10 HBw12 HRw12 HALL H0
  have HB12 : Hid (Below w12.heap.size w12 w12) := Below.refl _ _
  have k1 : w12.cell? ⟨g11, 2, none⟩ = some (.slice a2 1 c2) := (range_three (HK12.out _ HB12.out).2.2.2.2.2.2.2.2.1).2.2
  have k2 : w12.cell? ⟨g13, 2, none⟩ = some (.slice b2 1 d2) := (range_three (HK12.out _ HB12.out).2.2.2.2.2.2.2.2.2.1).2.2
  go_upto_region 9 with fail
  clear k1 k2
  by_cases hneg : i < 0
  · go_wp2_with fail
    go_ret
    exact ⟨rfl, (HK12.out _ HB12.out).2.2.2.2.2.2.2.2.2.2⟩
  by_cases hbig : 1 < i
  · go_wp2_with fail
    go_ret
    exact ⟨rfl, (HK12.out _ HB12.out).2.2.2.2.2.2.2.2.2.2⟩
  by_cases hz : i = 0
  · subst hz
    clear hneg hbig
    go_upto_region 11 with fail
    have HRA12 : Hid (w12.rangeAt g11 0 [.int .i64 0, .slice a1 67 c1, .slice a2 1 c2]) := (HK12.out _ HB12.out).2.2.2.2.2.2.2.2.1
    obtain ⟨g15, hg15⟩ : ∃ g15, w12.heap.size = g15 := ⟨_, rfl⟩
    obtain ⟨w13, hw13⟩ : ∃ w13, w12.alloc (.cells #[.int .i64 0, .slice none 0 0, .slice none 0 0] 35) = w13 := ⟨_, rfl⟩
    have HTw13 : Hid (w13.there g15 0 3) := by rw [← hw13]; exact alloc_thereAt _ _ _ 3 _ hg15 rfl
    have HBw14 : Hid (Below w12.heap.size w12 (w13.setCells g15 0 [.int .i64 0, .slice a1 67 c1, .slice a2 1 c2])) := below_setCells _ (by rw [hg15]; exact Nat.le_refl _) _ _ _ (by rw [← hw13]; exact (Below.refl _ _).alloc (Nat.le_refl _) _)
    have HRw14 : Hid ((w13.setCells g15 0 [.int .i64 0, .slice a1 67 c1, .slice a2 1 c2]).rangeAt g15 0 [.int .i64 0, .slice a1 67 c1, .slice a2 1 c2]) := World.rangeAt_setCells_same _ _ _ _ HTw13.out
    go_upto_region 12 with (first
      | (refine wpList_load_mid (by rfl) 35 (.tmp 11) (by rfl) g11 0 (by rfl) [.int .i64 0, .slice a1 67 c1, .slice a2 1 c2] _ HRA12.out Tryd.underlying35 (by rfl) Tryd.sizeSg ?_)
      | (refine wpList_allocE (by rfl) 35 (by rfl) #[.int .i64 0, .slice none 0 0, .slice none 0 0] Tryd.zeroSg g15 hg15 w13 hw13 ?_)
      | (refine wpList_store_mid (by rfl) 35 (.tmp 15) (.tmp 77) (by rfl) g15 0 #[.int .i64 0, .slice a1 67 c1, .slice a2 1 c2] (by rfl) (by rfl) HTw13.out Tryd.sizeSg (sig_one _ _ _ _ _ _ _) ?_))
    have HTT14 : Hid ((w13.setCells g15 0 [.int .i64 0, .slice a1 67 c1, .slice a2 1 c2]).there g15 0 3) := World.there_setCells HTw13.out _ _ _
    have HG15 : Hid (w12.heap.size ≤ g15) := by rw [hg15]; exact Nat.le_refl _
    generalize w13.setCells g15 0 [.int .i64 0, .slice a1 67 c1, .slice a2 1 c2] = w14 at *
    clear hw13 HTw13 hg15
    try simp only [Act.put, List.setIfInBounds_toArray, List.set_cons_zero, List.set_cons_succ]
    have HRB14 : Hid (w14.rangeAt g13 0 [.int .i64 1, .slice b1 67 d1, .slice b2 1 d2]) := (HK12.out _ HBw14.out).2.2.2.2.2.2.2.2.2.1
    obtain ⟨g16, hg16⟩ : ∃ g16, w14.heap.size = g16 := ⟨_, rfl⟩
    obtain ⟨w15, hw15⟩ : ∃ w15, w14.alloc (.cells #[.int .i64 0, .slice none 0 0, .slice none 0 0] 35) = w15 := ⟨_, rfl⟩
    have HTw15 : Hid (w15.there g16 0 3) := by rw [← hw15]; exact alloc_thereAt _ _ _ 3 _ hg16 rfl
    have HBw16 : Hid (Below w14.heap.size w14 (w15.setCells g16 0 [.int .i64 1, .slice b1 67 d1, .slice b2 1 d2])) := below_setCells _ (by rw [hg16]; exact Nat.le_refl _) _ _ _ (by rw [← hw15]; exact (Below.refl _ _).alloc (Nat.le_refl _) _)
    have HRw16 : Hid ((w15.setCells g16 0 [.int .i64 1, .slice b1 67 d1, .slice b2 1 d2]).rangeAt g16 0 [.int .i64 1, .slice b1 67 d1, .slice b2 1 d2]) := World.rangeAt_setCells_same _ _ _ _ HTw15.out
    go_upto_region 13 with (first
      | (refine wpList_load_mid (by rfl) 35 (.tmp 13) (by rfl) g13 0 (by rfl) [.int .i64 1, .slice b1 67 d1, .slice b2 1 d2] _ HRB14.out Tryd.underlying35 (by rfl) Tryd.sizeSg ?_)
      | (refine wpList_allocE (by rfl) 35 (by rfl) #[.int .i64 0, .slice none 0 0, .slice none 0 0] Tryd.zeroSg g16 hg16 w15 hw15 ?_)
      | (refine wpList_store_mid (by rfl) 35 (.tmp 16) (.tmp 78) (by rfl) g16 0 #[.int .i64 1, .slice b1 67 d1, .slice b2 1 d2] (by rfl) (by rfl) HTw15.out Tryd.sizeSg (sig_one _ _ _ _ _ _ _) ?_))
    have HTT16 : Hid ((w15.setCells g16 0 [.int .i64 1, .slice b1 67 d1, .slice b2 1 d2]).there g16 0 3) := World.there_setCells HTw15.out _ _ _
    have HG16 : Hid (w14.heap.size ≤ g16 ∧ g15 < g16) := ⟨by rw [hg16]; exact Nat.le_refl _, by have := cell_block (HRw14.out 0 _ rfl); rw [← hg16]; exact this⟩
    generalize w15.setCells g16 0 [.int .i64 1, .slice b1 67 d1, .slice b2 1 d2] = w16 at *
    clear hw15 HTw15 hg16
    try simp only [Act.put, List.setIfInBounds_toArray, List.set_cons_zero, List.set_cons_succ]
    have HR15 : Hid (w16.rangeAt g15 0 [.int .i64 0, .slice a1 67 c1, .slice a2 1 c2]) := range_below HRw14.out HBw16.out (cell_block (HRw14.out 0 _ rfl))
    have HT15 : Hid (w16.there g15 0 3) := there_below HTT14.out HBw16.out (cell_block (HRw14.out 0 _ rfl))
    have HB16 : Hid (Below w12.heap.size w12 w16) := HBw14.out.trans (HBw16.out.mono HBw14.out.size)
    clear HRA12 HRB14 HRw14 HTT14 HBw16
    go_upto_region 16 with fail
    have k1 : w16.cell? ⟨g16, 0, none⟩ = some (.int .i64 1) := HRw16.out 0 _ rfl
    have k2 : w16.cell? ⟨g15, 0, none⟩ = some (.int .i64 0) := HR15.out 0 _ rfl
    have k3 : w16.frozen? ⟨g15, 0, none⟩ = false := (HT15.out 0 (by omega)).2
    go_upto_region 17 with fail
    have HR19 : Hid ((w16.setCell ⟨g15, 0, none⟩ (.int .i64 1)).rangeAt g15 0 [.int .i64 1, .slice a1 67 c1, .slice a2 1 c2]) := range_put0 HR15.out _
    have HB19 : Hid (Below w12.heap.size w12 (w16.setCell ⟨g15, 0, none⟩ (.int .i64 1))) := HB16.out.setCell HG15.out _
    generalize w16.setCell ⟨g15, 0, none⟩ (.int .i64 1) = w19 at *
    clear k1 k2 k3
    have HM19 : Hid (w19.rangeAt (w.heap.size + 1) 0 (cellsB m)) := (HK12.out _ HB19.out).2.2.1
    have HRC : Hid (Calls Tryd.prog 10 #[digestV m, .int .i64 1, .agg #[.int .i64 1, .slice a1 67 c1, .slice a2 1 c2]] w19 fun e w' => e = .returned (.tuple #[digestV Q, .nilIface]) ∧ Below w19.heap.size w19 w') := HRA.out a1 c1 a2 c2 w19 (HK12.out _ HB19.out).1 hc1 hc2 (HK12.out _ HB19.out).2.2.2.2.1 (HK12.out _ HB19.out).2.2.2.2.2.1
    clear HRA HRB HR15 HT15 HRw16 HTT16 HBw14
    go_wp2_with (first
      | (refine wpList_load_mid (by rfl) 23 (.tmp 4) (by rfl) (w.heap.size + 1) 0 (by rfl) (cellsB m) _ HM19.out Tryd.underlying23 (by rfl) (by rw [cellsB_length, hm]; exact Tryd.sizeDg) ?_)
      | (refine wpList_load_mid (by rfl) 35 (.tmp 15) (by rfl) g15 0 (by rfl) [.int .i64 1, .slice a1 67 c1, .slice a2 1 c2] _ HR19.out Tryd.underlying35 (by rfl) Tryd.sizeSg ?_))
    refine HRC.out.mono ?_
    rintro e w20 ⟨rfl, hb20⟩
    have HB20 : Hid (Below w12.heap.size w12 w20) := HB19.out.trans (hb20.mono HB19.out.size)
    clear hb20 HRC HM19 HR19
    obtain ⟨g17, hg17⟩ : ∃ g17, w20.heap.size = g17 := ⟨_, rfl⟩
    obtain ⟨w21, hw21⟩ : ∃ w21, w20.alloc (.cells (cellsB zD).toArray 23) = w21 := ⟨_, rfl⟩
    have HTw21 : Hid (w21.there g17 0 32) := by rw [← hw21]; exact alloc_thereAt _ _ _ 32 _ hg17 zD_size.symm
    have HBw22 : Hid (Below w20.heap.size w20 (w21.setCells g17 0 (cellsB Q))) := below_setCells _ (by rw [hg17]; exact Nat.le_refl _) _ _ _ (by rw [← hw21]; exact (Below.refl _ _).alloc (Nat.le_refl _) _)
    have HRw22 : Hid (DAt (w21.setCells g17 0 (cellsB Q)) g17 0 Q) := dat_stored HTw21.out lQ
    have HB22 : Hid (Below w12.heap.size w12 (w21.setCells g17 0 (cellsB Q))) := HB20.out.trans (HBw22.out.mono HB20.out.size)
    have HX22 : Hid ((w21.setCells g17 0 (cellsB Q)).rangeAt w.heap.size 0 (cellsB seed)) := (HK12.out _ HB22.out).2.1
    go_wp2_with (first
      | (refine wpList_allocE (by rfl) 23 (by rfl) (cellsB zD).toArray Tryd.zeroDg g17 hg17 w21 hw21 ?_)
      | (refine wpList_store_mid (by rfl) 23 (.tmp 17) (.tmp 90) (by rfl) g17 0 (cellsB Q).toArray (by rfl) (by rfl) (by rw [cellsB_size, lQ]; exact HTw21.out) (by rw [cellsB_size, lQ]; exact Tryd.sizeDg) (all_oneCell_toArray (cellsB_one _)) ?_)
      | (refine wpList_load_mid (by rfl) 23 (.tmp 3) (by rfl) w.heap.size 0 (by rfl) (cellsB seed) _ HX22.out Tryd.underlying23 (by rfl) (by rw [cellsB_length, hs]; exact Tryd.sizeDg) ?_))
    generalize w21.setCells g17 0 (cellsB Q) = w22 at *
    clear hw21 HTw21 hg17
    refine (HK0.out w22).mono ?_
    rintro e w23 ⟨rfl, hb23⟩
    have HB23 : Hid (Below w22.heap.size w22 w23) := hb23
    clear hb23 HX22
    go_wp2_with fail
    refine (HP0.out w23).mono ?_
    rintro e w24 ⟨rfl, hb24⟩
    have HB24 : Hid (Below w22.heap.size w22 w24) := HB23.out.trans (hb24.mono HB23.out.size)
    clear hb24 HB23
    obtain ⟨g19, hg19⟩ : ∃ g19, w24.heap.size = g19 := ⟨_, rfl⟩
    obtain ⟨w25, hw25⟩ : ∃ w25, w24.alloc (.cells (cellsB zD).toArray 23) = w25 := ⟨_, rfl⟩
    have HTw25 : Hid (w25.there g19 0 32) := by rw [← hw25]; exact alloc_thereAt _ _ _ 32 _ hg19 zD_size.symm
    have HBw26 : Hid (Below w24.heap.size w24 (w25.setCells g19 0 (cellsB L))) := below_setCells _ (by rw [hg19]; exact Nat.le_refl _) _ _ _ (by rw [← hw25]; exact (Below.refl _ _).alloc (Nat.le_refl _) _)
    have HRw26 : Hid (DAt (w25.setCells g19 0 (cellsB L)) g19 0 L) := dat_stored HTw25.out lL
    have HB26 : Hid (Below w22.heap.size w22 (w25.setCells g19 0 (cellsB L))) := HB24.out.trans (HBw26.out.mono HB24.out.size)
    have HX26 : Hid ((w25.setCells g19 0 (cellsB L)).rangeAt w.heap.size 0 (cellsB seed)) := (HK12.out _ (HB22.out.trans (HB26.out.mono HB22.out.size))).2.1
    go_wp2_with (first
      | (refine wpList_allocE (by rfl) 23 (by rfl) (cellsB zD).toArray Tryd.zeroDg g19 hg19 w25 hw25 ?_)
      | (refine wpList_store_mid (by rfl) 23 (.tmp 19) (.tmp 96) (by rfl) g19 0 (cellsB L).toArray (by rfl) (by rfl) (by rw [cellsB_size, lL]; exact HTw25.out) (by rw [cellsB_size, lL]; exact Tryd.sizeDg) (all_oneCell_toArray (cellsB_one _)) ?_)
      | (refine wpList_load_mid (by rfl) 23 (.tmp 3) (by rfl) w.heap.size 0 (by rfl) (cellsB seed) _ HX26.out Tryd.underlying23 (by rfl) (by rw [cellsB_length, hs]; exact Tryd.sizeDg) ?_))
    generalize w25.setCells g19 0 (cellsB L) = w26 at *
    clear hw25 HTw25 hg19
    refine (HK1.out w26).mono ?_
    rintro e w27 ⟨rfl, hb27⟩
    have HB27 : Hid (Below w26.heap.size w26 w27) := hb27
    clear hb27 HX26
    go_wp2_with fail
    refine (HP1.out w27).mono ?_
    rintro e w28 ⟨rfl, hb28⟩
    have HB28 : Hid (Below w26.heap.size w26 w28) := HB27.out.trans (hb28.mono HB27.out.size)
    clear hb28 HB27
    obtain ⟨g20, hg20⟩ : ∃ g20, w28.heap.size = g20 := ⟨_, rfl⟩
    obtain ⟨w29, hw29⟩ : ∃ w29, w28.alloc (.cells (cellsB zD).toArray 23) = w29 := ⟨_, rfl⟩
    have HTw29 : Hid (w29.there g20 0 32) := by rw [← hw29]; exact alloc_thereAt _ _ _ 32 _ hg20 zD_size.symm
    have HBw30 : Hid (Below w28.heap.size w28 (w29.setCells g20 0 (cellsB R))) := below_setCells _ (by rw [hg20]; exact Nat.le_refl _) _ _ _ (by rw [← hw29]; exact (Below.refl _ _).alloc (Nat.le_refl _) _)
    have HRw30 : Hid (DAt (w29.setCells g20 0 (cellsB R)) g20 0 R) := dat_stored HTw29.out lR
    go_upto_region 22 with (first
      | (refine wpList_allocE (by rfl) 23 (by rfl) (cellsB zD).toArray Tryd.zeroDg g20 hg20 w29 hw29 ?_)
      | (refine wpList_store_mid (by rfl) 23 (.tmp 20) (.tmp 99) (by rfl) g20 0 (cellsB R).toArray (by rfl) (by rfl) (by rw [cellsB_size, lR]; exact HTw29.out) (by rw [cellsB_size, lR]; exact Tryd.sizeDg) (all_oneCell_toArray (cellsB_one _)) ?_))
    generalize w29.setCells g20 0 (cellsB R) = w30 at *
    clear hw29 HTw29 hg20
    try simp only [Act.put, List.setIfInBounds_toArray, List.set_cons_zero, List.set_cons_succ]
    have HF : Hid (∀ wx, Below w30.heap.size w30 wx → wx.rangeAt g17 0 (cellsB Q) ∧ wx.rangeAt g9 0 (cellsB P) ∧ wx.rangeAt g19 0 (cellsB L) ∧ wx.rangeAt g20 0 (cellsB R)) := fun wx hx => by
      have q4 : Below w28.heap.size w28 wx := HBw30.out.trans (hx.mono HBw30.out.size)
      have q3 : Below w26.heap.size w26 wx := HB28.out.trans (q4.mono HB28.out.size)
      have q2 : Below w22.heap.size w22 wx := HB26.out.trans (q3.mono HB26.out.size)
      have q1 : Below w12.heap.size w12 wx := HB22.out.trans (q2.mono HB22.out.size)
      exact ⟨DAt.below HRw22.out q2 (cell_block (DAt.cell HRw22.out 0 (by omega))), (HK12.out _ q1).2.2.2.1, DAt.below HRw26.out q3 (cell_block (DAt.cell HRw26.out 0 (by omega))), DAt.below HRw30.out hx (cell_block (DAt.cell HRw30.out 0 (by omega)))⟩
    have HW : Hid (∀ wx, Below w30.heap.size w30 wx → Below w.heap.size w wx) := fun wx hx => by
      have q4 : Below w28.heap.size w28 wx := HBw30.out.trans (hx.mono HBw30.out.size)
      have q3 : Below w26.heap.size w26 wx := HB28.out.trans (q4.mono HB28.out.size)
      have q2 : Below w22.heap.size w22 wx := HB26.out.trans (q3.mono HB26.out.size)
      have q1 : Below w12.heap.size w12 wx := HB22.out.trans (q2.mono HB22.out.size)
      exact (HK12.out _ q1).2.2.2.2.2.2.2.2.2.2
    clear HBw30 HB28 HB26 HB22 HRw22 HRw26 HRw30 HB20 HB19 HB24 HBw22 HBw26 HB12 HB16
    by_cases hqp : Q = P
    · by_cases hlr : L = R
      · have HNE : Hid ((!decide (Q = P)) = false) := by unfold Hid; simp [hqp]
        have HLE : Hid (decide (L = R) = true) := decide_eq_true hlr
        clear hqp hlr
        refine wp_region_noPanic ?_
        refine wp_region_held_drew (S := fun wx => wx.rangeAt g17 0 (cellsB Q) ∧ wx.rangeAt g9 0 (cellsB P) ∧ wx.rangeAt g19 0 (cellsB L) ∧ wx.rangeAt g20 0 (cellsB R)) (by kernel_rfl) (HF.out _ (below_drewN w30 1)) (fun hHeld => ?_)
        try simp only [Act.put, List.setIfInBounds_toArray, List.set_cons_zero, List.set_cons_succ]
        have HBd : Hid (Below w30.heap.size w30 w30.drew) := below_drewN w30 1
        generalize w30.drew = wd at *
        refine wpAnyH_take (i := 0) (v := .agg (cellsB Q).toArray) (by simp only [List.getElem?_toArray, List.getElem?_cons_zero, List.getElem?_cons_succ]; rfl) (by kernel_rfl) (by kernel_rfl) (by kernel_rfl) (fun _ _ _ h => h)
          (yieldsIf_load_mid (by rfl) _ _ rfl _ _ rfl _ _ (fun w hw => hw.1) Tryd.underlying23 rfl (by rw [cellsB_length, lQ]; exact Tryd.sizeDg)) hHeld ?_
        try simp only [Act.put, List.setIfInBounds_toArray, List.set_cons_zero, List.set_cons_succ]
        refine wpAnyH_take (i := 1) (v := .agg (cellsB P).toArray) (by simp only [List.getElem?_toArray, List.getElem?_cons_zero, List.getElem?_cons_succ]; rfl) (by kernel_rfl) (by kernel_rfl) (by kernel_rfl) (fun _ _ _ h => h)
          (yieldsIf_load_mid (by rfl) _ _ rfl _ _ rfl _ _ (fun w hw => hw.2.1) Tryd.underlying23 rfl (by rw [cellsB_length, lP]; exact Tryd.sizeDg)) hHeld ?_
        try simp only [Act.put, List.setIfInBounds_toArray, List.set_cons_zero, List.set_cons_succ]
        refine wpAnyH_take (i := 2) (v := .bool false) (by simp only [List.getElem?_toArray, List.getElem?_cons_zero, List.getElem?_cons_succ]; rfl) (by kernel_rfl) (by kernel_rfl) (by kernel_rfl) (fun _ _ _ h => h)
          (yieldsIf_neqD (by rfl) _ _ rfl Q P lQ lP rfl rfl false HNE.out) hHeld ?_
        try simp only [Act.put, List.setIfInBounds_toArray, List.set_cons_zero, List.set_cons_succ]
        refine wpAnyH_take (i := 3) (v := ?_) (by simp only [List.getElem?_toArray, List.getElem?_cons_zero, List.getElem?_cons_succ]; rfl) (by kernel_rfl) (by kernel_rfl) (by kernel_rfl) (fun _ _ _ h => h) (Or.inl ⟨by rfl, ?_⟩) hHeld ?_
        rotate_left
        · intro w hSw
          obtain ⟨hSw0, hSw1, hSw2, hSw3⟩ := hSw
          go_simp
          try with_reducible rfl
        try simp only [Act.put, List.setIfInBounds_toArray, List.set_cons_zero, List.set_cons_succ]
        refine wpAnyH_take (i := 4) (v := .agg (cellsB L).toArray) (by simp only [List.getElem?_toArray, List.getElem?_cons_zero, List.getElem?_cons_succ]; rfl) (by kernel_rfl) (by kernel_rfl) (by kernel_rfl) (fun _ _ _ h => h)
          (yieldsIf_load_mid (by rfl) _ _ rfl _ _ rfl _ _ (fun w hw => hw.2.2.1) Tryd.underlying23 rfl (by rw [cellsB_length, lL]; exact Tryd.sizeDg)) hHeld ?_
        try simp only [Act.put, List.setIfInBounds_toArray, List.set_cons_zero, List.set_cons_succ]
        refine wpAnyH_take (i := 5) (v := .agg (cellsB R).toArray) (by simp only [List.getElem?_toArray, List.getElem?_cons_zero, List.getElem?_cons_succ]; rfl) (by kernel_rfl) (by kernel_rfl) (by kernel_rfl) (fun _ _ _ h => h)
          (yieldsIf_load_mid (by rfl) _ _ rfl _ _ rfl _ _ (fun w hw => hw.2.2.2) Tryd.underlying23 rfl (by rw [cellsB_length, lR]; exact Tryd.sizeDg)) hHeld ?_
        try simp only [Act.put, List.setIfInBounds_toArray, List.set_cons_zero, List.set_cons_succ]
        refine wpAnyH_take (i := 6) (v := .bool true) (by simp only [List.getElem?_toArray, List.getElem?_cons_zero, List.getElem?_cons_succ]; rfl) (by kernel_rfl) (by kernel_rfl) (by kernel_rfl) (fun _ _ _ h => h)
          (yieldsIf_eqD (by rfl) _ _ rfl L R lL lR rfl rfl true HLE.out) hHeld ?_
        try simp only [Act.put, List.setIfInBounds_toArray, List.set_cons_zero, List.set_cons_succ]
        refine wpAnyH_take (i := 7) (v := ?_) (by simp only [List.getElem?_toArray, List.getElem?_cons_zero, List.getElem?_cons_succ]; rfl) (by kernel_rfl) (by kernel_rfl) (by kernel_rfl) (fun _ _ _ h => h) (Or.inl ⟨by rfl, ?_⟩) hHeld ?_
        rotate_left
        · intro w hSw
          obtain ⟨hSw0, hSw1, hSw2, hSw3⟩ := hSw
          go_simp
          try with_reducible rfl
        try simp only [Act.put, List.setIfInBounds_toArray, List.set_cons_zero, List.set_cons_succ]
        refine wpAnyH_take (i := 8) (v := ?_) (by simp only [List.getElem?_toArray, List.getElem?_cons_zero, List.getElem?_cons_succ]; rfl) (by kernel_rfl) (by kernel_rfl) (by kernel_rfl) (fun _ _ _ h => h) (Or.inl ⟨by rfl, ?_⟩) hHeld ?_
        rotate_left
        · intro w hSw
          obtain ⟨hSw0, hSw1, hSw2, hSw3⟩ := hSw
          go_simp
          try with_reducible rfl
        try simp only [Act.put, List.setIfInBounds_toArray, List.set_cons_zero, List.set_cons_succ]
        refine wpAnyH_take (i := 9) (v := undef) (by simp only [List.getElem?_toArray, List.getElem?_cons_zero, List.getElem?_cons_succ]; rfl) (by kernel_rfl) (by kernel_rfl) (by kernel_rfl) (fun _ _ _ h => h) (Or.inr ⟨by rfl, rfl⟩) hHeld ?_
        try simp only [Act.put, List.setIfInBounds_toArray, List.set_cons_zero, List.set_cons_succ]
        refine wpAnyH_take (i := 10) (v := undef) (by simp only [List.getElem?_toArray, List.getElem?_cons_zero, List.getElem?_cons_succ]; rfl) (by kernel_rfl) (by kernel_rfl) (by kernel_rfl) (fun _ _ _ h => h) (Or.inr ⟨by rfl, rfl⟩) hHeld ?_
        try simp only [Act.put, List.setIfInBounds_toArray, List.set_cons_zero, List.set_cons_succ]
        refine wpAnyH_take (i := 11) (v := undef) (by simp only [List.getElem?_toArray, List.getElem?_cons_zero, List.getElem?_cons_succ]; rfl) (by kernel_rfl) (by kernel_rfl) (by kernel_rfl) (fun _ _ _ h => h) (Or.inr ⟨by rfl, rfl⟩) hHeld ?_
        try simp only [Act.put, List.setIfInBounds_toArray, List.set_cons_zero, List.set_cons_succ]
        refine wpAnyH_take (i := 12) (v := undef) (by simp only [List.getElem?_toArray, List.getElem?_cons_zero, List.getElem?_cons_succ]; rfl) (by kernel_rfl) (by kernel_rfl) (by kernel_rfl) (fun _ _ _ h => h) (Or.inr ⟨by rfl, rfl⟩) hHeld ?_
        try simp only [Act.put, List.setIfInBounds_toArray, List.set_cons_zero, List.set_cons_succ]
        refine wpAnyH_take (i := 13) (v := undef) (by simp only [List.getElem?_toArray, List.getElem?_cons_zero, List.getElem?_cons_succ]; rfl) (by kernel_rfl) (by kernel_rfl) (by kernel_rfl) (fun _ _ _ h => h) (Or.inr ⟨by rfl, rfl⟩) hHeld ?_
        try simp only [Act.put, List.setIfInBounds_toArray, List.set_cons_zero, List.set_cons_succ]
        refine wpAnyH_take (i := 14) (v := undef) (by simp only [List.getElem?_toArray, List.getElem?_cons_zero, List.getElem?_cons_succ]; rfl) (by kernel_rfl) (by kernel_rfl) (by kernel_rfl) (fun _ _ _ h => h) (Or.inr ⟨by rfl, rfl⟩) hHeld ?_
        try simp only [Act.put, List.setIfInBounds_toArray, List.set_cons_zero, List.set_cons_succ]
        refine wpAnyH_take (i := 15) (v := undef) (by simp only [List.getElem?_toArray, List.getElem?_cons_zero, List.getElem?_cons_succ]; rfl) (by kernel_rfl) (by kernel_rfl) (by kernel_rfl) (fun _ _ _ h => h) (Or.inr ⟨by rfl, rfl⟩) hHeld ?_
        try simp only [Act.put, List.setIfInBounds_toArray, List.set_cons_zero, List.set_cons_succ]
        refine wpAnyH_take (i := 16) (v := ?_) (by simp only [List.getElem?_toArray, List.getElem?_cons_zero, List.getElem?_cons_succ]; rfl) (by kernel_rfl) (by kernel_rfl) (by kernel_rfl) (fun _ _ _ h => h) (Or.inl ⟨by rfl, ?_⟩) hHeld ?_
        rotate_left
        · intro w hSw
          obtain ⟨hSw0, hSw1, hSw2, hSw3⟩ := hSw
          go_simp
          try with_reducible rfl
        try simp only [Act.put, List.setIfInBounds_toArray, List.set_cons_zero, List.set_cons_succ]
        refine wpAnyH_take (i := 17) (v := ?_) (by simp only [List.getElem?_toArray, List.getElem?_cons_zero, List.getElem?_cons_succ]; rfl) (by kernel_rfl) (by kernel_rfl) (by kernel_rfl) (fun _ _ _ h => h) (Or.inl ⟨by rfl, ?_⟩) hHeld ?_
        rotate_left
        · intro w hSw
          obtain ⟨hSw0, hSw1, hSw2, hSw3⟩ := hSw
          go_simp
          try with_reducible rfl
        try simp only [Act.put, List.setIfInBounds_toArray, List.set_cons_zero, List.set_cons_succ]
        refine wpAnyH_done (by kernel_rfl) (NoPanic.normal ?_) _
        clear hHeld
        go_wp2_with fail
        go_ret
        exact ⟨rfl, HW.out _ HBd.out⟩
      · have HNE : Hid ((!decide (Q = P)) = false) := by unfold Hid; simp [hqp]
        have HLE : Hid (decide (L = R) = false) := decide_eq_false hlr
        have HEQ : Hid (decide (P = Q) = true) := decide_eq_true hqp.symm
        clear hqp hlr
        refine wp_region_noPanic ?_
        refine wp_region_held_drew (S := fun wx => wx.rangeAt g17 0 (cellsB Q) ∧ wx.rangeAt g9 0 (cellsB P) ∧ wx.rangeAt g19 0 (cellsB L) ∧ wx.rangeAt g20 0 (cellsB R)) (by kernel_rfl) (HF.out _ (below_drewN w30 1)) (fun hHeld => ?_)
        try simp only [Act.put, List.setIfInBounds_toArray, List.set_cons_zero, List.set_cons_succ]
        have HBd : Hid (Below w30.heap.size w30 w30.drew) := below_drewN w30 1
        generalize w30.drew = wd at *
        refine wpAnyH_take (i := 0) (v := .agg (cellsB Q).toArray) (by simp only [List.getElem?_toArray, List.getElem?_cons_zero, List.getElem?_cons_succ]; rfl) (by kernel_rfl) (by kernel_rfl) (by kernel_rfl) (fun _ _ _ h => h)
          (yieldsIf_load_mid (by rfl) _ _ rfl _ _ rfl _ _ (fun w hw => hw.1) Tryd.underlying23 rfl (by rw [cellsB_length, lQ]; exact Tryd.sizeDg)) hHeld ?_
        try simp only [Act.put, List.setIfInBounds_toArray, List.set_cons_zero, List.set_cons_succ]
        refine wpAnyH_take (i := 1) (v := .agg (cellsB P).toArray) (by simp only [List.getElem?_toArray, List.getElem?_cons_zero, List.getElem?_cons_succ]; rfl) (by kernel_rfl) (by kernel_rfl) (by kernel_rfl) (fun _ _ _ h => h)
          (yieldsIf_load_mid (by rfl) _ _ rfl _ _ rfl _ _ (fun w hw => hw.2.1) Tryd.underlying23 rfl (by rw [cellsB_length, lP]; exact Tryd.sizeDg)) hHeld ?_
        try simp only [Act.put, List.setIfInBounds_toArray, List.set_cons_zero, List.set_cons_succ]
        refine wpAnyH_take (i := 2) (v := .bool false) (by simp only [List.getElem?_toArray, List.getElem?_cons_zero, List.getElem?_cons_succ]; rfl) (by kernel_rfl) (by kernel_rfl) (by kernel_rfl) (fun _ _ _ h => h)
          (yieldsIf_neqD (by rfl) _ _ rfl Q P lQ lP rfl rfl false HNE.out) hHeld ?_
        try simp only [Act.put, List.setIfInBounds_toArray, List.set_cons_zero, List.set_cons_succ]
        refine wpAnyH_take (i := 3) (v := ?_) (by simp only [List.getElem?_toArray, List.getElem?_cons_zero, List.getElem?_cons_succ]; rfl) (by kernel_rfl) (by kernel_rfl) (by kernel_rfl) (fun _ _ _ h => h) (Or.inl ⟨by rfl, ?_⟩) hHeld ?_
        rotate_left
        · intro w hSw
          obtain ⟨hSw0, hSw1, hSw2, hSw3⟩ := hSw
          go_simp
          try with_reducible rfl
        try simp only [Act.put, List.setIfInBounds_toArray, List.set_cons_zero, List.set_cons_succ]
        refine wpAnyH_take (i := 4) (v := .agg (cellsB L).toArray) (by simp only [List.getElem?_toArray, List.getElem?_cons_zero, List.getElem?_cons_succ]; rfl) (by kernel_rfl) (by kernel_rfl) (by kernel_rfl) (fun _ _ _ h => h)
          (yieldsIf_load_mid (by rfl) _ _ rfl _ _ rfl _ _ (fun w hw => hw.2.2.1) Tryd.underlying23 rfl (by rw [cellsB_length, lL]; exact Tryd.sizeDg)) hHeld ?_
        try simp only [Act.put, List.setIfInBounds_toArray, List.set_cons_zero, List.set_cons_succ]
        refine wpAnyH_take (i := 5) (v := .agg (cellsB R).toArray) (by simp only [List.getElem?_toArray, List.getElem?_cons_zero, List.getElem?_cons_succ]; rfl) (by kernel_rfl) (by kernel_rfl) (by kernel_rfl) (fun _ _ _ h => h)
          (yieldsIf_load_mid (by rfl) _ _ rfl _ _ rfl _ _ (fun w hw => hw.2.2.2) Tryd.underlying23 rfl (by rw [cellsB_length, lR]; exact Tryd.sizeDg)) hHeld ?_
        try simp only [Act.put, List.setIfInBounds_toArray, List.set_cons_zero, List.set_cons_succ]
        refine wpAnyH_take (i := 6) (v := .bool false) (by simp only [List.getElem?_toArray, List.getElem?_cons_zero, List.getElem?_cons_succ]; rfl) (by kernel_rfl) (by kernel_rfl) (by kernel_rfl) (fun _ _ _ h => h)
          (yieldsIf_eqD (by rfl) _ _ rfl L R lL lR rfl rfl false HLE.out) hHeld ?_
        try simp only [Act.put, List.setIfInBounds_toArray, List.set_cons_zero, List.set_cons_succ]
        refine wpAnyH_take (i := 7) (v := ?_) (by simp only [List.getElem?_toArray, List.getElem?_cons_zero, List.getElem?_cons_succ]; rfl) (by kernel_rfl) (by kernel_rfl) (by kernel_rfl) (fun _ _ _ h => h) (Or.inl ⟨by rfl, ?_⟩) hHeld ?_
        rotate_left
        · intro w hSw
          obtain ⟨hSw0, hSw1, hSw2, hSw3⟩ := hSw
          go_simp
          try with_reducible rfl
        try simp only [Act.put, List.setIfInBounds_toArray, List.set_cons_zero, List.set_cons_succ]
        refine wpAnyH_take (i := 8) (v := ?_) (by simp only [List.getElem?_toArray, List.getElem?_cons_zero, List.getElem?_cons_succ]; rfl) (by kernel_rfl) (by kernel_rfl) (by kernel_rfl) (fun _ _ _ h => h) (Or.inl ⟨by rfl, ?_⟩) hHeld ?_
        rotate_left
        · intro w hSw
          obtain ⟨hSw0, hSw1, hSw2, hSw3⟩ := hSw
          go_simp
          try with_reducible rfl
        try simp only [Act.put, List.setIfInBounds_toArray, List.set_cons_zero, List.set_cons_succ]
        refine wpAnyH_take (i := 9) (v := .agg (cellsB L).toArray) (by simp only [List.getElem?_toArray, List.getElem?_cons_zero, List.getElem?_cons_succ]; rfl) (by kernel_rfl) (by kernel_rfl) (by kernel_rfl) (fun _ _ _ h => h)
          (yieldsIf_load_mid (by rfl) _ _ rfl _ _ rfl _ _ (fun w hw => hw.2.2.1) Tryd.underlying23 rfl (by rw [cellsB_length, lL]; exact Tryd.sizeDg)) hHeld ?_
        try simp only [Act.put, List.setIfInBounds_toArray, List.set_cons_zero, List.set_cons_succ]
        refine wpAnyH_take (i := 10) (v := .agg (cellsB R).toArray) (by simp only [List.getElem?_toArray, List.getElem?_cons_zero, List.getElem?_cons_succ]; rfl) (by kernel_rfl) (by kernel_rfl) (by kernel_rfl) (fun _ _ _ h => h)
          (yieldsIf_load_mid (by rfl) _ _ rfl _ _ rfl _ _ (fun w hw => hw.2.2.2) Tryd.underlying23 rfl (by rw [cellsB_length, lR]; exact Tryd.sizeDg)) hHeld ?_
        try simp only [Act.put, List.setIfInBounds_toArray, List.set_cons_zero, List.set_cons_succ]
        refine wpAnyH_take (i := 12) (v := .agg (cellsB R).toArray) (by simp only [List.getElem?_toArray, List.getElem?_cons_zero, List.getElem?_cons_succ]; rfl) (by kernel_rfl) (by kernel_rfl) (by kernel_rfl) (fun _ _ _ h => h)
          (yieldsIf_load_mid (by rfl) _ _ rfl _ _ rfl _ _ (fun w hw => hw.2.2.2) Tryd.underlying23 rfl (by rw [cellsB_length, lR]; exact Tryd.sizeDg)) hHeld ?_
        try simp only [Act.put, List.setIfInBounds_toArray, List.set_cons_zero, List.set_cons_succ]
        refine wpAnyH_take (i := 13) (v := .agg (cellsB L).toArray) (by simp only [List.getElem?_toArray, List.getElem?_cons_zero, List.getElem?_cons_succ]; rfl) (by kernel_rfl) (by kernel_rfl) (by kernel_rfl) (fun _ _ _ h => h)
          (yieldsIf_load_mid (by rfl) _ _ rfl _ _ rfl _ _ (fun w hw => hw.2.2.1) Tryd.underlying23 rfl (by rw [cellsB_length, lL]; exact Tryd.sizeDg)) hHeld ?_
        try simp only [Act.put, List.setIfInBounds_toArray, List.set_cons_zero, List.set_cons_succ]
        refine wpAnyH_ready (rs := [11]) (by kernel_rfl) (by simp) ?_
        refine AllReadyH.cons (by simp only [List.getElem?_toArray, List.getElem?_cons_zero, List.getElem?_cons_succ]; rfl) (fun K hK => ?_) AllReadyH.nil
        rw [if_pos (by rfl)]
        go_simp
        refine (HND.out L R wd lL lR).mono ?_
        rintro e we ⟨rfl, hbwe⟩
        rw [HP.out]
        have HBe : Hid (Below w30.heap.size w30 we) := HBd.out.trans (hbwe.mono HBd.out.size)
        clear hbwe
        go_wp2_with fail
        refine hK.out _ _ (HF.out _ HBe.out) (fun hHeld => ?_)
        clear hK K
        try simp only [Act.put, List.setIfInBounds_toArray, List.set_cons_zero, List.set_cons_succ]
        refine wpAnyH_ready (rs := [14]) (by kernel_rfl) (by simp) ?_
        refine AllReadyH.cons (by simp only [List.getElem?_toArray, List.getElem?_cons_zero, List.getElem?_cons_succ]; rfl) (fun K hK => ?_) AllReadyH.nil
        rw [if_pos (by rfl)]
        go_simp
        refine (HND.out R L we lR lL).mono ?_
        rintro e wf ⟨rfl, hbwf⟩
        rw [HQ.out]
        have HBf : Hid (Below w30.heap.size w30 wf) := HBe.out.trans (hbwf.mono HBe.out.size)
        clear hbwf
        go_wp2_with fail
        refine hK.out _ _ (HF.out _ HBf.out) (fun hHeld => ?_)
        clear hK K
        try simp only [Act.put, List.setIfInBounds_toArray, List.set_cons_zero, List.set_cons_succ]
        refine wpAnyH_take (i := 15) (v := .bool true) (by simp only [List.getElem?_toArray, List.getElem?_cons_zero, List.getElem?_cons_succ]; rfl) (by kernel_rfl) (by kernel_rfl) (by kernel_rfl) (fun _ _ _ h => h)
          (yieldsIf_eqD (by rfl) _ _ rfl P Q lP lQ rfl rfl true HEQ.out) hHeld ?_
        try simp only [Act.put, List.setIfInBounds_toArray, List.set_cons_zero, List.set_cons_succ]
        refine wpAnyH_take (i := 16) (v := ?_) (by simp only [List.getElem?_toArray, List.getElem?_cons_zero, List.getElem?_cons_succ]; rfl) (by kernel_rfl) (by kernel_rfl) (by kernel_rfl) (fun _ _ _ h => h) (Or.inl ⟨by rfl, ?_⟩) hHeld ?_
        rotate_left
        · intro w hSw
          obtain ⟨hSw0, hSw1, hSw2, hSw3⟩ := hSw
          go_simp
          try with_reducible rfl
        try simp only [Act.put, List.setIfInBounds_toArray, List.set_cons_zero, List.set_cons_succ]
        refine wpAnyH_take (i := 17) (v := ?_) (by simp only [List.getElem?_toArray, List.getElem?_cons_zero, List.getElem?_cons_succ]; rfl) (by kernel_rfl) (by kernel_rfl) (by kernel_rfl) (fun _ _ _ h => h) (Or.inl ⟨by rfl, ?_⟩) hHeld ?_
        rotate_left
        · intro w hSw
          obtain ⟨hSw0, hSw1, hSw2, hSw3⟩ := hSw
          go_simp
          try with_reducible rfl
        try simp only [Act.put, List.setIfInBounds_toArray, List.set_cons_zero, List.set_cons_succ]
        refine wpAnyH_done (by kernel_rfl) (NoPanic.normal ?_) _
        clear hHeld
        go_wp2_with fail
        go_ret
        exact ⟨rfl, HW.out _ HBf.out⟩
    · have HNE : Hid ((!decide (Q = P)) = true) := by unfold Hid; simp [hqp]
      clear hqp
      refine wp_region_noPanic ?_
      refine wp_region_held_drew (S := fun wx => wx.rangeAt g17 0 (cellsB Q) ∧ wx.rangeAt g9 0 (cellsB P) ∧ wx.rangeAt g19 0 (cellsB L) ∧ wx.rangeAt g20 0 (cellsB R)) (by kernel_rfl) (HF.out _ (below_drewN w30 1)) (fun hHeld => ?_)
      try simp only [Act.put, List.setIfInBounds_toArray, List.set_cons_zero, List.set_cons_succ]
      have HBd : Hid (Below w30.heap.size w30 w30.drew) := below_drewN w30 1
      generalize w30.drew = wd at *
      refine wpAnyH_take (i := 0) (v := .agg (cellsB Q).toArray) (by simp only [List.getElem?_toArray, List.getElem?_cons_zero, List.getElem?_cons_succ]; rfl) (by kernel_rfl) (by kernel_rfl) (by kernel_rfl) (fun _ _ _ h => h)
        (yieldsIf_load_mid (by rfl) _ _ rfl _ _ rfl _ _ (fun w hw => hw.1) Tryd.underlying23 rfl (by rw [cellsB_length, lQ]; exact Tryd.sizeDg)) hHeld ?_
      try simp only [Act.put, List.setIfInBounds_toArray, List.set_cons_zero, List.set_cons_succ]
      refine wpAnyH_take (i := 1) (v := .agg (cellsB P).toArray) (by simp only [List.getElem?_toArray, List.getElem?_cons_zero, List.getElem?_cons_succ]; rfl) (by kernel_rfl) (by kernel_rfl) (by kernel_rfl) (fun _ _ _ h => h)
        (yieldsIf_load_mid (by rfl) _ _ rfl _ _ rfl _ _ (fun w hw => hw.2.1) Tryd.underlying23 rfl (by rw [cellsB_length, lP]; exact Tryd.sizeDg)) hHeld ?_
      try simp only [Act.put, List.setIfInBounds_toArray, List.set_cons_zero, List.set_cons_succ]
      refine wpAnyH_take (i := 2) (v := .bool true) (by simp only [List.getElem?_toArray, List.getElem?_cons_zero, List.getElem?_cons_succ]; rfl) (by kernel_rfl) (by kernel_rfl) (by kernel_rfl) (fun _ _ _ h => h)
        (yieldsIf_neqD (by rfl) _ _ rfl Q P lQ lP rfl rfl true HNE.out) hHeld ?_
      try simp only [Act.put, List.setIfInBounds_toArray, List.set_cons_zero, List.set_cons_succ]
      refine wpAnyH_take (i := 3) (v := ?_) (by simp only [List.getElem?_toArray, List.getElem?_cons_zero, List.getElem?_cons_succ]; rfl) (by kernel_rfl) (by kernel_rfl) (by kernel_rfl) (fun _ _ _ h => h) (Or.inl ⟨by rfl, ?_⟩) hHeld ?_
      rotate_left
      · intro w hSw
        obtain ⟨hSw0, hSw1, hSw2, hSw3⟩ := hSw
        go_simp
        try with_reducible rfl
      try simp only [Act.put, List.setIfInBounds_toArray, List.set_cons_zero, List.set_cons_succ]
      refine wpAnyH_take (i := 4) (v := undef) (by simp only [List.getElem?_toArray, List.getElem?_cons_zero, List.getElem?_cons_succ]; rfl) (by kernel_rfl) (by kernel_rfl) (by kernel_rfl) (fun _ _ _ h => h) (Or.inr ⟨by rfl, rfl⟩) hHeld ?_
      try simp only [Act.put, List.setIfInBounds_toArray, List.set_cons_zero, List.set_cons_succ]
      refine wpAnyH_take (i := 5) (v := undef) (by simp only [List.getElem?_toArray, List.getElem?_cons_zero, List.getElem?_cons_succ]; rfl) (by kernel_rfl) (by kernel_rfl) (by kernel_rfl) (fun _ _ _ h => h) (Or.inr ⟨by rfl, rfl⟩) hHeld ?_
      try simp only [Act.put, List.setIfInBounds_toArray, List.set_cons_zero, List.set_cons_succ]
      refine wpAnyH_take (i := 6) (v := undef) (by simp only [List.getElem?_toArray, List.getElem?_cons_zero, List.getElem?_cons_succ]; rfl) (by kernel_rfl) (by kernel_rfl) (by kernel_rfl) (fun _ _ _ h => h) (Or.inr ⟨by rfl, rfl⟩) hHeld ?_
      try simp only [Act.put, List.setIfInBounds_toArray, List.set_cons_zero, List.set_cons_succ]
      refine wpAnyH_take (i := 7) (v := ?_) (by simp only [List.getElem?_toArray, List.getElem?_cons_zero, List.getElem?_cons_succ]; rfl) (by kernel_rfl) (by kernel_rfl) (by kernel_rfl) (fun _ _ _ h => h) (Or.inl ⟨by rfl, ?_⟩) hHeld ?_
      rotate_left
      · intro w hSw
        obtain ⟨hSw0, hSw1, hSw2, hSw3⟩ := hSw
        go_simp
        try with_reducible rfl
      try simp only [Act.put, List.setIfInBounds_toArray, List.set_cons_zero, List.set_cons_succ]
      refine wpAnyH_take (i := 8) (v := ?_) (by simp only [List.getElem?_toArray, List.getElem?_cons_zero, List.getElem?_cons_succ]; rfl) (by kernel_rfl) (by kernel_rfl) (by kernel_rfl) (fun _ _ _ h => h) (Or.inl ⟨by rfl, ?_⟩) hHeld ?_
      rotate_left
      · intro w hSw
        obtain ⟨hSw0, hSw1, hSw2, hSw3⟩ := hSw
        go_simp
        try with_reducible rfl
      try simp only [Act.put, List.setIfInBounds_toArray, List.set_cons_zero, List.set_cons_succ]
      refine wpAnyH_take (i := 9) (v := undef) (by simp only [List.getElem?_toArray, List.getElem?_cons_zero, List.getElem?_cons_succ]; rfl) (by kernel_rfl) (by kernel_rfl) (by kernel_rfl) (fun _ _ _ h => h) (Or.inr ⟨by rfl, rfl⟩) hHeld ?_
      try simp only [Act.put, List.setIfInBounds_toArray, List.set_cons_zero, List.set_cons_succ]
      refine wpAnyH_take (i := 10) (v := undef) (by simp only [List.getElem?_toArray, List.getElem?_cons_zero, List.getElem?_cons_succ]; rfl) (by kernel_rfl) (by kernel_rfl) (by kernel_rfl) (fun _ _ _ h => h) (Or.inr ⟨by rfl, rfl⟩) hHeld ?_
      try simp only [Act.put, List.setIfInBounds_toArray, List.set_cons_zero, List.set_cons_succ]
      refine wpAnyH_take (i := 11) (v := undef) (by simp only [List.getElem?_toArray, List.getElem?_cons_zero, List.getElem?_cons_succ]; rfl) (by kernel_rfl) (by kernel_rfl) (by kernel_rfl) (fun _ _ _ h => h) (Or.inr ⟨by rfl, rfl⟩) hHeld ?_
      try simp only [Act.put, List.setIfInBounds_toArray, List.set_cons_zero, List.set_cons_succ]
      refine wpAnyH_take (i := 12) (v := undef) (by simp only [List.getElem?_toArray, List.getElem?_cons_zero, List.getElem?_cons_succ]; rfl) (by kernel_rfl) (by kernel_rfl) (by kernel_rfl) (fun _ _ _ h => h) (Or.inr ⟨by rfl, rfl⟩) hHeld ?_
      try simp only [Act.put, List.setIfInBounds_toArray, List.set_cons_zero, List.set_cons_succ]
      refine wpAnyH_take (i := 13) (v := undef) (by simp only [List.getElem?_toArray, List.getElem?_cons_zero, List.getElem?_cons_succ]; rfl) (by kernel_rfl) (by kernel_rfl) (by kernel_rfl) (fun _ _ _ h => h) (Or.inr ⟨by rfl, rfl⟩) hHeld ?_
      try simp only [Act.put, List.setIfInBounds_toArray, List.set_cons_zero, List.set_cons_succ]
      refine wpAnyH_take (i := 14) (v := undef) (by simp only [List.getElem?_toArray, List.getElem?_cons_zero, List.getElem?_cons_succ]; rfl) (by kernel_rfl) (by kernel_rfl) (by kernel_rfl) (fun _ _ _ h => h) (Or.inr ⟨by rfl, rfl⟩) hHeld ?_
      try simp only [Act.put, List.setIfInBounds_toArray, List.set_cons_zero, List.set_cons_succ]
      refine wpAnyH_take (i := 15) (v := undef) (by simp only [List.getElem?_toArray, List.getElem?_cons_zero, List.getElem?_cons_succ]; rfl) (by kernel_rfl) (by kernel_rfl) (by kernel_rfl) (fun _ _ _ h => h) (Or.inr ⟨by rfl, rfl⟩) hHeld ?_
      try simp only [Act.put, List.setIfInBounds_toArray, List.set_cons_zero, List.set_cons_succ]
      refine wpAnyH_take (i := 16) (v := ?_) (by simp only [List.getElem?_toArray, List.getElem?_cons_zero, List.getElem?_cons_succ]; rfl) (by kernel_rfl) (by kernel_rfl) (by kernel_rfl) (fun _ _ _ h => h) (Or.inl ⟨by rfl, ?_⟩) hHeld ?_
      rotate_left
      · intro w hSw
        obtain ⟨hSw0, hSw1, hSw2, hSw3⟩ := hSw
        go_simp
        try with_reducible rfl
      try simp only [Act.put, List.setIfInBounds_toArray, List.set_cons_zero, List.set_cons_succ]
      refine wpAnyH_take (i := 17) (v := ?_) (by simp only [List.getElem?_toArray, List.getElem?_cons_zero, List.getElem?_cons_succ]; rfl) (by kernel_rfl) (by kernel_rfl) (by kernel_rfl) (fun _ _ _ h => h) (Or.inl ⟨by rfl, ?_⟩) hHeld ?_
      rotate_left
      · intro w hSw
        obtain ⟨hSw0, hSw1, hSw2, hSw3⟩ := hSw
        go_simp
        try with_reducible rfl
      try simp only [Act.put, List.setIfInBounds_toArray, List.set_cons_zero, List.set_cons_succ]
      refine wpAnyH_done (by kernel_rfl) (NoPanic.normal ?_) _
      clear hHeld
      go_wp2_with fail
      go_ret
      exact ⟨rfl, HW.out _ HBd.out⟩
  · obtain rfl : i = 1 := by omega
    clear hneg hbig
    go_upto_region 11 with fail
    have HRA12 : Hid (w12.rangeAt g11 0 [.int .i64 0, .slice a1 67 c1, .slice a2 1 c2]) := (HK12.out _ HB12.out).2.2.2.2.2.2.2.2.1
    obtain ⟨g15, hg15⟩ : ∃ g15, w12.heap.size = g15 := ⟨_, rfl⟩
    obtain ⟨w13, hw13⟩ : ∃ w13, w12.alloc (.cells #[.int .i64 0, .slice none 0 0, .slice none 0 0] 35) = w13 := ⟨_, rfl⟩
    have HTw13 : Hid (w13.there g15 0 3) := by rw [← hw13]; exact alloc_thereAt _ _ _ 3 _ hg15 rfl
    have HBw14 : Hid (Below w12.heap.size w12 (w13.setCells g15 0 [.int .i64 0, .slice a1 67 c1, .slice a2 1 c2])) := below_setCells _ (by rw [hg15]; exact Nat.le_refl _) _ _ _ (by rw [← hw13]; exact (Below.refl _ _).alloc (Nat.le_refl _) _)
    have HRw14 : Hid ((w13.setCells g15 0 [.int .i64 0, .slice a1 67 c1, .slice a2 1 c2]).rangeAt g15 0 [.int .i64 0, .slice a1 67 c1, .slice a2 1 c2]) := World.rangeAt_setCells_same _ _ _ _ HTw13.out
    go_upto_region 12 with (first
      | (refine wpList_load_mid (by rfl) 35 (.tmp 11) (by rfl) g11 0 (by rfl) [.int .i64 0, .slice a1 67 c1, .slice a2 1 c2] _ HRA12.out Tryd.underlying35 (by rfl) Tryd.sizeSg ?_)
      | (refine wpList_allocE (by rfl) 35 (by rfl) #[.int .i64 0, .slice none 0 0, .slice none 0 0] Tryd.zeroSg g15 hg15 w13 hw13 ?_)
      | (refine wpList_store_mid (by rfl) 35 (.tmp 15) (.tmp 77) (by rfl) g15 0 #[.int .i64 0, .slice a1 67 c1, .slice a2 1 c2] (by rfl) (by rfl) HTw13.out Tryd.sizeSg (sig_one _ _ _ _ _ _ _) ?_))
    have HTT14 : Hid ((w13.setCells g15 0 [.int .i64 0, .slice a1 67 c1, .slice a2 1 c2]).there g15 0 3) := World.there_setCells HTw13.out _ _ _
    have HG15 : Hid (w12.heap.size ≤ g15) := by rw [hg15]; exact Nat.le_refl _
    generalize w13.setCells g15 0 [.int .i64 0, .slice a1 67 c1, .slice a2 1 c2] = w14 at *
    clear hw13 HTw13 hg15
    try simp only [Act.put, List.setIfInBounds_toArray, List.set_cons_zero, List.set_cons_succ]
    have HRB14 : Hid (w14.rangeAt g13 0 [.int .i64 1, .slice b1 67 d1, .slice b2 1 d2]) := (HK12.out _ HBw14.out).2.2.2.2.2.2.2.2.2.1
    obtain ⟨g16, hg16⟩ : ∃ g16, w14.heap.size = g16 := ⟨_, rfl⟩
    obtain ⟨w15, hw15⟩ : ∃ w15, w14.alloc (.cells #[.int .i64 0, .slice none 0 0, .slice none 0 0] 35) = w15 := ⟨_, rfl⟩
    have HTw15 : Hid (w15.there g16 0 3) := by rw [← hw15]; exact alloc_thereAt _ _ _ 3 _ hg16 rfl
    have HBw16 : Hid (Below w14.heap.size w14 (w15.setCells g16 0 [.int .i64 1, .slice b1 67 d1, .slice b2 1 d2])) := below_setCells _ (by rw [hg16]; exact Nat.le_refl _) _ _ _ (by rw [← hw15]; exact (Below.refl _ _).alloc (Nat.le_refl _) _)
    have HRw16 : Hid ((w15.setCells g16 0 [.int .i64 1, .slice b1 67 d1, .slice b2 1 d2]).rangeAt g16 0 [.int .i64 1, .slice b1 67 d1, .slice b2 1 d2]) := World.rangeAt_setCells_same _ _ _ _ HTw15.out
    go_upto_region 13 with (first
      | (refine wpList_load_mid (by rfl) 35 (.tmp 13) (by rfl) g13 0 (by rfl) [.int .i64 1, .slice b1 67 d1, .slice b2 1 d2] _ HRB14.out Tryd.underlying35 (by rfl) Tryd.sizeSg ?_)
      | (refine wpList_allocE (by rfl) 35 (by rfl) #[.int .i64 0, .slice none 0 0, .slice none 0 0] Tryd.zeroSg g16 hg16 w15 hw15 ?_)
      | (refine wpList_store_mid (by rfl) 35 (.tmp 16) (.tmp 78) (by rfl) g16 0 #[.int .i64 1, .slice b1 67 d1, .slice b2 1 d2] (by rfl) (by rfl) HTw15.out Tryd.sizeSg (sig_one _ _ _ _ _ _ _) ?_))
    have HTT16 : Hid ((w15.setCells g16 0 [.int .i64 1, .slice b1 67 d1, .slice b2 1 d2]).there g16 0 3) := World.there_setCells HTw15.out _ _ _
    have HG16 : Hid (w14.heap.size ≤ g16 ∧ g15 < g16) := ⟨by rw [hg16]; exact Nat.le_refl _, by have := cell_block (HRw14.out 0 _ rfl); rw [← hg16]; exact this⟩
    generalize w15.setCells g16 0 [.int .i64 1, .slice b1 67 d1, .slice b2 1 d2] = w16 at *
    clear hw15 HTw15 hg16
    try simp only [Act.put, List.setIfInBounds_toArray, List.set_cons_zero, List.set_cons_succ]
    have HR15 : Hid (w16.rangeAt g15 0 [.int .i64 0, .slice a1 67 c1, .slice a2 1 c2]) := range_below HRw14.out HBw16.out (cell_block (HRw14.out 0 _ rfl))
    have HT15 : Hid (w16.there g15 0 3) := there_below HTT14.out HBw16.out (cell_block (HRw14.out 0 _ rfl))
    have HB16 : Hid (Below w12.heap.size w12 w16) := HBw14.out.trans (HBw16.out.mono HBw14.out.size)
    clear HRA12 HRB14 HRw14 HTT14 HBw16
    have HRA17 : Hid ((w16.setCells g15 0 [.int .i64 1, .slice b1 67 d1, .slice b2 1 d2]).rangeAt g11 0 [.int .i64 0, .slice a1 67 c1, .slice a2 1 c2]) := (HK12.out _ (below_setCells _ HG15.out _ _ _ HB16.out)).2.2.2.2.2.2.2.2.1
    have HRB16 : Hid (w16.rangeAt g13 0 [.int .i64 1, .slice b1 67 d1, .slice b2 1 d2]) := (HK12.out _ HB16.out).2.2.2.2.2.2.2.2.2.1
    have HTT17 : Hid ((w16.setCells g15 0 [.int .i64 1, .slice b1 67 d1, .slice b2 1 d2]).there g16 0 3) := World.there_setCells HTT16.out _ _ _
    have HR18 : Hid (((w16.setCells g15 0 [.int .i64 1, .slice b1 67 d1, .slice b2 1 d2]).setCells g16 0 [.int .i64 0, .slice a1 67 c1, .slice a2 1 c2]).rangeAt g15 0 [.int .i64 1, .slice b1 67 d1, .slice b2 1 d2]) := World.rangeAt_setCells_apart (World.rangeAt_setCells_same _ _ _ _ HT15.out) _ _ _ (.inl (by have := HG16.out; omega))
    have HT18 : Hid (((w16.setCells g15 0 [.int .i64 1, .slice b1 67 d1, .slice b2 1 d2]).setCells g16 0 [.int .i64 0, .slice a1 67 c1, .slice a2 1 c2]).there g15 0 3) := World.there_setCells (World.there_setCells HT15.out _ _ _) _ _ _
    have HS18 : Hid (((w16.setCells g15 0 [.int .i64 1, .slice b1 67 d1, .slice b2 1 d2]).setCells g16 0 [.int .i64 0, .slice a1 67 c1, .slice a2 1 c2]).rangeAt g16 0 [.int .i64 0, .slice a1 67 c1, .slice a2 1 c2]) := World.rangeAt_setCells_same _ _ _ _ HTT17.out
    have HB18 : Hid (Below w12.heap.size w12 ((w16.setCells g15 0 [.int .i64 1, .slice b1 67 d1, .slice b2 1 d2]).setCells g16 0 [.int .i64 0, .slice a1 67 c1, .slice a2 1 c2])) := below_setCells _ (by have := HG16.out; have := HG15.out; omega) _ _ _ (below_setCells _ HG15.out _ _ _ HB16.out)
    go_upto_region 16 with (first
      | (refine wpList_load_mid (by rfl) 35 (.tmp 13) (by rfl) g13 0 (by rfl) [.int .i64 1, .slice b1 67 d1, .slice b2 1 d2] _ HRB16.out Tryd.underlying35 (by rfl) Tryd.sizeSg ?_)
      | (refine wpList_store_mid (by rfl) 35 (.tmp 15) (.tmp 81) (by rfl) g15 0 #[.int .i64 1, .slice b1 67 d1, .slice b2 1 d2] (by rfl) (by rfl) HT15.out Tryd.sizeSg (sig_one _ _ _ _ _ _ _) ?_)
      | (refine wpList_load_mid (by rfl) 35 (.tmp 11) (by rfl) g11 0 (by rfl) [.int .i64 0, .slice a1 67 c1, .slice a2 1 c2] _ HRA17.out Tryd.underlying35 (by rfl) Tryd.sizeSg ?_)
      | (refine wpList_store_mid (by rfl) 35 (.tmp 16) (.tmp 82) (by rfl) g16 0 #[.int .i64 0, .slice a1 67 c1, .slice a2 1 c2] (by rfl) (by rfl) HTT17.out Tryd.sizeSg (sig_one _ _ _ _ _ _ _) ?_))
    generalize (w16.setCells g15 0 [.int .i64 1, .slice b1 67 d1, .slice b2 1 d2]).setCells g16 0 [.int .i64 0, .slice a1 67 c1, .slice a2 1 c2] = w18 at *
    try simp only [Act.put, List.setIfInBounds_toArray, List.set_cons_zero, List.set_cons_succ]
    have k1 : w18.cell? ⟨g16, 0, none⟩ = some (.int .i64 0) := HS18.out 0 _ rfl
    have k2 : w18.cell? ⟨g15, 0, none⟩ = some (.int .i64 1) := HR18.out 0 _ rfl
    have k3 : w18.frozen? ⟨g15, 0, none⟩ = false := (HT18.out 0 (by omega)).2
    go_upto_region 17 with fail
    have HR19 : Hid ((w18.setCell ⟨g15, 0, none⟩ (.int .i64 0)).rangeAt g15 0 [.int .i64 0, .slice b1 67 d1, .slice b2 1 d2]) := range_put0 HR18.out _
    have HB19 : Hid (Below w12.heap.size w12 (w18.setCell ⟨g15, 0, none⟩ (.int .i64 0))) := HB18.out.setCell HG15.out _
    generalize w18.setCell ⟨g15, 0, none⟩ (.int .i64 0) = w19 at *
    clear k1 k2 k3 HRA17 HRB16 HTT17 HR18 HT18 HS18 HB18
    have HM19 : Hid (w19.rangeAt (w.heap.size + 1) 0 (cellsB m)) := (HK12.out _ HB19.out).2.2.1
    have HRC : Hid (Calls Tryd.prog 10 #[digestV m, .int .i64 1, .agg #[.int .i64 0, .slice b1 67 d1, .slice b2 1 d2]] w19 fun e w' => e = .returned (.tuple #[digestV Q, .nilIface]) ∧ Below w19.heap.size w19 w') := HRB.out b1 d1 b2 d2 w19 (HK12.out _ HB19.out).1 hd1 hd2 (HK12.out _ HB19.out).2.2.2.2.2.2.1 (HK12.out _ HB19.out).2.2.2.2.2.2.2.1
    clear HRA HRB HR15 HT15 HRw16 HTT16 HBw14
    go_wp2_with (first
      | (refine wpList_load_mid (by rfl) 23 (.tmp 4) (by rfl) (w.heap.size + 1) 0 (by rfl) (cellsB m) _ HM19.out Tryd.underlying23 (by rfl) (by rw [cellsB_length, hm]; exact Tryd.sizeDg) ?_)
      | (refine wpList_load_mid (by rfl) 35 (.tmp 15) (by rfl) g15 0 (by rfl) [.int .i64 0, .slice b1 67 d1, .slice b2 1 d2] _ HR19.out Tryd.underlying35 (by rfl) Tryd.sizeSg ?_))
    refine HRC.out.mono ?_
    rintro e w20 ⟨rfl, hb20⟩
    have HB20 : Hid (Below w12.heap.size w12 w20) := HB19.out.trans (hb20.mono HB19.out.size)
    clear hb20 HRC HM19 HR19
    obtain ⟨g17, hg17⟩ : ∃ g17, w20.heap.size = g17 := ⟨_, rfl⟩
    obtain ⟨w21, hw21⟩ : ∃ w21, w20.alloc (.cells (cellsB zD).toArray 23) = w21 := ⟨_, rfl⟩
    have HTw21 : Hid (w21.there g17 0 32) := by rw [← hw21]; exact alloc_thereAt _ _ _ 32 _ hg17 zD_size.symm
    have HBw22 : Hid (Below w20.heap.size w20 (w21.setCells g17 0 (cellsB Q))) := below_setCells _ (by rw [hg17]; exact Nat.le_refl _) _ _ _ (by rw [← hw21]; exact (Below.refl _ _).alloc (Nat.le_refl _) _)
    have HRw22 : Hid (DAt (w21.setCells g17 0 (cellsB Q)) g17 0 Q) := dat_stored HTw21.out lQ
    have HB22 : Hid (Below w12.heap.size w12 (w21.setCells g17 0 (cellsB Q))) := HB20.out.trans (HBw22.out.mono HB20.out.size)
    have HX22 : Hid ((w21.setCells g17 0 (cellsB Q)).rangeAt w.heap.size 0 (cellsB seed)) := (HK12.out _ HB22.out).2.1
    go_wp2_with (first
      | (refine wpList_allocE (by rfl) 23 (by rfl) (cellsB zD).toArray Tryd.zeroDg g17 hg17 w21 hw21 ?_)
      | (refine wpList_store_mid (by rfl) 23 (.tmp 17) (.tmp 90) (by rfl) g17 0 (cellsB Q).toArray (by rfl) (by rfl) (by rw [cellsB_size, lQ]; exact HTw21.out) (by rw [cellsB_size, lQ]; exact Tryd.sizeDg) (all_oneCell_toArray (cellsB_one _)) ?_)
      | (refine wpList_load_mid (by rfl) 23 (.tmp 3) (by rfl) w.heap.size 0 (by rfl) (cellsB seed) _ HX22.out Tryd.underlying23 (by rfl) (by rw [cellsB_length, hs]; exact Tryd.sizeDg) ?_))
    generalize w21.setCells g17 0 (cellsB Q) = w22 at *
    clear hw21 HTw21 hg17
    refine (HK0.out w22).mono ?_
    rintro e w23 ⟨rfl, hb23⟩
    have HB23 : Hid (Below w22.heap.size w22 w23) := hb23
    clear hb23 HX22
    go_wp2_with fail
    refine (HP0.out w23).mono ?_
    rintro e w24 ⟨rfl, hb24⟩
    have HB24 : Hid (Below w22.heap.size w22 w24) := HB23.out.trans (hb24.mono HB23.out.size)
    clear hb24 HB23
    obtain ⟨g19, hg19⟩ : ∃ g19, w24.heap.size = g19 := ⟨_, rfl⟩
    obtain ⟨w25, hw25⟩ : ∃ w25, w24.alloc (.cells (cellsB zD).toArray 23) = w25 := ⟨_, rfl⟩
    have HTw25 : Hid (w25.there g19 0 32) := by rw [← hw25]; exact alloc_thereAt _ _ _ 32 _ hg19 zD_size.symm
    have HBw26 : Hid (Below w24.heap.size w24 (w25.setCells g19 0 (cellsB L))) := below_setCells _ (by rw [hg19]; exact Nat.le_refl _) _ _ _ (by rw [← hw25]; exact (Below.refl _ _).alloc (Nat.le_refl _) _)
    have HRw26 : Hid (DAt (w25.setCells g19 0 (cellsB L)) g19 0 L) := dat_stored HTw25.out lL
    have HB26 : Hid (Below w22.heap.size w22 (w25.setCells g19 0 (cellsB L))) := HB24.out.trans (HBw26.out.mono HB24.out.size)
    have HX26 : Hid ((w25.setCells g19 0 (cellsB L)).rangeAt w.heap.size 0 (cellsB seed)) := (HK12.out _ (HB22.out.trans (HB26.out.mono HB22.out.size))).2.1
    go_wp2_with (first
      | (refine wpList_allocE (by rfl) 23 (by rfl) (cellsB zD).toArray Tryd.zeroDg g19 hg19 w25 hw25 ?_)
      | (refine wpList_store_mid (by rfl) 23 (.tmp 19) (.tmp 96) (by rfl) g19 0 (cellsB L).toArray (by rfl) (by rfl) (by rw [cellsB_size, lL]; exact HTw25.out) (by rw [cellsB_size, lL]; exact Tryd.sizeDg) (all_oneCell_toArray (cellsB_one _)) ?_)
      | (refine wpList_load_mid (by rfl) 23 (.tmp 3) (by rfl) w.heap.size 0 (by rfl) (cellsB seed) _ HX26.out Tryd.underlying23 (by rfl) (by rw [cellsB_length, hs]; exact Tryd.sizeDg) ?_))
    generalize w25.setCells g19 0 (cellsB L) = w26 at *
    clear hw25 HTw25 hg19
    refine (HK1.out w26).mono ?_
    rintro e w27 ⟨rfl, hb27⟩
    have HB27 : Hid (Below w26.heap.size w26 w27) := hb27
    clear hb27 HX26
    go_wp2_with fail
    refine (HP1.out w27).mono ?_
    rintro e w28 ⟨rfl, hb28⟩
    have HB28 : Hid (Below w26.heap.size w26 w28) := HB27.out.trans (hb28.mono HB27.out.size)
    clear hb28 HB27
    obtain ⟨g20, hg20⟩ : ∃ g20, w28.heap.size = g20 := ⟨_, rfl⟩
    obtain ⟨w29, hw29⟩ : ∃ w29, w28.alloc (.cells (cellsB zD).toArray 23) = w29 := ⟨_, rfl⟩
    have HTw29 : Hid (w29.there g20 0 32) := by rw [← hw29]; exact alloc_thereAt _ _ _ 32 _ hg20 zD_size.symm
    have HBw30 : Hid (Below w28.heap.size w28 (w29.setCells g20 0 (cellsB R))) := below_setCells _ (by rw [hg20]; exact Nat.le_refl _) _ _ _ (by rw [← hw29]; exact (Below.refl _ _).alloc (Nat.le_refl _) _)
    have HRw30 : Hid (DAt (w29.setCells g20 0 (cellsB R)) g20 0 R) := dat_stored HTw29.out lR
    go_upto_region 22 with (first
      | (refine wpList_allocE (by rfl) 23 (by rfl) (cellsB zD).toArray Tryd.zeroDg g20 hg20 w29 hw29 ?_)
      | (refine wpList_store_mid (by rfl) 23 (.tmp 20) (.tmp 99) (by rfl) g20 0 (cellsB R).toArray (by rfl) (by rfl) (by rw [cellsB_size, lR]; exact HTw29.out) (by rw [cellsB_size, lR]; exact Tryd.sizeDg) (all_oneCell_toArray (cellsB_one _)) ?_))
    generalize w29.setCells g20 0 (cellsB R) = w30 at *
    clear hw29 HTw29 hg20
    try simp only [Act.put, List.setIfInBounds_toArray, List.set_cons_zero, List.set_cons_succ]
    have HF : Hid (∀ wx, Below w30.heap.size w30 wx → wx.rangeAt g17 0 (cellsB Q) ∧ wx.rangeAt g9 0 (cellsB P) ∧ wx.rangeAt g19 0 (cellsB L) ∧ wx.rangeAt g20 0 (cellsB R)) := fun wx hx => by
      have q4 : Below w28.heap.size w28 wx := HBw30.out.trans (hx.mono HBw30.out.size)
      have q3 : Below w26.heap.size w26 wx := HB28.out.trans (q4.mono HB28.out.size)
      have q2 : Below w22.heap.size w22 wx := HB26.out.trans (q3.mono HB26.out.size)
      have q1 : Below w12.heap.size w12 wx := HB22.out.trans (q2.mono HB22.out.size)
      exact ⟨DAt.below HRw22.out q2 (cell_block (DAt.cell HRw22.out 0 (by omega))), (HK12.out _ q1).2.2.2.1, DAt.below HRw26.out q3 (cell_block (DAt.cell HRw26.out 0 (by omega))), DAt.below HRw30.out hx (cell_block (DAt.cell HRw30.out 0 (by omega)))⟩
    have HW : Hid (∀ wx, Below w30.heap.size w30 wx → Below w.heap.size w wx) := fun wx hx => by
      have q4 : Below w28.heap.size w28 wx := HBw30.out.trans (hx.mono HBw30.out.size)
      have q3 : Below w26.heap.size w26 wx := HB28.out.trans (q4.mono HB28.out.size)
      have q2 : Below w22.heap.size w22 wx := HB26.out.trans (q3.mono HB26.out.size)
      have q1 : Below w12.heap.size w12 wx := HB22.out.trans (q2.mono HB22.out.size)
      exact (HK12.out _ q1).2.2.2.2.2.2.2.2.2.2
    clear HBw30 HB28 HB26 HB22 HRw22 HRw26 HRw30 HB20 HB19 HB24 HBw22 HBw26 HB12 HB16
    by_cases hqp : Q = P
    · by_cases hlr : L = R
      · have HNE : Hid ((!decide (Q = P)) = false) := by unfold Hid; simp [hqp]
        have HLE : Hid (decide (L = R) = true) := decide_eq_true hlr
        clear hqp hlr
        refine wp_region_noPanic ?_
        refine wp_region_held_drew (S := fun wx => wx.rangeAt g17 0 (cellsB Q) ∧ wx.rangeAt g9 0 (cellsB P) ∧ wx.rangeAt g19 0 (cellsB L) ∧ wx.rangeAt g20 0 (cellsB R)) (by kernel_rfl) (HF.out _ (below_drewN w30 1)) (fun hHeld => ?_)
        try simp only [Act.put, List.setIfInBounds_toArray, List.set_cons_zero, List.set_cons_succ]
        have HBd : Hid (Below w30.heap.size w30 w30.drew) := below_drewN w30 1
        generalize w30.drew = wd at *
        refine wpAnyH_take (i := 0) (v := .agg (cellsB Q).toArray) (by simp only [List.getElem?_toArray, List.getElem?_cons_zero, List.getElem?_cons_succ]; rfl) (by kernel_rfl) (by kernel_rfl) (by kernel_rfl) (fun _ _ _ h => h)
          (yieldsIf_load_mid (by rfl) _ _ rfl _ _ rfl _ _ (fun w hw => hw.1) Tryd.underlying23 rfl (by rw [cellsB_length, lQ]; exact Tryd.sizeDg)) hHeld ?_
        try simp only [Act.put, List.setIfInBounds_toArray, List.set_cons_zero, List.set_cons_succ]
        refine wpAnyH_take (i := 1) (v := .agg (cellsB P).toArray) (by simp only [List.getElem?_toArray, List.getElem?_cons_zero, List.getElem?_cons_succ]; rfl) (by kernel_rfl) (by kernel_rfl) (by kernel_rfl) (fun _ _ _ h => h)
          (yieldsIf_load_mid (by rfl) _ _ rfl _ _ rfl _ _ (fun w hw => hw.2.1) Tryd.underlying23 rfl (by rw [cellsB_length, lP]; exact Tryd.sizeDg)) hHeld ?_
        try simp only [Act.put, List.setIfInBounds_toArray, List.set_cons_zero, List.set_cons_succ]
        refine wpAnyH_take (i := 2) (v := .bool false) (by simp only [List.getElem?_toArray, List.getElem?_cons_zero, List.getElem?_cons_succ]; rfl) (by kernel_rfl) (by kernel_rfl) (by kernel_rfl) (fun _ _ _ h => h)
          (yieldsIf_neqD (by rfl) _ _ rfl Q P lQ lP rfl rfl false HNE.out) hHeld ?_
        try simp only [Act.put, List.setIfInBounds_toArray, List.set_cons_zero, List.set_cons_succ]
        refine wpAnyH_take (i := 3) (v := ?_) (by simp only [List.getElem?_toArray, List.getElem?_cons_zero, List.getElem?_cons_succ]; rfl) (by kernel_rfl) (by kernel_rfl) (by kernel_rfl) (fun _ _ _ h => h) (Or.inl ⟨by rfl, ?_⟩) hHeld ?_
        rotate_left
        · intro w hSw
          obtain ⟨hSw0, hSw1, hSw2, hSw3⟩ := hSw
          go_simp
          try with_reducible rfl
        try simp only [Act.put, List.setIfInBounds_toArray, List.set_cons_zero, List.set_cons_succ]
        refine wpAnyH_take (i := 4) (v := .agg (cellsB L).toArray) (by simp only [List.getElem?_toArray, List.getElem?_cons_zero, List.getElem?_cons_succ]; rfl) (by kernel_rfl) (by kernel_rfl) (by kernel_rfl) (fun _ _ _ h => h)
          (yieldsIf_load_mid (by rfl) _ _ rfl _ _ rfl _ _ (fun w hw => hw.2.2.1) Tryd.underlying23 rfl (by rw [cellsB_length, lL]; exact Tryd.sizeDg)) hHeld ?_
        try simp only [Act.put, List.setIfInBounds_toArray, List.set_cons_zero, List.set_cons_succ]
        refine wpAnyH_take (i := 5) (v := .agg (cellsB R).toArray) (by simp only [List.getElem?_toArray, List.getElem?_cons_zero, List.getElem?_cons_succ]; rfl) (by kernel_rfl) (by kernel_rfl) (by kernel_rfl) (fun _ _ _ h => h)
          (yieldsIf_load_mid (by rfl) _ _ rfl _ _ rfl _ _ (fun w hw => hw.2.2.2) Tryd.underlying23 rfl (by rw [cellsB_length, lR]; exact Tryd.sizeDg)) hHeld ?_
        try simp only [Act.put, List.setIfInBounds_toArray, List.set_cons_zero, List.set_cons_succ]
        refine wpAnyH_take (i := 6) (v := .bool true) (by simp only [List.getElem?_toArray, List.getElem?_cons_zero, List.getElem?_cons_succ]; rfl) (by kernel_rfl) (by kernel_rfl) (by kernel_rfl) (fun _ _ _ h => h)
          (yieldsIf_eqD (by rfl) _ _ rfl L R lL lR rfl rfl true HLE.out) hHeld ?_
        try simp only [Act.put, List.setIfInBounds_toArray, List.set_cons_zero, List.set_cons_succ]
        refine wpAnyH_take (i := 7) (v := ?_) (by simp only [List.getElem?_toArray, List.getElem?_cons_zero, List.getElem?_cons_succ]; rfl) (by kernel_rfl) (by kernel_rfl) (by kernel_rfl) (fun _ _ _ h => h) (Or.inl ⟨by rfl, ?_⟩) hHeld ?_
        rotate_left
        · intro w hSw
          obtain ⟨hSw0, hSw1, hSw2, hSw3⟩ := hSw
          go_simp
          try with_reducible rfl
        try simp only [Act.put, List.setIfInBounds_toArray, List.set_cons_zero, List.set_cons_succ]
        refine wpAnyH_take (i := 8) (v := ?_) (by simp only [List.getElem?_toArray, List.getElem?_cons_zero, List.getElem?_cons_succ]; rfl) (by kernel_rfl) (by kernel_rfl) (by kernel_rfl) (fun _ _ _ h => h) (Or.inl ⟨by rfl, ?_⟩) hHeld ?_
        rotate_left
        · intro w hSw
          obtain ⟨hSw0, hSw1, hSw2, hSw3⟩ := hSw
          go_simp
          try with_reducible rfl
        try simp only [Act.put, List.setIfInBounds_toArray, List.set_cons_zero, List.set_cons_succ]
        refine wpAnyH_take (i := 9) (v := undef) (by simp only [List.getElem?_toArray, List.getElem?_cons_zero, List.getElem?_cons_succ]; rfl) (by kernel_rfl) (by kernel_rfl) (by kernel_rfl) (fun _ _ _ h => h) (Or.inr ⟨by rfl, rfl⟩) hHeld ?_
        try simp only [Act.put, List.setIfInBounds_toArray, List.set_cons_zero, List.set_cons_succ]
        refine wpAnyH_take (i := 10) (v := undef) (by simp only [List.getElem?_toArray, List.getElem?_cons_zero, List.getElem?_cons_succ]; rfl) (by kernel_rfl) (by kernel_rfl) (by kernel_rfl) (fun _ _ _ h => h) (Or.inr ⟨by rfl, rfl⟩) hHeld ?_
        try simp only [Act.put, List.setIfInBounds_toArray, List.set_cons_zero, List.set_cons_succ]
        refine wpAnyH_take (i := 11) (v := undef) (by simp only [List.getElem?_toArray, List.getElem?_cons_zero, List.getElem?_cons_succ]; rfl) (by kernel_rfl) (by kernel_rfl) (by kernel_rfl) (fun _ _ _ h => h) (Or.inr ⟨by rfl, rfl⟩) hHeld ?_
        try simp only [Act.put, List.setIfInBounds_toArray, List.set_cons_zero, List.set_cons_succ]
        refine wpAnyH_take (i := 12) (v := undef) (by simp only [List.getElem?_toArray, List.getElem?_cons_zero, List.getElem?_cons_succ]; rfl) (by kernel_rfl) (by kernel_rfl) (by kernel_rfl) (fun _ _ _ h => h) (Or.inr ⟨by rfl, rfl⟩) hHeld ?_
        try simp only [Act.put, List.setIfInBounds_toArray, List.set_cons_zero, List.set_cons_succ]
        refine wpAnyH_take (i := 13) (v := undef) (by simp only [List.getElem?_toArray, List.getElem?_cons_zero, List.getElem?_cons_succ]; rfl) (by kernel_rfl) (by kernel_rfl) (by kernel_rfl) (fun _ _ _ h => h) (Or.inr ⟨by rfl, rfl⟩) hHeld ?_
        try simp only [Act.put, List.setIfInBounds_toArray, List.set_cons_zero, List.set_cons_succ]
        refine wpAnyH_take (i := 14) (v := undef) (by simp only [List.getElem?_toArray, List.getElem?_cons_zero, List.getElem?_cons_succ]; rfl) (by kernel_rfl) (by kernel_rfl) (by kernel_rfl) (fun _ _ _ h => h) (Or.inr ⟨by rfl, rfl⟩) hHeld ?_
        try simp only [Act.put, List.setIfInBounds_toArray, List.set_cons_zero, List.set_cons_succ]
        refine wpAnyH_take (i := 15) (v := undef) (by simp only [List.getElem?_toArray, List.getElem?_cons_zero, List.getElem?_cons_succ]; rfl) (by kernel_rfl) (by kernel_rfl) (by kernel_rfl) (fun _ _ _ h => h) (Or.inr ⟨by rfl, rfl⟩) hHeld ?_
        try simp only [Act.put, List.setIfInBounds_toArray, List.set_cons_zero, List.set_cons_succ]
        refine wpAnyH_take (i := 16) (v := ?_) (by simp only [List.getElem?_toArray, List.getElem?_cons_zero, List.getElem?_cons_succ]; rfl) (by kernel_rfl) (by kernel_rfl) (by kernel_rfl) (fun _ _ _ h => h) (Or.inl ⟨by rfl, ?_⟩) hHeld ?_
        rotate_left
        · intro w hSw
          obtain ⟨hSw0, hSw1, hSw2, hSw3⟩ := hSw
          go_simp
          try with_reducible rfl
        try simp only [Act.put, List.setIfInBounds_toArray, List.set_cons_zero, List.set_cons_succ]
        refine wpAnyH_take (i := 17) (v := ?_) (by simp only [List.getElem?_toArray, List.getElem?_cons_zero, List.getElem?_cons_succ]; rfl) (by kernel_rfl) (by kernel_rfl) (by kernel_rfl) (fun _ _ _ h => h) (Or.inl ⟨by rfl, ?_⟩) hHeld ?_
        rotate_left
        · intro w hSw
          obtain ⟨hSw0, hSw1, hSw2, hSw3⟩ := hSw
          go_simp
          try with_reducible rfl
        try simp only [Act.put, List.setIfInBounds_toArray, List.set_cons_zero, List.set_cons_succ]
        refine wpAnyH_done (by kernel_rfl) (NoPanic.normal ?_) _
        clear hHeld
        go_wp2_with fail
        go_ret
        exact ⟨rfl, HW.out _ HBd.out⟩
      · have HNE : Hid ((!decide (Q = P)) = false) := by unfold Hid; simp [hqp]
        have HLE : Hid (decide (L = R) = false) := decide_eq_false hlr
        have HEQ : Hid (decide (P = Q) = true) := decide_eq_true hqp.symm
        clear hqp hlr
        refine wp_region_noPanic ?_
        refine wp_region_held_drew (S := fun wx => wx.rangeAt g17 0 (cellsB Q) ∧ wx.rangeAt g9 0 (cellsB P) ∧ wx.rangeAt g19 0 (cellsB L) ∧ wx.rangeAt g20 0 (cellsB R)) (by kernel_rfl) (HF.out _ (below_drewN w30 1)) (fun hHeld => ?_)
        try simp only [Act.put, List.setIfInBounds_toArray, List.set_cons_zero, List.set_cons_succ]
        have HBd : Hid (Below w30.heap.size w30 w30.drew) := below_drewN w30 1
        generalize w30.drew = wd at *
        refine wpAnyH_take (i := 0) (v := .agg (cellsB Q).toArray) (by simp only [List.getElem?_toArray, List.getElem?_cons_zero, List.getElem?_cons_succ]; rfl) (by kernel_rfl) (by kernel_rfl) (by kernel_rfl) (fun _ _ _ h => h)
          (yieldsIf_load_mid (by rfl) _ _ rfl _ _ rfl _ _ (fun w hw => hw.1) Tryd.underlying23 rfl (by rw [cellsB_length, lQ]; exact Tryd.sizeDg)) hHeld ?_
        try simp only [Act.put, List.setIfInBounds_toArray, List.set_cons_zero, List.set_cons_succ]
        refine wpAnyH_take (i := 1) (v := .agg (cellsB P).toArray) (by simp only [List.getElem?_toArray, List.getElem?_cons_zero, List.getElem?_cons_succ]; rfl) (by kernel_rfl) (by kernel_rfl) (by kernel_rfl) (fun _ _ _ h => h)
          (yieldsIf_load_mid (by rfl) _ _ rfl _ _ rfl _ _ (fun w hw => hw.2.1) Tryd.underlying23 rfl (by rw [cellsB_length, lP]; exact Tryd.sizeDg)) hHeld ?_
        try simp only [Act.put, List.setIfInBounds_toArray, List.set_cons_zero, List.set_cons_succ]
        refine wpAnyH_take (i := 2) (v := .bool false) (by simp only [List.getElem?_toArray, List.getElem?_cons_zero, List.getElem?_cons_succ]; rfl) (by kernel_rfl) (by kernel_rfl) (by kernel_rfl) (fun _ _ _ h => h)
          (yieldsIf_neqD (by rfl) _ _ rfl Q P lQ lP rfl rfl false HNE.out) hHeld ?_
        try simp only [Act.put, List.setIfInBounds_toArray, List.set_cons_zero, List.set_cons_succ]
        refine wpAnyH_take (i := 3) (v := ?_) (by simp only [List.getElem?_toArray, List.getElem?_cons_zero, List.getElem?_cons_succ]; rfl) (by kernel_rfl) (by kernel_rfl) (by kernel_rfl) (fun _ _ _ h => h) (Or.inl ⟨by rfl, ?_⟩) hHeld ?_
        rotate_left
        · intro w hSw
          obtain ⟨hSw0, hSw1, hSw2, hSw3⟩ := hSw
          go_simp
          try with_reducible rfl
        try simp only [Act.put, List.setIfInBounds_toArray, List.set_cons_zero, List.set_cons_succ]
        refine wpAnyH_take (i := 4) (v := .agg (cellsB L).toArray) (by simp only [List.getElem?_toArray, List.getElem?_cons_zero, List.getElem?_cons_succ]; rfl) (by kernel_rfl) (by kernel_rfl) (by kernel_rfl) (fun _ _ _ h => h)
          (yieldsIf_load_mid (by rfl) _ _ rfl _ _ rfl _ _ (fun w hw => hw.2.2.1) Tryd.underlying23 rfl (by rw [cellsB_length, lL]; exact Tryd.sizeDg)) hHeld ?_
        try simp only [Act.put, List.setIfInBounds_toArray, List.set_cons_zero, List.set_cons_succ]
        refine wpAnyH_take (i := 5) (v := .agg (cellsB R).toArray) (by simp only [List.getElem?_toArray, List.getElem?_cons_zero, List.getElem?_cons_succ]; rfl) (by kernel_rfl) (by kernel_rfl) (by kernel_rfl) (fun _ _ _ h => h)
          (yieldsIf_load_mid (by rfl) _ _ rfl _ _ rfl _ _ (fun w hw => hw.2.2.2) Tryd.underlying23 rfl (by rw [cellsB_length, lR]; exact Tryd.sizeDg)) hHeld ?_
        try simp only [Act.put, List.setIfInBounds_toArray, List.set_cons_zero, List.set_cons_succ]
        refine wpAnyH_take (i := 6) (v := .bool false) (by simp only [List.getElem?_toArray, List.getElem?_cons_zero, List.getElem?_cons_succ]; rfl) (by kernel_rfl) (by kernel_rfl) (by kernel_rfl) (fun _ _ _ h => h)
          (yieldsIf_eqD (by rfl) _ _ rfl L R lL lR rfl rfl false HLE.out) hHeld ?_
        try simp only [Act.put, List.setIfInBounds_toArray, List.set_cons_zero, List.set_cons_succ]
        refine wpAnyH_take (i := 7) (v := ?_) (by simp only [List.getElem?_toArray, List.getElem?_cons_zero, List.getElem?_cons_succ]; rfl) (by kernel_rfl) (by kernel_rfl) (by kernel_rfl) (fun _ _ _ h => h) (Or.inl ⟨by rfl, ?_⟩) hHeld ?_
        rotate_left
        · intro w hSw
          obtain ⟨hSw0, hSw1, hSw2, hSw3⟩ := hSw
          go_simp
          try with_reducible rfl
        try simp only [Act.put, List.setIfInBounds_toArray, List.set_cons_zero, List.set_cons_succ]
        refine wpAnyH_take (i := 8) (v := ?_) (by simp only [List.getElem?_toArray, List.getElem?_cons_zero, List.getElem?_cons_succ]; rfl) (by kernel_rfl) (by kernel_rfl) (by kernel_rfl) (fun _ _ _ h => h) (Or.inl ⟨by rfl, ?_⟩) hHeld ?_
        rotate_left
        · intro w hSw
          obtain ⟨hSw0, hSw1, hSw2, hSw3⟩ := hSw
          go_simp
          try with_reducible rfl
        try simp only [Act.put, List.setIfInBounds_toArray, List.set_cons_zero, List.set_cons_succ]
        refine wpAnyH_take (i := 9) (v := .agg (cellsB L).toArray) (by simp only [List.getElem?_toArray, List.getElem?_cons_zero, List.getElem?_cons_succ]; rfl) (by kernel_rfl) (by kernel_rfl) (by kernel_rfl) (fun _ _ _ h => h)
          (yieldsIf_load_mid (by rfl) _ _ rfl _ _ rfl _ _ (fun w hw => hw.2.2.1) Tryd.underlying23 rfl (by rw [cellsB_length, lL]; exact Tryd.sizeDg)) hHeld ?_
        try simp only [Act.put, List.setIfInBounds_toArray, List.set_cons_zero, List.set_cons_succ]
        refine wpAnyH_take (i := 10) (v := .agg (cellsB R).toArray) (by simp only [List.getElem?_toArray, List.getElem?_cons_zero, List.getElem?_cons_succ]; rfl) (by kernel_rfl) (by kernel_rfl) (by kernel_rfl) (fun _ _ _ h => h)
          (yieldsIf_load_mid (by rfl) _ _ rfl _ _ rfl _ _ (fun w hw => hw.2.2.2) Tryd.underlying23 rfl (by rw [cellsB_length, lR]; exact Tryd.sizeDg)) hHeld ?_
        try simp only [Act.put, List.setIfInBounds_toArray, List.set_cons_zero, List.set_cons_succ]
        refine wpAnyH_take (i := 12) (v := .agg (cellsB R).toArray) (by simp only [List.getElem?_toArray, List.getElem?_cons_zero, List.getElem?_cons_succ]; rfl) (by kernel_rfl) (by kernel_rfl) (by kernel_rfl) (fun _ _ _ h => h)
          (yieldsIf_load_mid (by rfl) _ _ rfl _ _ rfl _ _ (fun w hw => hw.2.2.2) Tryd.underlying23 rfl (by rw [cellsB_length, lR]; exact Tryd.sizeDg)) hHeld ?_
        try simp only [Act.put, List.setIfInBounds_toArray, List.set_cons_zero, List.set_cons_succ]
        refine wpAnyH_take (i := 13) (v := .agg (cellsB L).toArray) (by simp only [List.getElem?_toArray, List.getElem?_cons_zero, List.getElem?_cons_succ]; rfl) (by kernel_rfl) (by kernel_rfl) (by kernel_rfl) (fun _ _ _ h => h)
          (yieldsIf_load_mid (by rfl) _ _ rfl _ _ rfl _ _ (fun w hw => hw.2.2.1) Tryd.underlying23 rfl (by rw [cellsB_length, lL]; exact Tryd.sizeDg)) hHeld ?_
        try simp only [Act.put, List.setIfInBounds_toArray, List.set_cons_zero, List.set_cons_succ]
        refine wpAnyH_ready (rs := [11]) (by kernel_rfl) (by simp) ?_
        refine AllReadyH.cons (by simp only [List.getElem?_toArray, List.getElem?_cons_zero, List.getElem?_cons_succ]; rfl) (fun K hK => ?_) AllReadyH.nil
        rw [if_pos (by rfl)]
        go_simp
        refine (HND.out L R wd lL lR).mono ?_
        rintro e we ⟨rfl, hbwe⟩
        rw [HP.out]
        have HBe : Hid (Below w30.heap.size w30 we) := HBd.out.trans (hbwe.mono HBd.out.size)
        clear hbwe
        go_wp2_with fail
        refine hK.out _ _ (HF.out _ HBe.out) (fun hHeld => ?_)
        clear hK K
        try simp only [Act.put, List.setIfInBounds_toArray, List.set_cons_zero, List.set_cons_succ]
        refine wpAnyH_ready (rs := [14]) (by kernel_rfl) (by simp) ?_
        refine AllReadyH.cons (by simp only [List.getElem?_toArray, List.getElem?_cons_zero, List.getElem?_cons_succ]; rfl) (fun K hK => ?_) AllReadyH.nil
        rw [if_pos (by rfl)]
        go_simp
        refine (HND.out R L we lR lL).mono ?_
        rintro e wf ⟨rfl, hbwf⟩
        rw [HQ.out]
        have HBf : Hid (Below w30.heap.size w30 wf) := HBe.out.trans (hbwf.mono HBe.out.size)
        clear hbwf
        go_wp2_with fail
        refine hK.out _ _ (HF.out _ HBf.out) (fun hHeld => ?_)
        clear hK K
        try simp only [Act.put, List.setIfInBounds_toArray, List.set_cons_zero, List.set_cons_succ]
        refine wpAnyH_take (i := 15) (v := .bool true) (by simp only [List.getElem?_toArray, List.getElem?_cons_zero, List.getElem?_cons_succ]; rfl) (by kernel_rfl) (by kernel_rfl) (by kernel_rfl) (fun _ _ _ h => h)
          (yieldsIf_eqD (by rfl) _ _ rfl P Q lP lQ rfl rfl true HEQ.out) hHeld ?_
        try simp only [Act.put, List.setIfInBounds_toArray, List.set_cons_zero, List.set_cons_succ]
        refine wpAnyH_take (i := 16) (v := ?_) (by simp only [List.getElem?_toArray, List.getElem?_cons_zero, List.getElem?_cons_succ]; rfl) (by kernel_rfl) (by kernel_rfl) (by kernel_rfl) (fun _ _ _ h => h) (Or.inl ⟨by rfl, ?_⟩) hHeld ?_
        rotate_left
        · intro w hSw
          obtain ⟨hSw0, hSw1, hSw2, hSw3⟩ := hSw
          go_simp
          try with_reducible rfl
        try simp only [Act.put, List.setIfInBounds_toArray, List.set_cons_zero, List.set_cons_succ]
        refine wpAnyH_take (i := 17) (v := ?_) (by simp only [List.getElem?_toArray, List.getElem?_cons_zero, List.getElem?_cons_succ]; rfl) (by kernel_rfl) (by kernel_rfl) (by kernel_rfl) (fun _ _ _ h => h) (Or.inl ⟨by rfl, ?_⟩) hHeld ?_
        rotate_left
        · intro w hSw
          obtain ⟨hSw0, hSw1, hSw2, hSw3⟩ := hSw
          go_simp
          try with_reducible rfl
        try simp only [Act.put, List.setIfInBounds_toArray, List.set_cons_zero, List.set_cons_succ]
        refine wpAnyH_done (by kernel_rfl) (NoPanic.normal ?_) _
        clear hHeld
        go_wp2_with fail
        go_ret
        exact ⟨rfl, HW.out _ HBf.out⟩
    · have HNE : Hid ((!decide (Q = P)) = true) := by unfold Hid; simp [hqp]
      clear hqp
      refine wp_region_noPanic ?_
      refine wp_region_held_drew (S := fun wx => wx.rangeAt g17 0 (cellsB Q) ∧ wx.rangeAt g9 0 (cellsB P) ∧ wx.rangeAt g19 0 (cellsB L) ∧ wx.rangeAt g20 0 (cellsB R)) (by kernel_rfl) (HF.out _ (below_drewN w30 1)) (fun hHeld => ?_)
      try simp only [Act.put, List.setIfInBounds_toArray, List.set_cons_zero, List.set_cons_succ]
      have HBd : Hid (Below w30.heap.size w30 w30.drew) := below_drewN w30 1
      generalize w30.drew = wd at *
      refine wpAnyH_take (i := 0) (v := .agg (cellsB Q).toArray) (by simp only [List.getElem?_toArray, List.getElem?_cons_zero, List.getElem?_cons_succ]; rfl) (by kernel_rfl) (by kernel_rfl) (by kernel_rfl) (fun _ _ _ h => h)
        (yieldsIf_load_mid (by rfl) _ _ rfl _ _ rfl _ _ (fun w hw => hw.1) Tryd.underlying23 rfl (by rw [cellsB_length, lQ]; exact Tryd.sizeDg)) hHeld ?_
      try simp only [Act.put, List.setIfInBounds_toArray, List.set_cons_zero, List.set_cons_succ]
      refine wpAnyH_take (i := 1) (v := .agg (cellsB P).toArray) (by simp only [List.getElem?_toArray, List.getElem?_cons_zero, List.getElem?_cons_succ]; rfl) (by kernel_rfl) (by kernel_rfl) (by kernel_rfl) (fun _ _ _ h => h)
        (yieldsIf_load_mid (by rfl) _ _ rfl _ _ rfl _ _ (fun w hw => hw.2.1) Tryd.underlying23 rfl (by rw [cellsB_length, lP]; exact Tryd.sizeDg)) hHeld ?_
      try simp only [Act.put, List.setIfInBounds_toArray, List.set_cons_zero, List.set_cons_succ]
      refine wpAnyH_take (i := 2) (v := .bool true) (by simp only [List.getElem?_toArray, List.getElem?_cons_zero, List.getElem?_cons_succ]; rfl) (by kernel_rfl) (by kernel_rfl) (by kernel_rfl) (fun _ _ _ h => h)
        (yieldsIf_neqD (by rfl) _ _ rfl Q P lQ lP rfl rfl true HNE.out) hHeld ?_
      try simp only [Act.put, List.setIfInBounds_toArray, List.set_cons_zero, List.set_cons_succ]
      refine wpAnyH_take (i := 3) (v := ?_) (by simp only [List.getElem?_toArray, List.getElem?_cons_zero, List.getElem?_cons_succ]; rfl) (by kernel_rfl) (by kernel_rfl) (by kernel_rfl) (fun _ _ _ h => h) (Or.inl ⟨by rfl, ?_⟩) hHeld ?_
      rotate_left
      · intro w hSw
        obtain ⟨hSw0, hSw1, hSw2, hSw3⟩ := hSw
        go_simp
        try with_reducible rfl
      try simp only [Act.put, List.setIfInBounds_toArray, List.set_cons_zero, List.set_cons_succ]
      refine wpAnyH_take (i := 4) (v := undef) (by simp only [List.getElem?_toArray, List.getElem?_cons_zero, List.getElem?_cons_succ]; rfl) (by kernel_rfl) (by kernel_rfl) (by kernel_rfl) (fun _ _ _ h => h) (Or.inr ⟨by rfl, rfl⟩) hHeld ?_
      try simp only [Act.put, List.setIfInBounds_toArray, List.set_cons_zero, List.set_cons_succ]
      refine wpAnyH_take (i := 5) (v := undef) (by simp only [List.getElem?_toArray, List.getElem?_cons_zero, List.getElem?_cons_succ]; rfl) (by kernel_rfl) (by kernel_rfl) (by kernel_rfl) (fun _ _ _ h => h) (Or.inr ⟨by rfl, rfl⟩) hHeld ?_
      try simp only [Act.put, List.setIfInBounds_toArray, List.set_cons_zero, List.set_cons_succ]
      refine wpAnyH_take (i := 6) (v := undef) (by simp only [List.getElem?_toArray, List.getElem?_cons_zero, List.getElem?_cons_succ]; rfl) (by kernel_rfl) (by kernel_rfl) (by kernel_rfl) (fun _ _ _ h => h) (Or.inr ⟨by rfl, rfl⟩) hHeld ?_
      try simp only [Act.put, List.setIfInBounds_toArray, List.set_cons_zero, List.set_cons_succ]
      refine wpAnyH_take (i := 7) (v := ?_) (by simp only [List.getElem?_toArray, List.getElem?_cons_zero, List.getElem?_cons_succ]; rfl) (by kernel_rfl) (by kernel_rfl) (by kernel_rfl) (fun _ _ _ h => h) (Or.inl ⟨by rfl, ?_⟩) hHeld ?_
      rotate_left
      · intro w hSw
        obtain ⟨hSw0, hSw1, hSw2, hSw3⟩ := hSw
        go_simp
        try with_reducible rfl
      try simp only [Act.put, List.setIfInBounds_toArray, List.set_cons_zero, List.set_cons_succ]
      refine wpAnyH_take (i := 8) (v := ?_) (by simp only [List.getElem?_toArray, List.getElem?_cons_zero, List.getElem?_cons_succ]; rfl) (by kernel_rfl) (by kernel_rfl) (by kernel_rfl) (fun _ _ _ h => h) (Or.inl ⟨by rfl, ?_⟩) hHeld ?_
      rotate_left
      · intro w hSw
        obtain ⟨hSw0, hSw1, hSw2, hSw3⟩ := hSw
        go_simp
        try with_reducible rfl
      try simp only [Act.put, List.setIfInBounds_toArray, List.set_cons_zero, List.set_cons_succ]
      refine wpAnyH_take (i := 9) (v := undef) (by simp only [List.getElem?_toArray, List.getElem?_cons_zero, List.getElem?_cons_succ]; rfl) (by kernel_rfl) (by kernel_rfl) (by kernel_rfl) (fun _ _ _ h => h) (Or.inr ⟨by rfl, rfl⟩) hHeld ?_
      try simp only [Act.put, List.setIfInBounds_toArray, List.set_cons_zero, List.set_cons_succ]
      refine wpAnyH_take (i := 10) (v := undef) (by simp only [List.getElem?_toArray, List.getElem?_cons_zero, List.getElem?_cons_succ]; rfl) (by kernel_rfl) (by kernel_rfl) (by kernel_rfl) (fun _ _ _ h => h) (Or.inr ⟨by rfl, rfl⟩) hHeld ?_
      try simp only [Act.put, List.setIfInBounds_toArray, List.set_cons_zero, List.set_cons_succ]
      refine wpAnyH_take (i := 11) (v := undef) (by simp only [List.getElem?_toArray, List.getElem?_cons_zero, List.getElem?_cons_succ]; rfl) (by kernel_rfl) (by kernel_rfl) (by kernel_rfl) (fun _ _ _ h => h) (Or.inr ⟨by rfl, rfl⟩) hHeld ?_
      try simp only [Act.put, List.setIfInBounds_toArray, List.set_cons_zero, List.set_cons_succ]
      refine wpAnyH_take (i := 12) (v := undef) (by simp only [List.getElem?_toArray, List.getElem?_cons_zero, List.getElem?_cons_succ]; rfl) (by kernel_rfl) (by kernel_rfl) (by kernel_rfl) (fun _ _ _ h => h) (Or.inr ⟨by rfl, rfl⟩) hHeld ?_
      try simp only [Act.put, List.setIfInBounds_toArray, List.set_cons_zero, List.set_cons_succ]
      refine wpAnyH_take (i := 13) (v := undef) (by simp only [List.getElem?_toArray, List.getElem?_cons_zero, List.getElem?_cons_succ]; rfl) (by kernel_rfl) (by kernel_rfl) (by kernel_rfl) (fun _ _ _ h => h) (Or.inr ⟨by rfl, rfl⟩) hHeld ?_
      try simp only [Act.put, List.setIfInBounds_toArray, List.set_cons_zero, List.set_cons_succ]
      refine wpAnyH_take (i := 14) (v := undef) (by simp only [List.getElem?_toArray, List.getElem?_cons_zero, List.getElem?_cons_succ]; rfl) (by kernel_rfl) (by kernel_rfl) (by kernel_rfl) (fun _ _ _ h => h) (Or.inr ⟨by rfl, rfl⟩) hHeld ?_
      try simp only [Act.put, List.setIfInBounds_toArray, List.set_cons_zero, List.set_cons_succ]
      refine wpAnyH_take (i := 15) (v := undef) (by simp only [List.getElem?_toArray, List.getElem?_cons_zero, List.getElem?_cons_succ]; rfl) (by kernel_rfl) (by kernel_rfl) (by kernel_rfl) (fun _ _ _ h => h) (Or.inr ⟨by rfl, rfl⟩) hHeld ?_
      try simp only [Act.put, List.setIfInBounds_toArray, List.set_cons_zero, List.set_cons_succ]
      refine wpAnyH_take (i := 16) (v := ?_) (by simp only [List.getElem?_toArray, List.getElem?_cons_zero, List.getElem?_cons_succ]; rfl) (by kernel_rfl) (by kernel_rfl) (by kernel_rfl) (fun _ _ _ h => h) (Or.inl ⟨by rfl, ?_⟩) hHeld ?_
      rotate_left
      · intro w hSw
        obtain ⟨hSw0, hSw1, hSw2, hSw3⟩ := hSw
        go_simp
        try with_reducible rfl
      try simp only [Act.put, List.setIfInBounds_toArray, List.set_cons_zero, List.set_cons_succ]
      refine wpAnyH_take (i := 17) (v := ?_) (by simp only [List.getElem?_toArray, List.getElem?_cons_zero, List.getElem?_cons_succ]; rfl) (by kernel_rfl) (by kernel_rfl) (by kernel_rfl) (fun _ _ _ h => h) (Or.inl ⟨by rfl, ?_⟩) hHeld ?_
      rotate_left
      · intro w hSw
        obtain ⟨hSw0, hSw1, hSw2, hSw3⟩ := hSw
        go_simp
        try with_reducible rfl
      try simp only [Act.put, List.setIfInBounds_toArray, List.set_cons_zero, List.set_cons_succ]
      refine wpAnyH_done (by kernel_rfl) (NoPanic.normal ?_) _
      clear hHeld
      go_wp2_with fail
      go_ret
      exact ⟨rfl, HW.out _ HBd.out⟩
end Go.Proofs.YtdgaimlccpmojaaDoor
