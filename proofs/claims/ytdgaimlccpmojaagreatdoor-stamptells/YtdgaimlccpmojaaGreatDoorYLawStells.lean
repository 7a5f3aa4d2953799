/- The law StampTells: the program's Public, New, Sign, Left and Recover are the document's. -/
import Derived.Test.YtdgaimlccpmojaaGreatDoorJ22
import Derived.Test.YtdgaimlccpmojaaGreatDoorJ06
import Derived.Test.YtdgaimlccpmojaaGreatDoorJ15
import Derived.Test.YtdgaimlccpmojaaGreatDoorJ23
import Derived.Test.YtdgaimlccpmojaaGreatDoorJ07
import Derived.Test.YtdgaimlccpmojaaGreatDoorYPairs
import Derived.Deep.DeepCutAuto
import Derived.Deep.RegionHeld3
import Derived.Test.YtdgaimlccpmojaaGreatDoorJ24
import Derived.Test.YtdgaimlccpmojaaGreatDoorJ25
import Derived.Test.YtdgaimlccpmojaaGreatDoorJ20
namespace Go.Proofs.YtdgaimlccpmojaaGreatDoor
open Go.RowKit
set_option linter.unusedVariables false
set_option linter.unusedSimpArgs false

set_option maxRecDepth 100000 in
set_option maxHeartbeats 2000000 in
theorem stells_many (seed : List UInt8) (h : Int) (a : Option Addr) (N c : Nat) (ms : List (List UInt8)) (m : List UInt8) (At : Int) (a1 : Option Addr) (n1 c1 : Nat) (sig : List (List UInt8)) (a2 : Option Addr) (n2 c2 : Nat) (path : List (List UInt8)) (w : World) (G : Env w) (HH : Handle w) (hs : seed.length = 32) (h1 : -9223372036854775808 ≤ h) (h2 : h ≤ 9223372036854775807) (R : DRow w a N ms) (hc : N ≤ c) (hN : 32 * N ≤ 140737488351232) (hm : m.length = 32) (t1 : -9223372036854775808 ≤ At) (t2 : At ≤ 9223372036854775807) (R1 : DRow w a1 n1 sig) (hc1 : n1 ≤ c1) (z1 : 32 * n1 ≤ 140737488351232) (R2 : DRow w a2 n2 path) (hc2 : n2 ≤ c2) (z2 : 32 * n2 ≤ 140737488351232) (hbig : 20 < N) :
    Calls Tryz.prog 3 #[digestV seed, .int .i64 h, .slice a N c, digestV m, sigV At a1 n1 c1 a2 n2 c2] w fun e w' => e = .returned (.bool true) ∧ Below w.heap.size w w' := by
  obtain ⟨w2, hw2⟩ : ∃ w2, ((w.alloc (.cells (cellsB seed).toArray 23)).alloc (.cells (cellsB m).toArray 23)).alloc (.cells #[.int .i64 At, .slice a1 n1 c1, .slice a2 n2 c2] 26) = w2 := ⟨_, rfl⟩
  have hs1 : (w.alloc (.cells (cellsB seed).toArray 23)).heap.size = w.heap.size + 1 := by simp
  have hs12 : ((w.alloc (.cells (cellsB seed).toArray 23)).alloc (.cells (cellsB m).toArray 23)).heap.size = w.heap.size + 1 + 1 := by simp
  have HS2 : Hid (w2.heap.size = w.heap.size + 1 + 1 + 1) := by unfold Hid; rw [← hw2]; simp
  have HB2 : Hid (Below w.heap.size w w2) := by rw [← hw2]; exact (((Below.refl _ _).alloc (Nat.le_refl _) _).alloc (by simp) _).alloc (by simp; omega) _
  have hx2 : w2.rangeAt w.heap.size 0 (cellsB seed) := by rw [← hw2]; exact World.rangeAt_alloc (World.rangeAt_alloc (box_dat w seed _) _) _
  have hm2 : w2.rangeAt (w.heap.size + 1) 0 (cellsB m) := by rw [← hw2]; exact World.rangeAt_alloc (box_rangeAt _ _ _ _ hs1) _
  have hg2 : w2.rangeAt (w.heap.size + 1 + 1) 0 [.int .i64 At, .slice a1 n1 c1, .slice a2 n2 c2] := by
    have f := cell_alloc3 ((w.alloc (.cells (cellsB seed).toArray 23)).alloc (.cells (cellsB m).toArray 23)) (.int .i64 At) (.slice a1 n1 c1) (.slice a2 n2 c2) 26 _ hs12
    rw [hw2] at f
    intro j v hj
    match j, hj with
    | 0, hj => cases hj; exact f.1
    | 1, hj => cases hj; exact f.2.1
    | 2, hj => cases hj; exact f.2.2
    | k + 3, hj => cases hj
  have HALL : Hid (∀ wx, Below w2.heap.size w2 wx → Env wx ∧ Handle wx ∧ DRow wx a N ms ∧ DRow wx a1 n1 sig ∧ DRow wx a2 n2 path ∧ wx.rangeAt w.heap.size 0 (cellsB seed) ∧ wx.rangeAt (w.heap.size + 1) 0 (cellsB m) ∧ wx.rangeAt (w.heap.size + 1 + 1) 0 [.int .i64 At, .slice a1 n1 c1, .slice a2 n2 c2] ∧ Below w.heap.size w wx) := fun wx hx => by
    have s := HS2.out
    have b : Below w.heap.size w wx := HB2.out.trans (hx.mono (by omega))
    exact ⟨G.below b, HH.below b, R.below b, R1.below b, R2.below b, range_below hx2 hx (by omega), range_below hm2 hx (by omega), range_below hg2 hx (by omega), b⟩
  have H0 : Hid (Below w2.heap.size w2 w2) := Below.refl _ _
  have HM32 : Hid (∀ j, j < N → (ms.getD j []).length = 32) := R.len
  clear G HH R R1 R2 hx2 hm2 hg2 hs1 hs12
  have g3 : (20 : Int) < (N : Int) := by omega
  unfold sigV
  go_enter Tryz.func3, Tryz.ntmps3
  go_wp2_with fail
  go_ret
  exact ⟨rfl, by first | exact HB2.out | (rw [hw2]; exact HB2.out)⟩
set_option maxRecDepth 100000 in
set_option maxHeartbeats 2000000 in
theorem stells_out (seed : List UInt8) (h : Int) (a : Option Addr) (N c : Nat) (ms : List (List UInt8)) (m : List UInt8) (At : Int) (a1 : Option Addr) (n1 c1 : Nat) (sig : List (List UInt8)) (a2 : Option Addr) (n2 c2 : Nat) (path : List (List UInt8)) (w : World) (G : Env w) (HH : Handle w) (hs : seed.length = 32) (h1 : -9223372036854775808 ≤ h) (h2 : h ≤ 9223372036854775807) (R : DRow w a N ms) (hc : N ≤ c) (hN : 32 * N ≤ 140737488351232) (hm : m.length = 32) (t1 : -9223372036854775808 ≤ At) (t2 : At ≤ 9223372036854775807) (R1 : DRow w a1 n1 sig) (hc1 : n1 ≤ c1) (z1 : 32 * n1 ≤ 140737488351232) (R2 : DRow w a2 n2 path) (hc2 : n2 ≤ c2) (z2 : 32 * n2 ≤ 140737488351232) (hbig : N ≤ 20) (hout : h < 0 ∨ 4 < h) :
    Calls Tryz.prog 3 #[digestV seed, .int .i64 h, .slice a N c, digestV m, sigV At a1 n1 c1 a2 n2 c2] w fun e w' => e = .returned (.bool true) ∧ Below w.heap.size w w' := by
  obtain ⟨w2, hw2⟩ : ∃ w2, ((w.alloc (.cells (cellsB seed).toArray 23)).alloc (.cells (cellsB m).toArray 23)).alloc (.cells #[.int .i64 At, .slice a1 n1 c1, .slice a2 n2 c2] 26) = w2 := ⟨_, rfl⟩
  have hs1 : (w.alloc (.cells (cellsB seed).toArray 23)).heap.size = w.heap.size + 1 := by simp
  have hs12 : ((w.alloc (.cells (cellsB seed).toArray 23)).alloc (.cells (cellsB m).toArray 23)).heap.size = w.heap.size + 1 + 1 := by simp
  have HS2 : Hid (w2.heap.size = w.heap.size + 1 + 1 + 1) := by unfold Hid; rw [← hw2]; simp
  have HB2 : Hid (Below w.heap.size w w2) := by rw [← hw2]; exact (((Below.refl _ _).alloc (Nat.le_refl _) _).alloc (by simp) _).alloc (by simp; omega) _
  have hx2 : w2.rangeAt w.heap.size 0 (cellsB seed) := by rw [← hw2]; exact World.rangeAt_alloc (World.rangeAt_alloc (box_dat w seed _) _) _
  have hm2 : w2.rangeAt (w.heap.size + 1) 0 (cellsB m) := by rw [← hw2]; exact World.rangeAt_alloc (box_rangeAt _ _ _ _ hs1) _
  have hg2 : w2.rangeAt (w.heap.size + 1 + 1) 0 [.int .i64 At, .slice a1 n1 c1, .slice a2 n2 c2] := by
    have f := cell_alloc3 ((w.alloc (.cells (cellsB seed).toArray 23)).alloc (.cells (cellsB m).toArray 23)) (.int .i64 At) (.slice a1 n1 c1) (.slice a2 n2 c2) 26 _ hs12
    rw [hw2] at f
    intro j v hj
    match j, hj with
    | 0, hj => cases hj; exact f.1
    | 1, hj => cases hj; exact f.2.1
    | 2, hj => cases hj; exact f.2.2
    | k + 3, hj => cases hj
  have HALL : Hid (∀ wx, Below w2.heap.size w2 wx → Env wx ∧ Handle wx ∧ DRow wx a N ms ∧ DRow wx a1 n1 sig ∧ DRow wx a2 n2 path ∧ wx.rangeAt w.heap.size 0 (cellsB seed) ∧ wx.rangeAt (w.heap.size + 1) 0 (cellsB m) ∧ wx.rangeAt (w.heap.size + 1 + 1) 0 [.int .i64 At, .slice a1 n1 c1, .slice a2 n2 c2] ∧ Below w.heap.size w wx) := fun wx hx => by
    have s := HS2.out
    have b : Below w.heap.size w wx := HB2.out.trans (hx.mono (by omega))
    exact ⟨G.below b, HH.below b, R.below b, R1.below b, R2.below b, range_below hx2 hx (by omega), range_below hm2 hx (by omega), range_below hg2 hx (by omega), b⟩
  have H0 : Hid (Below w2.heap.size w2 w2) := Below.refl _ _
  have HM32 : Hid (∀ j, j < N → (ms.getD j []).length = 32) := R.len
  clear G HH R R1 R2 hx2 hm2 hg2 hs1 hs12
  obtain ⟨g13, hg13⟩ : ∃ g13, w2.heap.size = g13 := ⟨_, rfl⟩
  obtain ⟨w3, hw3⟩ : ∃ w3, w2.alloc (.cells (cellsB zD).toArray 23) = w3 := ⟨_, rfl⟩
  have HB3 : Hid (Below w2.heap.size w2 w3) := by rw [← hw3]; exact (Below.refl _ _).alloc (Nat.le_refl _) _
  have HT3 : Hid (w3.there g13 0 32) := by rw [← hw3]; exact alloc_thereAt _ _ _ 32 _ hg13 zD_size.symm
  have HX3 : Hid (DAt w3 g13 0 zD) := by rw [← hw3, ← hg13]; exact box_dat w2 zD _
  have HS3 : Hid (w3.heap.size = g13 + 1) := by unfold Hid; rw [← hw3, ← hg13]; simp
  have g3 : ¬ (20 : Int) < (N : Int) := by omega
  have HOUT : Hid (h < 0 ∨ 4 < h) := hout
  have lZ : zD.length = 32 := rfl
  have HP : Hid (∀ wx, Env wx → Calls Tryz.prog 6 #[digestV seed, .int .i64 h] wx fun e w' => e = .returned (.tuple #[digestV zD, .iface 27 (.int .i64 2)]) ∧ Below wx.heap.size wx w') := fun wx hx => wstamp_pubout seed h wx hx hs hout h1 h2
  have HNW : Hid (∀ wx, Env wx → Calls Tryz.prog 8 #[digestV seed, .int .i64 h] wx fun e w' => e = .returned (.tuple #[.pointer none, .iface 27 (.int .i64 2)]) ∧ Below wx.heap.size wx w') := fun wx hx => wstamp_newout seed h wx hx hs hout h1 h2
  have HREC : Hid (∀ wx, Below w2.heap.size w2 wx → Calls Tryz.prog 18 #[digestV m, .int .i64 h, .agg #[.int .i64 At, .slice a1 n1 c1, .slice a2 n2 c2]] wx fun e w' => e = .returned (.tuple #[digestV zD, .iface 27 (.int .i64 2)]) ∧ Below wx.heap.size wx w') := fun wx hx => wstamp_recout m h At a1 n1 c1 a2 n2 c2 sig path wx (HALL.out wx hx).1 hm hout h1 h2 t1 t2 (HALL.out wx hx).2.2.2.1 hc1 z1 (HALL.out wx hx).2.2.2.2.1 hc2 z2
  have HZA : Hid (∀ (wx : World) (gx : Nat), wx.heap.size = gx → DAt (wx.alloc (.cells (cellsB zD).toArray 23)) gx 0 zD) := fun wx gx e => by subst e; exact box_dat wx zD _
  clear hout
  unfold sigV
  go_enter Tryz.func3, Tryz.ntmps3
  go_upto_region 6 with (refine wpList_allocE (by rfl) 23 (by rfl) (cellsB zD).toArray Tryz.zeroDg g13 hg13 w3 hw3 ?_)
  clear hw3 hg13
  try simp only [Act.put, List.setIfInBounds_toArray, List.set_cons_zero, List.set_cons_succ]
  go_cut [35] (fun bv wq => bv = .bool true ∧ Hid (wq = w3))
  case first =>
    by_cases hneg : h < 0
    · go_wp2_with fail
      go_meet
      case rel => exact ⟨rfl, rfl⟩
    have hbig4 : 4 < h := by have := HOUT.out; omega
    go_wp2_with fail
    go_meet
    case rel => exact ⟨rfl, rfl⟩
  case rest =>
  obtain ⟨rfl, hwc⟩ := hcut
  have hwc' : w3 = wc := hwc.out.symm
  subst hwc'
  have HY3 : Hid (w3.rangeAt w.heap.size 0 (cellsB seed)) := (HALL.out w3 HB3.out).2.2.2.2.2.1
  go_wp2_with (refine wpList_load_mid (by rfl) 23 (.tmp 5) (by rfl) w.heap.size 0 (by rfl) (cellsB seed) _ HY3.out Tryz.underlying23 (by rfl) (by rw [cellsB_length, hs]; exact Tryz.sizeDg) ?_)
  refine (HP.out w3 (HALL.out w3 HB3.out).1).mono ?_
  rintro e w4 ⟨rfl, hb4⟩
  have HB4 : Hid (Below w2.heap.size w2 w4) := HB3.out.trans (hb4.mono HB3.out.size)
  have HX4 : Hid (DAt w4 g13 0 zD) := HX3.out.below hb4 (cell_block (HX3.out.cell 0 (by omega)))
  have HZA5 : Hid (∀ gx, w4.heap.size = gx → True) := fun _ _ => True.intro
  clear hb4 HP HX3 HT3 HY3 HZA5
  obtain ⟨g14, hg14⟩ : ∃ g14, w4.heap.size = g14 := ⟨_, rfl⟩
  obtain ⟨w5, hw5⟩ : ∃ w5, w4.alloc (.cells (cellsB zD).toArray 23) = w5 := ⟨_, rfl⟩
  have HT5 : Hid (w5.there g14 0 32) := by rw [← hw5]; exact alloc_thereAt _ _ _ 32 _ hg14 zD_size.symm
  obtain ⟨Z, hZ⟩ : ∃ Z, zD = Z := ⟨_, rfl⟩
  have HZ : Hid (zD = Z) := hZ
  have lZ' : Z.length = 32 := by rw [← hZ]; rfl
  have HN13 : Hid (g13 < g14) := by have := cell_block (HX4.out.cell 0 (by omega)); unfold Hid; omega
  have HB6 : Hid (Below w2.heap.size w2 (w5.setCells g14 0 (cellsB Z))) := below_setCells _ (by rw [← hg14]; exact HB4.out.size) _ _ _ (by rw [← hw5]; exact HB4.out.alloc HB4.out.size _)
  have HX6 : Hid (DAt (w5.setCells g14 0 (cellsB Z)) g14 0 Z) := dat_stored HT5.out lZ'
  have HY6 : Hid (DAt (w5.setCells g14 0 (cellsB Z)) g13 0 Z) := World.rangeAt_setCells_apart (by rw [← hw5, ← hZ]; exact World.rangeAt_alloc HX4.out _) _ _ _ (.inl (by have := HN13.out; omega))
  rw [hZ]
  go_wp2_with (first
    | (refine wpList_allocE (by rfl) 23 (by rfl) (cellsB zD).toArray Tryz.zeroDg g14 hg14 w5 hw5 ?_)
    | (refine wpList_store_mid (by rfl) 23 (.tmp 14) (.tmp 45) (by rfl) g14 0 (cellsB Z).toArray (by rfl) (by rfl) (by rw [cellsB_size, lZ']; exact HT5.out) (by rw [cellsB_size, lZ']; exact Tryz.sizeDg) (all_oneCell_toArray (cellsB_one _)) ?_))
  generalize w5.setCells g14 0 (cellsB Z) = w6 at *
  clear hw5 HT5 hg14 HX4 hZ
  refine (error_errno 2 2 w6 (HALL.out w6 HB6.out).2.1).mono ?_
  rintro r w7 ⟨rfl, hb7⟩
  rw [show decide ((2 : Int) = 2) = true from rfl]
  have HB7 : Hid (Below w2.heap.size w2 w7) := HB6.out.trans (hb7.mono HB6.out.size)
  have HX7 : Hid (w7.rangeAt g14 0 (cellsB Z)) := HX6.out.below hb7 (cell_block (HX6.out.cell 0 (by omega)))
  have HY7 : Hid (w7.rangeAt g13 0 (cellsB Z)) := HY6.out.below hb7 (cell_block (HY6.out.cell 0 (by omega)))
  have HW7 : Hid (w7.rangeAt w.heap.size 0 (cellsB seed)) := (HALL.out w7 HB7.out).2.2.2.2.2.1
  clear hb7 HX6 HY6
  go_wp2_with (first
    | (refine wpList_load_midG (by rfl) 23 (.tmp 14) (by rfl) g14 0 (by rfl) (cellsB Z) _ HX7.out Tryz.underlying23 (by rfl) (by rw [cellsB_length, lZ']; exact Tryz.sizeDg) ?_)
    | (refine wpList_load_midG (by rfl) 23 (.tmp 13) (by rfl) g13 0 (by rfl) (cellsB Z) _ HY7.out Tryz.underlying23 (by rfl) (by rw [cellsB_length, lZ']; exact Tryz.sizeDg) ?_)
    | (refine wpList_neqD (.tmp 53) (.tmp 54) (by rfl) (by rfl) Z Z lZ' lZ' (by rfl) (by rfl) false (by simp) ?_)
    | (refine wpList_load_mid (by rfl) 23 (.tmp 5) (by rfl) w.heap.size 0 (by rfl) (cellsB seed) _ HW7.out Tryz.underlying23 (by rfl) (by rw [cellsB_length, hs]; exact Tryz.sizeDg) ?_))
  refine (HNW.out w7 (HALL.out w7 HB7.out).1).mono ?_
  rintro e w8 ⟨rfl, hb8⟩
  have HB8 : Hid (Below w2.heap.size w2 w8) := HB7.out.trans (hb8.mono HB7.out.size)
  clear hb8 HNW HX7 HY7 HW7
  go_wp2_with fail
  refine (error_errno 2 2 w8 (HALL.out w8 HB8.out).2.1).mono ?_
  rintro r w9 ⟨rfl, hb9⟩
  rw [show decide ((2 : Int) = 2) = true from rfl]
  have HB9 : Hid (Below w2.heap.size w2 w9) := HB8.out.trans (hb9.mono HB8.out.size)
  clear hb9
  go_wp2_with fail
  go_loopw [18] (fun iv wr => iv = .int .i64 0 ∧ Hid (wr = w9)) (fun _ _ => 0)
  case atStart => exact ⟨rfl, rfl⟩
  case round =>
    obtain ⟨rfl, hwr⟩ := hrel
    have hwr' : w9 = wr := hwr.out.symm
    subst hwr'
    clear g3
    go_upto_region 19 with fail
    go_cut [83] (fun bv wq => bv = .bool false ∧ Hid (wq = w9))
    case first =>
      by_cases hn0 : (0 : Int) < (N : Int)
      · go_wp2_with fail
        go_meet
        case rel => exact ⟨rfl, rfl⟩
      go_wp2_with fail
      go_meet
      case rel => exact ⟨rfl, rfl⟩
    case rest =>
    obtain ⟨rfl, hwc⟩ := hcut
    have hwc' : w9 = wc := hwc.out.symm
    subst hwc'
    obtain ⟨g25, hg25⟩ : ∃ g25, w9.heap.size = g25 := ⟨_, rfl⟩
    obtain ⟨w10, hw10⟩ : ∃ w10, w9.alloc (.cells (cellsB zD).toArray 23) = w10 := ⟨_, rfl⟩
    have HB10 : Hid (Below w2.heap.size w2 w10) := by rw [← hw10]; exact HB9.out.alloc HB9.out.size _
    have HX10 : Hid (w10.rangeAt g25 0 (cellsB Z)) := by rw [← hw10, ← HZ.out]; exact HZA.out w9 g25 hg25
    have HREC' : Hid (∀ wx, Below w2.heap.size w2 wx → Calls Tryz.prog 18 #[digestV m, .int .i64 h, .agg #[.int .i64 At, .slice a1 n1 c1, .slice a2 n2 c2]] wx fun e w' => e = .returned (.tuple #[digestV Z, .iface 27 (.int .i64 2)]) ∧ Below wx.heap.size wx w') := by rw [← HZ.out]; exact HREC.out
    clear HREC
    have HREC := HREC'
    clear HREC'
    go_upto_region 35 with (refine wpList_allocE (by rfl) 23 (by rfl) (cellsB zD).toArray Tryz.zeroDg g25 hg25 w10 hw10 ?_)
    clear hw10 hg25
    try simp only [Act.put, List.setIfInBounds_toArray, List.set_cons_zero, List.set_cons_succ]
    go_upto_region 37 with fail
    go_upto_region 39 with fail
    refine wp_region_noPanic ?_
    refine wp_region_held_drew (S := fun _ => True) (by kernel_rfl) True.intro (fun hHeld => ?_)
    try simp only [Act.put, List.setIfInBounds_toArray, List.set_cons_zero, List.set_cons_succ]
    have HBd : Hid (Below w2.heap.size w2 w10.drew) := HB10.out.trans ((below_drewN w10 1).mono HB10.out.size)
    have HXd : Hid (w10.drew.rangeAt g25 0 (cellsB Z)) := (World.rangeAt_drew _ _ _ _).2 HX10.out
    generalize w10.drew = wd at *
    refine wpAnyH_take (i := 0) (v := ?_) (by simp only [List.getElem?_toArray, List.getElem?_cons_zero, List.getElem?_cons_succ]; rfl) (by kernel_rfl) (by kernel_rfl) (by kernel_rfl) (fun _ _ _ h => h) (Or.inl ⟨by rfl, ?_⟩) hHeld ?_
    rotate_left
    · intro w hSw
      go_simp
      try with_reducible rfl
    try simp only [Act.put, List.setIfInBounds_toArray, List.set_cons_zero, List.set_cons_succ]
    refine wpAnyH_take (i := 1) (v := ?_) (by simp only [List.getElem?_toArray, List.getElem?_cons_zero, List.getElem?_cons_succ]; rfl) (by kernel_rfl) (by kernel_rfl) (by kernel_rfl) (fun _ _ _ h => h) (Or.inl ⟨by rfl, ?_⟩) hHeld ?_
    rotate_left
    · intro w hSw
      go_simp
      try with_reducible rfl
    try simp only [Act.put, List.setIfInBounds_toArray, List.set_cons_zero, List.set_cons_succ]
    refine wpAnyH_take (i := 2) (v := ?_) (by simp only [List.getElem?_toArray, List.getElem?_cons_zero, List.getElem?_cons_succ]; rfl) (by kernel_rfl) (by kernel_rfl) (by kernel_rfl) (fun _ _ _ h => h) (Or.inl ⟨by rfl, ?_⟩) hHeld ?_
    rotate_left
    · intro w hSw
      go_simp
      try with_reducible rfl
    try simp only [Act.put, List.setIfInBounds_toArray, List.set_cons_zero, List.set_cons_succ]
    refine wpAnyH_take (i := 3) (v := undef) (by simp only [List.getElem?_toArray, List.getElem?_cons_zero, List.getElem?_cons_succ]; rfl) (by kernel_rfl) (by kernel_rfl) (by kernel_rfl) (fun _ _ _ h => h) (Or.inr ⟨by rfl, rfl⟩) hHeld ?_
    try simp only [Act.put, List.setIfInBounds_toArray, List.set_cons_zero, List.set_cons_succ]
    refine wpAnyH_take (i := 4) (v := undef) (by simp only [List.getElem?_toArray, List.getElem?_cons_zero, List.getElem?_cons_succ]; rfl) (by kernel_rfl) (by kernel_rfl) (by kernel_rfl) (fun _ _ _ h => h) (Or.inr ⟨by rfl, rfl⟩) hHeld ?_
    try simp only [Act.put, List.setIfInBounds_toArray, List.set_cons_zero, List.set_cons_succ]
    refine wpAnyH_take (i := 5) (v := undef) (by simp only [List.getElem?_toArray, List.getElem?_cons_zero, List.getElem?_cons_succ]; rfl) (by kernel_rfl) (by kernel_rfl) (by kernel_rfl) (fun _ _ _ h => h) (Or.inr ⟨by rfl, rfl⟩) hHeld ?_
    try simp only [Act.put, List.setIfInBounds_toArray, List.set_cons_zero, List.set_cons_succ]
    refine wpAnyH_take (i := 6) (v := undef) (by simp only [List.getElem?_toArray, List.getElem?_cons_zero, List.getElem?_cons_succ]; rfl) (by kernel_rfl) (by kernel_rfl) (by kernel_rfl) (fun _ _ _ h => h) (Or.inr ⟨by rfl, rfl⟩) hHeld ?_
    try simp only [Act.put, List.setIfInBounds_toArray, List.set_cons_zero, List.set_cons_succ]
    refine wpAnyH_take (i := 7) (v := undef) (by simp only [List.getElem?_toArray, List.getElem?_cons_zero, List.getElem?_cons_succ]; rfl) (by kernel_rfl) (by kernel_rfl) (by kernel_rfl) (fun _ _ _ h => h) (Or.inr ⟨by rfl, rfl⟩) hHeld ?_
    try simp only [Act.put, List.setIfInBounds_toArray, List.set_cons_zero, List.set_cons_succ]
    refine wpAnyH_take (i := 8) (v := undef) (by simp only [List.getElem?_toArray, List.getElem?_cons_zero, List.getElem?_cons_succ]; rfl) (by kernel_rfl) (by kernel_rfl) (by kernel_rfl) (fun _ _ _ h => h) (Or.inr ⟨by rfl, rfl⟩) hHeld ?_
    try simp only [Act.put, List.setIfInBounds_toArray, List.set_cons_zero, List.set_cons_succ]
    refine wpAnyH_take (i := 9) (v := undef) (by simp only [List.getElem?_toArray, List.getElem?_cons_zero, List.getElem?_cons_succ]; rfl) (by kernel_rfl) (by kernel_rfl) (by kernel_rfl) (fun _ _ _ h => h) (Or.inr ⟨by rfl, rfl⟩) hHeld ?_
    try simp only [Act.put, List.setIfInBounds_toArray, List.set_cons_zero, List.set_cons_succ]
    refine wpAnyH_take (i := 10) (v := undef) (by simp only [List.getElem?_toArray, List.getElem?_cons_zero, List.getElem?_cons_succ]; rfl) (by kernel_rfl) (by kernel_rfl) (by kernel_rfl) (fun _ _ _ h => h) (Or.inr ⟨by rfl, rfl⟩) hHeld ?_
    try simp only [Act.put, List.setIfInBounds_toArray, List.set_cons_zero, List.set_cons_succ]
    refine wpAnyH_take (i := 11) (v := ?_) (by simp only [List.getElem?_toArray, List.getElem?_cons_zero, List.getElem?_cons_succ]; rfl) (by kernel_rfl) (by kernel_rfl) (by kernel_rfl) (fun _ _ _ h => h) (Or.inl ⟨by rfl, ?_⟩) hHeld ?_
    rotate_left
    · intro w hSw
      go_simp
      try with_reducible rfl
    try simp only [Act.put, List.setIfInBounds_toArray, List.set_cons_zero, List.set_cons_succ]
    refine wpAnyH_done (by kernel_rfl) (NoPanic.normal ?_) _
    clear hHeld
    have HMt : Hid (wd.rangeAt (w.heap.size + 1) 0 (cellsB m)) := (HALL.out wd HBd.out).2.2.2.2.2.2.1
    have HSt : Hid (wd.rangeAt (w.heap.size + 1 + 1) 0 [.int .i64 At, .slice a1 n1 c1, .slice a2 n2 c2]) := (HALL.out wd HBd.out).2.2.2.2.2.2.2.1
    go_wp2_with (first
      | (refine wpList_load_mid (by rfl) 23 (.tmp 8) (by rfl) (w.heap.size + 1) 0 (by rfl) (cellsB m) _ HMt.out Tryz.underlying23 (by rfl) (by rw [cellsB_length, hm]; exact Tryz.sizeDg) ?_)
      | (refine wpList_load_mid (by rfl) 26 (.tmp 9) (by rfl) (w.heap.size + 1 + 1) 0 (by rfl) [.int .i64 At, .slice a1 n1 c1, .slice a2 n2 c2] _ HSt.out Tryz.underlying26 (by rfl) Tryz.sizeSg ?_))
    refine (HREC.out wd HBd.out).mono ?_
    rintro e wt1 ⟨rfl, hbt1⟩
    have HBt1 : Hid (Below w2.heap.size w2 wt1) := HBd.out.trans (hbt1.mono HBd.out.size)
    have HXt1 : Hid (wt1.rangeAt g25 0 (cellsB Z)) := range_below HXd.out hbt1 (by have h := cell_block (DAt.cell HXd.out 0 (by omega)); omega)
    have HNt : Hid (g25 < wt1.heap.size) := cell_block (DAt.cell HXt1.out 0 (by omega))
    clear hbt1 HMt HSt HREC
    obtain ⟨g26, hg26⟩ : ∃ g26, wt1.heap.size = g26 := ⟨_, rfl⟩
    obtain ⟨wt2, hwt2⟩ : ∃ wt2, wt1.alloc (.cells (cellsB zD).toArray 23) = wt2 := ⟨_, rfl⟩
    have HTt : Hid (wt2.there g26 0 32) := by rw [← hwt2]; exact alloc_thereAt _ _ _ 32 _ hg26 zD_size.symm
    have HBt3 : Hid (Below w2.heap.size w2 (wt2.setCells g26 0 (cellsB Z))) := below_setCells _ (by rw [← hg26]; exact HBt1.out.size) _ _ _ (by rw [← hwt2]; exact HBt1.out.alloc HBt1.out.size _)
    have HXt3 : Hid (DAt (wt2.setCells g26 0 (cellsB Z)) g26 0 Z) := dat_stored HTt.out lZ'
    have HYt3 : Hid (DAt (wt2.setCells g26 0 (cellsB Z)) g25 0 Z) := World.rangeAt_setCells_apart (by rw [← hwt2]; exact World.rangeAt_alloc HXt1.out _) _ _ _ (.inl (by have := HNt.out; omega))
    go_wp2_with (first
      | (refine wpList_allocE (by rfl) 23 (by rfl) (cellsB zD).toArray Tryz.zeroDg g26 hg26 wt2 hwt2 ?_)
      | (refine wpList_store_mid (by rfl) 23 (.tmp 26) (.tmp 186) (by rfl) g26 0 (cellsB Z).toArray (by rfl) (by rfl) (by rw [cellsB_size, lZ']; exact HTt.out) (by rw [cellsB_size, lZ']; exact Tryz.sizeDg) (all_oneCell_toArray (cellsB_one _)) ?_))
    generalize wt2.setCells g26 0 (cellsB Z) = wt4 at *
    clear hwt2 HTt hg26 HXt1 HBt1
    have HBt4 : Hid (Below w2.heap.size w2 wt4) := HBt3.out
    refine (error_errno 2 2 wt4 (HALL.out wt4 HBt4.out).2.1).mono ?_
    rintro r wt5 ⟨rfl, hbt5⟩
    rw [show decide ((2 : Int) = 2) = true from rfl]
    have HBt5 : Hid (Below w2.heap.size w2 wt5) := HBt4.out.trans (hbt5.mono HBt4.out.size)
    have HXt5 : Hid (wt5.rangeAt g26 0 (cellsB Z)) := HXt3.out.below hbt5 (cell_block (HXt3.out.cell 0 (by omega)))
    have HYt5 : Hid (wt5.rangeAt g25 0 (cellsB Z)) := HYt3.out.below hbt5 (cell_block (HYt3.out.cell 0 (by omega)))
    clear hbt5 HXt3 HYt3 HBt3 HBt4
    go_wp2_with (first
      | (refine wpList_load_midG (by rfl) 23 (.tmp 26) (by rfl) g26 0 (by rfl) (cellsB Z) _ HXt5.out Tryz.underlying23 (by rfl) (by rw [cellsB_length, lZ']; exact Tryz.sizeDg) ?_)
      | (refine wpList_load_midG (by rfl) 23 (.tmp 25) (by rfl) g25 0 (by rfl) (cellsB Z) _ HYt5.out Tryz.underlying23 (by rfl) (by rw [cellsB_length, lZ']; exact Tryz.sizeDg) ?_)
      | (refine wpList_eqD (.tmp 193) (.tmp 194) (by rfl) (by rfl) Z Z lZ' lZ' (by rfl) (by rfl) true (decide_eq_true rfl) ?_))
    go_ret
    exact ⟨rfl, (HALL.out _ HBt5.out).2.2.2.2.2.2.2.2⟩
theorem drow_zero (w : World) (a : Option Addr) : DRow w a 0 [] := ⟨rfl, (fun l hl => by cases hl), .inl rfl⟩
theorem own_grs {w w' : World} {B n c g : Nat} {a : Option Addr} {ls : List (List UInt8)} (h : OwnD w B (.slice a n c) ls) (hg : w.grownBy w' (some g)) (hB : g < B) : OwnD w' B (.slice a n c) ls := by
  refine ⟨h.1, World.ownsRow.kept h.2 hg ?_⟩
  by_cases hv : (Value.slice a n c).ownBlock = none
  · exact .inl hv
  · refine .inr fun e => ?_
    have := (World.ownsRow.lt h.2 g e).1
    omega
theorem own_drow {w : World} {B n c : Nat} {a : Option Addr} {ls : List (List UInt8)} (h : OwnD w B (.slice a n c) ls) : DRow w a n ls := by
  obtain ⟨a', c', hv, R, hc⟩ := h.form
  cases hv
  exact R
set_option maxRecDepth 100000 in
set_option maxHeartbeats 2000000 in
theorem stells_in (seed : List UInt8) (hh : Nat) (a : Option Addr) (N c : Nat) (ms : List (List UInt8)) (m : List UInt8) (At : Int) (a1 : Option Addr) (n1 c1 : Nat) (sig : List (List UInt8)) (a2 : Option Addr) (n2 c2 : Nat) (path : List (List UInt8)) (w : World) (G : Env w) (HH : Handle w) (hs : seed.length = 32) (R : DRow w a N ms) (hc : N ≤ c) (hN : 32 * N ≤ 140737488351232) (hm : m.length = 32) (t1 : -9223372036854775808 ≤ At) (t2 : At ≤ 9223372036854775807) (R1 : DRow w a1 n1 sig) (hc1 : n1 ≤ c1) (z1 : 32 * n1 ≤ 140737488351232) (R2 : DRow w a2 n2 path) (hc2 : n2 ≤ c2) (z2 : 32 * n2 ≤ 140737488351232) (hbig : N ≤ 20) (hh4 : hh ≤ 4) :
    Calls Tryz.prog 3 #[digestV seed, .int .i64 (hh : Int), .slice a N c, digestV m, sigV At a1 n1 c1 a2 n2 c2] w fun e w' => e = .returned (.bool true) ∧ Below w.heap.size w w' := by
  obtain ⟨w2, hw2⟩ : ∃ w2, ((w.alloc (.cells (cellsB seed).toArray 23)).alloc (.cells (cellsB m).toArray 23)).alloc (.cells #[.int .i64 At, .slice a1 n1 c1, .slice a2 n2 c2] 26) = w2 := ⟨_, rfl⟩
  have hs1 : (w.alloc (.cells (cellsB seed).toArray 23)).heap.size = w.heap.size + 1 := by simp
  have hs12 : ((w.alloc (.cells (cellsB seed).toArray 23)).alloc (.cells (cellsB m).toArray 23)).heap.size = w.heap.size + 1 + 1 := by simp
  have HS2 : Hid (w2.heap.size = w.heap.size + 1 + 1 + 1) := by unfold Hid; rw [← hw2]; simp
  have HB2 : Hid (Below w.heap.size w w2) := by rw [← hw2]; exact (((Below.refl _ _).alloc (Nat.le_refl _) _).alloc (by simp) _).alloc (by simp; omega) _
  have hx2 : w2.rangeAt w.heap.size 0 (cellsB seed) := by rw [← hw2]; exact World.rangeAt_alloc (World.rangeAt_alloc (box_dat w seed _) _) _
  have hm2 : w2.rangeAt (w.heap.size + 1) 0 (cellsB m) := by rw [← hw2]; exact World.rangeAt_alloc (box_rangeAt _ _ _ _ hs1) _
  have hg2 : w2.rangeAt (w.heap.size + 1 + 1) 0 [.int .i64 At, .slice a1 n1 c1, .slice a2 n2 c2] := by
    have f := cell_alloc3 ((w.alloc (.cells (cellsB seed).toArray 23)).alloc (.cells (cellsB m).toArray 23)) (.int .i64 At) (.slice a1 n1 c1) (.slice a2 n2 c2) 26 _ hs12
    rw [hw2] at f
    intro j v hj
    match j, hj with
    | 0, hj => cases hj; exact f.1
    | 1, hj => cases hj; exact f.2.1
    | 2, hj => cases hj; exact f.2.2
    | k + 3, hj => cases hj
  have HALL : Hid (∀ wx, Below w2.heap.size w2 wx → Env wx ∧ Handle wx ∧ DRow wx a N ms ∧ DRow wx a1 n1 sig ∧ DRow wx a2 n2 path ∧ wx.rangeAt w.heap.size 0 (cellsB seed) ∧ wx.rangeAt (w.heap.size + 1) 0 (cellsB m) ∧ wx.rangeAt (w.heap.size + 1 + 1) 0 [.int .i64 At, .slice a1 n1 c1, .slice a2 n2 c2] ∧ Below w.heap.size w wx) := fun wx hx => by
    have s := HS2.out
    have b : Below w.heap.size w wx := HB2.out.trans (hx.mono (by omega))
    exact ⟨G.below b, HH.below b, R.below b, R1.below b, R2.below b, range_below hx2 hx (by omega), range_below hm2 hx (by omega), range_below hg2 hx (by omega), b⟩
  have H0 : Hid (Below w2.heap.size w2 w2) := Below.refl _ _
  have HM32 : Hid (∀ j, j < N → (ms.getD j []).length = 32) := R.len
  clear G HH R R1 R2 hx2 hm2 hg2 hs1 hs12
  obtain ⟨g13, hg13⟩ : ∃ g13, w2.heap.size = g13 := ⟨_, rfl⟩
  obtain ⟨w3, hw3⟩ : ∃ w3, w2.alloc (.cells (cellsB zD).toArray 23) = w3 := ⟨_, rfl⟩
  have HB3 : Hid (Below w2.heap.size w2 w3) := by rw [← hw3]; exact (Below.refl _ _).alloc (Nat.le_refl _) _
  have HT3 : Hid (w3.there g13 0 32) := by rw [← hw3]; exact alloc_thereAt _ _ _ 32 _ hg13 zD_size.symm
  have HX3 : Hid (DAt w3 g13 0 zD) := by rw [← hw3, ← hg13]; exact box_dat w2 zD _
  have HS3 : Hid (w3.heap.size = g13 + 1) := by unfold Hid; rw [← hw3, ← hg13]; simp
  have g3 : ¬ (20 : Int) < (N : Int) := by omega
  have hp0 : 1 ≤ 2 ^ hh := Nat.pow_pos (by omega)
  have hp16 : 2 ^ hh ≤ 16 := Nat.pow_le_pow_right (n := 2) (by omega) hh4
  have HRE : Hid (∀ k : Int, recE n1 At (2 ^ hh) n2 = k → k ≠ 0 → ∀ wx, Below w2.heap.size w2 wx → Calls Tryz.prog 18 #[digestV m, .int .i64 (hh : Int), .agg #[.int .i64 At, .slice a1 n1 c1, .slice a2 n2 c2]] wx fun e w' => e = .returned (.tuple #[digestV zD, .iface 27 (.int .i64 k)]) ∧ Below wx.heap.size wx w') := fun k hk hk0 wx hx => wstamp_recerr m hh At a1 n1 c1 a2 n2 c2 sig path wx (HALL.out wx hx).1 hm hh4 t1 t2 (HALL.out wx hx).2.2.2.1 hc1 z1 (HALL.out wx hx).2.2.2.2.1 hc2 z2 k hk hk0
  have HRO : Hid (∀ i : Nat, At = (i : Int) → i < 2 ^ hh → n1 = 67 → n2 = longT i (2 ^ hh) → ∀ wx, Below w2.heap.size w2 wx → Calls Tryz.prog 18 #[digestV m, .int .i64 (hh : Int), .agg #[.int .i64 At, .slice a1 n1 c1, .slice a2 n2 c2]] wx fun e w' => e = .returned (.tuple #[digestV (foldT (wotsKeyL m sig) i (2 ^ hh) path), .nilIface]) ∧ Below wx.heap.size wx w') := fun i e1 hi e2 e3 wx hx => by
    subst e1 e2
    exact wstamp_recover m hh i (2 ^ hh) a1 c1 a2 n2 c2 sig path wx (HALL.out wx hx).1 hm hh4 rfl hi (HALL.out wx hx).2.2.2.1 hc1 (HALL.out wx hx).2.2.2.2.1 hc2 e3
  have HP : Hid (∀ wx, Env wx → Calls Tryz.prog 6 #[digestV seed, .int .i64 (hh : Int)] wx fun e w' => e = .returned (.tuple #[digestV (rootT (stampLeavesL seed (2 ^ hh))), .nilIface]) ∧ Below wx.heap.size wx w') := fun wx hx => wstamp_public seed hh wx hx hs hh4
  have HLV : Hid (∀ wx, Calls Tryz.prog 4 #[digestV seed, .int .i64 (hh : Int)] wx fun e w' => (∃ a c, e = .returned (.slice a (2 ^ hh) c) ∧ 2 ^ hh ≤ c ∧ OwnD w' wx.heap.size (.slice a (2 ^ hh) c) (stampLeavesL seed (2 ^ hh))) ∧ Below wx.heap.size wx w') := fun wx => by
    refine (rstampLeaves_own seed hh wx hs hh4).mono ?_
    rintro e w' ⟨⟨v, rfl, hv⟩, hb⟩
    obtain ⟨a, c, hv2, R, hc⟩ := hv.form
    rw [stampLeavesL_len] at hv2 hc
    subst hv2
    exact ⟨⟨a, c, rfl, hc, hv⟩, hb⟩
  have HSI : Hid (∀ (g i : Nat) (M : List UInt8) (wx : World), i < 2 ^ hh → M.length = 32 → Env wx → Stm wx g seed hh i → Calls Tryz.prog 13 #[.pointer (some ⟨g, 0, none⟩), digestV M] wx fun e w' => (∃ a1 c1 a2 c2, e = .returned (.tuple #[.agg #[.int .i64 (i : Int), .slice a1 67 c1, .slice a2 (longT i (2 ^ hh)) c2], .nilIface]) ∧ 67 ≤ c1 ∧ longT i (2 ^ hh) ≤ c2 ∧ DRow w' a1 67 (wotsSigL (stampKeyL seed i) M 67) ∧ DRow w' a2 (longT i (2 ^ hh)) (pathT (stampLeavesL seed (2 ^ hh)) i) ∧ Stm w' g seed hh (i + 1)) ∧ wx.grownBy w' (some g)) := fun g i M wx hi hM he hst => wstamp_sign g seed M hh i wx he hst hM hi
  have HSP : Hid (∀ (g : Nat) (M : List UInt8) (wx : World), M.length = 32 → Env wx → Stm wx g seed hh (2 ^ hh) → Calls Tryz.prog 13 #[.pointer (some ⟨g, 0, none⟩), digestV M] wx fun e w' => (∃ a1 c1 a2 c2, e = .returned (.tuple #[.agg #[.int .i64 0, .slice a1 0 c1, .slice a2 0 c2], .iface 27 (.int .i64 6)]) ∧ Stm w' g seed hh (2 ^ hh)) ∧ wx.grownBy w' (some g)) := fun g M wx hM he hst => wstamp_spent g seed M hh wx he hst hM
  have HLF : Hid (∀ (g i : Nat) (wx : World), Env wx → Stm wx g seed hh i → Calls Tryz.prog 12 #[.pointer (some ⟨g, 0, none⟩)] wx fun e w' => e = .returned (.int .i64 ((2 ^ hh - i : Nat) : Int)) ∧ Below wx.heap.size wx w') := fun g i wx he hst => wstamp_left g seed hh i wx he hst
  have HPT : Hid (∀ i, i < 2 ^ hh → (pathT (stampLeavesL seed (2 ^ hh)) i).length = longT i (2 ^ hh)) := fun i hi => stamp_path seed i _ hi
  have HZA : Hid (∀ (wx : World) (gx : Nat), wx.heap.size = gx → DAt (wx.alloc (.cells (cellsB zD).toArray 23)) gx 0 zD) := fun wx gx e => by subst e; exact box_dat wx zD _
  have lW : (rootT (stampLeavesL seed (2 ^ hh))).length = 32 := rootT_length (stampLeavesL_32 seed _)
  generalize 2 ^ hh = n at *
  generalize stampLeavesL seed n = LS at *
  generalize hD : rootT LS = D at *
  have HRL : Hid (rootT LS = D) := hD
  have g1 : ¬ (hh : Int) < 0 := by omega
  have g2 : ¬ (4 : Int) < (hh : Int) := by omega
  clear hD
  unfold sigV
  go_enter Tryz.func3, Tryz.ntmps3
  go_upto_region 6 with (refine wpList_allocE (by rfl) 23 (by rfl) (cellsB zD).toArray Tryz.zeroDg g13 hg13 w3 hw3 ?_)
  clear hw3
  try simp only [Act.put, List.setIfInBounds_toArray, List.set_cons_zero, List.set_cons_succ]
  have HY3 : Hid (w3.rangeAt w.heap.size 0 (cellsB seed)) := (HALL.out w3 HB3.out).2.2.2.2.2.1
  go_wp2_with (refine wpList_load_mid (by rfl) 23 (.tmp 5) (by rfl) w.heap.size 0 (by rfl) (cellsB seed) _ HY3.out Tryz.underlying23 (by rfl) (by rw [cellsB_length, hs]; exact Tryz.sizeDg) ?_)
  refine (HLV.out w3).mono ?_
  rintro e w4 ⟨⟨a0, c0, rfl, hc0, r0⟩, hb4⟩
  have HB4 : Hid (Below w2.heap.size w2 w4) := HB3.out.trans (hb4.mono HB3.out.size)
  have HT4 : Hid (w4.there g13 0 32 ∧ g13 < w4.heap.size) := ⟨there_below HT3.out hb4 (by have := HS3.out; omega), by have := HS3.out; have := hb4.size; omega⟩
  have HL4 : Hid (OwnD w4 w3.heap.size (.slice a0 n c0) LS ∧ DRow w4 a0 n LS) := ⟨r0, own_drow r0⟩
  clear hb4 r0 HX3 HT3 HY3
  go_wp2_with fail
  refine (rroot_any n a0 c0 LS w4 HL4.out.2 hc0 (by omega)).mono ?_
  rintro e w5 ⟨rfl, hb5⟩
  rw [HRL.out]
  have HB5 : Hid (Below w2.heap.size w2 w5) := HB4.out.trans (hb5.mono HB4.out.size)
  have HT5 : Hid (w5.there g13 0 32) := there_below HT4.out.1 hb5 HT4.out.2
  have HB6 : Hid (Below w2.heap.size w2 (w5.setCells g13 0 (cellsB D))) := below_setCells _ (by rw [← hg13]; exact Nat.le_refl _) _ _ _ HB5.out
  have HX6 : Hid (DAt (w5.setCells g13 0 (cellsB D)) g13 0 D) := dat_stored HT5.out lW
  have HL6 : Hid (DRow (w5.setCells g13 0 (cellsB D)) a0 n LS) := own_drow ((HL4.out.1.below hb5).setCells g13 0 _ (by have := HS3.out; omega))
  clear hb5 HL4 HT4 HS3
  have HY6 : Hid ((w5.setCells g13 0 (cellsB D)).rangeAt w.heap.size 0 (cellsB seed)) := (HALL.out _ HB6.out).2.2.2.2.2.1
  go_wp2_with (first
    | (refine wpList_store_mid (by rfl) 23 (.tmp 13) (.tmp 40) (by rfl) g13 0 (cellsB D).toArray (by rfl) (by rfl) (by rw [cellsB_size, lW]; exact HT5.out) (by rw [cellsB_size, lW]; exact Tryz.sizeDg) (all_oneCell_toArray (cellsB_one _)) ?_)
    | (refine wpList_load_mid (by rfl) 23 (.tmp 5) (by rfl) w.heap.size 0 (by rfl) (cellsB seed) _ HY6.out Tryz.underlying23 (by rfl) (by rw [cellsB_length, hs]; exact Tryz.sizeDg) ?_))
  clear HT5
  generalize w5.setCells g13 0 (cellsB D) = w6 at *
  refine (HP.out w6 (HALL.out w6 HB6.out).1).mono ?_
  rintro e w7 ⟨rfl, hb7⟩
  have HB7 : Hid (Below w2.heap.size w2 w7) := HB6.out.trans (hb7.mono HB6.out.size)
  have HX7 : Hid (DAt w7 g13 0 D) := HX6.out.below hb7 (cell_block (HX6.out.cell 0 (by omega)))
  have HL7 : Hid (DRow w7 a0 n LS) := HL6.out.below hb7
  clear hb7 HX6 HL6 HY6 HP
  obtain ⟨g14, hg14⟩ : ∃ g14, w7.heap.size = g14 := ⟨_, rfl⟩
  obtain ⟨w8, hw8⟩ : ∃ w8, w7.alloc (.cells (cellsB zD).toArray 23) = w8 := ⟨_, rfl⟩
  have HT8 : Hid (w8.there g14 0 32) := by rw [← hw8]; exact alloc_thereAt _ _ _ 32 _ hg14 zD_size.symm
  have HN13 : Hid (g13 < g14) := by have := cell_block (HX7.out.cell 0 (by omega)); unfold Hid; omega
  have HB89 : Hid (Below w7.heap.size w7 (w8.setCells g14 0 (cellsB D))) := below_setCells _ (by rw [hg14]; exact Nat.le_refl _) _ _ _ (by rw [← hw8]; exact (Below.refl _ _).alloc (Nat.le_refl _) _)
  have HB9 : Hid (Below w2.heap.size w2 (w8.setCells g14 0 (cellsB D))) := HB7.out.trans (HB89.out.mono HB7.out.size)
  have HX9 : Hid (DAt (w8.setCells g14 0 (cellsB D)) g14 0 D) := dat_stored HT8.out lW
  have HY9 : Hid (DAt (w8.setCells g14 0 (cellsB D)) g13 0 D) := HX7.out.below HB89.out (by have := HN13.out; omega)
  have HL9 : Hid (DRow (w8.setCells g14 0 (cellsB D)) a0 n LS) := HL7.out.below HB89.out
  go_wp2_with (first
    | (refine wpList_allocE (by rfl) 23 (by rfl) (cellsB zD).toArray Tryz.zeroDg g14 hg14 w8 hw8 ?_)
    | (refine wpList_store_mid (by rfl) 23 (.tmp 14) (.tmp 45) (by rfl) g14 0 (cellsB D).toArray (by rfl) (by rfl) (by rw [cellsB_size, lW]; exact HT8.out) (by rw [cellsB_size, lW]; exact Tryz.sizeDg) (all_oneCell_toArray (cellsB_one _)) ?_))
  generalize w8.setCells g14 0 (cellsB D) = w9 at *
  clear hw8 HT8 hg14 HX7 HL7 HB89 HB7 HB6 HB5 HB4 HB3
  refine (error_nil 0 w9).mono ?_
  rintro r w10 ⟨rfl, hb10⟩
  rw [show decide ((0 : Int) = 0) = true from rfl]
  have HB10 : Hid (Below w2.heap.size w2 w10) := HB9.out.trans (hb10.mono HB9.out.size)
  have HX10 : Hid (w10.rangeAt g14 0 (cellsB D)) := HX9.out.below hb10 (cell_block (HX9.out.cell 0 (by omega)))
  have HY10 : Hid (w10.rangeAt g13 0 (cellsB D)) := HY9.out.below hb10 (cell_block (HY9.out.cell 0 (by omega)))
  have HW10 : Hid (w10.rangeAt w.heap.size 0 (cellsB seed)) := (HALL.out w10 HB10.out).2.2.2.2.2.1
  have HL10 : Hid (DRow w10 a0 n LS) := HL9.out.below hb10
  clear hb10 HX9 HY9 HL9 HB9
  go_wp2_with (first
    | (refine wpList_load_midG (by rfl) 23 (.tmp 14) (by rfl) g14 0 (by rfl) (cellsB D) _ HX10.out Tryz.underlying23 (by rfl) (by rw [cellsB_length, lW]; exact Tryz.sizeDg) ?_)
    | (refine wpList_load_midG (by rfl) 23 (.tmp 13) (by rfl) g13 0 (by rfl) (cellsB D) _ HY10.out Tryz.underlying23 (by rfl) (by rw [cellsB_length, lW]; exact Tryz.sizeDg) ?_)
    | (refine wpList_neqD (.tmp 53) (.tmp 54) (by rfl) (by rfl) D D lW lW (by rfl) (by rfl) false (by simp) ?_)
    | (refine wpList_load_mid (by rfl) 23 (.tmp 5) (by rfl) w.heap.size 0 (by rfl) (cellsB seed) _ HW10.out Tryz.underlying23 (by rfl) (by rw [cellsB_length, hs]; exact Tryz.sizeDg) ?_))
  refine (wstamp_new seed hh w10 (HALL.out w10 HB10.out).1 hs hh4).mono ?_
  rintro e w11 ⟨⟨g, rfl, hg, hst⟩, hb11⟩
  have HWS : Hid (∀ wx, Below w10.heap.size w10 wx → DRow wx a0 n LS ∧ Below w2.heap.size w2 wx) := fun wx hx => ⟨HL10.out.below hx, HB10.out.trans (hx.mono HB10.out.size)⟩
  have HGG : Hid (w10.heap.size ≤ g) := hg
  have HSZ10 : Hid (w2.heap.size ≤ w10.heap.size) := HB10.out.size
  have HST11 : Hid (Stm w11 g seed hh 0) := hst
  have HB11 : Hid (Below w10.heap.size w10 w11) := hb11
  clear hst hb11 hg HX10 HY10 HW10 HL10 HB10 HN13 hg13
  go_wp2_with fail
  refine (error_nil 0 w11).mono ?_
  rintro r w12 ⟨rfl, hb12⟩
  rw [show decide ((0 : Int) = 0) = true from rfl]
  have HB12 : Hid (Below w10.heap.size w10 w12) := HB11.out.trans (hb12.mono HB11.out.size)
  have HST12 : Hid (Stm w12 g seed hh 0) := HST11.out.below hb12
  clear hb12 HST11 HB11
  go_wp2_with fail
  clear g1 g2 g3
  go_loopw [18] (fun iv wq => ∃ i : Nat, i ≤ N ∧ iv = .int .i64 (i : Int) ∧ Stm wq g seed hh (min i n) ∧ Below w10.heap.size w10 wq) (fun iv _ => N - (intOf iv).toNat)
  case atStart => exact ⟨0, Nat.zero_le _, rfl, by rw [Nat.zero_min]; exact HST12.out, HB12.out⟩
  case round =>
    clear HST12 HB12
    obtain ⟨i, hi, rfl, hst, hb⟩ := hrel
    have HST : Hid (Stm wr g seed hh (min i n)) := hst
    have HB : Hid (Below w10.heap.size w10 wr) := hb
    have HGR : Hid (g < wr.heap.size) := hst.block
    have HBw : Hid (Below w2.heap.size w2 wr) := (HWS.out _ hb).2
    clear hst hb
    have H10 : Hid (∀ wx, Below wr.heap.size wr wx → Below w10.heap.size w10 wx) := fun wx hx => HB.out.trans (hx.mono HB.out.size)
    have HGRN : Hid (∀ wx wy, Below w10.heap.size w10 wx → wx.grownBy wy (some g) → Below w10.heap.size w10 wy) := fun wx wy hx hg => below_grs hx hg hx.size HGG.out
    by_cases hlt : i < N
    · obtain ⟨b, o', ha⟩ := (HALL.out _ HBw.out).2.2.1.addr (by omega)
      subst ha
      have HMI : Hid (∀ wx, Below w10.heap.size w10 wx → wx.rangeAt b (o' + i * 32) (cellsB (ms.getD i []))) := fun wx hx => (HALL.out _ (HWS.out _ hx).2).2.2.1.at i hlt
      have lM := HM32.out i hlt
      have i1 : (i : Int) < (N : Int) := by omega
      have i0 : (0 : Int) ≤ (i : Int) := by omega
      generalize ms.getD i [] = MI at *
      obtain ⟨g20, hg20⟩ : ∃ g20, wr.heap.size = g20 := ⟨_, rfl⟩
      obtain ⟨w9b, hw9b⟩ : ∃ w9b, wr.alloc (.cells #[.int .i64 0, .slice none 0 0, .slice none 0 0] 26) = w9b := ⟨_, rfl⟩
      have hb9b : Below wr.heap.size wr w9b := by rw [← hw9b]; exact (Below.refl _ _).alloc (Nat.le_refl _) _
      have HZ20 : Hid (w9b.rangeAt g20 0 [.int .i64 0, .slice none 0 0, .slice none 0 0]) := by
        have f := cell_alloc3 wr (.int .i64 0) (.slice none 0 0) (.slice none 0 0) 26 _ hg20
        rw [hw9b] at f
        intro j v hj
        match j, hj with
        | 0, hj => cases hj; exact f.1
        | 1, hj => cases hj; exact f.2.1
        | 2, hj => cases hj; exact f.2.2
        | k + 3, hj => cases hj
      by_cases hin : i < n
      · have hmin : min i n = i := by omega
        have HST0 : Hid (Stm wr g seed hh i) := by have := HST.out; rw [hmin] at this; exact this
        have g5 : ¬ (n : Int) ≤ (i : Int) := by omega
        clear HST
        have HB9 : Hid (Below wr.heap.size wr w9b) := hb9b
        have HT9 : Hid (w9b.there g20 0 3) := by rw [← hw9b]; exact alloc_thereAt _ _ _ 3 _ hg20 rfl
        have HG20 : Hid (g20 < w9b.heap.size) := cell_block (HZ20.out 0 _ rfl)
        have HGE : Hid (wr.heap.size ≤ g20) := by rw [hg20]; exact Nat.le_refl _
        have HGW : Hid (w.heap.size < g20) := by have := HBw.out.size; have := HGE.out; have := HS2.out; unfold Hid; omega
        have HGB : Hid (b ≠ g20) := by
          have := cell_block (DAt.cell (show DAt wr b (o' + i * 32) MI from HMI.out _ HB.out) 0 (by omega))
          have := HGE.out
          unfold Hid
          omega
        have HS9 : Hid (∀ wx, Below w9b.heap.size w9b wx → wx.rangeAt w.heap.size 0 (cellsB seed) ∧ wx.rangeAt b (o' + i * 32) (cellsB MI)) := fun wx hx => by
          have h10 := H10.out wx (HB9.out.trans (hx.mono HB9.out.size))
          exact ⟨(HALL.out _ (HWS.out _ h10).2).2.2.2.2.2.1, HMI.out _ h10⟩
        have HLE : Hid (∀ wx, Below w9b.heap.size w9b wx → DRow wx a0 n LS) := fun wx hx => (HWS.out _ (H10.out wx (HB9.out.trans (hx.mono HB9.out.size)))).1
        have lK : (stampKeyL seed i).length = 32 := stampKeyL_length seed i
        have HSIi := HSI.out g i MI
        have HPLi : Hid ((pathT LS i).length = longT i n) := HPT.out i hin
        have hLb : longT i n ≤ 8 := longT_256 i n (by omega)
        generalize hKEY : stampKeyL seed i = KEY at *
        have HKEY : Hid (stampKeyL seed i = KEY) := hKEY
        generalize hWQ : wotsSigL KEY MI 67 = WSIG at *
        have HWQ : Hid (wotsSigL KEY MI 67 = WSIG) := hWQ
        have HWL : Hid ((wotsSigL KEY MI 67).length = 67) := wotsSigL_len _ _ _
        generalize hPP : pathT LS i = PATH at *
        have HPP : Hid (pathT LS i = PATH) := hPP
        generalize longT i n = L at *
        have HPL : Hid ((pathT LS i).length = L) := by rw [hPP]; exact HPLi.out
        have HSIh : Hid (∀ (wx : World), Env wx → Stm wx g seed hh i → Calls Tryz.prog 13 #[.pointer (some ⟨g, 0, none⟩), digestV MI] wx fun e w' => (∃ a1 c1 a2 c2, e = .returned (.tuple #[.agg #[.int .i64 (i : Int), .slice a1 67 c1, .slice a2 L c2], .nilIface]) ∧ 67 ≤ c1 ∧ L ≤ c2 ∧ DRow w' a1 67 WSIG ∧ DRow w' a2 L PATH ∧ Stm w' g seed hh (i + 1)) ∧ wx.grownBy w' (some g)) := fun wx he hst => HSIi wx hin lM he hst
        clear HSIi hKEY hWQ hPP HPLi
        go_upto_region 23 with (refine wpList_allocE (by rfl) 26 (by rfl) #[.int .i64 0, .slice none 0 0, .slice none 0 0] Tryz.zeroSg g20 hg20 w9b hw9b ?_)
        clear hw9b hb9b hg20 HZ20
        try simp only [Act.put, List.setIfInBounds_toArray, List.set_cons_zero, List.set_cons_succ]
        go_upto_region 25 with fail
        refine wp_region_noPanic ?_
        refine wp_region_held_drew (S := fun wx => wx.rangeAt w.heap.size 0 (cellsB seed) ∧ wx.rangeAt b (o' + i * 32) (cellsB MI)) (by kernel_rfl) (HS9.out _ (below_drewN w9b 1)) (fun hHeld => ?_)
        try simp only [Act.put, List.setIfInBounds_toArray, List.set_cons_zero, List.set_cons_succ]
        have HBd : Hid (Below w9b.heap.size w9b w9b.drew) := below_drewN w9b 1
        generalize w9b.drew = wd at *
        refine wpAnyH_take (i := 0) (v := ?_) (by simp only [List.getElem?_toArray, List.getElem?_cons_zero, List.getElem?_cons_succ]; rfl) (by kernel_rfl) (by kernel_rfl) (by kernel_rfl) (fun _ _ _ h => h) (Or.inl ⟨by rfl, ?_⟩) hHeld ?_
        rotate_left
        · intro w hSw
          obtain ⟨hSw0, hSw1⟩ := hSw
          go_simp
          try with_reducible rfl
        try simp only [Act.put, List.setIfInBounds_toArray, List.set_cons_zero, List.set_cons_succ]
        refine wpAnyH_take (i := 1) (v := .agg (cellsB seed).toArray) (by simp only [List.getElem?_toArray, List.getElem?_cons_zero, List.getElem?_cons_succ]; rfl) (by kernel_rfl) (by kernel_rfl) (by kernel_rfl) (fun _ _ _ h => h)
          (yieldsIf_load_mid (by rfl) _ _ rfl _ _ rfl _ _ (fun w hw => hw.1) Tryz.underlying23 rfl (by rw [cellsB_length, hs]; exact Tryz.sizeDg)) hHeld ?_
        try simp only [Act.put, List.setIfInBounds_toArray, List.set_cons_zero, List.set_cons_succ]
        refine wpAnyH_take (i := 2) (v := ?_) (by simp only [List.getElem?_toArray, List.getElem?_cons_zero, List.getElem?_cons_succ]; rfl) (by kernel_rfl) (by kernel_rfl) (by kernel_rfl) (fun _ _ _ h => h) (Or.inl ⟨by rfl, ?_⟩) hHeld ?_
        rotate_left
        · intro w hSw
          obtain ⟨hSw0, hSw1⟩ := hSw
          go_simp
          try with_reducible rfl
        try simp only [Act.put, List.setIfInBounds_toArray, List.set_cons_zero, List.set_cons_succ]
        refine wpAnyH_take (i := 4) (v := ?_) (by simp only [List.getElem?_toArray, List.getElem?_cons_zero, List.getElem?_cons_succ]; rfl) (by kernel_rfl) (by kernel_rfl) (by kernel_rfl) (fun _ _ _ h => h) (Or.inl ⟨by rfl, ?_⟩) hHeld ?_
        rotate_left
        · intro w hSw
          obtain ⟨hSw0, hSw1⟩ := hSw
          go_simp
          try with_reducible rfl
        try simp only [Act.put, List.setIfInBounds_toArray, List.set_cons_zero, List.set_cons_succ]
        refine wpAnyH_take (i := 5) (v := ?_) (by simp only [List.getElem?_toArray, List.getElem?_cons_zero, List.getElem?_cons_succ]; rfl) (by kernel_rfl) (by kernel_rfl) (by kernel_rfl) (fun _ _ _ h => h) (Or.inl ⟨by rfl, ?_⟩) hHeld ?_
        rotate_left
        · intro w hSw
          obtain ⟨hSw0, hSw1⟩ := hSw
          go_simp
          try with_reducible rfl
        try simp only [Act.put, List.setIfInBounds_toArray, List.set_cons_zero, List.set_cons_succ]
        refine wpAnyH_take (i := 6) (v := .pointer (some ⟨b, o' + i * 32, none⟩)) (by simp only [List.getElem?_toArray, List.getElem?_cons_zero, List.getElem?_cons_succ]; rfl) (by kernel_rfl) (by kernel_rfl) (by kernel_rfl) (fun _ _ _ h => h) (Or.inl ⟨by rfl, ?_⟩) hHeld ?_
        · intro w hSw
          obtain ⟨hSw0, hSw1⟩ := hSw
          go_simp
        try simp only [Act.put, List.setIfInBounds_toArray, List.set_cons_zero, List.set_cons_succ]
        refine wpAnyH_take (i := 7) (v := .agg (cellsB MI).toArray) (by simp only [List.getElem?_toArray, List.getElem?_cons_zero, List.getElem?_cons_succ]; rfl) (by kernel_rfl) (by kernel_rfl) (by kernel_rfl) (fun _ _ _ h => h)
          (yieldsIf_load_mid (by rfl) _ _ rfl _ _ rfl _ _ (fun w hw => hw.2) Tryz.underlying23 rfl (by rw [cellsB_length, lM]; exact Tryz.sizeDg)) hHeld ?_
        try simp only [Act.put, List.setIfInBounds_toArray, List.set_cons_zero, List.set_cons_succ]
        refine wpAnyH_take (i := 9) (v := ?_) (by simp only [List.getElem?_toArray, List.getElem?_cons_zero, List.getElem?_cons_succ]; rfl) (by kernel_rfl) (by kernel_rfl) (by kernel_rfl) (fun _ _ _ h => h) (Or.inl ⟨by rfl, ?_⟩) hHeld ?_
        rotate_left
        · intro w hSw
          obtain ⟨hSw0, hSw1⟩ := hSw
          go_simp
          try with_reducible rfl
        try simp only [Act.put, List.setIfInBounds_toArray, List.set_cons_zero, List.set_cons_succ]
        refine wpAnyH_take (i := 10) (v := ?_) (by simp only [List.getElem?_toArray, List.getElem?_cons_zero, List.getElem?_cons_succ]; rfl) (by kernel_rfl) (by kernel_rfl) (by kernel_rfl) (fun _ _ _ h => h) (Or.inl ⟨by rfl, ?_⟩) hHeld ?_
        rotate_left
        · intro w hSw
          obtain ⟨hSw0, hSw1⟩ := hSw
          go_simp
          try with_reducible rfl
        try simp only [Act.put, List.setIfInBounds_toArray, List.set_cons_zero, List.set_cons_succ]
        refine wpAnyH_ready (rs := [3]) (by kernel_rfl) (by simp) ?_
        refine AllReadyH.cons (by simp only [List.getElem?_toArray, List.getElem?_cons_zero, List.getElem?_cons_succ]; rfl) (fun K hK => ?_) AllReadyH.nil
        rw [if_pos (by rfl)]
        go_simp
        refine (rstampKey_any seed i wd hs (by omega)).mono ?_
        rintro e w10b ⟨rfl, hb10⟩
        have HB10 : Hid (Below w9b.heap.size w9b w10b) := HBd.out.trans (hb10.mono HBd.out.size)
        have HKE : Hid (stampKeyL seed i = KEY) := HKEY.out
        rw [HKEY.out]
        clear hb10 HBd
        go_wp2_with fail
        refine hK.out _ _ (HS9.out _ HB10.out) (fun hHeld => ?_)
        clear hK K
        try simp only [Act.put, List.setIfInBounds_toArray, List.set_cons_zero, List.set_cons_succ]
        refine wpAnyH_ready (rs := [8]) (by kernel_rfl) (by simp) ?_
        refine AllReadyH.cons (by simp only [List.getElem?_toArray, List.getElem?_cons_zero, List.getElem?_cons_succ]; rfl) (fun K hK => ?_) AllReadyH.nil
        rw [if_pos (by rfl)]
        go_simp
        refine (rwotsSigned_own KEY MI w10b lK lM).mono ?_
        rintro e w11b ⟨⟨v3, rfl, ho3⟩, hb11⟩
        obtain ⟨a3, c3, hv3, r3, hc3⟩ := ho3.form
        rw [HWL.out] at hv3 r3 hc3
        subst hv3
        have HO3 : Hid (OwnD w11b w10b.heap.size (.slice a3 67 c3) WSIG) := by rw [← HWQ.out]; exact ho3
        have HB11 : Hid (Below w9b.heap.size w9b w11b) := HB10.out.trans (hb11.mono HB10.out.size)
        have HN10 : Hid (w9b.heap.size ≤ w10b.heap.size ∧ w10b.heap.size ≤ w11b.heap.size) := ⟨HB10.out.size, hb11.size⟩
        have HN10' : Hid (w9b.heap.size ≤ w10b.heap.size ∧ w10b.heap.size ≤ w11b.heap.size) := HN10.out
        clear hb11 ho3 r3
        go_wp2_with fail
        refine hK.out _ _ (HS9.out _ HB11.out) (fun hHeld => ?_)
        clear hK K
        try simp only [Act.put, List.setIfInBounds_toArray, List.set_cons_zero, List.set_cons_succ]
        refine wpAnyH_ready (rs := [11]) (by kernel_rfl) (by simp) ?_
        refine AllReadyH.cons (by simp only [List.getElem?_toArray, List.getElem?_cons_zero, List.getElem?_cons_succ]; rfl) (fun K hK => ?_) AllReadyH.nil
        rw [if_pos (by rfl)]
        go_simp
        refine (rpath_any n a0 c0 i LS w11b (HLE.out _ HB11.out) hc0 hp0 (by omega) hin).mono ?_
        rintro e w12b ⟨⟨v4, rfl, ho4⟩, hb12⟩
        obtain ⟨a4, c4, hv4, r4, hc4⟩ := ho4.form
        rw [HPL.out] at hv4 r4 hc4
        subst hv4
        have HO4 : Hid (OwnD w12b w11b.heap.size (.slice a4 L c4) PATH) := by rw [← HPP.out]; exact ho4
        have HO3' : Hid (OwnD w12b w10b.heap.size (.slice a3 67 c3) WSIG) := OwnD.below HO3.out hb12
        have HB12 : Hid (Below w9b.heap.size w9b w12b) := HB11.out.trans (hb12.mono HB11.out.size)
        clear hb12 ho4 r4 HO3
        go_wp2_with fail
        refine hK.out _ _ (HS9.out _ HB12.out) (fun hHeld => ?_)
        clear hK K
        try simp only [Act.put, List.setIfInBounds_toArray, List.set_cons_zero, List.set_cons_succ]
        refine wpAnyH_take (i := 12) (v := .agg #[.int .i64 (i : Int), .slice a3 67 c3, .slice a4 L c4]) (by simp only [List.getElem?_toArray, List.getElem?_cons_zero, List.getElem?_cons_succ]; rfl) (by kernel_rfl) (by kernel_rfl) (by kernel_rfl) (fun _ _ _ h => h) (Or.inl ⟨by rfl, ?_⟩) hHeld ?_
        · intro w hSw
          obtain ⟨hSw0, hSw1⟩ := hSw
          go_simp
        try simp only [Act.put, List.setIfInBounds_toArray, List.set_cons_zero, List.set_cons_succ]
        refine wpAnyH_ready (rs := [13]) (by kernel_rfl) (by simp) ?_
        refine AllReadyH.cons (by simp only [List.getElem?_toArray, List.getElem?_cons_zero, List.getElem?_cons_succ]; rfl) (fun K hK => ?_) AllReadyH.nil
        rw [if_pos (by rfl)]
        have HT12 : Hid (w12b.there g20 0 3) := there_below HT9.out HB12.out HG20.out
        refine wp_store_mid _ _ _ rfl g20 0 #[.int .i64 (i : Int), .slice a3 67 c3, .slice a4 L c4] rfl rfl HT12.out Tryz.sizeSg (sig_one _ _ _ _ _ _ _) ?_
        have HS13 : Hid ((w12b.setCells g20 0 [.int .i64 (i : Int), .slice a3 67 c3, .slice a4 L c4]).rangeAt w.heap.size 0 (cellsB seed) ∧ (w12b.setCells g20 0 [.int .i64 (i : Int), .slice a3 67 c3, .slice a4 L c4]).rangeAt b (o' + i * 32) (cellsB MI)) := ⟨World.rangeAt_setCells_apart (HS9.out _ HB12.out).1 _ _ _ (.inl (by have := HG20.out; have := HGW.out; omega)), World.rangeAt_setCells_apart (HS9.out _ HB12.out).2 _ _ _ (.inl (by have := HGB.out; omega))⟩
        have HR13 : Hid ((w12b.setCells g20 0 [.int .i64 (i : Int), .slice a3 67 c3, .slice a4 L c4]).rangeAt g20 0 [.int .i64 (i : Int), .slice a3 67 c3, .slice a4 L c4]) := World.rangeAt_setCells_same _ _ _ _ HT12.out
        have HO3s : Hid (OwnD (w12b.setCells g20 0 [.int .i64 (i : Int), .slice a3 67 c3, .slice a4 L c4]) w10b.heap.size (.slice a3 67 c3) WSIG) := HO3'.out.setCells g20 0 _ (by have := HN10.out; have := HG20.out; omega)
        have HO4s : Hid (OwnD (w12b.setCells g20 0 [.int .i64 (i : Int), .slice a3 67 c3, .slice a4 L c4]) w11b.heap.size (.slice a4 L c4) PATH) := HO4.out.setCells g20 0 _ (by have := HN10.out; have := HG20.out; omega)
        have HB13 : Hid (Below wr.heap.size wr (w12b.setCells g20 0 [.int .i64 (i : Int), .slice a3 67 c3, .slice a4 L c4])) := below_setCells _ (by have := HGE.out; omega) _ _ _ (HB9.out.trans (HB12.out.mono HB9.out.size))
        refine hK.out _ _ HS13.out (fun hHeld => ?_)
        generalize w12b.setCells g20 0 [.int .i64 (i : Int), .slice a3 67 c3, .slice a4 L c4] = w13 at *
        clear hK K
        try simp only [Act.put, List.setIfInBounds_toArray, List.set_cons_zero, List.set_cons_succ]
        refine wpAnyH_done (by kernel_rfl) (NoPanic.normal ?_) _
        clear hHeld
        have HST13 : Hid (Stm w13 g seed hh i) := HST0.out.below HB13.out
        have HB13w : Hid (Below w10.heap.size w10 w13) := H10.out _ HB13.out
        have s0 : (if n < i then (n : Int) else (i : Int)) = (i : Int) := if_neg (by omega)
        have s1 : (n : Int) - (i : Int) = ((n - i : Nat) : Int) := by omega
        have HMR13 : Hid (∀ wx, Below w13.heap.size w13 wx → wx.rangeAt b (o' + i * 32) (cellsB MI)) := fun wx hx => HMI.out wx (HB13w.out.trans (hx.mono HB13w.out.size))
        clear HS9 HLE HST0 HO4 HO3' HPL HPP HWQ HWL HKEY HKE HB10 HB11 HB12 HB9 HT9 HT12 HN10 HS13
        go_wp2_with fail
        refine (HLF.out g i w13 (HALL.out _ (HWS.out _ HB13w.out).2).1 HST13.out).mono ?_
        rintro e w14 ⟨rfl, hb14⟩
        have HB14 : Hid (Below w13.heap.size w13 w14) := hb14
        have HST14 : Hid (Stm w14 g seed hh i) := HST13.out.below hb14
        have HMR14 : Hid (w14.rangeAt b (o' + i * 32) (cellsB MI)) := HMR13.out _ hb14
        have HB14w : Hid (Below w10.heap.size w10 w14) := HB13w.out.trans (hb14.mono HB13w.out.size)
        clear hb14 HMR13
        rw [← s1]
        go_wp2_with (refine wpList_load_mid (by rfl) 23 (.tmp 117) (by rfl) b (o' + i * 32) (by rfl) (cellsB MI) _ HMR14.out Tryz.underlying23 (by rfl) (by rw [cellsB_length, lM]; exact Tryz.sizeDg) ?_)
        refine (HSIh.out w14 (HALL.out _ (HWS.out _ HB14w.out).2).1 HST14.out).mono ?_
        rintro e w15 ⟨⟨a5, c5, a6, c6, rfl, hc5, hc6, r5, r6, hst15⟩, hg15⟩
        have HB15w : Hid (Below w10.heap.size w10 w15) := HGRN.out _ _ HB14w.out hg15
        have HGG20 : Hid (g < g20) := by have := HGR.out; have := HGE.out; unfold Hid; omega
        have HR15 : Hid (w15.rangeAt g20 0 [.int .i64 (i : Int), .slice a3 67 c3, .slice a4 L c4]) := range_grs (range_below HR13.out HB14.out (cell_block (HR13.out 0 _ rfl))) hg15 (by have h := cell_block (HR13.out 0 _ rfl); have := HB14.out.size; omega) (by have := HGG20.out; omega)
        have HO15 : Hid (OwnD w15 w10b.heap.size (.slice a3 67 c3) WSIG ∧ OwnD w15 w11b.heap.size (.slice a4 L c4) PATH) := ⟨own_grs (HO3s.out.below HB14.out) hg15 (by have := HGG20.out; have := HG20.out; have := HN10'.out; omega), own_grs (HO4s.out.below HB14.out) hg15 (by have := HGG20.out; have := HG20.out; have := HN10'.out; omega)⟩
        have HR56 : Hid (DRow w15 a5 67 WSIG ∧ DRow w15 a6 L PATH ∧ Stm w15 g seed hh (i + 1)) := ⟨r5, r6, hst15⟩
        clear r5 r6 hst15 hg15 HST14 HST13 HMR14 HO3s HO4s HB14 HB13 HB13w HSIh HR13
        obtain ⟨g21, hg21⟩ : ∃ g21, w15.heap.size = g21 := ⟨_, rfl⟩
        obtain ⟨w16, hw16⟩ : ∃ w16, w15.alloc (.cells #[.int .i64 0, .slice none 0 0, .slice none 0 0] 26) = w16 := ⟨_, rfl⟩
        have HT16 : Hid (w16.there g21 0 3) := by rw [← hw16]; exact alloc_thereAt _ _ _ 3 _ hg21 rfl
        have HB17 : Hid (Below w15.heap.size w15 (w16.setCells g21 0 [.int .i64 (i : Int), .slice a5 67 c5, .slice a6 L c6])) := below_setCells _ (by rw [hg21]; exact Nat.le_refl _) _ _ _ (by rw [← hw16]; exact (Below.refl _ _).alloc (Nat.le_refl _) _)
        have HR17 : Hid ((w16.setCells g21 0 [.int .i64 (i : Int), .slice a5 67 c5, .slice a6 L c6]).rangeAt g21 0 [.int .i64 (i : Int), .slice a5 67 c5, .slice a6 L c6]) := World.rangeAt_setCells_same _ _ _ _ HT16.out
        go_wp2_with (first
          | (refine wpList_allocE (by rfl) 26 (by rfl) #[.int .i64 0, .slice none 0 0, .slice none 0 0] Tryz.zeroSg g21 hg21 w16 hw16 ?_)
          | (refine wpList_store_mid (by rfl) 26 (.tmp 21) (.tmp 120) (by rfl) g21 0 #[.int .i64 (i : Int), .slice a5 67 c5, .slice a6 L c6] (by rfl) (by rfl) HT16.out Tryz.sizeSg (sig_one _ _ _ _ _ _ _) ?_))
        generalize w16.setCells g21 0 [.int .i64 (i : Int), .slice a5 67 c5, .slice a6 L c6] = w17 at *
        clear hw16 HT16 hg21
        have HB17w : Hid (Below w10.heap.size w10 w17) := HB15w.out.trans (HB17.out.mono HB15w.out.size)
        refine (error_nil 0 w17).mono ?_
        rintro r w18 ⟨rfl, hb18⟩
        rw [show decide ((0 : Int) = 0) = true from rfl]
        have HB18 : Hid (Below w15.heap.size w15 w18) := HB17.out.trans (hb18.mono HB17.out.size)
        have HB18w : Hid (Below w10.heap.size w10 w18) := HB17w.out.trans (hb18.mono HB17w.out.size)
        have HR18 : Hid (w18.rangeAt g21 0 [.int .i64 (i : Int), .slice a5 67 c5, .slice a6 L c6]) := range_below HR17.out hb18 (cell_block (HR17.out 0 _ rfl))
        have HR18' : Hid (w18.rangeAt g20 0 [.int .i64 (i : Int), .slice a3 67 c3, .slice a4 L c4]) := range_below HR15.out HB18.out (cell_block (HR15.out 0 _ rfl))
        clear hb18 HR17 HB17 HB17w
        go_wp2_with (first
          | (refine wpList_load_mid (by rfl) 26 (.tmp 21) (by rfl) g21 0 (by rfl) [.int .i64 (i : Int), .slice a5 67 c5, .slice a6 L c6] _ HR18.out Tryz.underlying26 (by rfl) Tryz.sizeSg ?_)
          | (refine wpList_load_mid (by rfl) 26 (.tmp 20) (by rfl) g20 0 (by rfl) [.int .i64 (i : Int), .slice a3 67 c3, .slice a4 L c4] _ HR18'.out Tryz.underlying26 (by rfl) Tryz.sizeSg ?_))
        refine (ssig_same (i : Int) a5 a6 a3 a4 67 L c5 c6 c3 c4 WSIG PATH w18 (HR56.out.1.below HB18.out) (HR56.out.2.1.below HB18.out) ((own_drow HO15.out.1).below HB18.out) ((own_drow HO15.out.2).below HB18.out) (by omega) (by omega)).mono ?_
        rintro r w19 ⟨rfl, hb19⟩
        have HB19w : Hid (Below w10.heap.size w10 w19) := HB18w.out.trans (hb19.mono HB18w.out.size)
        have HST19 : Hid (Stm w19 g seed hh (i + 1)) := (HR56.out.2.2.below HB18.out).below hb19
        clear hb19
        go_wp2_with fail
        go_roundw
        case rel => exact ⟨i + 1, by omega, by go_num, by rw [show min (i + 1) n = i + 1 by omega]; exact HST19.out, HB19w.out⟩
        case measure => simp [intOf]; omega
      · have hge : n ≤ i := by omega
        have hmin : min i n = n := by omega
        have HSTn : Hid (Stm wr g seed hh n) := by have := HST.out; rw [hmin] at this; exact this
        have g5 : (n : Int) ≤ (i : Int) := by omega
        have s0 : (if n < i then (n : Int) else (i : Int)) = (n : Int) := by
          by_cases q : n < i
          · rw [if_pos q]
          · rw [if_neg q]; omega
        have HB9 : Hid (Below wr.heap.size wr w9b) := hb9b
        have HB9w : Hid (Below w10.heap.size w10 w9b) := H10.out _ hb9b
        have HST9 : Hid (Stm w9b g seed hh n) := HSTn.out.below hb9b
        have HGG20 : Hid (g < g20) := by rw [← hg20]; exact HGR.out
        clear HST HSTn hb9b
        go_wp2_with (refine wpList_allocE (by rfl) 26 (by rfl) #[.int .i64 0, .slice none 0 0, .slice none 0 0] Tryz.zeroSg g20 hg20 w9b hw9b ?_)
        clear hw9b hg20
        refine (HLF.out g n w9b (HALL.out _ (HWS.out _ HB9w.out).2).1 HST9.out).mono ?_
        rintro e w14 ⟨rfl, hb14⟩
        rw [Nat.sub_self]
        have HST14 : Hid (Stm w14 g seed hh n) := HST9.out.below hb14
        have HB14w : Hid (Below w10.heap.size w10 w14) := HB9w.out.trans (hb14.mono HB9w.out.size)
        have HMR14 : Hid (w14.rangeAt b (o' + i * 32) (cellsB MI)) := HMI.out _ HB14w.out
        have HR14 : Hid (w14.rangeAt g20 0 [.int .i64 0, .slice none 0 0, .slice none 0 0]) := range_below HZ20.out hb14 (cell_block (HZ20.out 0 _ rfl))
        clear hb14 HST9 HZ20 HB9 HB9w
        go_wp2_with (refine wpList_load_mid (by rfl) 23 (.tmp 117) (by rfl) b (o' + i * 32) (by rfl) (cellsB MI) _ HMR14.out Tryz.underlying23 (by rfl) (by rw [cellsB_length, lM]; exact Tryz.sizeDg) ?_)
        refine (HSP.out g MI w14 lM (HALL.out _ (HWS.out _ HB14w.out).2).1 HST14.out).mono ?_
        rintro e w15 ⟨⟨a5, c5, a6, c6, rfl, hst15⟩, hg15⟩
        have HB15w : Hid (Below w10.heap.size w10 w15) := HGRN.out _ _ HB14w.out hg15
        have HR15 : Hid (w15.rangeAt g20 0 [.int .i64 0, .slice none 0 0, .slice none 0 0]) := range_grs HR14.out hg15 (cell_block (HR14.out 0 _ rfl)) (by have := HGG20.out; omega)
        have HST15 : Hid (Stm w15 g seed hh n) := hst15
        clear hst15 hg15 HST14 HMR14 HR14
        obtain ⟨g21, hg21⟩ : ∃ g21, w15.heap.size = g21 := ⟨_, rfl⟩
        obtain ⟨w16, hw16⟩ : ∃ w16, w15.alloc (.cells #[.int .i64 0, .slice none 0 0, .slice none 0 0] 26) = w16 := ⟨_, rfl⟩
        have HT16 : Hid (w16.there g21 0 3) := by rw [← hw16]; exact alloc_thereAt _ _ _ 3 _ hg21 rfl
        have HB17 : Hid (Below w15.heap.size w15 (w16.setCells g21 0 [.int .i64 0, .slice a5 0 c5, .slice a6 0 c6])) := below_setCells _ (by rw [hg21]; exact Nat.le_refl _) _ _ _ (by rw [← hw16]; exact (Below.refl _ _).alloc (Nat.le_refl _) _)
        have HR17 : Hid ((w16.setCells g21 0 [.int .i64 0, .slice a5 0 c5, .slice a6 0 c6]).rangeAt g21 0 [.int .i64 0, .slice a5 0 c5, .slice a6 0 c6]) := World.rangeAt_setCells_same _ _ _ _ HT16.out
        go_wp2_with (first
          | (refine wpList_allocE (by rfl) 26 (by rfl) #[.int .i64 0, .slice none 0 0, .slice none 0 0] Tryz.zeroSg g21 hg21 w16 hw16 ?_)
          | (refine wpList_store_mid (by rfl) 26 (.tmp 21) (.tmp 120) (by rfl) g21 0 #[.int .i64 0, .slice a5 0 c5, .slice a6 0 c6] (by rfl) (by rfl) HT16.out Tryz.sizeSg (sig_one _ _ _ _ _ _ _) ?_))
        generalize w16.setCells g21 0 [.int .i64 0, .slice a5 0 c5, .slice a6 0 c6] = w17 at *
        clear hw16 HT16 hg21
        have HB17w : Hid (Below w10.heap.size w10 w17) := HB15w.out.trans (HB17.out.mono HB15w.out.size)
        refine (error_errno 6 6 w17 (HALL.out _ (HWS.out _ HB17w.out).2).2.1).mono ?_
        rintro r w18 ⟨rfl, hb18⟩
        rw [show decide ((6 : Int) = 6) = true from rfl]
        have HB18 : Hid (Below w15.heap.size w15 w18) := HB17.out.trans (hb18.mono HB17.out.size)
        have HB18w : Hid (Below w10.heap.size w10 w18) := HB17w.out.trans (hb18.mono HB17w.out.size)
        have HR18 : Hid (w18.rangeAt g21 0 [.int .i64 0, .slice a5 0 c5, .slice a6 0 c6]) := range_below HR17.out hb18 (cell_block (HR17.out 0 _ rfl))
        have HR18' : Hid (w18.rangeAt g20 0 [.int .i64 0, .slice none 0 0, .slice none 0 0]) := range_below HR15.out HB18.out (cell_block (HR15.out 0 _ rfl))
        clear hb18 HR17 HB17 HB17w
        go_wp2_with (first
          | (refine wpList_load_mid (by rfl) 26 (.tmp 21) (by rfl) g21 0 (by rfl) [.int .i64 0, .slice a5 0 c5, .slice a6 0 c6] _ HR18.out Tryz.underlying26 (by rfl) Tryz.sizeSg ?_)
          | (refine wpList_load_mid (by rfl) 26 (.tmp 20) (by rfl) g20 0 (by rfl) [.int .i64 0, .slice none 0 0, .slice none 0 0] _ HR18'.out Tryz.underlying26 (by rfl) Tryz.sizeSg ?_))
        refine (ssig_same 0 a5 a6 none none 0 0 c5 c6 0 0 [] [] w18 (drow_zero _ _) (drow_zero _ _) (drow_zero _ _) (drow_zero _ _) (by omega) (by omega)).mono ?_
        rintro r w19 ⟨rfl, hb19⟩
        have HB19w : Hid (Below w10.heap.size w10 w19) := HB18w.out.trans (hb19.mono HB18w.out.size)
        have HST19 : Hid (Stm w19 g seed hh n) := (HST15.out.below HB18.out).below hb19
        clear hb19
        go_wp2_with fail
        go_roundw
        case rel => exact ⟨i + 1, by omega, by go_num, by rw [show min (i + 1) n = n by omega]; exact HST19.out, HB19w.out⟩
        case measure => simp [intOf]; omega
    · obtain rfl : i = N := by omega
      have i1 : ¬ (i : Int) < (i : Int) := by omega
      obtain ⟨g25, hg25⟩ : ∃ g25, wr.heap.size = g25 := ⟨_, rfl⟩
      obtain ⟨wA, hwA⟩ : ∃ wA, wr.alloc (.cells (cellsB zD).toArray 23) = wA := ⟨_, rfl⟩
      have HBA : Hid (Below w2.heap.size w2 wA) := by rw [← hwA]; exact HBw.out.alloc HBw.out.size _
      have HBA10 : Hid (Below w10.heap.size w10 wA) := by rw [← hwA]; exact HB.out.alloc HB.out.size _
      have HTA : Hid (wA.there g25 0 32) := by rw [← hwA]; exact alloc_thereAt _ _ _ 32 _ hg25 zD_size.symm
      have HNA : Hid (w2.heap.size ≤ g25) := by rw [← hg25]; exact HBw.out.size
      have HSA : Hid (wA.heap.size = g25 + 1) := by unfold Hid; rw [← hwA, ← hg25]; simp
      obtain ⟨Z, hZ⟩ : ∃ Z, zD = Z := ⟨_, rfl⟩
      have lZ' : Z.length = 32 := by rw [← hZ]; rfl
      have HXA : Hid (wA.rangeAt g25 0 (cellsB Z)) := by rw [← hwA, ← hZ]; exact HZA.out wr g25 hg25
      have HRZ : Hid (∀ k : Int, recE n1 At n n2 = k → k ≠ 0 → ∀ wx, Below w2.heap.size w2 wx → Calls Tryz.prog 18 #[digestV m, .int .i64 (hh : Int), .agg #[.int .i64 At, .slice a1 n1 c1, .slice a2 n2 c2]] wx fun e w' => e = .returned (.tuple #[digestV Z, .iface 27 (.int .i64 k)]) ∧ Below wx.heap.size wx w') := by rw [← hZ]; exact HRE.out
      have k0 : wA.cell? ⟨w.heap.size + 1 + 1, 0, none⟩ = some (.int .i64 At) := (HALL.out _ HBA.out).2.2.2.2.2.2.2.1 0 _ rfl
      have k1 : wA.cell? ⟨w.heap.size + 1 + 1, 1, none⟩ = some (.slice a1 n1 c1) := (HALL.out _ HBA.out).2.2.2.2.2.2.2.1 1 _ rfl
      have k2 : wA.cell? ⟨w.heap.size + 1 + 1, 2, none⟩ = some (.slice a2 n2 c2) := (HALL.out _ HBA.out).2.2.2.2.2.2.2.1 2 _ rfl
      clear hZ HRE HST HZA HSI HSP HLF HB HGRN HM32
      go_upto_region 35 with (refine wpList_allocE (by rfl) 23 (by rfl) (cellsB zD).toArray Tryz.zeroDg g25 hg25 wA hwA ?_)
      clear hwA hg25
      try simp only [Act.put, List.setIfInBounds_toArray, List.set_cons_zero, List.set_cons_succ]
      by_cases h67 : n1 = 67
      · subst h67
        by_cases hneg : At < 0
        · have HREC := HRZ.out 2 (recE_at (.inl hneg)) (by omega)
          clear HRZ HRO
          have HREC : Hid _ := HREC
          go_upto_region 37 with fail
          go_upto_region 39 with fail
          refine wp_region_noPanic ?_
          refine wp_region_held_drew (S := fun _ => True) (by kernel_rfl) True.intro (fun hHeld => ?_)
          try simp only [Act.put, List.setIfInBounds_toArray, List.set_cons_zero, List.set_cons_succ]
          have HBd : Hid (Below w2.heap.size w2 wA.drew) := HBA.out.trans ((below_drewN wA 1).mono HBA.out.size)
          have HXd : Hid (wA.drew.rangeAt g25 0 (cellsB Z)) := (World.rangeAt_drew _ _ _ _).2 HXA.out
          generalize wA.drew = wd at *
          refine wpAnyH_take (i := 0) (v := ?_) (by simp only [List.getElem?_toArray, List.getElem?_cons_zero, List.getElem?_cons_succ]; rfl) (by kernel_rfl) (by kernel_rfl) (by kernel_rfl) (fun _ _ _ h => h) (Or.inl ⟨by rfl, ?_⟩) hHeld ?_
          rotate_left
          · intro w hSw
            go_simp
            try with_reducible rfl
          try simp only [Act.put, List.setIfInBounds_toArray, List.set_cons_zero, List.set_cons_succ]
          refine wpAnyH_take (i := 1) (v := ?_) (by simp only [List.getElem?_toArray, List.getElem?_cons_zero, List.getElem?_cons_succ]; rfl) (by kernel_rfl) (by kernel_rfl) (by kernel_rfl) (fun _ _ _ h => h) (Or.inl ⟨by rfl, ?_⟩) hHeld ?_
          rotate_left
          · intro w hSw
            go_simp
            try with_reducible rfl
          try simp only [Act.put, List.setIfInBounds_toArray, List.set_cons_zero, List.set_cons_succ]
          refine wpAnyH_take (i := 2) (v := ?_) (by simp only [List.getElem?_toArray, List.getElem?_cons_zero, List.getElem?_cons_succ]; rfl) (by kernel_rfl) (by kernel_rfl) (by kernel_rfl) (fun _ _ _ h => h) (Or.inl ⟨by rfl, ?_⟩) hHeld ?_
          rotate_left
          · intro w hSw
            go_simp
            try with_reducible rfl
          try simp only [Act.put, List.setIfInBounds_toArray, List.set_cons_zero, List.set_cons_succ]
          refine wpAnyH_take (i := 3) (v := undef) (by simp only [List.getElem?_toArray, List.getElem?_cons_zero, List.getElem?_cons_succ]; rfl) (by kernel_rfl) (by kernel_rfl) (by kernel_rfl) (fun _ _ _ h => h) (Or.inr ⟨by rfl, rfl⟩) hHeld ?_
          try simp only [Act.put, List.setIfInBounds_toArray, List.set_cons_zero, List.set_cons_succ]
          refine wpAnyH_take (i := 4) (v := undef) (by simp only [List.getElem?_toArray, List.getElem?_cons_zero, List.getElem?_cons_succ]; rfl) (by kernel_rfl) (by kernel_rfl) (by kernel_rfl) (fun _ _ _ h => h) (Or.inr ⟨by rfl, rfl⟩) hHeld ?_
          try simp only [Act.put, List.setIfInBounds_toArray, List.set_cons_zero, List.set_cons_succ]
          refine wpAnyH_take (i := 5) (v := undef) (by simp only [List.getElem?_toArray, List.getElem?_cons_zero, List.getElem?_cons_succ]; rfl) (by kernel_rfl) (by kernel_rfl) (by kernel_rfl) (fun _ _ _ h => h) (Or.inr ⟨by rfl, rfl⟩) hHeld ?_
          try simp only [Act.put, List.setIfInBounds_toArray, List.set_cons_zero, List.set_cons_succ]
          refine wpAnyH_take (i := 6) (v := undef) (by simp only [List.getElem?_toArray, List.getElem?_cons_zero, List.getElem?_cons_succ]; rfl) (by kernel_rfl) (by kernel_rfl) (by kernel_rfl) (fun _ _ _ h => h) (Or.inr ⟨by rfl, rfl⟩) hHeld ?_
          try simp only [Act.put, List.setIfInBounds_toArray, List.set_cons_zero, List.set_cons_succ]
          refine wpAnyH_take (i := 7) (v := undef) (by simp only [List.getElem?_toArray, List.getElem?_cons_zero, List.getElem?_cons_succ]; rfl) (by kernel_rfl) (by kernel_rfl) (by kernel_rfl) (fun _ _ _ h => h) (Or.inr ⟨by rfl, rfl⟩) hHeld ?_
          try simp only [Act.put, List.setIfInBounds_toArray, List.set_cons_zero, List.set_cons_succ]
          refine wpAnyH_take (i := 8) (v := undef) (by simp only [List.getElem?_toArray, List.getElem?_cons_zero, List.getElem?_cons_succ]; rfl) (by kernel_rfl) (by kernel_rfl) (by kernel_rfl) (fun _ _ _ h => h) (Or.inr ⟨by rfl, rfl⟩) hHeld ?_
          try simp only [Act.put, List.setIfInBounds_toArray, List.set_cons_zero, List.set_cons_succ]
          refine wpAnyH_take (i := 9) (v := undef) (by simp only [List.getElem?_toArray, List.getElem?_cons_zero, List.getElem?_cons_succ]; rfl) (by kernel_rfl) (by kernel_rfl) (by kernel_rfl) (fun _ _ _ h => h) (Or.inr ⟨by rfl, rfl⟩) hHeld ?_
          try simp only [Act.put, List.setIfInBounds_toArray, List.set_cons_zero, List.set_cons_succ]
          refine wpAnyH_take (i := 10) (v := undef) (by simp only [List.getElem?_toArray, List.getElem?_cons_zero, List.getElem?_cons_succ]; rfl) (by kernel_rfl) (by kernel_rfl) (by kernel_rfl) (fun _ _ _ h => h) (Or.inr ⟨by rfl, rfl⟩) hHeld ?_
          try simp only [Act.put, List.setIfInBounds_toArray, List.set_cons_zero, List.set_cons_succ]
          refine wpAnyH_take (i := 11) (v := ?_) (by simp only [List.getElem?_toArray, List.getElem?_cons_zero, List.getElem?_cons_succ]; rfl) (by kernel_rfl) (by kernel_rfl) (by kernel_rfl) (fun _ _ _ h => h) (Or.inl ⟨by rfl, ?_⟩) hHeld ?_
          rotate_left
          · intro w hSw
            go_simp
            try with_reducible rfl
          try simp only [Act.put, List.setIfInBounds_toArray, List.set_cons_zero, List.set_cons_succ]
          refine wpAnyH_done (by kernel_rfl) (NoPanic.normal ?_) _
          clear hHeld
          have HMt : Hid (wd.rangeAt (w.heap.size + 1) 0 (cellsB m)) := (HALL.out wd HBd.out).2.2.2.2.2.2.1
          have HSt : Hid (wd.rangeAt (w.heap.size + 1 + 1) 0 [.int .i64 At, .slice a1 67 c1, .slice a2 n2 c2]) := (HALL.out wd HBd.out).2.2.2.2.2.2.2.1
          go_wp2_with (first
            | (refine wpList_load_mid (by rfl) 23 (.tmp 8) (by rfl) (w.heap.size + 1) 0 (by rfl) (cellsB m) _ HMt.out Tryz.underlying23 (by rfl) (by rw [cellsB_length, hm]; exact Tryz.sizeDg) ?_)
            | (refine wpList_load_mid (by rfl) 26 (.tmp 9) (by rfl) (w.heap.size + 1 + 1) 0 (by rfl) [.int .i64 At, .slice a1 67 c1, .slice a2 n2 c2] _ HSt.out Tryz.underlying26 (by rfl) Tryz.sizeSg ?_))
          refine (HREC.out wd HBd.out).mono ?_
          rintro e wt1 ⟨rfl, hbt1⟩
          have HBt1 : Hid (Below w2.heap.size w2 wt1) := HBd.out.trans (hbt1.mono HBd.out.size)
          have HXt1 : Hid (wt1.rangeAt g25 0 (cellsB Z)) := range_below HXd.out hbt1 (by have h := cell_block (DAt.cell HXd.out 0 (by omega)); omega)
          have HNt : Hid (g25 < wt1.heap.size) := cell_block (DAt.cell HXt1.out 0 (by omega))
          clear hbt1 HMt HSt HREC
          obtain ⟨g26, hg26⟩ : ∃ g26, wt1.heap.size = g26 := ⟨_, rfl⟩
          obtain ⟨wt2, hwt2⟩ : ∃ wt2, wt1.alloc (.cells (cellsB zD).toArray 23) = wt2 := ⟨_, rfl⟩
          have HTt : Hid (wt2.there g26 0 32) := by rw [← hwt2]; exact alloc_thereAt _ _ _ 32 _ hg26 zD_size.symm
          have HBt3 : Hid (Below w2.heap.size w2 (wt2.setCells g26 0 (cellsB Z))) := below_setCells _ (by rw [← hg26]; exact HBt1.out.size) _ _ _ (by rw [← hwt2]; exact HBt1.out.alloc HBt1.out.size _)
          have HXt3 : Hid (DAt (wt2.setCells g26 0 (cellsB Z)) g26 0 Z) := dat_stored HTt.out lZ'
          have HYt3 : Hid (DAt (wt2.setCells g26 0 (cellsB Z)) g25 0 Z) := World.rangeAt_setCells_apart (by rw [← hwt2]; exact World.rangeAt_alloc HXt1.out _) _ _ _ (.inl (by have := HNt.out; omega))
          go_wp2_with (first
            | (refine wpList_allocE (by rfl) 23 (by rfl) (cellsB zD).toArray Tryz.zeroDg g26 hg26 wt2 hwt2 ?_)
            | (refine wpList_store_mid (by rfl) 23 (.tmp 26) (.tmp 186) (by rfl) g26 0 (cellsB Z).toArray (by rfl) (by rfl) (by rw [cellsB_size, lZ']; exact HTt.out) (by rw [cellsB_size, lZ']; exact Tryz.sizeDg) (all_oneCell_toArray (cellsB_one _)) ?_))
          generalize wt2.setCells g26 0 (cellsB Z) = wt4 at *
          clear hwt2 HTt hg26 HXt1 HBt1
          have HBt4 : Hid (Below w2.heap.size w2 wt4) := HBt3.out
          refine (error_errno 2 2 wt4 (HALL.out wt4 HBt4.out).2.1).mono ?_
          rintro r wt5 ⟨rfl, hbt5⟩
          rw [show decide ((2 : Int) = 2) = true from rfl]
          have HBt5 : Hid (Below w2.heap.size w2 wt5) := HBt4.out.trans (hbt5.mono HBt4.out.size)
          have HXt5 : Hid (wt5.rangeAt g26 0 (cellsB Z)) := HXt3.out.below hbt5 (cell_block (HXt3.out.cell 0 (by omega)))
          have HYt5 : Hid (wt5.rangeAt g25 0 (cellsB Z)) := HYt3.out.below hbt5 (cell_block (HYt3.out.cell 0 (by omega)))
          clear hbt5 HXt3 HYt3 HBt3 HBt4
          go_wp2_with (first
            | (refine wpList_load_midG (by rfl) 23 (.tmp 26) (by rfl) g26 0 (by rfl) (cellsB Z) _ HXt5.out Tryz.underlying23 (by rfl) (by rw [cellsB_length, lZ']; exact Tryz.sizeDg) ?_)
            | (refine wpList_load_midG (by rfl) 23 (.tmp 25) (by rfl) g25 0 (by rfl) (cellsB Z) _ HYt5.out Tryz.underlying23 (by rfl) (by rw [cellsB_length, lZ']; exact Tryz.sizeDg) ?_)
            | (refine wpList_eqD (.tmp 193) (.tmp 194) (by rfl) (by rfl) Z Z lZ' lZ' (by rfl) (by rfl) true (decide_eq_true rfl) ?_))
          go_ret
          exact ⟨rfl, (HALL.out _ HBt5.out).2.2.2.2.2.2.2.2⟩
        by_cases hbg : (n : Int) ≤ At
        · have HREC := HRZ.out 2 (recE_at (.inr hbg)) (by omega)
          clear HRZ HRO
          have HREC : Hid _ := HREC
          go_upto_region 37 with fail
          go_upto_region 39 with fail
          refine wp_region_noPanic ?_
          refine wp_region_held_drew (S := fun _ => True) (by kernel_rfl) True.intro (fun hHeld => ?_)
          try simp only [Act.put, List.setIfInBounds_toArray, List.set_cons_zero, List.set_cons_succ]
          have HBd : Hid (Below w2.heap.size w2 wA.drew) := HBA.out.trans ((below_drewN wA 1).mono HBA.out.size)
          have HXd : Hid (wA.drew.rangeAt g25 0 (cellsB Z)) := (World.rangeAt_drew _ _ _ _).2 HXA.out
          generalize wA.drew = wd at *
          refine wpAnyH_take (i := 0) (v := ?_) (by simp only [List.getElem?_toArray, List.getElem?_cons_zero, List.getElem?_cons_succ]; rfl) (by kernel_rfl) (by kernel_rfl) (by kernel_rfl) (fun _ _ _ h => h) (Or.inl ⟨by rfl, ?_⟩) hHeld ?_
          rotate_left
          · intro w hSw
            go_simp
            try with_reducible rfl
          try simp only [Act.put, List.setIfInBounds_toArray, List.set_cons_zero, List.set_cons_succ]
          refine wpAnyH_take (i := 1) (v := ?_) (by simp only [List.getElem?_toArray, List.getElem?_cons_zero, List.getElem?_cons_succ]; rfl) (by kernel_rfl) (by kernel_rfl) (by kernel_rfl) (fun _ _ _ h => h) (Or.inl ⟨by rfl, ?_⟩) hHeld ?_
          rotate_left
          · intro w hSw
            go_simp
            try with_reducible rfl
          try simp only [Act.put, List.setIfInBounds_toArray, List.set_cons_zero, List.set_cons_succ]
          refine wpAnyH_take (i := 2) (v := ?_) (by simp only [List.getElem?_toArray, List.getElem?_cons_zero, List.getElem?_cons_succ]; rfl) (by kernel_rfl) (by kernel_rfl) (by kernel_rfl) (fun _ _ _ h => h) (Or.inl ⟨by rfl, ?_⟩) hHeld ?_
          rotate_left
          · intro w hSw
            go_simp
            try with_reducible rfl
          try simp only [Act.put, List.setIfInBounds_toArray, List.set_cons_zero, List.set_cons_succ]
          refine wpAnyH_take (i := 3) (v := undef) (by simp only [List.getElem?_toArray, List.getElem?_cons_zero, List.getElem?_cons_succ]; rfl) (by kernel_rfl) (by kernel_rfl) (by kernel_rfl) (fun _ _ _ h => h) (Or.inr ⟨by rfl, rfl⟩) hHeld ?_
          try simp only [Act.put, List.setIfInBounds_toArray, List.set_cons_zero, List.set_cons_succ]
          refine wpAnyH_take (i := 4) (v := undef) (by simp only [List.getElem?_toArray, List.getElem?_cons_zero, List.getElem?_cons_succ]; rfl) (by kernel_rfl) (by kernel_rfl) (by kernel_rfl) (fun _ _ _ h => h) (Or.inr ⟨by rfl, rfl⟩) hHeld ?_
          try simp only [Act.put, List.setIfInBounds_toArray, List.set_cons_zero, List.set_cons_succ]
          refine wpAnyH_take (i := 5) (v := undef) (by simp only [List.getElem?_toArray, List.getElem?_cons_zero, List.getElem?_cons_succ]; rfl) (by kernel_rfl) (by kernel_rfl) (by kernel_rfl) (fun _ _ _ h => h) (Or.inr ⟨by rfl, rfl⟩) hHeld ?_
          try simp only [Act.put, List.setIfInBounds_toArray, List.set_cons_zero, List.set_cons_succ]
          refine wpAnyH_take (i := 6) (v := undef) (by simp only [List.getElem?_toArray, List.getElem?_cons_zero, List.getElem?_cons_succ]; rfl) (by kernel_rfl) (by kernel_rfl) (by kernel_rfl) (fun _ _ _ h => h) (Or.inr ⟨by rfl, rfl⟩) hHeld ?_
          try simp only [Act.put, List.setIfInBounds_toArray, List.set_cons_zero, List.set_cons_succ]
          refine wpAnyH_take (i := 7) (v := undef) (by simp only [List.getElem?_toArray, List.getElem?_cons_zero, List.getElem?_cons_succ]; rfl) (by kernel_rfl) (by kernel_rfl) (by kernel_rfl) (fun _ _ _ h => h) (Or.inr ⟨by rfl, rfl⟩) hHeld ?_
          try simp only [Act.put, List.setIfInBounds_toArray, List.set_cons_zero, List.set_cons_succ]
          refine wpAnyH_take (i := 8) (v := undef) (by simp only [List.getElem?_toArray, List.getElem?_cons_zero, List.getElem?_cons_succ]; rfl) (by kernel_rfl) (by kernel_rfl) (by kernel_rfl) (fun _ _ _ h => h) (Or.inr ⟨by rfl, rfl⟩) hHeld ?_
          try simp only [Act.put, List.setIfInBounds_toArray, List.set_cons_zero, List.set_cons_succ]
          refine wpAnyH_take (i := 9) (v := undef) (by simp only [List.getElem?_toArray, List.getElem?_cons_zero, List.getElem?_cons_succ]; rfl) (by kernel_rfl) (by kernel_rfl) (by kernel_rfl) (fun _ _ _ h => h) (Or.inr ⟨by rfl, rfl⟩) hHeld ?_
          try simp only [Act.put, List.setIfInBounds_toArray, List.set_cons_zero, List.set_cons_succ]
          refine wpAnyH_take (i := 10) (v := undef) (by simp only [List.getElem?_toArray, List.getElem?_cons_zero, List.getElem?_cons_succ]; rfl) (by kernel_rfl) (by kernel_rfl) (by kernel_rfl) (fun _ _ _ h => h) (Or.inr ⟨by rfl, rfl⟩) hHeld ?_
          try simp only [Act.put, List.setIfInBounds_toArray, List.set_cons_zero, List.set_cons_succ]
          refine wpAnyH_take (i := 11) (v := ?_) (by simp only [List.getElem?_toArray, List.getElem?_cons_zero, List.getElem?_cons_succ]; rfl) (by kernel_rfl) (by kernel_rfl) (by kernel_rfl) (fun _ _ _ h => h) (Or.inl ⟨by rfl, ?_⟩) hHeld ?_
          rotate_left
          · intro w hSw
            go_simp
            try with_reducible rfl
          try simp only [Act.put, List.setIfInBounds_toArray, List.set_cons_zero, List.set_cons_succ]
          refine wpAnyH_done (by kernel_rfl) (NoPanic.normal ?_) _
          clear hHeld
          have HMt : Hid (wd.rangeAt (w.heap.size + 1) 0 (cellsB m)) := (HALL.out wd HBd.out).2.2.2.2.2.2.1
          have HSt : Hid (wd.rangeAt (w.heap.size + 1 + 1) 0 [.int .i64 At, .slice a1 67 c1, .slice a2 n2 c2]) := (HALL.out wd HBd.out).2.2.2.2.2.2.2.1
          go_wp2_with (first
            | (refine wpList_load_mid (by rfl) 23 (.tmp 8) (by rfl) (w.heap.size + 1) 0 (by rfl) (cellsB m) _ HMt.out Tryz.underlying23 (by rfl) (by rw [cellsB_length, hm]; exact Tryz.sizeDg) ?_)
            | (refine wpList_load_mid (by rfl) 26 (.tmp 9) (by rfl) (w.heap.size + 1 + 1) 0 (by rfl) [.int .i64 At, .slice a1 67 c1, .slice a2 n2 c2] _ HSt.out Tryz.underlying26 (by rfl) Tryz.sizeSg ?_))
          refine (HREC.out wd HBd.out).mono ?_
          rintro e wt1 ⟨rfl, hbt1⟩
          have HBt1 : Hid (Below w2.heap.size w2 wt1) := HBd.out.trans (hbt1.mono HBd.out.size)
          have HXt1 : Hid (wt1.rangeAt g25 0 (cellsB Z)) := range_below HXd.out hbt1 (by have h := cell_block (DAt.cell HXd.out 0 (by omega)); omega)
          have HNt : Hid (g25 < wt1.heap.size) := cell_block (DAt.cell HXt1.out 0 (by omega))
          clear hbt1 HMt HSt HREC
          obtain ⟨g26, hg26⟩ : ∃ g26, wt1.heap.size = g26 := ⟨_, rfl⟩
          obtain ⟨wt2, hwt2⟩ : ∃ wt2, wt1.alloc (.cells (cellsB zD).toArray 23) = wt2 := ⟨_, rfl⟩
          have HTt : Hid (wt2.there g26 0 32) := by rw [← hwt2]; exact alloc_thereAt _ _ _ 32 _ hg26 zD_size.symm
          have HBt3 : Hid (Below w2.heap.size w2 (wt2.setCells g26 0 (cellsB Z))) := below_setCells _ (by rw [← hg26]; exact HBt1.out.size) _ _ _ (by rw [← hwt2]; exact HBt1.out.alloc HBt1.out.size _)
          have HXt3 : Hid (DAt (wt2.setCells g26 0 (cellsB Z)) g26 0 Z) := dat_stored HTt.out lZ'
          have HYt3 : Hid (DAt (wt2.setCells g26 0 (cellsB Z)) g25 0 Z) := World.rangeAt_setCells_apart (by rw [← hwt2]; exact World.rangeAt_alloc HXt1.out _) _ _ _ (.inl (by have := HNt.out; omega))
          go_wp2_with (first
            | (refine wpList_allocE (by rfl) 23 (by rfl) (cellsB zD).toArray Tryz.zeroDg g26 hg26 wt2 hwt2 ?_)
            | (refine wpList_store_mid (by rfl) 23 (.tmp 26) (.tmp 186) (by rfl) g26 0 (cellsB Z).toArray (by rfl) (by rfl) (by rw [cellsB_size, lZ']; exact HTt.out) (by rw [cellsB_size, lZ']; exact Tryz.sizeDg) (all_oneCell_toArray (cellsB_one _)) ?_))
          generalize wt2.setCells g26 0 (cellsB Z) = wt4 at *
          clear hwt2 HTt hg26 HXt1 HBt1
          have HBt4 : Hid (Below w2.heap.size w2 wt4) := HBt3.out
          refine (error_errno 2 2 wt4 (HALL.out wt4 HBt4.out).2.1).mono ?_
          rintro r wt5 ⟨rfl, hbt5⟩
          rw [show decide ((2 : Int) = 2) = true from rfl]
          have HBt5 : Hid (Below w2.heap.size w2 wt5) := HBt4.out.trans (hbt5.mono HBt4.out.size)
          have HXt5 : Hid (wt5.rangeAt g26 0 (cellsB Z)) := HXt3.out.below hbt5 (cell_block (HXt3.out.cell 0 (by omega)))
          have HYt5 : Hid (wt5.rangeAt g25 0 (cellsB Z)) := HYt3.out.below hbt5 (cell_block (HYt3.out.cell 0 (by omega)))
          clear hbt5 HXt3 HYt3 HBt3 HBt4
          go_wp2_with (first
            | (refine wpList_load_midG (by rfl) 23 (.tmp 26) (by rfl) g26 0 (by rfl) (cellsB Z) _ HXt5.out Tryz.underlying23 (by rfl) (by rw [cellsB_length, lZ']; exact Tryz.sizeDg) ?_)
            | (refine wpList_load_midG (by rfl) 23 (.tmp 25) (by rfl) g25 0 (by rfl) (cellsB Z) _ HYt5.out Tryz.underlying23 (by rfl) (by rw [cellsB_length, lZ']; exact Tryz.sizeDg) ?_)
            | (refine wpList_eqD (.tmp 193) (.tmp 194) (by rfl) (by rfl) Z Z lZ' lZ' (by rfl) (by rfl) true (decide_eq_true rfl) ?_))
          go_ret
          exact ⟨rfl, (HALL.out _ HBt5.out).2.2.2.2.2.2.2.2⟩
        obtain ⟨j, rfl⟩ : ∃ j : Nat, At = (j : Int) := ⟨At.toNat, by omega⟩
        have hj : j < n := by omega
        have j0 : ¬ (j : Int) < 0 := by omega
        have hLb : longT j n ≤ 8 := longT_256 j n (by omega)
        have HKA : Hid (∀ wx, Below w2.heap.size w2 wx → wx.cell? ⟨w.heap.size + 1 + 1, 2, none⟩ = some (.slice a2 n2 c2) ∧ wx.cell? ⟨w.heap.size + 1 + 1, 0, none⟩ = some (.int .i64 (j : Int))) := fun wx hx => ⟨(HALL.out _ hx).2.2.2.2.2.2.2.1 2 _ rfl, (HALL.out _ hx).2.2.2.2.2.2.2.1 0 _ rfl⟩
        by_cases hL : n2 = longT j n
        · have HREC := HRO.out j rfl hj rfl hL
          clear HRZ HRO
          have HREC : Hid _ := HREC
          have HLL : Hid (n2 = longT j n) := hL
          have HJN : Hid (j < n) := hj
          clear hL
          go_upto_region 37 with fail
          go_upto_region 39 with fail
          refine wp_region_noPanic ?_
          refine wp_region_held_drew (S := fun wx => wx.cell? ⟨w.heap.size + 1 + 1, 2, none⟩ = some (.slice a2 n2 c2) ∧ wx.cell? ⟨w.heap.size + 1 + 1, 0, none⟩ = some (.int .i64 (j : Int))) (by kernel_rfl) (HKA.out _ (HBA.out.trans ((below_drewN wA 1).mono HBA.out.size))) (fun hHeld => ?_)
          try simp only [Act.put, List.setIfInBounds_toArray, List.set_cons_zero, List.set_cons_succ]
          have HBd : Hid (Below w2.heap.size w2 wA.drew) := HBA.out.trans ((below_drewN wA 1).mono HBA.out.size)
          have HXd : Hid (wA.drew.rangeAt g25 0 (cellsB Z)) := (World.rangeAt_drew _ _ _ _).2 HXA.out
          have HTd : Hid (wA.drew.there g25 0 32 ∧ g25 < wA.drew.heap.size) := ⟨HTA.out, by have := HSA.out; show g25 < wA.heap.size; omega⟩
          have HBd10 : Hid (Below w10.heap.size w10 wA.drew) := HBA10.out.trans ((below_drewN wA 1).mono HBA10.out.size)
          generalize wA.drew = wd at *
          refine wpAnyH_take (i := 0) (v := ?_) (by simp only [List.getElem?_toArray, List.getElem?_cons_zero, List.getElem?_cons_succ]; rfl) (by kernel_rfl) (by kernel_rfl) (by kernel_rfl) (fun _ _ _ h => h) (Or.inl ⟨by rfl, ?_⟩) hHeld ?_
          rotate_left
          · intro w hSw
            obtain ⟨hSw0, hSw1⟩ := hSw
            go_simp
            try with_reducible rfl
          try simp only [Act.put, List.setIfInBounds_toArray, List.set_cons_zero, List.set_cons_succ]
          refine wpAnyH_take (i := 1) (v := .bool true) (by simp only [List.getElem?_toArray, List.getElem?_cons_zero, List.getElem?_cons_succ]; rfl) (by kernel_rfl) (by kernel_rfl) (by kernel_rfl) (fun _ _ _ h => h) (Or.inl ⟨by rfl, ?_⟩) hHeld ?_
          · intro w hSw
            obtain ⟨hSw0, hSw1⟩ := hSw
            go_simp
          try simp only [Act.put, List.setIfInBounds_toArray, List.set_cons_zero, List.set_cons_succ]
          refine wpAnyH_take (i := 2) (v := .bool true) (by simp only [List.getElem?_toArray, List.getElem?_cons_zero, List.getElem?_cons_succ]; rfl) (by kernel_rfl) (by kernel_rfl) (by kernel_rfl) (fun _ _ _ h => h) (Or.inl ⟨by rfl, ?_⟩) hHeld ?_
          · intro w hSw
            obtain ⟨hSw0, hSw1⟩ := hSw
            go_simp
          try simp only [Act.put, List.setIfInBounds_toArray, List.set_cons_zero, List.set_cons_succ]
          refine wpAnyH_take (i := 3) (v := ?_) (by simp only [List.getElem?_toArray, List.getElem?_cons_zero, List.getElem?_cons_succ]; rfl) (by kernel_rfl) (by kernel_rfl) (by kernel_rfl) (fun _ _ _ h => h) (Or.inl ⟨by rfl, ?_⟩) hHeld ?_
          rotate_left
          · intro w hSw
            obtain ⟨hSw0, hSw1⟩ := hSw
            go_simp
            try with_reducible rfl
          try simp only [Act.put, List.setIfInBounds_toArray, List.set_cons_zero, List.set_cons_succ]
          refine wpAnyH_take (i := 4) (v := .slice a2 n2 c2) (by simp only [List.getElem?_toArray, List.getElem?_cons_zero, List.getElem?_cons_succ]; rfl) (by kernel_rfl) (by kernel_rfl) (by kernel_rfl) (fun _ _ _ h => h) (Or.inl ⟨by rfl, ?_⟩) hHeld ?_
          · intro w hSw
            obtain ⟨hSw0, hSw1⟩ := hSw
            go_simp
          try simp only [Act.put, List.setIfInBounds_toArray, List.set_cons_zero, List.set_cons_succ]
          refine wpAnyH_take (i := 5) (v := ?_) (by simp only [List.getElem?_toArray, List.getElem?_cons_zero, List.getElem?_cons_succ]; rfl) (by kernel_rfl) (by kernel_rfl) (by kernel_rfl) (fun _ _ _ h => h) (Or.inl ⟨by rfl, ?_⟩) hHeld ?_
          rotate_left
          · intro w hSw
            obtain ⟨hSw0, hSw1⟩ := hSw
            go_simp
            try with_reducible rfl
          try simp only [Act.put, List.setIfInBounds_toArray, List.set_cons_zero, List.set_cons_succ]
          refine wpAnyH_take (i := 6) (v := ?_) (by simp only [List.getElem?_toArray, List.getElem?_cons_zero, List.getElem?_cons_succ]; rfl) (by kernel_rfl) (by kernel_rfl) (by kernel_rfl) (fun _ _ _ h => h) (Or.inl ⟨by rfl, ?_⟩) hHeld ?_
          rotate_left
          · intro w hSw
            obtain ⟨hSw0, hSw1⟩ := hSw
            go_simp
            try with_reducible rfl
          try simp only [Act.put, List.setIfInBounds_toArray, List.set_cons_zero, List.set_cons_succ]
          refine wpAnyH_take (i := 7) (v := .int .i64 (j : Int)) (by simp only [List.getElem?_toArray, List.getElem?_cons_zero, List.getElem?_cons_succ]; rfl) (by kernel_rfl) (by kernel_rfl) (by kernel_rfl) (fun _ _ _ h => h) (Or.inl ⟨by rfl, ?_⟩) hHeld ?_
          · intro w hSw
            obtain ⟨hSw0, hSw1⟩ := hSw
            go_simp
          try simp only [Act.put, List.setIfInBounds_toArray, List.set_cons_zero, List.set_cons_succ]
          refine wpAnyH_take (i := 8) (v := ?_) (by simp only [List.getElem?_toArray, List.getElem?_cons_zero, List.getElem?_cons_succ]; rfl) (by kernel_rfl) (by kernel_rfl) (by kernel_rfl) (fun _ _ _ h => h) (Or.inl ⟨by rfl, ?_⟩) hHeld ?_
          rotate_left
          · intro w hSw
            obtain ⟨hSw0, hSw1⟩ := hSw
            go_simp
            try with_reducible rfl
          try simp only [Act.put, List.setIfInBounds_toArray, List.set_cons_zero, List.set_cons_succ]
          refine wpAnyH_ready (rs := [9]) (by kernel_rfl) (by simp) ?_
          refine AllReadyH.cons (by simp only [List.getElem?_toArray, List.getElem?_cons_zero, List.getElem?_cons_succ]; rfl) (fun K hK => ?_) AllReadyH.nil
          rw [if_pos (by rfl)]
          go_simp
          refine (rlong_any n j wd (by omega) (by omega) (by omega)).mono ?_
          rintro e wq ⟨rfl, hq⟩
          have hq' : wd = wq := hq.symm
          subst hq'
          rw [← HLL.out]
          go_wp2_with fail
          refine hK.out _ _ (HKA.out _ HBd.out) (fun hHeld => ?_)
          clear hK K
          try simp only [Act.put, List.setIfInBounds_toArray, List.set_cons_zero, List.set_cons_succ]
          refine wpAnyH_take (i := 10) (v := ?_) (by simp only [List.getElem?_toArray, List.getElem?_cons_zero, List.getElem?_cons_succ]; rfl) (by kernel_rfl) (by kernel_rfl) (by kernel_rfl) (fun _ _ _ h => h) (Or.inl ⟨by rfl, ?_⟩) hHeld ?_
          rotate_left
          · intro w hSw
            obtain ⟨hSw0, hSw1⟩ := hSw
            go_simp
            try with_reducible rfl
          try simp only [Act.put, List.setIfInBounds_toArray, List.set_cons_zero, List.set_cons_succ]
          refine wpAnyH_take (i := 11) (v := ?_) (by simp only [List.getElem?_toArray, List.getElem?_cons_zero, List.getElem?_cons_succ]; rfl) (by kernel_rfl) (by kernel_rfl) (by kernel_rfl) (fun _ _ _ h => h) (Or.inl ⟨by rfl, ?_⟩) hHeld ?_
          rotate_left
          · intro w hSw
            obtain ⟨hSw0, hSw1⟩ := hSw
            go_simp
            try with_reducible rfl
          try simp only [Act.put, List.setIfInBounds_toArray, List.set_cons_zero, List.set_cons_succ]
          refine wpAnyH_done (by kernel_rfl) (NoPanic.normal ?_) _
          clear hHeld
          go_upto_region 42 with fail
          have HKB : Hid (∀ wx, Below w2.heap.size w2 wx → wx.rangeAt (w.heap.size + 1) 0 (cellsB m) ∧ wx.cell? ⟨w.heap.size + 1 + 1, 0, none⟩ = some (.int .i64 (j : Int)) ∧ wx.cell? ⟨w.heap.size + 1 + 1, 1, none⟩ = some (.slice a1 67 c1) ∧ wx.cell? ⟨w.heap.size + 1 + 1, 2, none⟩ = some (.slice a2 n2 c2)) := fun wx hx => ⟨(HALL.out _ hx).2.2.2.2.2.2.1, (HALL.out _ hx).2.2.2.2.2.2.2.1 0 _ rfl, (HALL.out _ hx).2.2.2.2.2.2.2.1 1 _ rfl, (HALL.out _ hx).2.2.2.2.2.2.2.1 2 _ rfl⟩
          refine wp_region_noPanic ?_
          refine wp_region_held_drew (S := fun wx => wx.rangeAt (w.heap.size + 1) 0 (cellsB m) ∧ wx.cell? ⟨w.heap.size + 1 + 1, 0, none⟩ = some (.int .i64 (j : Int)) ∧ wx.cell? ⟨w.heap.size + 1 + 1, 1, none⟩ = some (.slice a1 67 c1) ∧ wx.cell? ⟨w.heap.size + 1 + 1, 2, none⟩ = some (.slice a2 n2 c2)) (by kernel_rfl) (HKB.out _ (HBd.out.trans ((below_drewN wd 1).mono HBd.out.size))) (fun hHeld => ?_)
          try simp only [Act.put, List.setIfInBounds_toArray, List.set_cons_zero, List.set_cons_succ]
          have HBe : Hid (Below w2.heap.size w2 wd.drew) := HBd.out.trans ((below_drewN wd 1).mono HBd.out.size)
          have HTe : Hid (wd.drew.there g25 0 32 ∧ g25 < wd.drew.heap.size) := HTd.out
          generalize wd.drew = we at *
          refine wpAnyH_take (i := 0) (v := .agg (cellsB m).toArray) (by simp only [List.getElem?_toArray, List.getElem?_cons_zero, List.getElem?_cons_succ]; rfl) (by kernel_rfl) (by kernel_rfl) (by kernel_rfl) (fun _ _ _ h => h)
            (yieldsIf_load_mid (by rfl) _ _ rfl _ _ rfl _ _ (fun w hw => hw.1) Tryz.underlying23 rfl (by rw [cellsB_length, hm]; exact Tryz.sizeDg)) hHeld ?_
          try simp only [Act.put, List.setIfInBounds_toArray, List.set_cons_zero, List.set_cons_succ]
          refine wpAnyH_take (i := 1) (v := ?_) (by simp only [List.getElem?_toArray, List.getElem?_cons_zero, List.getElem?_cons_succ]; rfl) (by kernel_rfl) (by kernel_rfl) (by kernel_rfl) (fun _ _ _ h => h) (Or.inl ⟨by rfl, ?_⟩) hHeld ?_
          rotate_left
          · intro w hSw
            obtain ⟨hSw0, hSw1, hSw2, hSw3⟩ := hSw
            go_simp
            try with_reducible rfl
          try simp only [Act.put, List.setIfInBounds_toArray, List.set_cons_zero, List.set_cons_succ]
          refine wpAnyH_take (i := 2) (v := .slice a1 67 c1) (by simp only [List.getElem?_toArray, List.getElem?_cons_zero, List.getElem?_cons_succ]; rfl) (by kernel_rfl) (by kernel_rfl) (by kernel_rfl) (fun _ _ _ h => h) (Or.inl ⟨by rfl, ?_⟩) hHeld ?_
          · intro w hSw
            obtain ⟨hSw0, hSw1, hSw2, hSw3⟩ := hSw
            go_simp
          try simp only [Act.put, List.setIfInBounds_toArray, List.set_cons_zero, List.set_cons_succ]
          refine wpAnyH_take (i := 4) (v := ?_) (by simp only [List.getElem?_toArray, List.getElem?_cons_zero, List.getElem?_cons_succ]; rfl) (by kernel_rfl) (by kernel_rfl) (by kernel_rfl) (fun _ _ _ h => h) (Or.inl ⟨by rfl, ?_⟩) hHeld ?_
          rotate_left
          · intro w hSw
            obtain ⟨hSw0, hSw1, hSw2, hSw3⟩ := hSw
            go_simp
            try with_reducible rfl
          try simp only [Act.put, List.setIfInBounds_toArray, List.set_cons_zero, List.set_cons_succ]
          refine wpAnyH_take (i := 5) (v := .int .i64 (j : Int)) (by simp only [List.getElem?_toArray, List.getElem?_cons_zero, List.getElem?_cons_succ]; rfl) (by kernel_rfl) (by kernel_rfl) (by kernel_rfl) (fun _ _ _ h => h) (Or.inl ⟨by rfl, ?_⟩) hHeld ?_
          · intro w hSw
            obtain ⟨hSw0, hSw1, hSw2, hSw3⟩ := hSw
            go_simp
          try simp only [Act.put, List.setIfInBounds_toArray, List.set_cons_zero, List.set_cons_succ]
          refine wpAnyH_take (i := 6) (v := ?_) (by simp only [List.getElem?_toArray, List.getElem?_cons_zero, List.getElem?_cons_succ]; rfl) (by kernel_rfl) (by kernel_rfl) (by kernel_rfl) (fun _ _ _ h => h) (Or.inl ⟨by rfl, ?_⟩) hHeld ?_
          rotate_left
          · intro w hSw
            obtain ⟨hSw0, hSw1, hSw2, hSw3⟩ := hSw
            go_simp
            try with_reducible rfl
          try simp only [Act.put, List.setIfInBounds_toArray, List.set_cons_zero, List.set_cons_succ]
          refine wpAnyH_take (i := 7) (v := ?_) (by simp only [List.getElem?_toArray, List.getElem?_cons_zero, List.getElem?_cons_succ]; rfl) (by kernel_rfl) (by kernel_rfl) (by kernel_rfl) (fun _ _ _ h => h) (Or.inl ⟨by rfl, ?_⟩) hHeld ?_
          rotate_left
          · intro w hSw
            obtain ⟨hSw0, hSw1, hSw2, hSw3⟩ := hSw
            go_simp
            try with_reducible rfl
          try simp only [Act.put, List.setIfInBounds_toArray, List.set_cons_zero, List.set_cons_succ]
          refine wpAnyH_take (i := 8) (v := .slice a2 n2 c2) (by simp only [List.getElem?_toArray, List.getElem?_cons_zero, List.getElem?_cons_succ]; rfl) (by kernel_rfl) (by kernel_rfl) (by kernel_rfl) (fun _ _ _ h => h) (Or.inl ⟨by rfl, ?_⟩) hHeld ?_
          · intro w hSw
            obtain ⟨hSw0, hSw1, hSw2, hSw3⟩ := hSw
            go_simp
          try simp only [Act.put, List.setIfInBounds_toArray, List.set_cons_zero, List.set_cons_succ]
          refine wpAnyH_ready (rs := [3]) (by kernel_rfl) (by simp) ?_
          refine AllReadyH.cons (by simp only [List.getElem?_toArray, List.getElem?_cons_zero, List.getElem?_cons_succ]; rfl) (fun K hK => ?_) AllReadyH.nil
          rw [if_pos (by rfl)]
          go_simp
          refine (rwotsKey_any m a1 c1 sig we hm (HALL.out _ HBe.out).2.2.2.1).mono ?_
          rintro e wf ⟨rfl, hbf⟩
          have HBf : Hid (Below w2.heap.size w2 wf) := HBe.out.trans (hbf.mono HBe.out.size)
          have HTf : Hid (wf.there g25 0 32 ∧ g25 < wf.heap.size) := ⟨there_below HTe.out.1 hbf HTe.out.2, by have := hbf.size; have := HTe.out.2; omega⟩
          have lKV := wotsKeyL_length m sig
          clear hbf HBe HTe
          generalize wotsKeyL m sig = KV at *
          go_wp2_with fail
          refine hK.out _ _ (HKB.out _ HBf.out) (fun hHeld => ?_)
          clear hK K
          try simp only [Act.put, List.setIfInBounds_toArray, List.set_cons_zero, List.set_cons_succ]
          refine wpAnyH_ready (rs := [9]) (by kernel_rfl) (by simp) ?_
          refine AllReadyH.cons (by simp only [List.getElem?_toArray, List.getElem?_cons_zero, List.getElem?_cons_succ]; rfl) (fun K hK => ?_) AllReadyH.nil
          rw [if_pos (by rfl)]
          go_simp
          refine (rfold_any n KV j n2 c2 a2 path wf lKV (HALL.out _ HBf.out).2.2.2.2.1 HLL.out hc2 hp0 (by omega) HJN.out).mono ?_
          rintro e wg ⟨rfl, hbg2⟩
          have HBg : Hid (Below w2.heap.size w2 wg) := HBf.out.trans (hbg2.mono HBf.out.size)
          have HTg : Hid (wg.there g25 0 32) := there_below HTf.out.1 hbg2 HTf.out.2
          have lF : (foldT KV j n path).length = 32 := foldT_length lKV j n path
          clear hbg2 HBf HTf
          generalize foldT KV j n path = FV at *
          go_wp2_with fail
          refine hK.out _ _ (HKB.out _ HBg.out) (fun hHeld => ?_)
          clear hK K
          try simp only [Act.put, List.setIfInBounds_toArray, List.set_cons_zero, List.set_cons_succ]
          refine wpAnyH_ready (rs := [10]) (by kernel_rfl) (by simp) ?_
          refine AllReadyH.cons (by simp only [List.getElem?_toArray, List.getElem?_cons_zero, List.getElem?_cons_succ]; rfl) (fun K hK => ?_) AllReadyH.nil
          rw [if_pos (by rfl)]
          refine wp_store_mid _ _ _ rfl g25 0 (cellsB FV).toArray rfl rfl (by rw [cellsB_size, lF]; exact HTg.out) (by rw [cellsB_size, lF]; exact Tryz.sizeDg) (all_oneCell_toArray (cellsB_one _)) ?_
          have HBh : Hid (Below w2.heap.size w2 (wg.setCells g25 0 (cellsB FV))) := below_setCells _ HNA.out _ _ _ HBg.out
          have HXh : Hid ((wg.setCells g25 0 (cellsB FV)).rangeAt g25 0 (cellsB FV)) := dat_stored HTg.out lF
          refine hK.out _ _ (HKB.out _ HBh.out) (fun hHeld => ?_)
          generalize wg.setCells g25 0 (cellsB FV) = wh at *
          clear hK K
          try simp only [Act.put, List.setIfInBounds_toArray, List.set_cons_zero, List.set_cons_succ]
          refine wpAnyH_done (by kernel_rfl) (NoPanic.normal ?_) _
          clear hHeld
          have HMt : Hid (wh.rangeAt (w.heap.size + 1) 0 (cellsB m)) := (HALL.out wh HBh.out).2.2.2.2.2.2.1
          have HSt : Hid (wh.rangeAt (w.heap.size + 1 + 1) 0 [.int .i64 (j : Int), .slice a1 67 c1, .slice a2 n2 c2]) := (HALL.out wh HBh.out).2.2.2.2.2.2.2.1
          go_wp2_with (first
            | (refine wpList_load_mid (by rfl) 23 (.tmp 8) (by rfl) (w.heap.size + 1) 0 (by rfl) (cellsB m) _ HMt.out Tryz.underlying23 (by rfl) (by rw [cellsB_length, hm]; exact Tryz.sizeDg) ?_)
            | (refine wpList_load_mid (by rfl) 26 (.tmp 9) (by rfl) (w.heap.size + 1 + 1) 0 (by rfl) [.int .i64 (j : Int), .slice a1 67 c1, .slice a2 n2 c2] _ HSt.out Tryz.underlying26 (by rfl) Tryz.sizeSg ?_))
          refine (HREC.out wh HBh.out).mono ?_
          rintro e wt1 ⟨rfl, hbt1⟩
          have HBt1 : Hid (Below w2.heap.size w2 wt1) := HBh.out.trans (hbt1.mono HBh.out.size)
          have HXt1 : Hid (wt1.rangeAt g25 0 (cellsB FV)) := range_below HXh.out hbt1 (by have h := cell_block (DAt.cell HXh.out 0 (by omega)); omega)
          have HNt : Hid (g25 < wt1.heap.size) := cell_block (DAt.cell HXt1.out 0 (by omega))
          clear hbt1 HMt HSt HREC
          obtain ⟨g26, hg26⟩ : ∃ g26, wt1.heap.size = g26 := ⟨_, rfl⟩
          obtain ⟨wt2, hwt2⟩ : ∃ wt2, wt1.alloc (.cells (cellsB zD).toArray 23) = wt2 := ⟨_, rfl⟩
          have HTt : Hid (wt2.there g26 0 32) := by rw [← hwt2]; exact alloc_thereAt _ _ _ 32 _ hg26 zD_size.symm
          have HBt3 : Hid (Below w2.heap.size w2 (wt2.setCells g26 0 (cellsB FV))) := below_setCells _ (by rw [← hg26]; exact HBt1.out.size) _ _ _ (by rw [← hwt2]; exact HBt1.out.alloc HBt1.out.size _)
          have HXt3 : Hid (DAt (wt2.setCells g26 0 (cellsB FV)) g26 0 FV) := dat_stored HTt.out lF
          have HYt3 : Hid (DAt (wt2.setCells g26 0 (cellsB FV)) g25 0 FV) := World.rangeAt_setCells_apart (by rw [← hwt2]; exact World.rangeAt_alloc HXt1.out _) _ _ _ (.inl (by have := HNt.out; omega))
          go_wp2_with (first
            | (refine wpList_allocE (by rfl) 23 (by rfl) (cellsB zD).toArray Tryz.zeroDg g26 hg26 wt2 hwt2 ?_)
            | (refine wpList_store_mid (by rfl) 23 (.tmp 26) (.tmp 186) (by rfl) g26 0 (cellsB FV).toArray (by rfl) (by rfl) (by rw [cellsB_size, lF]; exact HTt.out) (by rw [cellsB_size, lF]; exact Tryz.sizeDg) (all_oneCell_toArray (cellsB_one _)) ?_))
          generalize wt2.setCells g26 0 (cellsB FV) = wt4 at *
          clear hwt2 HTt hg26 HXt1 HBt1
          have HBt4 : Hid (Below w2.heap.size w2 wt4) := HBt3.out
          refine (error_nil 0 wt4).mono ?_
          rintro r wt5 ⟨rfl, hbt5⟩
          rw [show decide ((0 : Int) = 0) = true from rfl]
          have HBt5 : Hid (Below w2.heap.size w2 wt5) := HBt4.out.trans (hbt5.mono HBt4.out.size)
          have HXt5 : Hid (wt5.rangeAt g26 0 (cellsB FV)) := HXt3.out.below hbt5 (cell_block (HXt3.out.cell 0 (by omega)))
          have HYt5 : Hid (wt5.rangeAt g25 0 (cellsB FV)) := HYt3.out.below hbt5 (cell_block (HYt3.out.cell 0 (by omega)))
          clear hbt5 HXt3 HYt3 HBt3 HBt4
          go_wp2_with (first
            | (refine wpList_load_midG (by rfl) 23 (.tmp 26) (by rfl) g26 0 (by rfl) (cellsB FV) _ HXt5.out Tryz.underlying23 (by rfl) (by rw [cellsB_length, lF]; exact Tryz.sizeDg) ?_)
            | (refine wpList_load_midG (by rfl) 23 (.tmp 25) (by rfl) g25 0 (by rfl) (cellsB FV) _ HYt5.out Tryz.underlying23 (by rfl) (by rw [cellsB_length, lF]; exact Tryz.sizeDg) ?_)
            | (refine wpList_eqD (.tmp 193) (.tmp 194) (by rfl) (by rfl) FV FV lF lF (by rfl) (by rfl) true (decide_eq_true rfl) ?_))
          go_ret
          exact ⟨rfl, (HALL.out _ HBt5.out).2.2.2.2.2.2.2.2⟩
        · have HREC := HRZ.out 3 (recE_path hj hL) (by omega)
          clear HRZ HRO
          have HREC : Hid _ := HREC
          go_upto_region 37 with fail
          go_upto_region 39 with fail
          refine wp_region_noPanic ?_
          refine wp_region_held_drew (S := fun wx => wx.cell? ⟨w.heap.size + 1 + 1, 2, none⟩ = some (.slice a2 n2 c2) ∧ wx.cell? ⟨w.heap.size + 1 + 1, 0, none⟩ = some (.int .i64 (j : Int))) (by kernel_rfl) (HKA.out _ (HBA.out.trans ((below_drewN wA 1).mono HBA.out.size))) (fun hHeld => ?_)
          try simp only [Act.put, List.setIfInBounds_toArray, List.set_cons_zero, List.set_cons_succ]
          have HBd : Hid (Below w2.heap.size w2 wA.drew) := HBA.out.trans ((below_drewN wA 1).mono HBA.out.size)
          have HXd : Hid (wA.drew.rangeAt g25 0 (cellsB Z)) := (World.rangeAt_drew _ _ _ _).2 HXA.out
          have HTd : Hid (wA.drew.there g25 0 32 ∧ g25 < wA.drew.heap.size) := ⟨HTA.out, by have := HSA.out; show g25 < wA.heap.size; omega⟩
          have HBd10 : Hid (Below w10.heap.size w10 wA.drew) := HBA10.out.trans ((below_drewN wA 1).mono HBA10.out.size)
          generalize wA.drew = wd at *
          refine wpAnyH_take (i := 0) (v := ?_) (by simp only [List.getElem?_toArray, List.getElem?_cons_zero, List.getElem?_cons_succ]; rfl) (by kernel_rfl) (by kernel_rfl) (by kernel_rfl) (fun _ _ _ h => h) (Or.inl ⟨by rfl, ?_⟩) hHeld ?_
          rotate_left
          · intro w hSw
            obtain ⟨hSw0, hSw1⟩ := hSw
            go_simp
            try with_reducible rfl
          try simp only [Act.put, List.setIfInBounds_toArray, List.set_cons_zero, List.set_cons_succ]
          refine wpAnyH_take (i := 1) (v := .bool true) (by simp only [List.getElem?_toArray, List.getElem?_cons_zero, List.getElem?_cons_succ]; rfl) (by kernel_rfl) (by kernel_rfl) (by kernel_rfl) (fun _ _ _ h => h) (Or.inl ⟨by rfl, ?_⟩) hHeld ?_
          · intro w hSw
            obtain ⟨hSw0, hSw1⟩ := hSw
            go_simp
          try simp only [Act.put, List.setIfInBounds_toArray, List.set_cons_zero, List.set_cons_succ]
          refine wpAnyH_take (i := 2) (v := .bool true) (by simp only [List.getElem?_toArray, List.getElem?_cons_zero, List.getElem?_cons_succ]; rfl) (by kernel_rfl) (by kernel_rfl) (by kernel_rfl) (fun _ _ _ h => h) (Or.inl ⟨by rfl, ?_⟩) hHeld ?_
          · intro w hSw
            obtain ⟨hSw0, hSw1⟩ := hSw
            go_simp
          try simp only [Act.put, List.setIfInBounds_toArray, List.set_cons_zero, List.set_cons_succ]
          refine wpAnyH_take (i := 3) (v := ?_) (by simp only [List.getElem?_toArray, List.getElem?_cons_zero, List.getElem?_cons_succ]; rfl) (by kernel_rfl) (by kernel_rfl) (by kernel_rfl) (fun _ _ _ h => h) (Or.inl ⟨by rfl, ?_⟩) hHeld ?_
          rotate_left
          · intro w hSw
            obtain ⟨hSw0, hSw1⟩ := hSw
            go_simp
            try with_reducible rfl
          try simp only [Act.put, List.setIfInBounds_toArray, List.set_cons_zero, List.set_cons_succ]
          refine wpAnyH_take (i := 4) (v := .slice a2 n2 c2) (by simp only [List.getElem?_toArray, List.getElem?_cons_zero, List.getElem?_cons_succ]; rfl) (by kernel_rfl) (by kernel_rfl) (by kernel_rfl) (fun _ _ _ h => h) (Or.inl ⟨by rfl, ?_⟩) hHeld ?_
          · intro w hSw
            obtain ⟨hSw0, hSw1⟩ := hSw
            go_simp
          try simp only [Act.put, List.setIfInBounds_toArray, List.set_cons_zero, List.set_cons_succ]
          refine wpAnyH_take (i := 5) (v := ?_) (by simp only [List.getElem?_toArray, List.getElem?_cons_zero, List.getElem?_cons_succ]; rfl) (by kernel_rfl) (by kernel_rfl) (by kernel_rfl) (fun _ _ _ h => h) (Or.inl ⟨by rfl, ?_⟩) hHeld ?_
          rotate_left
          · intro w hSw
            obtain ⟨hSw0, hSw1⟩ := hSw
            go_simp
            try with_reducible rfl
          try simp only [Act.put, List.setIfInBounds_toArray, List.set_cons_zero, List.set_cons_succ]
          refine wpAnyH_take (i := 6) (v := ?_) (by simp only [List.getElem?_toArray, List.getElem?_cons_zero, List.getElem?_cons_succ]; rfl) (by kernel_rfl) (by kernel_rfl) (by kernel_rfl) (fun _ _ _ h => h) (Or.inl ⟨by rfl, ?_⟩) hHeld ?_
          rotate_left
          · intro w hSw
            obtain ⟨hSw0, hSw1⟩ := hSw
            go_simp
            try with_reducible rfl
          try simp only [Act.put, List.setIfInBounds_toArray, List.set_cons_zero, List.set_cons_succ]
          refine wpAnyH_take (i := 7) (v := .int .i64 (j : Int)) (by simp only [List.getElem?_toArray, List.getElem?_cons_zero, List.getElem?_cons_succ]; rfl) (by kernel_rfl) (by kernel_rfl) (by kernel_rfl) (fun _ _ _ h => h) (Or.inl ⟨by rfl, ?_⟩) hHeld ?_
          · intro w hSw
            obtain ⟨hSw0, hSw1⟩ := hSw
            go_simp
          try simp only [Act.put, List.setIfInBounds_toArray, List.set_cons_zero, List.set_cons_succ]
          refine wpAnyH_take (i := 8) (v := ?_) (by simp only [List.getElem?_toArray, List.getElem?_cons_zero, List.getElem?_cons_succ]; rfl) (by kernel_rfl) (by kernel_rfl) (by kernel_rfl) (fun _ _ _ h => h) (Or.inl ⟨by rfl, ?_⟩) hHeld ?_
          rotate_left
          · intro w hSw
            obtain ⟨hSw0, hSw1⟩ := hSw
            go_simp
            try with_reducible rfl
          try simp only [Act.put, List.setIfInBounds_toArray, List.set_cons_zero, List.set_cons_succ]
          refine wpAnyH_ready (rs := [9]) (by kernel_rfl) (by simp) ?_
          refine AllReadyH.cons (by simp only [List.getElem?_toArray, List.getElem?_cons_zero, List.getElem?_cons_succ]; rfl) (fun K hK => ?_) AllReadyH.nil
          rw [if_pos (by rfl)]
          go_simp
          refine (rlong_any n j wd (by omega) (by omega) (by omega)).mono ?_
          rintro e wq ⟨rfl, hq⟩
          have hq' : wd = wq := hq.symm
          subst hq'
          generalize longT j n = L at *
          have qL : ((n2 : Int) == (L : Int)) = false := by simp; omega
          go_wp2_with fail
          refine hK.out _ _ (HKA.out _ HBd.out) (fun hHeld => ?_)
          clear hK K
          try simp only [Act.put, List.setIfInBounds_toArray, List.set_cons_zero, List.set_cons_succ]
          refine wpAnyH_take (i := 10) (v := ?_) (by simp only [List.getElem?_toArray, List.getElem?_cons_zero, List.getElem?_cons_succ]; rfl) (by kernel_rfl) (by kernel_rfl) (by kernel_rfl) (fun _ _ _ h => h) (Or.inl ⟨by rfl, ?_⟩) hHeld ?_
          rotate_left
          · intro w hSw
            obtain ⟨hSw0, hSw1⟩ := hSw
            go_simp
            try with_reducible rfl
          try simp only [Act.put, List.setIfInBounds_toArray, List.set_cons_zero, List.set_cons_succ]
          refine wpAnyH_take (i := 11) (v := ?_) (by simp only [List.getElem?_toArray, List.getElem?_cons_zero, List.getElem?_cons_succ]; rfl) (by kernel_rfl) (by kernel_rfl) (by kernel_rfl) (fun _ _ _ h => h) (Or.inl ⟨by rfl, ?_⟩) hHeld ?_
          rotate_left
          · intro w hSw
            obtain ⟨hSw0, hSw1⟩ := hSw
            go_simp
            try with_reducible rfl
          try simp only [Act.put, List.setIfInBounds_toArray, List.set_cons_zero, List.set_cons_succ]
          refine wpAnyH_done (by kernel_rfl) (NoPanic.normal ?_) _
          clear hHeld
          have HMt : Hid (wd.rangeAt (w.heap.size + 1) 0 (cellsB m)) := (HALL.out wd HBd.out).2.2.2.2.2.2.1
          have HSt : Hid (wd.rangeAt (w.heap.size + 1 + 1) 0 [.int .i64 (j : Int), .slice a1 67 c1, .slice a2 n2 c2]) := (HALL.out wd HBd.out).2.2.2.2.2.2.2.1
          go_wp2_with (first
            | (refine wpList_load_mid (by rfl) 23 (.tmp 8) (by rfl) (w.heap.size + 1) 0 (by rfl) (cellsB m) _ HMt.out Tryz.underlying23 (by rfl) (by rw [cellsB_length, hm]; exact Tryz.sizeDg) ?_)
            | (refine wpList_load_mid (by rfl) 26 (.tmp 9) (by rfl) (w.heap.size + 1 + 1) 0 (by rfl) [.int .i64 (j : Int), .slice a1 67 c1, .slice a2 n2 c2] _ HSt.out Tryz.underlying26 (by rfl) Tryz.sizeSg ?_))
          refine (HREC.out wd HBd.out).mono ?_
          rintro e wt1 ⟨rfl, hbt1⟩
          have HBt1 : Hid (Below w2.heap.size w2 wt1) := HBd.out.trans (hbt1.mono HBd.out.size)
          have HXt1 : Hid (wt1.rangeAt g25 0 (cellsB Z)) := range_below HXd.out hbt1 (by have h := cell_block (DAt.cell HXd.out 0 (by omega)); omega)
          have HNt : Hid (g25 < wt1.heap.size) := cell_block (DAt.cell HXt1.out 0 (by omega))
          clear hbt1 HMt HSt HREC
          obtain ⟨g26, hg26⟩ : ∃ g26, wt1.heap.size = g26 := ⟨_, rfl⟩
          obtain ⟨wt2, hwt2⟩ : ∃ wt2, wt1.alloc (.cells (cellsB zD).toArray 23) = wt2 := ⟨_, rfl⟩
          have HTt : Hid (wt2.there g26 0 32) := by rw [← hwt2]; exact alloc_thereAt _ _ _ 32 _ hg26 zD_size.symm
          have HBt3 : Hid (Below w2.heap.size w2 (wt2.setCells g26 0 (cellsB Z))) := below_setCells _ (by rw [← hg26]; exact HBt1.out.size) _ _ _ (by rw [← hwt2]; exact HBt1.out.alloc HBt1.out.size _)
          have HXt3 : Hid (DAt (wt2.setCells g26 0 (cellsB Z)) g26 0 Z) := dat_stored HTt.out lZ'
          have HYt3 : Hid (DAt (wt2.setCells g26 0 (cellsB Z)) g25 0 Z) := World.rangeAt_setCells_apart (by rw [← hwt2]; exact World.rangeAt_alloc HXt1.out _) _ _ _ (.inl (by have := HNt.out; omega))
          go_wp2_with (first
            | (refine wpList_allocE (by rfl) 23 (by rfl) (cellsB zD).toArray Tryz.zeroDg g26 hg26 wt2 hwt2 ?_)
            | (refine wpList_store_mid (by rfl) 23 (.tmp 26) (.tmp 186) (by rfl) g26 0 (cellsB Z).toArray (by rfl) (by rfl) (by rw [cellsB_size, lZ']; exact HTt.out) (by rw [cellsB_size, lZ']; exact Tryz.sizeDg) (all_oneCell_toArray (cellsB_one _)) ?_))
          generalize wt2.setCells g26 0 (cellsB Z) = wt4 at *
          clear hwt2 HTt hg26 HXt1 HBt1
          have HBt4 : Hid (Below w2.heap.size w2 wt4) := HBt3.out
          refine (error_errno 3 3 wt4 (HALL.out wt4 HBt4.out).2.1).mono ?_
          rintro r wt5 ⟨rfl, hbt5⟩
          rw [show decide ((3 : Int) = 3) = true from rfl]
          have HBt5 : Hid (Below w2.heap.size w2 wt5) := HBt4.out.trans (hbt5.mono HBt4.out.size)
          have HXt5 : Hid (wt5.rangeAt g26 0 (cellsB Z)) := HXt3.out.below hbt5 (cell_block (HXt3.out.cell 0 (by omega)))
          have HYt5 : Hid (wt5.rangeAt g25 0 (cellsB Z)) := HYt3.out.below hbt5 (cell_block (HYt3.out.cell 0 (by omega)))
          clear hbt5 HXt3 HYt3 HBt3 HBt4
          go_wp2_with (first
            | (refine wpList_load_midG (by rfl) 23 (.tmp 26) (by rfl) g26 0 (by rfl) (cellsB Z) _ HXt5.out Tryz.underlying23 (by rfl) (by rw [cellsB_length, lZ']; exact Tryz.sizeDg) ?_)
            | (refine wpList_load_midG (by rfl) 23 (.tmp 25) (by rfl) g25 0 (by rfl) (cellsB Z) _ HYt5.out Tryz.underlying23 (by rfl) (by rw [cellsB_length, lZ']; exact Tryz.sizeDg) ?_)
            | (refine wpList_eqD (.tmp 193) (.tmp 194) (by rfl) (by rfl) Z Z lZ' lZ' (by rfl) (by rfl) true (decide_eq_true rfl) ?_))
          go_ret
          exact ⟨rfl, (HALL.out _ HBt5.out).2.2.2.2.2.2.2.2⟩
      · have HREC := HRZ.out 3 (recE_sig h67) (by omega)
        clear HRZ HRO
        have HREC : Hid _ := HREC
        have q67 : ((n1 : Int) == 67) = false := by simp; omega
        go_upto_region 37 with fail
        go_upto_region 39 with fail
        refine wp_region_noPanic ?_
        refine wp_region_held_drew (S := fun _ => True) (by kernel_rfl) True.intro (fun hHeld => ?_)
        try simp only [Act.put, List.setIfInBounds_toArray, List.set_cons_zero, List.set_cons_succ]
        have HBd : Hid (Below w2.heap.size w2 wA.drew) := HBA.out.trans ((below_drewN wA 1).mono HBA.out.size)
        have HXd : Hid (wA.drew.rangeAt g25 0 (cellsB Z)) := (World.rangeAt_drew _ _ _ _).2 HXA.out
        generalize wA.drew = wd at *
        refine wpAnyH_take (i := 0) (v := ?_) (by simp only [List.getElem?_toArray, List.getElem?_cons_zero, List.getElem?_cons_succ]; rfl) (by kernel_rfl) (by kernel_rfl) (by kernel_rfl) (fun _ _ _ h => h) (Or.inl ⟨by rfl, ?_⟩) hHeld ?_
        rotate_left
        · intro w hSw
          go_simp
          try with_reducible rfl
        try simp only [Act.put, List.setIfInBounds_toArray, List.set_cons_zero, List.set_cons_succ]
        refine wpAnyH_take (i := 1) (v := ?_) (by simp only [List.getElem?_toArray, List.getElem?_cons_zero, List.getElem?_cons_succ]; rfl) (by kernel_rfl) (by kernel_rfl) (by kernel_rfl) (fun _ _ _ h => h) (Or.inl ⟨by rfl, ?_⟩) hHeld ?_
        rotate_left
        · intro w hSw
          go_simp
          try with_reducible rfl
        try simp only [Act.put, List.setIfInBounds_toArray, List.set_cons_zero, List.set_cons_succ]
        refine wpAnyH_take (i := 2) (v := ?_) (by simp only [List.getElem?_toArray, List.getElem?_cons_zero, List.getElem?_cons_succ]; rfl) (by kernel_rfl) (by kernel_rfl) (by kernel_rfl) (fun _ _ _ h => h) (Or.inl ⟨by rfl, ?_⟩) hHeld ?_
        rotate_left
        · intro w hSw
          go_simp
          try with_reducible rfl
        try simp only [Act.put, List.setIfInBounds_toArray, List.set_cons_zero, List.set_cons_succ]
        refine wpAnyH_take (i := 3) (v := undef) (by simp only [List.getElem?_toArray, List.getElem?_cons_zero, List.getElem?_cons_succ]; rfl) (by kernel_rfl) (by kernel_rfl) (by kernel_rfl) (fun _ _ _ h => h) (Or.inr ⟨by rfl, rfl⟩) hHeld ?_
        try simp only [Act.put, List.setIfInBounds_toArray, List.set_cons_zero, List.set_cons_succ]
        refine wpAnyH_take (i := 4) (v := undef) (by simp only [List.getElem?_toArray, List.getElem?_cons_zero, List.getElem?_cons_succ]; rfl) (by kernel_rfl) (by kernel_rfl) (by kernel_rfl) (fun _ _ _ h => h) (Or.inr ⟨by rfl, rfl⟩) hHeld ?_
        try simp only [Act.put, List.setIfInBounds_toArray, List.set_cons_zero, List.set_cons_succ]
        refine wpAnyH_take (i := 5) (v := undef) (by simp only [List.getElem?_toArray, List.getElem?_cons_zero, List.getElem?_cons_succ]; rfl) (by kernel_rfl) (by kernel_rfl) (by kernel_rfl) (fun _ _ _ h => h) (Or.inr ⟨by rfl, rfl⟩) hHeld ?_
        try simp only [Act.put, List.setIfInBounds_toArray, List.set_cons_zero, List.set_cons_succ]
        refine wpAnyH_take (i := 6) (v := undef) (by simp only [List.getElem?_toArray, List.getElem?_cons_zero, List.getElem?_cons_succ]; rfl) (by kernel_rfl) (by kernel_rfl) (by kernel_rfl) (fun _ _ _ h => h) (Or.inr ⟨by rfl, rfl⟩) hHeld ?_
        try simp only [Act.put, List.setIfInBounds_toArray, List.set_cons_zero, List.set_cons_succ]
        refine wpAnyH_take (i := 7) (v := undef) (by simp only [List.getElem?_toArray, List.getElem?_cons_zero, List.getElem?_cons_succ]; rfl) (by kernel_rfl) (by kernel_rfl) (by kernel_rfl) (fun _ _ _ h => h) (Or.inr ⟨by rfl, rfl⟩) hHeld ?_
        try simp only [Act.put, List.setIfInBounds_toArray, List.set_cons_zero, List.set_cons_succ]
        refine wpAnyH_take (i := 8) (v := undef) (by simp only [List.getElem?_toArray, List.getElem?_cons_zero, List.getElem?_cons_succ]; rfl) (by kernel_rfl) (by kernel_rfl) (by kernel_rfl) (fun _ _ _ h => h) (Or.inr ⟨by rfl, rfl⟩) hHeld ?_
        try simp only [Act.put, List.setIfInBounds_toArray, List.set_cons_zero, List.set_cons_succ]
        refine wpAnyH_take (i := 9) (v := undef) (by simp only [List.getElem?_toArray, List.getElem?_cons_zero, List.getElem?_cons_succ]; rfl) (by kernel_rfl) (by kernel_rfl) (by kernel_rfl) (fun _ _ _ h => h) (Or.inr ⟨by rfl, rfl⟩) hHeld ?_
        try simp only [Act.put, List.setIfInBounds_toArray, List.set_cons_zero, List.set_cons_succ]
        refine wpAnyH_take (i := 10) (v := undef) (by simp only [List.getElem?_toArray, List.getElem?_cons_zero, List.getElem?_cons_succ]; rfl) (by kernel_rfl) (by kernel_rfl) (by kernel_rfl) (fun _ _ _ h => h) (Or.inr ⟨by rfl, rfl⟩) hHeld ?_
        try simp only [Act.put, List.setIfInBounds_toArray, List.set_cons_zero, List.set_cons_succ]
        refine wpAnyH_take (i := 11) (v := ?_) (by simp only [List.getElem?_toArray, List.getElem?_cons_zero, List.getElem?_cons_succ]; rfl) (by kernel_rfl) (by kernel_rfl) (by kernel_rfl) (fun _ _ _ h => h) (Or.inl ⟨by rfl, ?_⟩) hHeld ?_
        rotate_left
        · intro w hSw
          go_simp
          try with_reducible rfl
        try simp only [Act.put, List.setIfInBounds_toArray, List.set_cons_zero, List.set_cons_succ]
        refine wpAnyH_done (by kernel_rfl) (NoPanic.normal ?_) _
        clear hHeld
        have HMt : Hid (wd.rangeAt (w.heap.size + 1) 0 (cellsB m)) := (HALL.out wd HBd.out).2.2.2.2.2.2.1
        have HSt : Hid (wd.rangeAt (w.heap.size + 1 + 1) 0 [.int .i64 At, .slice a1 n1 c1, .slice a2 n2 c2]) := (HALL.out wd HBd.out).2.2.2.2.2.2.2.1
        go_wp2_with (first
          | (refine wpList_load_mid (by rfl) 23 (.tmp 8) (by rfl) (w.heap.size + 1) 0 (by rfl) (cellsB m) _ HMt.out Tryz.underlying23 (by rfl) (by rw [cellsB_length, hm]; exact Tryz.sizeDg) ?_)
          | (refine wpList_load_mid (by rfl) 26 (.tmp 9) (by rfl) (w.heap.size + 1 + 1) 0 (by rfl) [.int .i64 At, .slice a1 n1 c1, .slice a2 n2 c2] _ HSt.out Tryz.underlying26 (by rfl) Tryz.sizeSg ?_))
        refine (HREC.out wd HBd.out).mono ?_
        rintro e wt1 ⟨rfl, hbt1⟩
        have HBt1 : Hid (Below w2.heap.size w2 wt1) := HBd.out.trans (hbt1.mono HBd.out.size)
        have HXt1 : Hid (wt1.rangeAt g25 0 (cellsB Z)) := range_below HXd.out hbt1 (by have h := cell_block (DAt.cell HXd.out 0 (by omega)); omega)
        have HNt : Hid (g25 < wt1.heap.size) := cell_block (DAt.cell HXt1.out 0 (by omega))
        clear hbt1 HMt HSt HREC
        obtain ⟨g26, hg26⟩ : ∃ g26, wt1.heap.size = g26 := ⟨_, rfl⟩
        obtain ⟨wt2, hwt2⟩ : ∃ wt2, wt1.alloc (.cells (cellsB zD).toArray 23) = wt2 := ⟨_, rfl⟩
        have HTt : Hid (wt2.there g26 0 32) := by rw [← hwt2]; exact alloc_thereAt _ _ _ 32 _ hg26 zD_size.symm
        have HBt3 : Hid (Below w2.heap.size w2 (wt2.setCells g26 0 (cellsB Z))) := below_setCells _ (by rw [← hg26]; exact HBt1.out.size) _ _ _ (by rw [← hwt2]; exact HBt1.out.alloc HBt1.out.size _)
        have HXt3 : Hid (DAt (wt2.setCells g26 0 (cellsB Z)) g26 0 Z) := dat_stored HTt.out lZ'
        have HYt3 : Hid (DAt (wt2.setCells g26 0 (cellsB Z)) g25 0 Z) := World.rangeAt_setCells_apart (by rw [← hwt2]; exact World.rangeAt_alloc HXt1.out _) _ _ _ (.inl (by have := HNt.out; omega))
        go_wp2_with (first
          | (refine wpList_allocE (by rfl) 23 (by rfl) (cellsB zD).toArray Tryz.zeroDg g26 hg26 wt2 hwt2 ?_)
          | (refine wpList_store_mid (by rfl) 23 (.tmp 26) (.tmp 186) (by rfl) g26 0 (cellsB Z).toArray (by rfl) (by rfl) (by rw [cellsB_size, lZ']; exact HTt.out) (by rw [cellsB_size, lZ']; exact Tryz.sizeDg) (all_oneCell_toArray (cellsB_one _)) ?_))
        generalize wt2.setCells g26 0 (cellsB Z) = wt4 at *
        clear hwt2 HTt hg26 HXt1 HBt1
        have HBt4 : Hid (Below w2.heap.size w2 wt4) := HBt3.out
        refine (error_errno 3 3 wt4 (HALL.out wt4 HBt4.out).2.1).mono ?_
        rintro r wt5 ⟨rfl, hbt5⟩
        rw [show decide ((3 : Int) = 3) = true from rfl]
        have HBt5 : Hid (Below w2.heap.size w2 wt5) := HBt4.out.trans (hbt5.mono HBt4.out.size)
        have HXt5 : Hid (wt5.rangeAt g26 0 (cellsB Z)) := HXt3.out.below hbt5 (cell_block (HXt3.out.cell 0 (by omega)))
        have HYt5 : Hid (wt5.rangeAt g25 0 (cellsB Z)) := HYt3.out.below hbt5 (cell_block (HYt3.out.cell 0 (by omega)))
        clear hbt5 HXt3 HYt3 HBt3 HBt4
        go_wp2_with (first
          | (refine wpList_load_midG (by rfl) 23 (.tmp 26) (by rfl) g26 0 (by rfl) (cellsB Z) _ HXt5.out Tryz.underlying23 (by rfl) (by rw [cellsB_length, lZ']; exact Tryz.sizeDg) ?_)
          | (refine wpList_load_midG (by rfl) 23 (.tmp 25) (by rfl) g25 0 (by rfl) (cellsB Z) _ HYt5.out Tryz.underlying23 (by rfl) (by rw [cellsB_length, lZ']; exact Tryz.sizeDg) ?_)
          | (refine wpList_eqD (.tmp 193) (.tmp 194) (by rfl) (by rfl) Z Z lZ' lZ' (by rfl) (by rfl) true (decide_eq_true rfl) ?_))
        go_ret
        exact ⟨rfl, (HALL.out _ HBt5.out).2.2.2.2.2.2.2.2⟩
theorem stells_walk (seed : List UInt8) (h : Int) (a : Option Addr) (N c : Nat) (ms : List (List UInt8)) (m : List UInt8) (At : Int) (a1 : Option Addr) (n1 c1 : Nat) (sig : List (List UInt8)) (a2 : Option Addr) (n2 c2 : Nat) (path : List (List UInt8)) (w : World) (G : Env w) (HH : Handle w) (hs : seed.length = 32) (h1 : -9223372036854775808 ≤ h) (h2 : h ≤ 9223372036854775807) (R : DRow w a N ms) (hc : N ≤ c) (hN : 32 * N ≤ 140737488351232) (hm : m.length = 32) (t1 : -9223372036854775808 ≤ At) (t2 : At ≤ 9223372036854775807) (R1 : DRow w a1 n1 sig) (hc1 : n1 ≤ c1) (z1 : 32 * n1 ≤ 140737488351232) (R2 : DRow w a2 n2 path) (hc2 : n2 ≤ c2) (z2 : 32 * n2 ≤ 140737488351232) :
    Calls Tryz.prog 3 #[digestV seed, .int .i64 h, .slice a N c, digestV m, sigV At a1 n1 c1 a2 n2 c2] w fun e w' => e = .returned (.bool true) ∧ Below w.heap.size w w' := by
  by_cases hbig : 20 < N
  · exact stells_many seed h a N c ms m At a1 n1 c1 sig a2 n2 c2 path w G HH hs h1 h2 R hc hN hm t1 t2 R1 hc1 z1 R2 hc2 z2 hbig
  by_cases hout : h < 0 ∨ 4 < h
  · exact stells_out seed h a N c ms m At a1 n1 c1 sig a2 n2 c2 path w G HH hs h1 h2 R hc hN hm t1 t2 R1 hc1 z1 R2 hc2 z2 (by omega) hout
  obtain ⟨hh, rfl⟩ : ∃ hh : Nat, h = (hh : Int) := ⟨h.toNat, by omega⟩
  exact stells_in seed hh a N c ms m At a1 n1 c1 sig a2 n2 c2 path w G HH hs R hc hN hm t1 t2 R1 hc1 z1 R2 hc2 z2 (by omega) (by omega)
end Go.Proofs.YtdgaimlccpmojaaGreatDoor
