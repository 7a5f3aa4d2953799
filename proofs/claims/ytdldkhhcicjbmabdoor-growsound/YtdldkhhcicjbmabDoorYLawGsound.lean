/- The law GrowSound: where a proof is right with the root of some leaves, the old root is that of the first of them; or two unlike pairs have one Node. -/
import Derived.Test.YtdldkhhcicjbmabDoorJ15
import Derived.Test.YtdldkhhcicjbmabDoorJ11
namespace Go.Proofs.YtdldkhhcicjbmabDoor
open Go.RowKit
set_option linter.unusedVariables false
set_option linter.unusedSimpArgs false

set_option maxRecDepth 100000 in
set_option maxHeartbeats 1000000 in
theorem gsound_walk (a : Option Addr) (n c : Nat) (ls : List (List UInt8)) (m : Int) (old : List UInt8) (pa : Option Addr) (p pc : Nat) (pf : List (List UInt8)) (w : World) (G : Env w) (R : DRow w a n ls) (hc : n ≤ c) (hn : 32 * n ≤ 140737488351232) (m1 : -9223372036854775808 ≤ m) (m2 : m ≤ 9223372036854775807) (ho : old.length = 32) (RP : DRow w pa p pf) (hpc : p ≤ pc) (hp : 32 * p ≤ 140737488351232) :
    Calls Tryd.prog 5 #[.slice a n c, .int .i64 m, digestV old, .slice pa p pc] w fun e w' => e = .returned (.bool true) ∧ Below w.heap.size w w' := by
  obtain ⟨w2, hw2⟩ : ∃ w2, w.alloc (.cells (cellsB old).toArray 24) = w2 := ⟨_, rfl⟩
  have HS2 : Hid (w2.heap.size = w.heap.size + 1) := by unfold Hid; rw [← hw2]; simp
  have HBZ : Hid (Below w.heap.size w w2) := by rw [← hw2]; exact (Below.refl _ _).alloc (Nat.le_refl _) _
  have HK : Hid (∀ wx, Below w2.heap.size w2 wx → wx.rangeAt w.heap.size 0 (cellsB old) ∧ (DRow wx a n ls ∧ DRow wx pa p pf) ∧ Below w.heap.size w wx ∧ Env wx) := fun wx hx => by
    have s := HS2.out
    have b : Below w.heap.size w wx := HBZ.out.trans (hx.mono (by omega))
    refine ⟨?_, ⟨R.below b, RP.below b⟩, b, G.below b⟩
    refine DAt.below (l := old) ?_ hx (by omega)
    rw [← hw2]; exact box_dat w old _
  have HCF : Hid (Calls Tryd.prog 14 #[] w2 fun e w' => e = .returned (.bool true) ∧ Below w2.heap.size w2 w') := lgrown_any w2 (HK.out _ (Below.refl _ _)).2.2.2
  have HLEN : Hid (ls.length = n) := R.1
  have HPLN : Hid (pf.length = p) := RP.1
  have lN := rootT_length R.2.1
  clear G R RP HS2 HBZ
  go_enter Tryd.func5, Tryd.ntmps5
  go_wp2_with fail
  try rw [hw2]
  clear hw2
  refine HCF.out.mono ?_
  rintro e w1 ⟨rfl, hb1⟩
  have HB1 : Hid (Below w2.heap.size w2 w1) := hb1
  clear hb1 HCF
  by_cases hbig : 256 < n
  · have HC0 : Hid (∀ wx, Below w2.heap.size w2 wx → Calls Tryd.prog 15 #[.slice a n c] wx fun e w' => e = .returned (.tuple #[digestV zD, .iface 25 (.int .i64 4)]) ∧ Below wx.heap.size wx w') := fun wx hx => wtree_full _ n c ls wx (HK.out _ hx).2.2.2 (HK.out _ hx).2.1.1 hc hbig hn
    have lZ : zD.length = 32 := rfl
    go_wp2_with fail
    refine (HC0.out _ HB1.out).mono ?_
    rintro e w3 ⟨rfl, hb3⟩
    have HB3 : Hid (Below w2.heap.size w2 w3) := HB1.out.trans (hb3.mono HB1.out.size)
    clear hb3 HC0
    obtain ⟨w4, hw4⟩ : ∃ w4, w3.alloc (.cells (cellsB zD).toArray 24) = w4 := ⟨_, rfl⟩
    have HTw4 : Hid (w4.there w3.heap.size 0 32) := by rw [← hw4]; exact alloc_thereAt _ _ _ 32 _ rfl zD_size.symm
    have hbw5 : Below w3.heap.size w3 (w4.setCells w3.heap.size 0 (cellsB zD)) := by rw [← hw4]; exact new_stored _ _ _
    have HD5 : Hid (DAt (w4.setCells w3.heap.size 0 (cellsB zD)) w3.heap.size 0 zD) := dat_stored HTw4.out lZ
    have HB5 : Hid (Below w2.heap.size w2 (w4.setCells w3.heap.size 0 (cellsB zD))) := HB3.out.trans (hbw5.mono HB3.out.size)
    clear hbw5
    obtain ⟨w5, hw5⟩ : ∃ w5, w4.setCells w3.heap.size 0 (cellsB zD) = w5 := ⟨_, rfl⟩
    rw [hw5] at HD5 HB5
    go_wp2_with (first
      | (refine wpList_allocE (by rfl) 24 (by rfl) (cellsB zD).toArray Tryd.zeroDg w3.heap.size rfl w4 hw4 ?_) | (refine wpList_store_mid (by rfl) 24 (.tmp 10) (.tmp 20) (by rfl) w3.heap.size 0 (cellsB zD).toArray (by rfl) (by rfl) (by rw [cellsB_size, lZ]; exact HTw4.out) (by rw [cellsB_size, lZ]; exact Tryd.sizeDg) (all_oneCell_toArray (cellsB_one _)) ?_; rw [show (cellsB zD).toArray.toList = cellsB zD from rfl, hw5]))
    go_ret
    exact ⟨rfl, (HK.out _ HB5.out).2.2.1⟩
  have hn3 : n ≤ 256 := by omega
  have HC0 : Hid (∀ wx, Below w2.heap.size w2 wx → Calls Tryd.prog 15 #[.slice a n c] wx fun e w' => e = .returned (.tuple #[digestV (rootT ls), .nilIface]) ∧ Below wx.heap.size wx w') := fun wx hx => wtree_root _ n c ls wx (HK.out _ hx).2.2.2 (HK.out _ hx).2.1.1 hc hn3
  have HCK : Hid (∀ wx, Below w2.heap.size w2 wx → Calls Tryd.prog 13 #[.int .i64 m, .int .i64 (n : Int), digestV old, digestV (rootT ls), .slice pa p pc] wx fun e w' => e = .returned (.bool (checkB m (n : Int) old (rootT ls) pf)) ∧ Below wx.heap.size wx w') := fun wx hx => wgrow_check m (n : Int) old (rootT ls) p pc pa pf wx (HK.out _ hx).2.2.2 ho lN (HK.out _ hx).2.1.2 hpc hp m1 m2 (by omega) (by omega)
  have HIS : Hid (∀ j : Nat, m = (j : Int) → 1 ≤ j → j ≤ n → checkB m (n : Int) old (rootT ls) pf = true → old ≠ rootT (ls.take j) → ∀ wx, Below w2.heap.size w2 wx → Calls Tryd.prog 16 #[.slice a n c, .int .i64 (j : Int), .bool true, digestV old, .slice pa p pc] wx fun e w' => e = .returned (.bool true) ∧ Below wx.heap.size wx w') := fun j hj h1 hm hk hne wx hx => by
    rw [hj] at hk
    obtain ⟨e1, e2⟩ := check_is hk
    exact ldiffers_any n j p c pc true old a pa ls pf wx ho (HK.out _ hx).2.1.1 (HK.out _ hx).2.1.2 (by rw [← HPLN.out]; exact e1) hc hpc h1 hm (by omega) (by rw [e2]) (by rw [e2]; exact hne)
  have HRW : Hid (∀ j : Nat, j ≤ n → (rootT (ls.take j)).length = 32 ∧ ∀ b o, a = some ⟨b, o, none⟩ → ∀ wx, Below w2.heap.size w2 wx → Calls Tryd.prog 15 #[.slice a j c] wx fun e w' => e = .returned (.tuple #[digestV (rootT (ls.take j)), .nilIface]) ∧ Below wx.heap.size wx w') := fun j hj => ⟨rootT_length ((HK.out _ (Below.refl _ _)).2.1.1.take j hj).2.1, fun b o ha wx hx => wtree_root _ j c (ls.take j) wx (HK.out _ hx).2.2.2 ((HK.out _ hx).2.1.1.take j hj) (by omega) (by omega)⟩
  generalize hD : rootT ls = D at *
  clear hD
  generalize checkB m (n : Int) old D pf = bb at *
  go_wp2_with fail
  refine (HC0.out _ HB1.out).mono ?_
  rintro e w3 ⟨rfl, hb3⟩
  have HB3 : Hid (Below w2.heap.size w2 w3) := HB1.out.trans (hb3.mono HB1.out.size)
  clear hb3 HC0 HB1
  obtain ⟨w4, hw4⟩ : ∃ w4, w3.alloc (.cells (cellsB zD).toArray 24) = w4 := ⟨_, rfl⟩
  have HTw4 : Hid (w4.there w3.heap.size 0 32) := by rw [← hw4]; exact alloc_thereAt _ _ _ 32 _ rfl zD_size.symm
  have hbw5 : Below w3.heap.size w3 (w4.setCells w3.heap.size 0 (cellsB D)) := by rw [← hw4]; exact new_stored _ _ _
  have HD5 : Hid (DAt (w4.setCells w3.heap.size 0 (cellsB D)) w3.heap.size 0 D) := dat_stored HTw4.out lN
  have HB5 : Hid (Below w2.heap.size w2 (w4.setCells w3.heap.size 0 (cellsB D))) := HB3.out.trans (hbw5.mono HB3.out.size)
  clear hbw5
  obtain ⟨w5, hw5⟩ : ∃ w5, w4.setCells w3.heap.size 0 (cellsB D) = w5 := ⟨_, rfl⟩
  rw [hw5] at HD5 HB5
  have hgd : w3.heap.size < w5.heap.size := cell_block (HD5.out.cell 0 (by omega))
  by_cases hlo : m < 1
  · go_wp2_with (first
      | (refine wpList_allocE (by rfl) 24 (by rfl) (cellsB zD).toArray Tryd.zeroDg w3.heap.size rfl w4 hw4 ?_) | (refine wpList_store_mid (by rfl) 24 (.tmp 10) (.tmp 20) (by rfl) w3.heap.size 0 (cellsB D).toArray (by rfl) (by rfl) (by rw [cellsB_size, lN]; exact HTw4.out) (by rw [cellsB_size, lN]; exact Tryd.sizeDg) (all_oneCell_toArray (cellsB_one _)) ?_; rw [show (cellsB D).toArray.toList = cellsB D from rfl, hw5]))
    go_ret
    exact ⟨rfl, (HK.out _ HB5.out).2.2.1⟩
  by_cases hhi : (n : Int) < m
  · go_wp2_with (first
      | (refine wpList_allocE (by rfl) 24 (by rfl) (cellsB zD).toArray Tryd.zeroDg w3.heap.size rfl w4 hw4 ?_) | (refine wpList_store_mid (by rfl) 24 (.tmp 10) (.tmp 20) (by rfl) w3.heap.size 0 (cellsB D).toArray (by rfl) (by rfl) (by rw [cellsB_size, lN]; exact HTw4.out) (by rw [cellsB_size, lN]; exact Tryd.sizeDg) (all_oneCell_toArray (cellsB_one _)) ?_; rw [show (cellsB D).toArray.toList = cellsB D from rfl, hw5]))
    go_ret
    exact ⟨rfl, (HK.out _ HB5.out).2.2.1⟩
  obtain ⟨j, hmj⟩ : ∃ j : Nat, m = (j : Int) := ⟨m.toNat, by omega⟩
  subst hmj
  have hj1 : 1 ≤ j := by omega
  have hj2 : j ≤ n := by omega
  obtain ⟨lW, HRW'⟩ := HRW.out j hj2
  obtain ⟨b, o, rfl⟩ := (HK.out _ HB5.out).2.1.1.addr (by omega)
  have HC1 : Hid (∀ wx, Below w2.heap.size w2 wx → Calls Tryd.prog 15 #[.slice (some ⟨b, o, none⟩) j c] wx fun e w' => e = .returned (.tuple #[digestV (rootT (ls.take j)), .nilIface]) ∧ Below wx.heap.size wx w') := HRW' b o rfl
  have HC2 : Hid (bb = true → old ≠ rootT (ls.take j) → ∀ wx, Below w2.heap.size w2 wx → Calls Tryd.prog 16 #[.slice (some ⟨b, o, none⟩) n c, .int .i64 (j : Int), .bool true, digestV old, .slice pa p pc] wx fun e w' => e = .returned (.bool true) ∧ Below wx.heap.size wx w') := HIS.out j rfl hj1 hj2
  clear HRW HRW' HIS hlo hhi
  generalize rootT (ls.take j) = W at *
  have j0 : (0 : Int) ≤ (j : Int) := by omega
  have j1 : ¬ (j : Int) < 1 := by omega
  have j2 : (j : Int) ≤ (n : Int) := by omega
  have j3 : (j : Int) ≤ (c : Int) := by omega
  have d1 : decide ((j : Int) < 1) = false := decide_eq_false (by omega)
  have d2 : decide ((n : Int) < (j : Int)) = false := decide_eq_false (by omega)
  have d3 : decide (n < j) = false := decide_eq_false (by omega)
  go_wp2_with (first
    | (refine wpList_allocE (by rfl) 24 (by rfl) (cellsB zD).toArray Tryd.zeroDg w3.heap.size rfl w4 hw4 ?_) | (refine wpList_store_mid (by rfl) 24 (.tmp 10) (.tmp 20) (by rfl) w3.heap.size 0 (cellsB D).toArray (by rfl) (by rfl) (by rw [cellsB_size, lN]; exact HTw4.out) (by rw [cellsB_size, lN]; exact Tryd.sizeDg) (all_oneCell_toArray (cellsB_one _)) ?_; rw [show (cellsB D).toArray.toList = cellsB D from rfl, hw5])
    | (refine wpList_load_midG (by rfl) 24 (.tmp 6) (by rfl) w.heap.size 0 (by rfl) (cellsB old) _ (HK.out _ HB5.out).1 Tryd.underlying24 (by rfl) (by rw [cellsB_length, ho]; exact Tryd.sizeDg) ?_)
    | (refine wpList_load_midG (by rfl) 24 (.tmp 10) (by rfl) w3.heap.size 0 (by rfl) (cellsB D) _ HD5.out Tryd.underlying24 (by rfl) (by rw [cellsB_length, lN]; exact Tryd.sizeDg) ?_))
  clear hw4 hw5 HTw4
  refine (HCK.out _ HB5.out).mono ?_
  rintro e w6 ⟨rfl, hb6⟩
  have HB6 : Hid (Below w2.heap.size w2 w6) := HB5.out.trans (hb6.mono HB5.out.size)
  clear hb6 HCK HB5 HD5 HB3
  cases bb with
  | false =>
    go_wp2_with fail
    go_ret
    exact ⟨rfl, (HK.out _ HB6.out).2.2.1⟩
  | true =>
    go_wp2_with fail
    refine (HC1.out _ HB6.out).mono ?_
    rintro e w7 ⟨rfl, hb7⟩
    have HB7 : Hid (Below w2.heap.size w2 w7) := HB6.out.trans (hb7.mono HB6.out.size)
    clear hb7 HC1 HB6
    obtain ⟨w8, hw8⟩ : ∃ w8, w7.alloc (.cells (cellsB zD).toArray 24) = w8 := ⟨_, rfl⟩
    have HTw8 : Hid (w8.there w7.heap.size 0 32) := by rw [← hw8]; exact alloc_thereAt _ _ _ 32 _ rfl zD_size.symm
    have hbw9 : Below w7.heap.size w7 (w8.setCells w7.heap.size 0 (cellsB W)) := by rw [← hw8]; exact new_stored _ _ _
    have HW9 : Hid (DAt (w8.setCells w7.heap.size 0 (cellsB W)) w7.heap.size 0 W) := dat_stored HTw8.out lW
    have HB9 : Hid (Below w2.heap.size w2 (w8.setCells w7.heap.size 0 (cellsB W))) := HB7.out.trans (hbw9.mono HB7.out.size)
    clear hbw9
    obtain ⟨w9, hw9⟩ : ∃ w9, w8.setCells w7.heap.size 0 (cellsB W) = w9 := ⟨_, rfl⟩
    rw [hw9] at HW9 HB9
    by_cases how : old = W
    · have hdw : decide (old = W) = true := decide_eq_true how
      clear how
      go_wp2_with (first
        | (refine wpList_allocE (by rfl) 24 (by rfl) (cellsB zD).toArray Tryd.zeroDg w7.heap.size rfl w8 hw8 ?_) | (refine wpList_store_mid (by rfl) 24 (.tmp 12) (.tmp 49) (by rfl) w7.heap.size 0 (cellsB W).toArray (by rfl) (by rfl) (by rw [cellsB_size, lW]; exact HTw8.out) (by rw [cellsB_size, lW]; exact Tryd.sizeDg) (all_oneCell_toArray (cellsB_one _)) ?_; rw [show (cellsB W).toArray.toList = cellsB W from rfl, hw9])
        | (refine wpList_load_midG (by rfl) 24 (.tmp 6) (by rfl) w.heap.size 0 (by rfl) (cellsB old) _ (HK.out _ HB9.out).1 Tryd.underlying24 (by rfl) (by rw [cellsB_length, ho]; exact Tryd.sizeDg) ?_)
        | (refine wpList_load_midG (by rfl) 24 (.tmp 12) (by rfl) w7.heap.size 0 (by rfl) (cellsB W) _ HW9.out Tryd.underlying24 (by rfl) (by rw [cellsB_length, lW]; exact Tryd.sizeDg) ?_)
        | (refine wpList_eqD (.tmp 53) (.tmp 54) (by rfl) (by rfl) old W ho lW (by rfl) (by rfl) true hdw ?_))
      go_ret
      exact ⟨rfl, (HK.out _ HB9.out).2.2.1⟩
    · have hdw : decide (old = W) = false := decide_eq_false how
      have HC3 : Hid (∀ wx, Below w2.heap.size w2 wx → Calls Tryd.prog 16 #[.slice (some ⟨b, o, none⟩) n c, .int .i64 (j : Int), .bool true, digestV old, .slice pa p pc] wx fun e w' => e = .returned (.bool true) ∧ Below wx.heap.size wx w') := HC2.out (by first | rfl | exact True.intro) how
      clear how HC2
      go_wp2_with (first
        | (refine wpList_allocE (by rfl) 24 (by rfl) (cellsB zD).toArray Tryd.zeroDg w7.heap.size rfl w8 hw8 ?_) | (refine wpList_store_mid (by rfl) 24 (.tmp 12) (.tmp 49) (by rfl) w7.heap.size 0 (cellsB W).toArray (by rfl) (by rfl) (by rw [cellsB_size, lW]; exact HTw8.out) (by rw [cellsB_size, lW]; exact Tryd.sizeDg) (all_oneCell_toArray (cellsB_one _)) ?_; rw [show (cellsB W).toArray.toList = cellsB W from rfl, hw9])
        | (refine wpList_load_midG (by rfl) 24 (.tmp 6) (by rfl) w.heap.size 0 (by rfl) (cellsB old) _ (HK.out _ HB9.out).1 Tryd.underlying24 (by rfl) (by rw [cellsB_length, ho]; exact Tryd.sizeDg) ?_)
        | (refine wpList_load_midG (by rfl) 24 (.tmp 12) (by rfl) w7.heap.size 0 (by rfl) (cellsB W) _ HW9.out Tryd.underlying24 (by rfl) (by rw [cellsB_length, lW]; exact Tryd.sizeDg) ?_)
        | (refine wpList_eqD (.tmp 53) (.tmp 54) (by rfl) (by rfl) old W ho lW (by rfl) (by rfl) false hdw ?_))
      clear hw8 hw9 HTw8
      refine (HC3.out _ HB9.out).mono ?_
      rintro e wA ⟨rfl, hbA⟩
      have HBA : Hid (Below w2.heap.size w2 wA) := HB9.out.trans (hbA.mono HB9.out.size)
      clear hbA
      go_wp2_with fail
      go_ret
      exact ⟨rfl, (HK.out _ HBA.out).2.2.1⟩
end Go.Proofs.YtdldkhhcicjbmabDoor
