/- The law GrowProves: a proof that the first leaves were there before is right, with both roots. -/
import Derived.Test.YtdldkhhcicjbmabDoorJ15
import Derived.Test.YtdldkhhcicjbmabDoorJ11
namespace Go.Proofs.YtdldkhhcicjbmabDoor
open Go.RowKit
set_option linter.unusedVariables false
set_option linter.unusedSimpArgs false

set_option maxRecDepth 100000 in
set_option maxHeartbeats 1000000 in
theorem gproves_walk (a : Option Addr) (n c : Nat) (ls : List (List UInt8)) (m : Int) (w : World) (G : Env w) (R : DRow w a n ls) (hc : n ≤ c) (hn : 32 * n ≤ 140737488351232) (m1 : -9223372036854775808 ≤ m) (m2 : m ≤ 9223372036854775807) :
    Calls Tryd.prog 4 #[.slice a n c, .int .i64 m] w fun e w' => e = .returned (.bool true) ∧ Below w.heap.size w w' := by
  have HK : Hid (∀ wx, Below w.heap.size w wx → Env wx ∧ DRow wx a n ls) := fun wx hx => ⟨G.below hx, R.below hx⟩
  have HCF : Hid (Calls Tryd.prog 14 #[] w fun e w' => e = .returned (.bool true) ∧ Below w.heap.size w w') := lgrown_any w G
  have HLEN : Hid (ls.length = n) := R.1
  have lN := rootT_length R.2.1
  clear G R
  go_enter Tryd.func4, Tryd.ntmps4
  go_wp2_with fail
  refine HCF.out.mono ?_
  rintro e w1 ⟨rfl, hb1⟩
  have HB1 : Hid (Below w.heap.size w w1) := hb1
  clear hb1 HCF
  by_cases hlo : m < 1
  · go_wp2_with fail
    go_ret
    exact ⟨rfl, HB1.out⟩
  by_cases hhi : (n : Int) < m
  · go_wp2_with fail
    go_ret
    exact ⟨rfl, HB1.out⟩
  by_cases hbig : 256 < n
  · have g1 : (256 : Int) < (n : Int) := by omega
    go_wp2_with fail
    go_ret
    exact ⟨rfl, HB1.out⟩
  have g1 : ¬ (256 : Int) < (n : Int) := by omega
  obtain ⟨j, rfl⟩ : ∃ j : Nat, m = (j : Int) := ⟨m.toNat, by omega⟩
  have hn3 : n ≤ 256 := by omega
  have hj1 : 1 ≤ j := by omega
  have hj2 : j ≤ n := by omega
  obtain ⟨b, o, rfl⟩ := (HK.out _ HB1.out).2.addr (by omega)
  have lO := rootT_length ((HK.out _ HB1.out).2.take j hj2).2.1
  have hp9 := plongT_256 j n true hn3
  have HC0 : Hid (∀ wx, Below w.heap.size w wx → Calls Tryd.prog 7 #[.slice (some ⟨b, o, none⟩) n c, .int .i64 (j : Int)] wx fun e w' => (∃ a' c', e = .returned (.tuple #[.slice a' (plongT j n true) c', .nilIface]) ∧ plongT j n true ≤ c' ∧ DRow w' a' (plongT j n true) (proofT ls j true)) ∧ Below wx.heap.size wx w') := fun wx hx => wgrow_proof _ n c j ls wx (HK.out _ hx).1 (HK.out _ hx).2 hc hn3 hj1 hj2
  have HC1 : Hid (∀ wx, Below w.heap.size w wx → Calls Tryd.prog 15 #[.slice (some ⟨b, o, none⟩) j c] wx fun e w' => e = .returned (.tuple #[digestV (rootT (ls.take j)), .nilIface]) ∧ Below wx.heap.size wx w') := fun wx hx => wtree_root _ j c (ls.take j) wx (HK.out _ hx).1 ((HK.out _ hx).2.take j hj2) (by omega) (by omega)
  have HC2 : Hid (∀ wx, Below w.heap.size w wx → Calls Tryd.prog 15 #[.slice (some ⟨b, o, none⟩) n c] wx fun e w' => e = .returned (.tuple #[digestV (rootT ls), .nilIface]) ∧ Below wx.heap.size wx w') := fun wx hx => wtree_root _ n c ls wx (HK.out _ hx).1 (HK.out _ hx).2 hc hn3
  have HC3 : Hid (∀ wx a' c', Below w.heap.size w wx → plongT j n true ≤ c' → DRow wx a' (plongT j n true) (proofT ls j true) → Calls Tryd.prog 13 #[.int .i64 (j : Int), .int .i64 (n : Int), digestV (rootT (ls.take j)), digestV (rootT ls), .slice a' (plongT j n true) c'] wx fun e w' => e = .returned (.bool true) ∧ Below wx.heap.size wx w') := fun wx a' c' hx hc' hr => by
    have := wgrow_check (j : Int) (n : Int) (rootT (ls.take j)) (rootT ls) (plongT j n true) c' a' (proofT ls j true) wx (HK.out _ hx).1 lO lN hr hc' (by omega) (by omega) (by omega) (by omega) (by omega)
    rw [check_ok HLEN.out hj1 hj2 hn3] at this
    exact this
  generalize rootT (ls.take j) = O at *
  generalize rootT ls = D at *
  generalize proofT ls j true = PP at *
  generalize plongT j n true = p at *
  have j0 : (0 : Int) ≤ (j : Int) := by omega
  have j1 : ¬ (j : Int) < 1 := by omega
  have j2 : (j : Int) ≤ (n : Int) := by omega
  have j3 : (j : Int) ≤ (c : Int) := by omega
  clear hlo hhi
  go_wp2_with fail
  refine (HC0.out _ HB1.out).mono ?_
  rintro e w2 ⟨⟨a', c', rfl, hc', hd2⟩, hb2⟩
  have HB2 : Hid (Below w.heap.size w w2) := below_trans HB1.out hb2
  have HP2 : Hid (DRow w2 a' p PP) := hd2
  clear hb2 HC0 HB1 hd2
  go_wp2_with fail
  refine (HC1.out _ HB2.out).mono ?_
  rintro e w3 ⟨rfl, hb3⟩
  have HB3 : Hid (Below w.heap.size w w3) := below_trans HB2.out hb3
  have HP3 : Hid (DRow w3 a' p PP) := HP2.out.below hb3
  clear hb3 HC1 HB2 HP2
  obtain ⟨w4, hw4⟩ : ∃ w4, w3.alloc (.cells (cellsB zD).toArray 24) = w4 := ⟨_, rfl⟩
  have HTw4 : Hid (w4.there w3.heap.size 0 32) := by rw [← hw4]; exact alloc_thereAt _ _ _ 32 _ rfl zD_size.symm
  have hbw5 : Below w3.heap.size w3 (w4.setCells w3.heap.size 0 (cellsB O)) := by rw [← hw4]; exact new_stored _ _ _
  have HO5 : Hid (DAt (w4.setCells w3.heap.size 0 (cellsB O)) w3.heap.size 0 O) := dat_stored HTw4.out lO
  have HB5 : Hid (Below w.heap.size w (w4.setCells w3.heap.size 0 (cellsB O))) := HB3.out.trans (hbw5.mono HB3.out.size)
  have HP5 : Hid (DRow (w4.setCells w3.heap.size 0 (cellsB O)) a' p PP) := HP3.out.below hbw5
  clear hbw5
  obtain ⟨w5, hw5⟩ : ∃ w5, w4.setCells w3.heap.size 0 (cellsB O) = w5 := ⟨_, rfl⟩
  rw [hw5] at HO5 HB5 HP5
  have hgo : w3.heap.size < w5.heap.size := cell_block (HO5.out.cell 0 (by omega))
  go_wp2_with (first
    | (refine wpList_allocE (by rfl) 24 (by rfl) (cellsB zD).toArray Tryd.zeroDg w3.heap.size rfl w4 hw4 ?_) | (refine wpList_store_mid (by rfl) 24 (.tmp 8) (.tmp 39) (by rfl) w3.heap.size 0 (cellsB O).toArray (by rfl) (by rfl) (by rw [cellsB_size, lO]; exact HTw4.out) (by rw [cellsB_size, lO]; exact Tryd.sizeDg) (all_oneCell_toArray (cellsB_one _)) ?_; rw [show (cellsB O).toArray.toList = cellsB O from rfl, hw5]))
  clear hw4 hw5 HTw4 HP3 HB3
  generalize w3.heap.size = go' at *
  refine (HC2.out _ HB5.out).mono ?_
  rintro e w6 ⟨rfl, hb6⟩
  have HB6 : Hid (Below w.heap.size w w6) := below_trans HB5.out hb6
  have HP6 : Hid (DRow w6 a' p PP) := HP5.out.below hb6
  have HO6 : Hid (DAt w6 go' 0 O) := HO5.out.below hb6 hgo
  have hgo6 : go' < w6.heap.size := Nat.lt_of_lt_of_le hgo hb6.size
  clear hb6 HC2 HB5 HP5 HO5 hgo
  obtain ⟨w7, hw7⟩ : ∃ w7, w6.alloc (.cells (cellsB zD).toArray 24) = w7 := ⟨_, rfl⟩
  have HTw7 : Hid (w7.there w6.heap.size 0 32) := by rw [← hw7]; exact alloc_thereAt _ _ _ 32 _ rfl zD_size.symm
  have hbw8 : Below w6.heap.size w6 (w7.setCells w6.heap.size 0 (cellsB D)) := by rw [← hw7]; exact new_stored _ _ _
  have HD8 : Hid (DAt (w7.setCells w6.heap.size 0 (cellsB D)) w6.heap.size 0 D) := dat_stored HTw7.out lN
  have HB8 : Hid (Below w.heap.size w (w7.setCells w6.heap.size 0 (cellsB D))) := HB6.out.trans (hbw8.mono HB6.out.size)
  have HP8 : Hid (DRow (w7.setCells w6.heap.size 0 (cellsB D)) a' p PP) := HP6.out.below hbw8
  have HO8 : Hid (DAt (w7.setCells w6.heap.size 0 (cellsB D)) go' 0 O) := HO6.out.below hbw8 hgo6
  clear hbw8
  obtain ⟨w8, hw8⟩ : ∃ w8, w7.setCells w6.heap.size 0 (cellsB D) = w8 := ⟨_, rfl⟩
  rw [hw8] at HD8 HB8 HP8 HO8
  go_wp2_with (first
    | (refine wpList_allocE (by rfl) 24 (by rfl) (cellsB zD).toArray Tryd.zeroDg w6.heap.size rfl w7 hw7 ?_) | (refine wpList_store_mid (by rfl) 24 (.tmp 10) (.tmp 44) (by rfl) w6.heap.size 0 (cellsB D).toArray (by rfl) (by rfl) (by rw [cellsB_size, lN]; exact HTw7.out) (by rw [cellsB_size, lN]; exact Tryd.sizeDg) (all_oneCell_toArray (cellsB_one _)) ?_; rw [show (cellsB D).toArray.toList = cellsB D from rfl, hw8])
    | (refine wpList_load_midG (by rfl) 24 (.tmp 8) (by rfl) go' 0 (by rfl) (cellsB O) _ HO8.out Tryd.underlying24 (by rfl) (by rw [cellsB_length, lO]; exact Tryd.sizeDg) ?_)
    | (refine wpList_load_midG (by rfl) 24 (.tmp 10) (by rfl) w6.heap.size 0 (by rfl) (cellsB D) _ HD8.out Tryd.underlying24 (by rfl) (by rw [cellsB_length, lN]; exact Tryd.sizeDg) ?_))
  clear hw7 hw8 HTw7
  refine (HC3.out w8 a' c' HB8.out hc' HP8.out).mono ?_
  rintro e w9 ⟨rfl, hb9⟩
  have HB9 : Hid (Below w.heap.size w w9) := below_trans HB8.out hb9
  clear hb9 HC3
  go_wp2_with fail
  go_ret
  exact ⟨rfl, HB9.out⟩
end Go.Proofs.YtdldkhhcicjbmabDoor
