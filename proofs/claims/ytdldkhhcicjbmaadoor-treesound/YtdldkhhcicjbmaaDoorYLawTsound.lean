/- The law TreeSound: one leaf at a place. -/
import Derived.Test.YtdldkhhcicjbmaaDoorJ13
namespace Go.Proofs.YtdldkhhcicjbmaaDoor
open Go.RowKit
set_option linter.unusedVariables false
set_option linter.unusedSimpArgs false

/-- What Fold tells, whatever it is asked. -/
theorem fold_all (l : List UInt8) (i m : Int) (p c : Nat) (a : Option Addr) (path : List (List UInt8)) (w : World) (G : Env w) (hl : l.length = 32) (R : DRow w a p path) (hc : p ≤ c) (hp : 32 * p ≤ 140737488351232) (i1 : -9223372036854775808 ≤ i) (i2 : i ≤ 9223372036854775807) (m1 : -9223372036854775808 ≤ m) (m2 : m ≤ 9223372036854775807) :
    Calls Tryd.prog 19 #[digestV l, .int .i64 i, .int .i64 m, .slice a p c] w fun e w' => ((∃ k : Int, e = .returned (.tuple #[digestV zD, .iface 24 (.int .i64 k)])) ∨ (∃ j q : Nat, i = (j : Int) ∧ m = (q : Int) ∧ 1 ≤ q ∧ q ≤ 256 ∧ j < q ∧ p = longT j q ∧ e = .returned (.tuple #[digestV (foldT l j q path), .nilIface]))) ∧ Below w.heap.size w w' := by
  by_cases h : m < 1 ∨ 256 < m ∨ i < 0 ∨ m ≤ i
  · refine (wtree_foldout l i m p c a path w G hl R hc hp h i1 i2 m1 m2).mono ?_
    rintro e w' ⟨rfl, hb⟩
    exact ⟨.inl ⟨2, rfl⟩, hb⟩
  · obtain ⟨j, rfl⟩ : ∃ j : Nat, i = (j : Int) := ⟨i.toNat, by omega⟩
    obtain ⟨q, rfl⟩ : ∃ q : Nat, m = (q : Int) := ⟨m.toNat, by omega⟩
    by_cases hpl : p = longT j q
    · refine (wtree_fold l j q p c a path w G hl R hpl hc (by omega) (by omega) (by omega)).mono ?_
      rintro e w' ⟨rfl, hb⟩
      exact ⟨.inr ⟨j, q, rfl, rfl, by omega, by omega, by omega, hpl, rfl⟩, hb⟩
    · refine (wtree_foldlen l j q p c a path w G hl R hc hp (by omega) (by omega) (by omega) hpl).mono ?_
      rintro e w' ⟨rfl, hb⟩
      exact ⟨.inl ⟨3, rfl⟩, hb⟩

set_option maxRecDepth 100000 in
set_option maxHeartbeats 4000000 in
theorem tsound_walk (la : List UInt8) (pa : Option Addr) (p c1 : Nat) (P1 : List (List UInt8)) (lb : List UInt8) (pb : Option Addr) (q c2 : Nat) (P2 : List (List UInt8)) (i m : Int) (w : World) (G : Env w) (hla : la.length = 32) (R1 : DRow w pa p P1) (hc1 : p ≤ c1) (hp1 : 32 * p ≤ 140737488351232) (hlb : lb.length = 32) (R2 : DRow w pb q P2) (hc2 : q ≤ c2) (hp2 : 32 * q ≤ 140737488351232) (i1 : -9223372036854775808 ≤ i) (i2 : i ≤ 9223372036854775807) (m1 : -9223372036854775808 ≤ m) (m2 : m ≤ 9223372036854775807) :
    Calls Tryd.prog 6 #[digestV la, .slice pa p c1, digestV lb, .slice pb q c2, .int .i64 i, .int .i64 m] w fun e w' => e = .returned (.bool true) ∧ Below w.heap.size w w' := by
  obtain ⟨w2, hw2⟩ : ∃ w2, (w.alloc (.cells (cellsB la).toArray 26)).alloc (.cells (cellsB lb).toArray 26) = w2 := ⟨_, rfl⟩
  have hs1 : (w.alloc (.cells (cellsB la).toArray 26)).heap.size = w.heap.size + 1 := by simp
  have HS2 : Hid (w2.heap.size = w.heap.size + 1 + 1) := by unfold Hid; rw [← hw2]; simp
  have HB2 : Hid (Below w.heap.size w w2) := by rw [← hw2]; exact ((Below.refl _ _).alloc (Nat.le_refl _) _).alloc (by simp) _
  have HK : Hid (∀ wx, Below w2.heap.size w2 wx → (wx.rangeAt w.heap.size 0 (cellsB la) ∧ wx.rangeAt (w.heap.size + 1) 0 (cellsB lb)) ∧ (DRow wx pa p P1 ∧ DRow wx pb q P2) ∧ Env wx ∧ Below w.heap.size w wx) := fun wx hx => by
    have s := HS2.out
    have b : Below w.heap.size w wx := HB2.out.trans (hx.mono (by omega))
    refine ⟨⟨?_, ?_⟩, ⟨R1.below b, R2.below b⟩, G.below b, b⟩
    · refine DAt.below (l := la) ?_ hx (by omega)
      rw [← hw2]; exact World.rangeAt_alloc (box_dat w la _) _
    · refine DAt.below (l := lb) ?_ hx (by omega)
      rw [← hw2]; exact box_rangeAt _ _ _ _ hs1
  have H0 : Hid (Below w2.heap.size w2 w2) := Below.refl _ _
  have HF1 : Hid (∀ wx, Below w2.heap.size w2 wx → Calls Tryd.prog 19 #[digestV la, .int .i64 i, .int .i64 m, .slice pa p c1] wx fun e w' => ((∃ k : Int, e = .returned (.tuple #[digestV zD, .iface 24 (.int .i64 k)])) ∨ (∃ j n : Nat, i = (j : Int) ∧ m = (n : Int) ∧ 1 ≤ n ∧ n ≤ 256 ∧ j < n ∧ p = longT j n ∧ e = .returned (.tuple #[digestV (foldT la j n P1), .nilIface]))) ∧ Below wx.heap.size wx w') := fun wx hx => fold_all la i m p c1 pa P1 wx (HK.out _ hx).2.2.1 hla (HK.out _ hx).2.1.1 hc1 hp1 i1 i2 m1 m2
  have HF2 : Hid (∀ wx, Below w2.heap.size w2 wx → Calls Tryd.prog 19 #[digestV lb, .int .i64 i, .int .i64 m, .slice pb q c2] wx fun e w' => ((∃ k : Int, e = .returned (.tuple #[digestV zD, .iface 24 (.int .i64 k)])) ∨ (∃ j n : Nat, i = (j : Int) ∧ m = (n : Int) ∧ 1 ≤ n ∧ n ≤ 256 ∧ j < n ∧ q = longT j n ∧ e = .returned (.tuple #[digestV (foldT lb j n P2), .nilIface]))) ∧ Below wx.heap.size wx w') := fun wx hx => fold_all lb i m q c2 pb P2 wx (HK.out _ hx).2.2.1 hlb (HK.out _ hx).2.1.2 hc2 hp2 i1 i2 m1 m2
  have HRT : Hid (Calls Tryd.prog 22 #[] w2 fun e w' => e = .returned (.bool true) ∧ Below w2.heap.size w2 w') := lrooted_any w2 (HK.out _ H0.out).2.2.1
  clear G R1 R2
  go_enter Tryd.func6, Tryd.ntmps6
  go_wp2_with fail
  try rw [hw2]
  clear hw2 hs1
  refine HRT.out.mono ?_
  rintro e w1 ⟨rfl, hb1⟩
  have HB1 : Hid (Below w2.heap.size w2 w1) := hb1
  clear hb1 HRT H0
  go_wp2_with (refine wpList_load_mid (by rfl) 26 (.tmp 6) (by rfl) w.heap.size 0 (by rfl) (cellsB la) _ (HK.out _ HB1.out).1.1 Tryd.underlying26 (by rfl) (by rw [cellsB_length, hla]; exact Tryd.sizeDg) ?_)
  refine (HF1.out _ HB1.out).mono ?_
  rintro e w3 ⟨hor, hb3⟩
  have HB3 : Hid (Below w2.heap.size w2 w3) := HB1.out.trans (hb3.mono HB1.out.size)
  clear hb3 HB1 HF1
  have lz : zD.length = 32 := rfl
  obtain ⟨X, er1, lX, rfl, hX⟩ : ∃ (X : List UInt8) (er1 : Value), X.length = 32 ∧ e = .returned (.tuple #[digestV X, er1]) ∧ ((∃ k : Int, er1 = .iface 24 (.int .i64 k)) ∨ (er1 = .nilIface ∧ ∃ j n : Nat, i = (j : Int) ∧ m = (n : Int) ∧ 1 ≤ n ∧ n ≤ 256 ∧ j < n ∧ p = longT j n ∧ X = foldT la j n P1)) := by
    rcases hor with ⟨k, rfl⟩ | ⟨j, n, h1, h2, h3, h4, h5, h6, rfl⟩
    · exact ⟨zD, _, rfl, rfl, .inl ⟨k, rfl⟩⟩
    · exact ⟨_, _, foldT_length hla j n P1, rfl, .inr ⟨rfl, j, n, h1, h2, h3, h4, h5, h6, rfl⟩⟩
  have HX : Hid ((∃ k : Int, er1 = .iface 24 (.int .i64 k)) ∨ (er1 = .nilIface ∧ ∃ j n : Nat, i = (j : Int) ∧ m = (n : Int) ∧ 1 ≤ n ∧ n ≤ 256 ∧ j < n ∧ p = longT j n ∧ X = foldT la j n P1)) := hX
  clear hor hX
  obtain ⟨w4, hw4⟩ : ∃ w4, w3.alloc (.cells (cellsB zD).toArray 26) = w4 := ⟨_, rfl⟩
  have HTw4 : Hid (w4.there w3.heap.size 0 32) := by rw [← hw4]; exact alloc_thereAt _ _ _ 32 _ rfl zD_size.symm
  have hbw5 : Below w3.heap.size w3 (w4.setCells w3.heap.size 0 (cellsB X)) := by rw [← hw4]; exact new_stored _ _ _
  have HX5 : Hid (DAt (w4.setCells w3.heap.size 0 (cellsB X)) w3.heap.size 0 X) := dat_stored HTw4.out lX
  have HB5 : Hid (Below w2.heap.size w2 (w4.setCells w3.heap.size 0 (cellsB X))) := HB3.out.trans (hbw5.mono HB3.out.size)
  clear hbw5
  obtain ⟨w5, hw5⟩ : ∃ w5, w4.setCells w3.heap.size 0 (cellsB X) = w5 := ⟨_, rfl⟩
  rw [hw5] at HX5 HB5
  go_wp2_with (first
    | (refine wpList_allocE (by rfl) 26 (by rfl) (cellsB zD).toArray Tryd.zeroDg w3.heap.size rfl w4 hw4 ?_)
    | (refine wpList_store_mid (by rfl) 26 (.tmp 14) (.tmp 28) (by rfl) w3.heap.size 0 (cellsB X).toArray (by rfl) (by rfl) (by rw [cellsB_size, lX]; exact HTw4.out) (by rw [cellsB_size, lX]; exact Tryd.sizeDg) (all_oneCell_toArray (cellsB_one _)) ?_; rw [show (cellsB X).toArray.toList = cellsB X from rfl, hw5])
    | (refine wpList_load_mid (by rfl) 26 (.tmp 8) (by rfl) (w.heap.size + 1) 0 (by rfl) (cellsB lb) _ (HK.out _ HB5.out).1.2 Tryd.underlying26 (by rfl) (by rw [cellsB_length, hlb]; exact Tryd.sizeDg) ?_))
  clear hw4 hw5 HTw4
  have hgx : w3.heap.size < w5.heap.size := cell_block (HX5.out.cell 0 (by omega))
  generalize w3.heap.size = gx at *
  refine (HF2.out _ HB5.out).mono ?_
  rintro e w6 ⟨hor, hb6⟩
  have HB6 : Hid (Below w2.heap.size w2 w6) := HB5.out.trans (hb6.mono HB5.out.size)
  have HX6 : Hid (DAt w6 gx 0 X) := HX5.out.below hb6 hgx
  have hgx6 : gx < w6.heap.size := Nat.lt_of_lt_of_le hgx hb6.size
  clear hb6 HB5 HF2 HX5
  obtain ⟨Y, er2, lY, rfl, hY⟩ : ∃ (Y : List UInt8) (er2 : Value), Y.length = 32 ∧ e = .returned (.tuple #[digestV Y, er2]) ∧ ((∃ k : Int, er2 = .iface 24 (.int .i64 k)) ∨ (er2 = .nilIface ∧ ∃ j n : Nat, i = (j : Int) ∧ m = (n : Int) ∧ 1 ≤ n ∧ n ≤ 256 ∧ j < n ∧ q = longT j n ∧ Y = foldT lb j n P2)) := by
    rcases hor with ⟨k, rfl⟩ | ⟨j, n, h1, h2, h3, h4, h5, h6, rfl⟩
    · exact ⟨zD, _, rfl, rfl, .inl ⟨k, rfl⟩⟩
    · exact ⟨_, _, foldT_length hlb j n P2, rfl, .inr ⟨rfl, j, n, h1, h2, h3, h4, h5, h6, rfl⟩⟩
  have HY : Hid ((∃ k : Int, er2 = .iface 24 (.int .i64 k)) ∨ (er2 = .nilIface ∧ ∃ j n : Nat, i = (j : Int) ∧ m = (n : Int) ∧ 1 ≤ n ∧ n ≤ 256 ∧ j < n ∧ q = longT j n ∧ Y = foldT lb j n P2)) := hY
  clear hor hY
  obtain ⟨w7, hw7⟩ : ∃ w7, w6.alloc (.cells (cellsB zD).toArray 26) = w7 := ⟨_, rfl⟩
  have HTw7 : Hid (w7.there w6.heap.size 0 32) := by rw [← hw7]; exact alloc_thereAt _ _ _ 32 _ rfl zD_size.symm
  have hbw8 : Below w6.heap.size w6 (w7.setCells w6.heap.size 0 (cellsB Y)) := by rw [← hw7]; exact new_stored _ _ _
  have HY8 : Hid (DAt (w7.setCells w6.heap.size 0 (cellsB Y)) w6.heap.size 0 Y) := dat_stored HTw7.out lY
  have HB8 : Hid (Below w2.heap.size w2 (w7.setCells w6.heap.size 0 (cellsB Y))) := HB6.out.trans (hbw8.mono HB6.out.size)
  have HX8 : Hid (DAt (w7.setCells w6.heap.size 0 (cellsB Y)) gx 0 X) := HX6.out.below hbw8 hgx6
  clear hbw8
  obtain ⟨w8, hw8⟩ : ∃ w8, w7.setCells w6.heap.size 0 (cellsB Y) = w8 := ⟨_, rfl⟩
  rw [hw8] at HY8 HB8 HX8
  rcases HX.out with ⟨k1, rfl⟩ | ⟨rfl, j, n, hj, hm, h1, h2, h3, h4, h5⟩
  · have hd1 : (!decide (X = Y)) = (!decide (X = Y)) := rfl
    have hd2 : decide (la = lb) = decide (la = lb) := rfl
    clear HX HY
    go_wp2_with (first
      | (refine wpList_allocE (by rfl) 26 (by rfl) (cellsB zD).toArray Tryd.zeroDg w6.heap.size rfl w7 hw7 ?_)
      | (refine wpList_store_mid (by rfl) 26 (.tmp 16) (.tmp 36) (by rfl) w6.heap.size 0 (cellsB Y).toArray (by rfl) (by rfl) (by rw [cellsB_size, lY]; exact HTw7.out) (by rw [cellsB_size, lY]; exact Tryd.sizeDg) (all_oneCell_toArray (cellsB_one _)) ?_; rw [show (cellsB Y).toArray.toList = cellsB Y from rfl, hw8])
      | (refine wpList_load_midG (by rfl) 26 (.tmp 14) (by rfl) gx 0 (by rfl) (cellsB X) _ HX8.out Tryd.underlying26 (by rfl) (by rw [cellsB_length, lX]; exact Tryd.sizeDg) ?_)
      | (refine wpList_load_midG (by rfl) 26 (.tmp 16) (by rfl) w6.heap.size 0 (by rfl) (cellsB Y) _ HY8.out Tryd.underlying26 (by rfl) (by rw [cellsB_length, lY]; exact Tryd.sizeDg) ?_)
      | (refine wpList_neqD (.tmp 45) (.tmp 46) (by rfl) (by rfl) X Y lX lY (by rfl) (by rfl) (!decide (X = Y)) hd1 ?_)
      | (refine wpList_load_midG (by rfl) 26 (.tmp 6) (by rfl) w.heap.size 0 (by rfl) (cellsB la) _ (HK.out _ HB8.out).1.1 Tryd.underlying26 (by rfl) (by rw [cellsB_length, hla]; exact Tryd.sizeDg) ?_)
      | (refine wpList_load_midG (by rfl) 26 (.tmp 8) (by rfl) (w.heap.size + 1) 0 (by rfl) (cellsB lb) _ (HK.out _ HB8.out).1.2 Tryd.underlying26 (by rfl) (by rw [cellsB_length, hlb]; exact Tryd.sizeDg) ?_)
      | (refine wpList_eqD (.tmp 50) (.tmp 51) (by rfl) (by rfl) la lb hla hlb (by rfl) (by rfl) (decide (la = lb)) hd2 ?_))
    go_ret
    exact ⟨rfl, (HK.out _ HB8.out).2.2.2⟩
  · rcases HY.out with ⟨k2, rfl⟩ | ⟨rfl, j2, n2, hj2, hm2, _, _, _, h6, h7⟩
    · have hd1 : (!decide (X = Y)) = (!decide (X = Y)) := rfl
      have hd2 : decide (la = lb) = decide (la = lb) := rfl
      clear HX HY hj hm h1 h2 h3 h4 h5
      go_wp2_with (first
        | (refine wpList_allocE (by rfl) 26 (by rfl) (cellsB zD).toArray Tryd.zeroDg w6.heap.size rfl w7 hw7 ?_)
        | (refine wpList_store_mid (by rfl) 26 (.tmp 16) (.tmp 36) (by rfl) w6.heap.size 0 (cellsB Y).toArray (by rfl) (by rfl) (by rw [cellsB_size, lY]; exact HTw7.out) (by rw [cellsB_size, lY]; exact Tryd.sizeDg) (all_oneCell_toArray (cellsB_one _)) ?_; rw [show (cellsB Y).toArray.toList = cellsB Y from rfl, hw8])
        | (refine wpList_load_midG (by rfl) 26 (.tmp 14) (by rfl) gx 0 (by rfl) (cellsB X) _ HX8.out Tryd.underlying26 (by rfl) (by rw [cellsB_length, lX]; exact Tryd.sizeDg) ?_)
        | (refine wpList_load_midG (by rfl) 26 (.tmp 16) (by rfl) w6.heap.size 0 (by rfl) (cellsB Y) _ HY8.out Tryd.underlying26 (by rfl) (by rw [cellsB_length, lY]; exact Tryd.sizeDg) ?_)
        | (refine wpList_neqD (.tmp 45) (.tmp 46) (by rfl) (by rfl) X Y lX lY (by rfl) (by rfl) (!decide (X = Y)) hd1 ?_)
        | (refine wpList_load_midG (by rfl) 26 (.tmp 6) (by rfl) w.heap.size 0 (by rfl) (cellsB la) _ (HK.out _ HB8.out).1.1 Tryd.underlying26 (by rfl) (by rw [cellsB_length, hla]; exact Tryd.sizeDg) ?_)
        | (refine wpList_load_midG (by rfl) 26 (.tmp 8) (by rfl) (w.heap.size + 1) 0 (by rfl) (cellsB lb) _ (HK.out _ HB8.out).1.2 Tryd.underlying26 (by rfl) (by rw [cellsB_length, hlb]; exact Tryd.sizeDg) ?_)
        | (refine wpList_eqD (.tmp 50) (.tmp 51) (by rfl) (by rfl) la lb hla hlb (by rfl) (by rfl) (decide (la = lb)) hd2 ?_))
      go_ret
      exact ⟨rfl, (HK.out _ HB8.out).2.2.2⟩
    · obtain rfl : j2 = j := by omega
      obtain rfl : n2 = n := by omega
      subst hj
      subst hm
      clear hj2 hm2 HX HY
      by_cases hXY : X = Y
      · by_cases hab : la = lb
        · have hd1 : (!decide (X = Y)) = false := by simp [hXY]
          have hd2 : decide (la = lb) = true := by simp [hab]
          clear hXY hab h4 h5 h6 h7
          go_wp2_with (first
            | (refine wpList_allocE (by rfl) 26 (by rfl) (cellsB zD).toArray Tryd.zeroDg w6.heap.size rfl w7 hw7 ?_)
            | (refine wpList_store_mid (by rfl) 26 (.tmp 16) (.tmp 36) (by rfl) w6.heap.size 0 (cellsB Y).toArray (by rfl) (by rfl) (by rw [cellsB_size, lY]; exact HTw7.out) (by rw [cellsB_size, lY]; exact Tryd.sizeDg) (all_oneCell_toArray (cellsB_one _)) ?_; rw [show (cellsB Y).toArray.toList = cellsB Y from rfl, hw8])
            | (refine wpList_load_midG (by rfl) 26 (.tmp 14) (by rfl) gx 0 (by rfl) (cellsB X) _ HX8.out Tryd.underlying26 (by rfl) (by rw [cellsB_length, lX]; exact Tryd.sizeDg) ?_)
            | (refine wpList_load_midG (by rfl) 26 (.tmp 16) (by rfl) w6.heap.size 0 (by rfl) (cellsB Y) _ HY8.out Tryd.underlying26 (by rfl) (by rw [cellsB_length, lY]; exact Tryd.sizeDg) ?_)
            | (refine wpList_neqD (.tmp 45) (.tmp 46) (by rfl) (by rfl) X Y lX lY (by rfl) (by rfl) false hd1 ?_)
            | (refine wpList_load_midG (by rfl) 26 (.tmp 6) (by rfl) w.heap.size 0 (by rfl) (cellsB la) _ (HK.out _ HB8.out).1.1 Tryd.underlying26 (by rfl) (by rw [cellsB_length, hla]; exact Tryd.sizeDg) ?_)
            | (refine wpList_load_midG (by rfl) 26 (.tmp 8) (by rfl) (w.heap.size + 1) 0 (by rfl) (cellsB lb) _ (HK.out _ HB8.out).1.2 Tryd.underlying26 (by rfl) (by rw [cellsB_length, hlb]; exact Tryd.sizeDg) ?_)
            | (refine wpList_eqD (.tmp 50) (.tmp 51) (by rfl) (by rfl) la lb hla hlb (by rfl) (by rfl) true hd2 ?_))
          go_ret
          exact ⟨rfl, (HK.out _ HB8.out).2.2.2⟩
        · have hd1 : (!decide (X = Y)) = false := by simp [hXY]
          have hd2 : decide (la = lb) = false := by simp [hab]
          have hpq : q = p := by omega
          subst hpq
          have HCL : Hid (∀ wx, Below w2.heap.size w2 wx → Calls Tryd.prog 23 #[digestV la, .slice pa q c1, digestV lb, .slice pb q c2, .int .i64 (j2 : Int), .int .i64 (n2 : Int)] wx fun e w' => e = .returned (.bool true) ∧ Below wx.heap.size wx w') := fun wx hx => lclash_any n2 la lb j2 q c1 c2 pa pb P1 P2 wx hla hlb hab (HK.out _ hx).2.1.1 (HK.out _ hx).2.1.2 h4 hc1 hc2 h1 (by omega) h3 (by rw [← h5, ← h7]; exact hXY)
          clear hXY hab h4 h5 h6 h7
          go_wp2_with (first
            | (refine wpList_allocE (by rfl) 26 (by rfl) (cellsB zD).toArray Tryd.zeroDg w6.heap.size rfl w7 hw7 ?_)
            | (refine wpList_store_mid (by rfl) 26 (.tmp 16) (.tmp 36) (by rfl) w6.heap.size 0 (cellsB Y).toArray (by rfl) (by rfl) (by rw [cellsB_size, lY]; exact HTw7.out) (by rw [cellsB_size, lY]; exact Tryd.sizeDg) (all_oneCell_toArray (cellsB_one _)) ?_; rw [show (cellsB Y).toArray.toList = cellsB Y from rfl, hw8])
            | (refine wpList_load_midG (by rfl) 26 (.tmp 14) (by rfl) gx 0 (by rfl) (cellsB X) _ HX8.out Tryd.underlying26 (by rfl) (by rw [cellsB_length, lX]; exact Tryd.sizeDg) ?_)
            | (refine wpList_load_midG (by rfl) 26 (.tmp 16) (by rfl) w6.heap.size 0 (by rfl) (cellsB Y) _ HY8.out Tryd.underlying26 (by rfl) (by rw [cellsB_length, lY]; exact Tryd.sizeDg) ?_)
            | (refine wpList_neqD (.tmp 45) (.tmp 46) (by rfl) (by rfl) X Y lX lY (by rfl) (by rfl) false hd1 ?_)
            | (refine wpList_load_midG (by rfl) 26 (.tmp 6) (by rfl) w.heap.size 0 (by rfl) (cellsB la) _ (HK.out _ HB8.out).1.1 Tryd.underlying26 (by rfl) (by rw [cellsB_length, hla]; exact Tryd.sizeDg) ?_)
            | (refine wpList_load_midG (by rfl) 26 (.tmp 8) (by rfl) (w.heap.size + 1) 0 (by rfl) (cellsB lb) _ (HK.out _ HB8.out).1.2 Tryd.underlying26 (by rfl) (by rw [cellsB_length, hlb]; exact Tryd.sizeDg) ?_)
            | (refine wpList_eqD (.tmp 50) (.tmp 51) (by rfl) (by rfl) la lb hla hlb (by rfl) (by rfl) false hd2 ?_))
          clear hw7 hw8 HTw7
          refine (HCL.out _ HB8.out).mono ?_
          rintro e w9 ⟨rfl, hb9⟩
          have HB9 : Hid (Below w2.heap.size w2 w9) := HB8.out.trans (hb9.mono HB8.out.size)
          clear hb9
          go_wp2_with fail
          go_ret
          exact ⟨rfl, (HK.out _ HB9.out).2.2.2⟩
      · have hd1 : (!decide (X = Y)) = true := by simp [hXY]
        have hd2 : decide (la = lb) = decide (la = lb) := rfl
        clear hXY h4 h5 h6 h7
        go_wp2_with (first
          | (refine wpList_allocE (by rfl) 26 (by rfl) (cellsB zD).toArray Tryd.zeroDg w6.heap.size rfl w7 hw7 ?_)
          | (refine wpList_store_mid (by rfl) 26 (.tmp 16) (.tmp 36) (by rfl) w6.heap.size 0 (cellsB Y).toArray (by rfl) (by rfl) (by rw [cellsB_size, lY]; exact HTw7.out) (by rw [cellsB_size, lY]; exact Tryd.sizeDg) (all_oneCell_toArray (cellsB_one _)) ?_; rw [show (cellsB Y).toArray.toList = cellsB Y from rfl, hw8])
          | (refine wpList_load_midG (by rfl) 26 (.tmp 14) (by rfl) gx 0 (by rfl) (cellsB X) _ HX8.out Tryd.underlying26 (by rfl) (by rw [cellsB_length, lX]; exact Tryd.sizeDg) ?_)
          | (refine wpList_load_midG (by rfl) 26 (.tmp 16) (by rfl) w6.heap.size 0 (by rfl) (cellsB Y) _ HY8.out Tryd.underlying26 (by rfl) (by rw [cellsB_length, lY]; exact Tryd.sizeDg) ?_)
          | (refine wpList_neqD (.tmp 45) (.tmp 46) (by rfl) (by rfl) X Y lX lY (by rfl) (by rfl) true hd1 ?_)
          | (refine wpList_load_midG (by rfl) 26 (.tmp 6) (by rfl) w.heap.size 0 (by rfl) (cellsB la) _ (HK.out _ HB8.out).1.1 Tryd.underlying26 (by rfl) (by rw [cellsB_length, hla]; exact Tryd.sizeDg) ?_)
          | (refine wpList_load_midG (by rfl) 26 (.tmp 8) (by rfl) (w.heap.size + 1) 0 (by rfl) (cellsB lb) _ (HK.out _ HB8.out).1.2 Tryd.underlying26 (by rfl) (by rw [cellsB_length, hlb]; exact Tryd.sizeDg) ?_)
          | (refine wpList_eqD (.tmp 50) (.tmp 51) (by rfl) (by rfl) la lb hla hlb (by rfl) (by rfl) (decide (la = lb)) hd2 ?_))
        go_ret
        exact ⟨rfl, (HK.out _ HB8.out).2.2.2⟩
end Go.Proofs.YtdldkhhcicjbmaaDoor
