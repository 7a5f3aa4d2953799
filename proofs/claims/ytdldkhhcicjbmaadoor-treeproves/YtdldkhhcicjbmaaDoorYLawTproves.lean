/- The law TreeProves: a leaf and its path are the root. -/
import Derived.Test.YtdldkhhcicjbmaaDoorJ13
namespace Go.Proofs.YtdldkhhcicjbmaaDoor
open Go.RowKit
set_option linter.unusedVariables false
set_option linter.unusedSimpArgs false

set_option maxRecDepth 100000 in
set_option maxHeartbeats 4000000 in
theorem tproves_walk (a : Option Addr) (n c : Nat) (ls : List (List UInt8)) (i : Int) (w : World) (G : Env w) (R : DRow w a n ls) (hc : n ≤ c) (hn : 32 * n ≤ 140737488351232) (i1 : -9223372036854775808 ≤ i) (i2 : i ≤ 9223372036854775807) :
    Calls Tryd.prog 5 #[.slice a n c, .int .i64 i] w fun e w' => e = .returned (.bool true) ∧ Below w.heap.size w w' := by
  have HK : Hid (∀ wx, Below w.heap.size w wx → Env wx ∧ DRow wx a n ls) := fun wx hx => ⟨G.below hx, R.below hx⟩
  have HCF : Hid (Calls Tryd.prog 22 #[] w fun e w' => e = .returned (.bool true) ∧ Below w.heap.size w w') := lrooted_any w G
  have HLEN : Hid (ls.length = n) := R.1
  have h32 := rootT_length R.2.1
  clear G R
  go_enter Tryd.func5, Tryd.ntmps5
  go_wp2_with fail
  refine HCF.out.mono ?_
  rintro e w1 ⟨rfl, hb1⟩
  have HB1 : Hid (Below w.heap.size w w1) := hb1
  clear hb1 HCF
  by_cases hbig : 256 < n
  · have g1 : (256 : Int) < (n : Int) := by omega
    go_wp2_with fail
    go_ret
    exact ⟨rfl, HB1.out⟩
  by_cases hneg : i < 0
  · have g1 : ¬ (256 : Int) < (n : Int) := by omega
    go_wp2_with fail
    go_ret
    exact ⟨rfl, HB1.out⟩
  by_cases hge : (n : Int) ≤ i
  · have g1 : ¬ (256 : Int) < (n : Int) := by omega
    go_wp2_with fail
    go_ret
    exact ⟨rfl, HB1.out⟩
  have g1 : ¬ (256 : Int) < (n : Int) := by omega
  obtain ⟨j, rfl⟩ : ∃ j : Nat, i = (j : Int) := ⟨i.toNat, by omega⟩
  have hj : j < n := by omega
  have hn3 : n ≤ 256 := by omega
  obtain ⟨b, o, rfl⟩ := (HK.out _ HB1.out).2.addr (by omega)
  have HC0 : Hid (∀ wx, Below w.heap.size w wx → Calls Tryd.prog 10 #[.slice (some ⟨b, o, none⟩) n c] wx fun e w' => e = .returned (.tuple #[digestV (rootT ls), .nilIface]) ∧ Below wx.heap.size wx w') := fun wx hx => wtree_root _ n c ls wx (HK.out _ hx).1 (HK.out _ hx).2 hc hn3
  have HC1 : Hid (∀ wx, Below w.heap.size w wx → Calls Tryd.prog 15 #[.slice (some ⟨b, o, none⟩) n c, .int .i64 (j : Int)] wx fun e w' => (∃ a' c', e = .returned (.tuple #[.slice a' (longT j n) c', .nilIface]) ∧ longT j n ≤ c' ∧ DRow w' a' (longT j n) (pathT ls j)) ∧ Below wx.heap.size wx w') := fun wx hx => wtree_path _ n c j ls wx (HK.out _ hx).1 (HK.out _ hx).2 hc hn3 hj
  have lL : (ls.getD j []).length = 32 := (HK.out _ HB1.out).2.len j hj
  have HL : Hid (∀ wx, Below w.heap.size w wx → wx.rangeAt b (o + j * 32) (cellsB (ls.getD j []))) := fun wx hx => (HK.out _ hx).2.at j hj
  have HC2 : Hid (∀ wx a' c', Below w.heap.size w wx → longT j n ≤ c' → DRow wx a' (longT j n) (pathT ls j) → Calls Tryd.prog 19 #[digestV (ls.getD j []), .int .i64 (j : Int), .int .i64 (n : Int), .slice a' (longT j n) c'] wx fun e w' => e = .returned (.tuple #[digestV (rootT ls), .nilIface]) ∧ Below wx.heap.size wx w') := fun wx a' c' hx hc' hr => by
    have := wtree_fold (ls.getD j []) j n (longT j n) c' a' (pathT ls j) wx (HK.out _ hx).1 lL hr rfl hc' (by omega) hn3 hj
    rw [(fold_path n ls j HLEN.out hj).1] at this
    exact this
  have HLB : Hid (longT j n ≤ bitsT n (n - 1)) := longT_bits j n
  have hl8 := longT_256 j n hn3
  generalize rootT ls = D at *
  generalize ls.getD j [] = L at *
  generalize pathT ls j = PP at *
  generalize longT j n = p at *
  have j0 : (0 : Int) ≤ (j : Int) := by omega
  have j1 : (j : Int) < (n : Int) := by omega
  go_wp2_with fail
  refine (HC0.out _ HB1.out).mono ?_
  rintro e w2 ⟨rfl, hb2⟩
  have HB2 : Hid (Below w.heap.size w w2) := below_trans HB1.out hb2
  clear hb2
  obtain ⟨w3, hw3⟩ : ∃ w3, w2.alloc (.cells (cellsB zD).toArray 26) = w3 := ⟨_, rfl⟩
  have HTw3 : Hid (w3.there w2.heap.size 0 32) := by rw [← hw3]; exact alloc_thereAt _ _ _ 32 _ rfl zD_size.symm
  have hbw4 : Below w2.heap.size w2 (w3.setCells w2.heap.size 0 (cellsB D)) := by rw [← hw3]; exact new_stored _ _ _
  have HD4 : Hid (DAt (w3.setCells w2.heap.size 0 (cellsB D)) w2.heap.size 0 D) := dat_stored HTw3.out h32
  have HB4 : Hid (Below w.heap.size w (w3.setCells w2.heap.size 0 (cellsB D))) := below_trans HB2.out hbw4
  clear hbw4
  obtain ⟨w4, hw4⟩ : ∃ w4, w3.setCells w2.heap.size 0 (cellsB D) = w4 := ⟨_, rfl⟩
  rw [hw4] at HD4 HB4
  go_wp2_with (first
    | (refine wpList_allocE (by rfl) 26 (by rfl) (cellsB zD).toArray Tryd.zeroDg w2.heap.size rfl w3 hw3 ?_)
    | (refine wpList_store_mid (by rfl) 26 (.tmp 6) (.tmp 33) (by rfl) w2.heap.size 0 (cellsB D).toArray (by rfl) (by rfl) (by rw [cellsB_size, h32]; exact HTw3.out) (by rw [cellsB_size, h32]; exact Tryd.sizeDg) (all_oneCell_toArray (cellsB_one _)) ?_; rw [show (cellsB D).toArray.toList = cellsB D from rfl, hw4]))
  clear hw3 hw4 HTw3
  have hgd : w2.heap.size < w4.heap.size := cell_block (HD4.out.cell 0 (by omega))
  generalize w2.heap.size = gd at *
  refine (HC1.out _ HB4.out).mono ?_
  rintro e w5 ⟨⟨a', c', rfl, hc', hd5⟩, hb5⟩
  have HB5 : Hid (Below w.heap.size w w5) := below_trans HB4.out hb5
  have HD5 : Hid (DAt w5 gd 0 D ∧ DRow w5 a' p PP) := ⟨HD4.out.below hb5 hgd, hd5⟩
  have hgd5 : gd < w5.heap.size := Nat.lt_of_lt_of_le hgd hb5.size
  clear hb5 HD4 HB4 hd5
  go_wp2_with (refine wpList_load_mid (by rfl) 26 (.tmp 44) (by rfl) b (o + j * 32) (by rfl) (cellsB L) _ (HL.out _ HB5.out) Tryd.underlying26 (by rfl) (by rw [cellsB_length, lL]; exact Tryd.sizeDg) ?_)
  refine (HC2.out w5 a' c' HB5.out hc' HD5.out.2).mono ?_
  rintro e w6 ⟨rfl, hb6⟩
  have HB6 : Hid (Below w.heap.size w w6) := below_trans HB5.out hb6
  have HD6 : Hid (DAt w6 gd 0 D) := HD5.out.1.below hb6 hgd5
  have hgd6 : gd < w6.heap.size := Nat.lt_of_lt_of_le hgd5 hb6.size
  clear hb6 HD5 HB5
  obtain ⟨w7, hw7⟩ : ∃ w7, w6.alloc (.cells (cellsB zD).toArray 26) = w7 := ⟨_, rfl⟩
  have HTw7 : Hid (w7.there w6.heap.size 0 32) := by rw [← hw7]; exact alloc_thereAt _ _ _ 32 _ rfl zD_size.symm
  have hbw8 : Below w6.heap.size w6 (w7.setCells w6.heap.size 0 (cellsB D)) := by rw [← hw7]; exact new_stored _ _ _
  have HX8 : Hid (DAt (w7.setCells w6.heap.size 0 (cellsB D)) w6.heap.size 0 D) := dat_stored HTw7.out h32
  have HB8 : Hid (Below w.heap.size w (w7.setCells w6.heap.size 0 (cellsB D))) := below_trans HB6.out hbw8
  have HD8 : Hid (DAt (w7.setCells w6.heap.size 0 (cellsB D)) gd 0 D) := HD6.out.below hbw8 hgd6
  clear hbw8
  obtain ⟨w8, hw8⟩ : ∃ w8, w7.setCells w6.heap.size 0 (cellsB D) = w8 := ⟨_, rfl⟩
  rw [hw8] at HX8 HB8 HD8
  have s1 : (n : Int) - 1 = ((n - 1 : Nat) : Int) := by omega
  go_wp2_with (first
    | (refine wpList_allocE (by rfl) 26 (by rfl) (cellsB zD).toArray Tryd.zeroDg w6.heap.size rfl w7 hw7 ?_)
    | (refine wpList_store_mid (by rfl) 26 (.tmp 10) (.tmp 51) (by rfl) w6.heap.size 0 (cellsB D).toArray (by rfl) (by rfl) (by rw [cellsB_size, h32]; exact HTw7.out) (by rw [cellsB_size, h32]; exact Tryd.sizeDg) (all_oneCell_toArray (cellsB_one _)) ?_; rw [show (cellsB D).toArray.toList = cellsB D from rfl, hw8]))
  clear hw7 hw8 HTw7
  generalize w6.heap.size = gx at *
  go_loopw [12, 13] (fun mv nv wr => ∃ s m f : Nat, mv = .int .i64 (s : Int) ∧ nv = .int .i64 (m : Int) ∧ m ≤ n ∧ m ≤ f ∧ s + m ≤ n ∧ Hid (s + bitsT f m = bitsT n (n - 1)) ∧ Hid (wr = w8)) (fun _ nv _ => (intOf nv).toNat)
  case atStart => exact ⟨0, n - 1, n, rfl, rfl, by omega, by omega, by omega, by unfold Hid; omega, rfl⟩
  case round =>
    obtain ⟨s, m, f, rfl, rfl, hm1, hm2, hm3, HE, HW⟩ := hrel
    by_cases hlt : 0 < m
    · have g2 : (0 : Int) < (m : Int) := by omega
      cases f with
      | zero => omega
      | succ f =>
        have d1 : (m : Int).tdiv 2 = ((m / 2 : Nat) : Int) := by rw [Int.tdiv_eq_ediv_of_nonneg (by omega)]; omega
        have d2 : (m : Int) / 2 = ((m / 2 : Nat) : Int) := by omega
        have HE2 : Hid (s + 1 + bitsT f (m / 2) = bitsT n (n - 1)) := by
          have := HE.out
          rw [bitsT, if_pos hlt] at this
          unfold Hid
          omega
        have q1 : m / 2 ≤ f := by omega
        have q2 : s + 1 + m / 2 ≤ n := by omega
        have q3 : m / 2 < m := by omega
        generalize m / 2 = m' at *
        go_wp2_with fail
        go_roundw
        case rel => exact ⟨s + 1, m', f, by go_num, rfl, by omega, q1, q2, HE2, HW⟩
        case measure => simp [intOf]; omega
    · obtain rfl : m = 0 := by omega
      have hw := HW.out
      subst hw
      have hps : p ≤ s := by
        have h1 := HE.out
        have h0 : bitsT f 0 = 0 := by cases f <;> simp [bitsT]
        have h2 := HLB.out
        omega
      have g3 : (p : Int) ≤ (s : Int) := by omega
      clear HE HLB
      go_wp2_with (first
        | (refine wpList_load_midG (by rfl) 26 (.tmp 10) (by rfl) gx 0 (by rfl) (cellsB D) _ HX8.out Tryd.underlying26 (by rfl) (by rw [cellsB_length, h32]; exact Tryd.sizeDg) ?_)
        | (refine wpList_load_midG (by rfl) 26 (.tmp 6) (by rfl) gd 0 (by rfl) (cellsB D) _ HD8.out Tryd.underlying26 (by rfl) (by rw [cellsB_length, h32]; exact Tryd.sizeDg) ?_)
        | (refine wpList_eqD (.tmp 73) (.tmp 74) (by rfl) (by rfl) D D h32 h32 (by rfl) (by rfl) true (decide_eq_true rfl) ?_))
      go_ret
      exact ⟨rfl, HB8.out⟩
end Go.Proofs.YtdldkhhcicjbmaaDoor
