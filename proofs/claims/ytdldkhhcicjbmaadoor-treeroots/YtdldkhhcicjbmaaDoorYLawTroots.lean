/- The law TreeRoots: the program's Root and Leaf are the document's. -/
import Derived.Test.YtdldkhhcicjbmaaDoorJ12
import Derived.Test.YtdldkhhcicjbmaaDoorJ07
import Derived.Test.YtdldkhhcicjbmaaDoorJ13
namespace Go.Proofs.YtdldkhhcicjbmaaDoor
open Go.RowKit
set_option linter.unusedVariables false
set_option linter.unusedSimpArgs false

set_option maxRecDepth 100000 in
set_option maxHeartbeats 2000000 in
theorem troots_walk (a : Option Addr) (n c : Nat) (ls : List (List UInt8)) (ab : Option Addr) (nb cb : Nat) (bl : List UInt8) (w : World) (G : Env w) (HH : Handle w) (R : DRow w a n ls) (hc : n ≤ c) (hn : 32 * n ≤ 140737488351232) (RB : Row w ab nb bl) (hcb : nb ≤ cb) (hnb : nb ≤ 140737488351232) :
    Calls Tryd.prog 3 #[.slice a n c, .slice ab nb cb] w fun e w' => e = .returned (.bool true) ∧ Below w.heap.size w w' := by
  obtain ⟨w2, hw2⟩ : ∃ w2, w.alloc (.cells (cellsB zD).toArray 26) = w2 := ⟨_, rfl⟩
  have HS2 : Hid (w2.heap.size = w.heap.size + 1) := by unfold Hid; rw [← hw2]; simp
  have HB2 : Hid (Below w.heap.size w w2) := by rw [← hw2]; exact (Below.refl _ _).alloc (Nat.le_refl _) _
  have HT2 : Hid (w2.there w.heap.size 0 32) := by rw [← hw2]; exact alloc_thereAt _ _ _ 32 _ rfl zD_size.symm
  have HZ2 : Hid (DAt w2 w.heap.size 0 zD) := by rw [← hw2]; exact box_dat w zD _
  have HK : Hid (∀ wx, Below w.heap.size w wx → Env wx ∧ Handle wx ∧ DRow wx a n ls ∧ Row wx ab nb bl) := fun wx hx => ⟨G.below hx, HH.below hx, R.below hx, RB.below hx⟩
  have HLF : Hid (∀ wx, Below w.heap.size w wx → Calls Tryd.prog 12 #[.slice ab nb cb] wx fun e w' => e = .returned (digestV (leafT bl)) ∧ Below wx.heap.size wx w') := fun wx hx => wtree_leaf ab nb cb bl wx (HK.out wx hx).1 (HK.out wx hx).2.2.2 hcb hnb
  have HRF : Hid (∀ wx, Below w.heap.size w wx → Calls Tryd.prog 13 #[.slice ab nb cb] wx fun e w' => e = .returned (digestV (leafT bl)) ∧ Below wx.heap.size wx w') := fun wx hx => rleaf_any ab nb cb bl wx (HK.out wx hx).2.2.2 hnb
  have lL := leafT_length bl
  have h32 := rootT_length R.2.1
  clear G HH R RB
  generalize leafT bl = L at *
  go_enter Tryd.func3, Tryd.ntmps3
  by_cases h : n ≤ 256
  · have g1 : ¬ (256 : Int) < (n : Int) := by omega
    generalize hX : rootT ls = X at *
    have HX : Hid (rootT ls = X) := hX
    clear hX
    go_wp2_with (refine wpList_allocE (by rfl) 26 (by rfl) (cellsB zD).toArray Tryd.zeroDg w.heap.size rfl w2 hw2 ?_)
    clear hw2
    refine (rroot_any n a c ls w2 (HK.out _ HB2.out).2.2.1 hc (by omega)).mono ?_
    rintro e w3 ⟨rfl, hb3⟩
    rw [HX.out]
    have HB4 : Hid (Below w.heap.size w (w3.setCells w.heap.size 0 (cellsB X))) := below_setCells _ (Nat.le_refl _) _ _ _ (below_trans HB2.out hb3)
    have HT3 : Hid (w3.there w.heap.size 0 32) := there_below HT2.out hb3 (by have := HS2.out; omega)
    have HD4 : Hid (DAt (w3.setCells w.heap.size 0 (cellsB X)) w.heap.size 0 X) := dat_stored HT3.out h32
    clear hb3 HB2 HT2 HZ2 HS2
    obtain ⟨w4, hw4⟩ : ∃ w4, w3.setCells w.heap.size 0 (cellsB X) = w4 := ⟨_, rfl⟩
    rw [hw4] at HB4 HD4
    go_wp2_with (refine wpList_store_mid (by rfl) 26 (.tmp 6) (.tmp 14) (by rfl) w.heap.size 0 (cellsB X).toArray (by rfl) (by rfl) (by rw [cellsB_size, h32]; exact HT3.out) (by rw [cellsB_size, h32]; exact Tryd.sizeDg) (all_oneCell_toArray (cellsB_one _)) ?_; rw [show (cellsB X).toArray.toList = cellsB X from rfl, hw4])
    clear hw4 HT3
    refine (wtree_root a n c ls w4 (HK.out _ HB4.out).1 (HK.out _ HB4.out).2.2.1 hc h).mono ?_
    rintro e w5 ⟨rfl, hb5⟩
    rw [HX.out]
    have HD5 : Hid (DAt w5 w.heap.size 0 X) := HD4.out.below hb5 (cell_block (HD4.out.cell 0 (by omega)))
    have HB5 : Hid (Below w.heap.size w w5) := below_trans HB4.out hb5
    have hs5 : w.heap.size < w5.heap.size := cell_block (HD5.out.cell 0 (by omega))
    clear hb5 HD4 HB4
    obtain ⟨w6, hw6⟩ : ∃ w6, w5.alloc (.cells (cellsB zD).toArray 26) = w6 := ⟨_, rfl⟩
    have HT6 : Hid (w6.there w5.heap.size 0 32) := by rw [← hw6]; exact alloc_thereAt _ _ _ 32 _ rfl zD_size.symm
    have hb6 : Below w5.heap.size w5 (w6.setCells w5.heap.size 0 (cellsB X)) := by rw [← hw6]; exact new_stored _ _ _
    have HB7 : Hid (Below w.heap.size w (w6.setCells w5.heap.size 0 (cellsB X))) := below_trans HB5.out hb6
    have HA7 : Hid (DAt (w6.setCells w5.heap.size 0 (cellsB X)) w.heap.size 0 X ∧ DAt (w6.setCells w5.heap.size 0 (cellsB X)) w5.heap.size 0 X) := ⟨HD5.out.below hb6 hs5, dat_stored HT6.out h32⟩
    obtain ⟨w7, hw7⟩ : ∃ w7, w6.setCells w5.heap.size 0 (cellsB X) = w7 := ⟨_, rfl⟩
    rw [hw7] at HB7 HA7
    clear hb6 HD5 HB5
    go_wp2_with (first
      | (refine wpList_allocE (by rfl) 26 (by rfl) (cellsB zD).toArray Tryd.zeroDg w5.heap.size rfl w6 hw6 ?_)
      | (refine wpList_store_mid (by rfl) 26 (.tmp 7) (.tmp 18) (by rfl) w5.heap.size 0 (cellsB X).toArray (by rfl) (by rfl) (by rw [cellsB_size, h32]; exact HT6.out) (by rw [cellsB_size, h32]; exact Tryd.sizeDg) (all_oneCell_toArray (cellsB_one _)) ?_; rw [show (cellsB X).toArray.toList = cellsB X from rfl, hw7]))
    clear hw6 hw7 HT6
    generalize w5.heap.size = g5 at *
    refine (error_nil 0 _).mono ?_
    rintro e w8 ⟨rfl, hb8⟩
    rw [show decide ((0 : Int) = 0) = true from rfl]
    have HB8 : Hid (Below w.heap.size w w8) := below_trans HB7.out hb8
    have HA8 : Hid (DAt w8 w.heap.size 0 X ∧ DAt w8 g5 0 X) := ⟨HA7.out.1.below hb8 (cell_block (HA7.out.1.cell 0 (by omega))), HA7.out.2.below hb8 (cell_block (HA7.out.2.cell 0 (by omega)))⟩
    clear hb8 HB7 HA7
    go_wp2_with (first
      | (refine wpList_load_midG (by rfl) 26 (.tmp 7) (by rfl) g5 0 (by rfl) (cellsB X) _ HA8.out.2 Tryd.underlying26 (by rfl) (by rw [cellsB_length, h32]; exact Tryd.sizeDg) ?_)
      | (refine wpList_load_midG (by rfl) 26 (.tmp 6) (by rfl) w.heap.size 0 (by rfl) (cellsB X) _ HA8.out.1 Tryd.underlying26 (by rfl) (by rw [cellsB_length, h32]; exact Tryd.sizeDg) ?_)
      | (refine wpList_eqD (.tmp 25) (.tmp 26) (by rfl) (by rfl) X X h32 h32 (by rfl) (by rfl) true (decide_eq_true rfl) ?_))
    refine (HLF.out w8 HB8.out).mono ?_
    rintro e wy ⟨rfl, hby⟩
    have HBy : Hid (Below w.heap.size w wy) := below_trans HB8.out hby
    clear hby
    go_wp2_with fail
    refine (HRF.out wy HBy.out).mono ?_
    rintro e wz ⟨rfl, hbz⟩
    have HBz : Hid (Below w.heap.size w wz) := below_trans HBy.out hbz
    clear hbz HBy
    go_wp2_with (refine wpList_eqD (.tmp 31) (.tmp 33) (by rfl) (by rfl) L L lL lL (by rfl) (by rfl) true (decide_eq_true rfl) ?_)
    go_ret
    exact ⟨rfl, HBz.out⟩
  · have g1 : (256 : Int) < (n : Int) := by omega
    go_wp2_with (refine wpList_allocE (by rfl) 26 (by rfl) (cellsB zD).toArray Tryd.zeroDg w.heap.size rfl w2 hw2 ?_)
    clear hw2 h32
    have h32 : zD.length = 32 := rfl
    have HZZ : Hid ((Tryd.prog.info? 26).map (·.zero) = some (some (.agg (cellsB zD).toArray))) := Tryd.zeroDg
    have HZS : Hid ((cellsB zD).toArray.size = 32) := zD_size
    refine (wtree_full a n c ls w2 (HK.out _ HB2.out).1 (HK.out _ HB2.out).2.2.1 hc (by omega) hn).mono ?_
    rintro e w5 ⟨rfl, hb5⟩
    clear HT2
    have hgl : w.heap.size < w2.heap.size := by have := HS2.out; omega
    clear HS2
    generalize zD = X at *
    have HD5 : Hid (DAt w5 w.heap.size 0 X) := HZ2.out.below hb5 (hgl)
    have HB5 : Hid (Below w.heap.size w w5) := below_trans HB2.out hb5
    have hs5 : w.heap.size < w5.heap.size := cell_block (HD5.out.cell 0 (by omega))
    clear hb5 HZ2 HB2
    obtain ⟨w6, hw6⟩ : ∃ w6, w5.alloc (.cells (cellsB X).toArray 26) = w6 := ⟨_, rfl⟩
    have HT6 : Hid (w6.there w5.heap.size 0 32) := by rw [← hw6]; exact alloc_thereAt _ _ _ 32 _ rfl HZS.out.symm
    have hb6 : Below w5.heap.size w5 (w6.setCells w5.heap.size 0 (cellsB X)) := by rw [← hw6]; exact new_stored _ _ _
    have HB7 : Hid (Below w.heap.size w (w6.setCells w5.heap.size 0 (cellsB X))) := below_trans HB5.out hb6
    have HA7 : Hid (DAt (w6.setCells w5.heap.size 0 (cellsB X)) w.heap.size 0 X ∧ DAt (w6.setCells w5.heap.size 0 (cellsB X)) w5.heap.size 0 X) := ⟨HD5.out.below hb6 hs5, dat_stored HT6.out h32⟩
    obtain ⟨w7, hw7⟩ : ∃ w7, w6.setCells w5.heap.size 0 (cellsB X) = w7 := ⟨_, rfl⟩
    rw [hw7] at HB7 HA7
    clear hb6 HD5 HB5
    go_wp2_with (first
      | (refine wpList_allocE (by rfl) 26 (by rfl) (cellsB X).toArray HZZ.out w5.heap.size rfl w6 hw6 ?_)
      | (refine wpList_store_mid (by rfl) 26 (.tmp 7) (.tmp 18) (by rfl) w5.heap.size 0 (cellsB X).toArray (by rfl) (by rfl) (by rw [cellsB_size, h32]; exact HT6.out) (by rw [cellsB_size, h32]; exact Tryd.sizeDg) (all_oneCell_toArray (cellsB_one _)) ?_; rw [show (cellsB X).toArray.toList = cellsB X from rfl, hw7]))
    clear hw6 hw7 HT6
    generalize w5.heap.size = g5 at *
    refine (error_errno 4 4 _ (HK.out _ HB7.out).2.1).mono ?_
    rintro e w8 ⟨rfl, hb8⟩
    rw [show decide ((4 : Int) = 4) = true from rfl]
    have HB8 : Hid (Below w.heap.size w w8) := below_trans HB7.out hb8
    have HA8 : Hid (DAt w8 w.heap.size 0 X ∧ DAt w8 g5 0 X) := ⟨HA7.out.1.below hb8 (cell_block (HA7.out.1.cell 0 (by omega))), HA7.out.2.below hb8 (cell_block (HA7.out.2.cell 0 (by omega)))⟩
    clear hb8 HB7 HA7
    go_wp2_with (first
      | (refine wpList_load_midG (by rfl) 26 (.tmp 7) (by rfl) g5 0 (by rfl) (cellsB X) _ HA8.out.2 Tryd.underlying26 (by rfl) (by rw [cellsB_length, h32]; exact Tryd.sizeDg) ?_)
      | (refine wpList_load_midG (by rfl) 26 (.tmp 6) (by rfl) w.heap.size 0 (by rfl) (cellsB X) _ HA8.out.1 Tryd.underlying26 (by rfl) (by rw [cellsB_length, h32]; exact Tryd.sizeDg) ?_)
      | (refine wpList_eqD (.tmp 25) (.tmp 26) (by rfl) (by rfl) X X h32 h32 (by rfl) (by rfl) true (decide_eq_true rfl) ?_))
    refine (HLF.out w8 HB8.out).mono ?_
    rintro e wy ⟨rfl, hby⟩
    have HBy : Hid (Below w.heap.size w wy) := below_trans HB8.out hby
    clear hby
    go_wp2_with fail
    refine (HRF.out wy HBy.out).mono ?_
    rintro e wz ⟨rfl, hbz⟩
    have HBz : Hid (Below w.heap.size w wz) := below_trans HBy.out hbz
    clear hbz HBy
    go_wp2_with (refine wpList_eqD (.tmp 31) (.tmp 33) (by rfl) (by rfl) L L lL lL (by rfl) (by rfl) true (decide_eq_true rfl) ?_)
    go_ret
    exact ⟨rfl, HBz.out⟩
end Go.Proofs.YtdldkhhcicjbmaaDoor
