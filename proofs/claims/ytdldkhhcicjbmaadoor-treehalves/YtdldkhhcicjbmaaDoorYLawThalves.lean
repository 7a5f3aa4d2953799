/- The law TreeHalves: a tree is two. -/
import Derived.Test.YtdldkhhcicjbmaaDoorJ13
namespace Go.Proofs.YtdldkhhcicjbmaaDoor
open Go.RowKit
set_option linter.unusedVariables false
set_option linter.unusedSimpArgs false

set_option maxRecDepth 100000 in
set_option maxHeartbeats 4000000 in
theorem thalves_walk (a : Option Addr) (n c : Nat) (ls : List (List UInt8)) (w : World) (G : Env w) (R : DRow w a n ls) (hc : n ≤ c) (hn : 32 * n ≤ 140737488351232) :
    Calls Tryd.prog 8 #[.slice a n c] w fun e w' => e = .returned (.bool true) ∧ Below w.heap.size w w' := by
  have HK : Hid (∀ wx, Below w.heap.size w wx → Env wx ∧ DRow wx a n ls) := fun wx hx => ⟨G.below hx, R.below hx⟩
  have HCF : Hid (Calls Tryd.prog 22 #[] w fun e w' => e = .returned (.bool true) ∧ Below w.heap.size w w') := lrooted_any w G
  have HLEN : Hid (ls.length = n) := R.1
  have h32 := rootT_length R.2.1
  clear G R
  go_enter Tryd.func8, Tryd.ntmps8
  go_wp2_with fail
  refine HCF.out.mono ?_
  rintro e w1 ⟨rfl, hb1⟩
  have HB1 : Hid (Below w.heap.size w w1) := hb1
  clear hb1 HCF
  by_cases hmid : 2 ≤ n ∧ n ≤ 256
  · obtain ⟨hn2, hn3⟩ := hmid
    have g1 : ¬ (n : Int) < 2 := by omega
    have g2 : ¬ (256 : Int) < (n : Int) := by omega
    go_wp2_with fail
    go_loopw [6] (fun v wr => ∃ k f : Nat, v = .int .i64 (k : Int) ∧ 0 < k ∧ k < n ∧ n ≤ k + f ∧ Hid (halfF f k n = halfT n) ∧ Hid (wr = w1)) (fun v _ => n - (intOf v).toNat)
    case atStart => exact ⟨1, n, rfl, by omega, by omega, by omega, rfl, rfl⟩
    case round =>
      obtain ⟨k, f, rfl, h0, h1, h2, HE, HW⟩ := hrel
      by_cases hlt : 2 * k < n
      · have g3 : (2 : Int) * (k : Int) < (n : Int) := by omega
        cases f with
        | zero => omega
        | succ f =>
          go_wp2_with fail
          go_roundw
          case rel => exact ⟨2 * k, f, by go_num, by omega, hlt, by omega, (by have := HE.out; rw [halfF, if_pos hlt] at this; exact this), HW⟩
          case measure => simp [intOf]; omega
      · have g3 : ¬ (2 : Int) * (k : Int) < (n : Int) := by omega
        have hk : halfT n = k := by
          have := HE.out
          cases f with
          | zero => exact this.symm
          | succ f => rw [halfF, if_neg hlt] at this; exact this.symm
        have HR2 : Hid (rootT ls = nodeT (rootT (ls.take k)) (rootT (ls.drop k))) := by
          have := rootT_two (ls := ls) (by rw [HLEN.out]; exact hn2)
          rw [HLEN.out, hk] at this
          exact this
        have hw := HW.out
        subst hw
        obtain ⟨b, o, rfl⟩ := (HK.out _ HB1.out).2.addr (by omega)
        have HC0 : Hid (∀ wx, Below w.heap.size w wx → Calls Tryd.prog 10 #[.slice (some ⟨b, o, none⟩) n c] wx fun e w' => e = .returned (.tuple #[digestV (rootT ls), .nilIface]) ∧ Below wx.heap.size wx w') := fun wx hx => wtree_root _ n c ls wx (HK.out _ hx).1 (HK.out _ hx).2 hc hn3
        have HC1 : Hid (∀ wx, Below w.heap.size w wx → Calls Tryd.prog 10 #[.slice (some ⟨b, o, none⟩) k c] wx fun e w' => e = .returned (.tuple #[digestV (rootT (ls.take k)), .nilIface]) ∧ Below wx.heap.size wx w') := fun wx hx => wtree_root _ k c _ wx (HK.out _ hx).1 ((HK.out _ hx).2.take k (by omega)) (by omega) (by omega)
        have HC2 : Hid (∀ wx, Below w.heap.size w wx → Calls Tryd.prog 10 #[.slice (some ⟨b, o + k * 32, none⟩) (n - k) (c - k)] wx fun e w' => e = .returned (.tuple #[digestV (rootT (ls.drop k)), .nilIface]) ∧ Below wx.heap.size wx w') := fun wx hx => wtree_root _ (n - k) (c - k) _ wx (HK.out _ hx).1 ((HK.out _ hx).2.drop k (by omega)) (by omega) (by omega)
        have lX := rootT_length ((HK.out _ HB1.out).2.take k (by omega)).2.1
        have lY := rootT_length ((HK.out _ HB1.out).2.drop k (by omega)).2.1
        have HND : Hid (∀ wx, Env wx → Calls Tryd.prog 20 #[digestV (rootT (ls.take k)), digestV (rootT (ls.drop k))] wx fun e w' => e = .returned (digestV (rootT ls)) ∧ Below wx.heap.size wx w') := fun wx hx => by rw [HR2.out]; exact wtree_node _ _ wx hx lX lY
        clear hk HR2 HW HE g3
        generalize rootT ls = D at *
        generalize rootT (ls.take k) = X at *
        generalize rootT (ls.drop k) = Y at *
        have k0 : (0 : Int) ≤ (k : Int) := by omega
        have k1 : (k : Int) ≤ (n : Int) := by omega
        have k2 : (k : Int) ≤ (c : Int) := by omega
        have n1 : (n : Int) ≤ (c : Int) := by omega
        have hck : ¬ c = k := by omega
        have g3 : ¬ (2 : Int) * (k : Int) < (n : Int) := by omega
        go_wp2_with fail
        refine (HC0.out _ HB1.out).mono ?_
        rintro e w2 ⟨rfl, hb2⟩
        have HB2 : Hid (Below w.heap.size w w2) := below_trans HB1.out hb2
        clear hb2
        obtain ⟨w3, hw3⟩ : ∃ w3, w2.alloc (.cells (cellsB zD).toArray 26) = w3 := ⟨_, rfl⟩
        have HTw3 : Hid (w3.there w2.heap.size 0 32) := by rw [← hw3]; exact alloc_thereAt _ _ _ 32 _ rfl zD_size.symm
        have hbw4 : Below w2.heap.size w2 (w3.setCells w2.heap.size 0 (cellsB D)) := by rw [← hw3]; exact new_stored _ _ _
        have HD4 : Hid (DAt (w3.setCells w2.heap.size 0 (cellsB D)) w2.heap.size 0 D) := dat_stored HTw3.out h32
        have HB4 : Hid (Below w.heap.size w (w3.setCells w2.heap.size 0 (cellsB D))) := below_trans HB2.out hbw4
        clear hbw4
        obtain ⟨w4, hw4⟩ : ∃ w4, w3.setCells w2.heap.size 0 (cellsB D) = w4 := ⟨_, rfl⟩
        rw [hw4] at HD4 HB4
        go_wp2_with (first
          | (refine wpList_allocE (by rfl) 26 (by rfl) (cellsB zD).toArray Tryd.zeroDg w2.heap.size rfl w3 hw3 ?_)
          | (refine wpList_store_mid (by rfl) 26 (.tmp 7) (.tmp 53) (by rfl) w2.heap.size 0 (cellsB D).toArray (by rfl) (by rfl) (by rw [cellsB_size, h32]; exact HTw3.out) (by rw [cellsB_size, h32]; exact Tryd.sizeDg) (all_oneCell_toArray (cellsB_one _)) ?_; rw [show (cellsB D).toArray.toList = cellsB D from rfl, hw4]))
        clear hw3 hw4 HTw3
        have hgd : w2.heap.size < w4.heap.size := cell_block (HD4.out.cell 0 (by omega))
        generalize w2.heap.size = gd at *
        refine (HC1.out _ HB4.out).mono ?_
        rintro e w5 ⟨rfl, hb5⟩
        have HB5 : Hid (Below w.heap.size w w5) := below_trans HB4.out hb5
        have HD5 : Hid (DAt w5 gd 0 D) := HD4.out.below hb5 hgd
        have hgd5 : gd < w5.heap.size := Nat.lt_of_lt_of_le hgd hb5.size
        clear hb5 HD4 HB4
        obtain ⟨w6, hw6⟩ : ∃ w6, w5.alloc (.cells (cellsB zD).toArray 26) = w6 := ⟨_, rfl⟩
        have HTw6 : Hid (w6.there w5.heap.size 0 32) := by rw [← hw6]; exact alloc_thereAt _ _ _ 32 _ rfl zD_size.symm
        have hbw7 : Below w5.heap.size w5 (w6.setCells w5.heap.size 0 (cellsB X)) := by rw [← hw6]; exact new_stored _ _ _
        have HX7 : Hid (DAt (w6.setCells w5.heap.size 0 (cellsB X)) w5.heap.size 0 X) := dat_stored HTw6.out lX
        have HB7 : Hid (Below w.heap.size w (w6.setCells w5.heap.size 0 (cellsB X))) := below_trans HB5.out hbw7
        have HD7 : Hid (DAt (w6.setCells w5.heap.size 0 (cellsB X)) gd 0 D) := HD5.out.below hbw7 hgd5
        clear hbw7
        obtain ⟨w7, hw7⟩ : ∃ w7, w6.setCells w5.heap.size 0 (cellsB X) = w7 := ⟨_, rfl⟩
        rw [hw7] at HX7 HB7 HD7
        go_wp2_with (first
          | (refine wpList_allocE (by rfl) 26 (by rfl) (cellsB zD).toArray Tryd.zeroDg w5.heap.size rfl w6 hw6 ?_)
          | (refine wpList_store_mid (by rfl) 26 (.tmp 9) (.tmp 60) (by rfl) w5.heap.size 0 (cellsB X).toArray (by rfl) (by rfl) (by rw [cellsB_size, lX]; exact HTw6.out) (by rw [cellsB_size, lX]; exact Tryd.sizeDg) (all_oneCell_toArray (cellsB_one _)) ?_; rw [show (cellsB X).toArray.toList = cellsB X from rfl, hw7]))
        clear hw6 hw7 HTw6
        have hgx : w5.heap.size < w7.heap.size := cell_block (HX7.out.cell 0 (by omega))
        generalize w5.heap.size = gx at *
        refine (HC2.out _ HB7.out).mono ?_
        rintro e w8 ⟨rfl, hb8⟩
        have HB8 : Hid (Below w.heap.size w w8) := below_trans HB7.out hb8
        have HX8 : Hid (DAt w8 gd 0 D ∧ DAt w8 gx 0 X) := ⟨HD7.out.below hb8 (by omega), HX7.out.below hb8 hgx⟩
        have hgx8 : gx < w8.heap.size := Nat.lt_of_lt_of_le hgx hb8.size
        clear hb8 HD7 HX7 HB7
        obtain ⟨w9, hw9⟩ : ∃ w9, w8.alloc (.cells (cellsB zD).toArray 26) = w9 := ⟨_, rfl⟩
        have HTw9 : Hid (w9.there w8.heap.size 0 32) := by rw [← hw9]; exact alloc_thereAt _ _ _ 32 _ rfl zD_size.symm
        have hbwA : Below w8.heap.size w8 (w9.setCells w8.heap.size 0 (cellsB Y)) := by rw [← hw9]; exact new_stored _ _ _
        have HYA : Hid (DAt (w9.setCells w8.heap.size 0 (cellsB Y)) w8.heap.size 0 Y) := dat_stored HTw9.out lY
        have HBA : Hid (Below w.heap.size w (w9.setCells w8.heap.size 0 (cellsB Y))) := below_trans HB8.out hbwA
        have HXA : Hid (DAt (w9.setCells w8.heap.size 0 (cellsB Y)) gd 0 D ∧ DAt (w9.setCells w8.heap.size 0 (cellsB Y)) gx 0 X) := ⟨HX8.out.1.below hbwA (by omega), HX8.out.2.below hbwA hgx8⟩
        clear hbwA
        obtain ⟨wA, hwA⟩ : ∃ wA, w9.setCells w8.heap.size 0 (cellsB Y) = wA := ⟨_, rfl⟩
        rw [hwA] at HYA HBA HXA
        go_wp2_with (first
          | (refine wpList_allocE (by rfl) 26 (by rfl) (cellsB zD).toArray Tryd.zeroDg w8.heap.size rfl w9 hw9 ?_)
          | (refine wpList_store_mid (by rfl) 26 (.tmp 11) (.tmp 67) (by rfl) w8.heap.size 0 (cellsB Y).toArray (by rfl) (by rfl) (by rw [cellsB_size, lY]; exact HTw9.out) (by rw [cellsB_size, lY]; exact Tryd.sizeDg) (all_oneCell_toArray (cellsB_one _)) ?_; rw [show (cellsB Y).toArray.toList = cellsB Y from rfl, hwA]))
        clear hw9 hwA HTw9
        have hgy : w8.heap.size < wA.heap.size := cell_block (HYA.out.cell 0 (by omega))
        generalize w8.heap.size = gy at *
        have HSx : Hid (∀ wx, Below wA.heap.size wA wx → wx.rangeAt gd 0 (cellsB D) ∧ wx.rangeAt gx 0 (cellsB X) ∧ wx.rangeAt gy 0 (cellsB Y)) := fun wx hx => ⟨HXA.out.1.below hx (by omega), HXA.out.2.below hx (by omega), HYA.out.below hx hgy⟩
        refine wp_region_noPanic ?_
        refine wp_region_held_drew (S := fun w' => w'.rangeAt gd 0 (cellsB D) ∧ w'.rangeAt gx 0 (cellsB X) ∧ w'.rangeAt gy 0 (cellsB Y)) (by kernel_rfl) (HSx.out _ (below_drewN wA 1)) (fun hHeld => ?_)
        try simp only [Act.put, List.setIfInBounds_toArray, List.set_cons_zero, List.set_cons_succ]
        have HBd : Hid (Below wA.heap.size wA wA.drew) := below_drewN wA 1
        generalize wA.drew = wd at *
        refine wpAnyH_take (i := 0) (v := ?_) (by simp only [List.getElem?_toArray, List.getElem?_cons_zero, List.getElem?_cons_succ]; rfl) (by kernel_rfl) (by kernel_rfl) (by kernel_rfl) (fun _ _ _ h => h) (Or.inl ⟨by rfl, ?_⟩) hHeld ?_
        rotate_left
        · intro w hSw
          obtain ⟨hSw0, hSw1, hSw2⟩ := hSw
          go_simp
          try with_reducible rfl
        try simp only [Act.put, List.setIfInBounds_toArray, List.set_cons_zero, List.set_cons_succ]
        refine wpAnyH_take (i := 1) (v := ?_) (by simp only [List.getElem?_toArray, List.getElem?_cons_zero, List.getElem?_cons_succ]; rfl) (by kernel_rfl) (by kernel_rfl) (by kernel_rfl) (fun _ _ _ h => h) (Or.inl ⟨by rfl, ?_⟩) hHeld ?_
        rotate_left
        · intro w hSw
          obtain ⟨hSw0, hSw1, hSw2⟩ := hSw
          go_simp
          try with_reducible rfl
        try simp only [Act.put, List.setIfInBounds_toArray, List.set_cons_zero, List.set_cons_succ]
        refine wpAnyH_take (i := 2) (v := ?_) (by simp only [List.getElem?_toArray, List.getElem?_cons_zero, List.getElem?_cons_succ]; rfl) (by kernel_rfl) (by kernel_rfl) (by kernel_rfl) (fun _ _ _ h => h) (Or.inl ⟨by rfl, ?_⟩) hHeld ?_
        rotate_left
        · intro w hSw
          obtain ⟨hSw0, hSw1, hSw2⟩ := hSw
          go_simp
          try with_reducible rfl
        try simp only [Act.put, List.setIfInBounds_toArray, List.set_cons_zero, List.set_cons_succ]
        refine wpAnyH_take (i := 3) (v := ?_) (by simp only [List.getElem?_toArray, List.getElem?_cons_zero, List.getElem?_cons_succ]; rfl) (by kernel_rfl) (by kernel_rfl) (by kernel_rfl) (fun _ _ _ h => h) (Or.inl ⟨by rfl, ?_⟩) hHeld ?_
        rotate_left
        · intro w hSw
          obtain ⟨hSw0, hSw1, hSw2⟩ := hSw
          go_simp
          try with_reducible rfl
        try simp only [Act.put, List.setIfInBounds_toArray, List.set_cons_zero, List.set_cons_succ]
        refine wpAnyH_take (i := 4) (v := ?_) (by simp only [List.getElem?_toArray, List.getElem?_cons_zero, List.getElem?_cons_succ]; rfl) (by kernel_rfl) (by kernel_rfl) (by kernel_rfl) (fun _ _ _ h => h) (Or.inl ⟨by rfl, ?_⟩) hHeld ?_
        rotate_left
        · intro w hSw
          obtain ⟨hSw0, hSw1, hSw2⟩ := hSw
          go_simp
          try with_reducible rfl
        try simp only [Act.put, List.setIfInBounds_toArray, List.set_cons_zero, List.set_cons_succ]
        refine wpAnyH_take (i := 5) (v := ?_) (by simp only [List.getElem?_toArray, List.getElem?_cons_zero, List.getElem?_cons_succ]; rfl) (by kernel_rfl) (by kernel_rfl) (by kernel_rfl) (fun _ _ _ h => h) (Or.inl ⟨by rfl, ?_⟩) hHeld ?_
        rotate_left
        · intro w hSw
          obtain ⟨hSw0, hSw1, hSw2⟩ := hSw
          go_simp
          try with_reducible rfl
        try simp only [Act.put, List.setIfInBounds_toArray, List.set_cons_zero, List.set_cons_succ]
        refine wpAnyH_take (i := 6) (v := ?_) (by simp only [List.getElem?_toArray, List.getElem?_cons_zero, List.getElem?_cons_succ]; rfl) (by kernel_rfl) (by kernel_rfl) (by kernel_rfl) (fun _ _ _ h => h) (Or.inl ⟨by rfl, ?_⟩) hHeld ?_
        rotate_left
        · intro w hSw
          obtain ⟨hSw0, hSw1, hSw2⟩ := hSw
          go_simp
          try with_reducible rfl
        try simp only [Act.put, List.setIfInBounds_toArray, List.set_cons_zero, List.set_cons_succ]
        refine wpAnyH_take (i := 7) (v := ?_) (by simp only [List.getElem?_toArray, List.getElem?_cons_zero, List.getElem?_cons_succ]; rfl) (by kernel_rfl) (by kernel_rfl) (by kernel_rfl) (fun _ _ _ h => h) (Or.inl ⟨by rfl, ?_⟩) hHeld ?_
        rotate_left
        · intro w hSw
          obtain ⟨hSw0, hSw1, hSw2⟩ := hSw
          go_simp
          try with_reducible rfl
        try simp only [Act.put, List.setIfInBounds_toArray, List.set_cons_zero, List.set_cons_succ]
        refine wpAnyH_take (i := 8) (v := ?_) (by simp only [List.getElem?_toArray, List.getElem?_cons_zero, List.getElem?_cons_succ]; rfl) (by kernel_rfl) (by kernel_rfl) (by kernel_rfl) (fun _ _ _ h => h) (Or.inl ⟨by rfl, ?_⟩) hHeld ?_
        rotate_left
        · intro w hSw
          obtain ⟨hSw0, hSw1, hSw2⟩ := hSw
          go_simp
          try with_reducible rfl
        try simp only [Act.put, List.setIfInBounds_toArray, List.set_cons_zero, List.set_cons_succ]
        refine wpAnyH_take (i := 9) (v := ?_) (by simp only [List.getElem?_toArray, List.getElem?_cons_zero, List.getElem?_cons_succ]; rfl) (by kernel_rfl) (by kernel_rfl) (by kernel_rfl) (fun _ _ _ h => h) (Or.inl ⟨by rfl, ?_⟩) hHeld ?_
        rotate_left
        · intro w hSw
          obtain ⟨hSw0, hSw1, hSw2⟩ := hSw
          go_simp
          try with_reducible rfl
        try simp only [Act.put, List.setIfInBounds_toArray, List.set_cons_zero, List.set_cons_succ]
        refine wpAnyH_take (i := 10) (v := ?_) (by simp only [List.getElem?_toArray, List.getElem?_cons_zero, List.getElem?_cons_succ]; rfl) (by kernel_rfl) (by kernel_rfl) (by kernel_rfl) (fun _ _ _ h => h) (Or.inl ⟨by rfl, ?_⟩) hHeld ?_
        rotate_left
        · intro w hSw
          obtain ⟨hSw0, hSw1, hSw2⟩ := hSw
          go_simp
          try with_reducible rfl
        try simp only [Act.put, List.setIfInBounds_toArray, List.set_cons_zero, List.set_cons_succ]
        refine wpAnyH_take (i := 11) (v := .agg (cellsB D).toArray) (by simp only [List.getElem?_toArray, List.getElem?_cons_zero, List.getElem?_cons_succ]; rfl) (by kernel_rfl) (by kernel_rfl) (by kernel_rfl) (fun _ _ _ h => h)
          (yieldsIf_load_mid (by rfl) _ _ rfl _ _ rfl _ _ (fun w hw => hw.1) Tryd.underlying26 rfl (by rw [cellsB_length, h32]; exact Tryd.sizeDg)) hHeld ?_
        try simp only [Act.put, List.setIfInBounds_toArray, List.set_cons_zero, List.set_cons_succ]
        refine wpAnyH_take (i := 12) (v := .agg (cellsB X).toArray) (by simp only [List.getElem?_toArray, List.getElem?_cons_zero, List.getElem?_cons_succ]; rfl) (by kernel_rfl) (by kernel_rfl) (by kernel_rfl) (fun _ _ _ h => h)
          (yieldsIf_load_mid (by rfl) _ _ rfl _ _ rfl _ _ (fun w hw => hw.2.1) Tryd.underlying26 rfl (by rw [cellsB_length, lX]; exact Tryd.sizeDg)) hHeld ?_
        try simp only [Act.put, List.setIfInBounds_toArray, List.set_cons_zero, List.set_cons_succ]
        refine wpAnyH_take (i := 13) (v := .agg (cellsB Y).toArray) (by simp only [List.getElem?_toArray, List.getElem?_cons_zero, List.getElem?_cons_succ]; rfl) (by kernel_rfl) (by kernel_rfl) (by kernel_rfl) (fun _ _ _ h => h)
          (yieldsIf_load_mid (by rfl) _ _ rfl _ _ rfl _ _ (fun w hw => hw.2.2) Tryd.underlying26 rfl (by rw [cellsB_length, lY]; exact Tryd.sizeDg)) hHeld ?_
        try simp only [Act.put, List.setIfInBounds_toArray, List.set_cons_zero, List.set_cons_succ]
        refine wpAnyH_ready (rs := [14]) (by kernel_rfl) (by simp) ?_
        refine AllReadyH.cons (by simp only [List.getElem?_toArray, List.getElem?_cons_zero, List.getElem?_cons_succ]; rfl) (fun K hK => ?_) AllReadyH.nil
        rw [if_pos (by rfl)]
        go_simp
        refine (HND.out wd (HK.out _ (below_trans HBA.out HBd.out)).1).mono ?_
        rintro e wE ⟨rfl, hbE⟩
        have HBE : Hid (Below wA.heap.size wA wE) := HBd.out.trans (hbE.mono HBd.out.size)
        clear hbE HBd
        go_wp2_with fail
        refine hK.out _ _ (HSx.out _ HBE.out) (fun hHeld => ?_)
        clear hK K
        try simp only [Act.put, List.setIfInBounds_toArray, List.set_cons_zero, List.set_cons_succ]
        refine wpAnyH_take (i := 15) (v := .bool true) (by simp only [List.getElem?_toArray, List.getElem?_cons_zero, List.getElem?_cons_succ]; rfl) (by kernel_rfl) (by kernel_rfl) (by kernel_rfl) (fun _ _ _ h => h)
          (yieldsIf_eqD (by rfl) _ _ rfl D D h32 h32 rfl rfl true (decide_eq_true rfl)) hHeld ?_
        try simp only [Act.put, List.setIfInBounds_toArray, List.set_cons_zero, List.set_cons_succ]
        refine wpAnyH_take (i := 16) (v := ?_) (by simp only [List.getElem?_toArray, List.getElem?_cons_zero, List.getElem?_cons_succ]; rfl) (by kernel_rfl) (by kernel_rfl) (by kernel_rfl) (fun _ _ _ h => h) (Or.inl ⟨by rfl, ?_⟩) hHeld ?_
        rotate_left
        · intro w hSw
          obtain ⟨hSw0, hSw1, hSw2⟩ := hSw
          go_simp
          try with_reducible rfl
        try simp only [Act.put, List.setIfInBounds_toArray, List.set_cons_zero, List.set_cons_succ]
        refine wpAnyH_take (i := 17) (v := ?_) (by simp only [List.getElem?_toArray, List.getElem?_cons_zero, List.getElem?_cons_succ]; rfl) (by kernel_rfl) (by kernel_rfl) (by kernel_rfl) (fun _ _ _ h => h) (Or.inl ⟨by rfl, ?_⟩) hHeld ?_
        rotate_left
        · intro w hSw
          obtain ⟨hSw0, hSw1, hSw2⟩ := hSw
          go_simp
          try with_reducible rfl
        try simp only [Act.put, List.setIfInBounds_toArray, List.set_cons_zero, List.set_cons_succ]
        refine wpAnyH_done (by kernel_rfl) (NoPanic.normal ?_) _
        clear hHeld
        go_wp2_with fail
        go_ret
        exact ⟨rfl, below_trans HBA.out HBE.out⟩
  · by_cases h0 : n = 0
    · subst h0
      have g1 : ((0 : Nat) : Int) < 2 := by omega
      have lz : zD.length = 32 := rfl
      go_wp2_with fail
      refine (wtree_root a 0 c ls w1 (HK.out _ HB1.out).1 (HK.out _ HB1.out).2 hc (by omega)).mono ?_
      rintro e w2 ⟨rfl, hb2⟩
      have HB2 : Hid (Below w.heap.size w w2) := below_trans HB1.out hb2
      clear hb2
      generalize rootT ls = X at *
      obtain ⟨w3, hw3⟩ : ∃ w3, w2.alloc (.cells (cellsB zD).toArray 26) = w3 := ⟨_, rfl⟩
      have HTw3 : Hid (w3.there w2.heap.size 0 32) := by rw [← hw3]; exact alloc_thereAt _ _ _ 32 _ rfl zD_size.symm
      have hbw4 : Below w2.heap.size w2 (w3.setCells w2.heap.size 0 (cellsB X)) := by rw [← hw3]; exact new_stored _ _ _
      have HD4 : Hid (DAt (w3.setCells w2.heap.size 0 (cellsB X)) w2.heap.size 0 X) := dat_stored HTw3.out h32
      have HB4 : Hid (Below w.heap.size w (w3.setCells w2.heap.size 0 (cellsB X))) := below_trans HB2.out hbw4
      clear hbw4
      obtain ⟨w4, hw4⟩ : ∃ w4, w3.setCells w2.heap.size 0 (cellsB X) = w4 := ⟨_, rfl⟩
      rw [hw4] at HD4 HB4
      go_wp2_with (first
        | (refine wpList_allocE (by rfl) 26 (by rfl) (cellsB zD).toArray Tryd.zeroDg w2.heap.size rfl w3 hw3 ?_)
        | (refine wpList_store_mid (by rfl) 26 (.tmp 4) (.tmp 27) (by rfl) w2.heap.size 0 (cellsB X).toArray (by rfl) (by rfl) (by rw [cellsB_size, h32]; exact HTw3.out) (by rw [cellsB_size, h32]; exact Tryd.sizeDg) (all_oneCell_toArray (cellsB_one _)) ?_; rw [show (cellsB X).toArray.toList = cellsB X from rfl, hw4]))
      clear hw3 hw4 HTw3
      have hgd : w2.heap.size < w4.heap.size := cell_block (HD4.out.cell 0 (by rw [h32]; omega))
      generalize w2.heap.size = gd at *
      refine wp_region_noPanic ?_
      refine wp_region_held_drew (S := fun _ => True) (by kernel_rfl) True.intro (fun hHeld => ?_)
      try simp only [Act.put, List.setIfInBounds_toArray, List.set_cons_zero, List.set_cons_succ]
      have HBd : Hid (Below w4.heap.size w4 w4.drew) := below_drewN w4 1
      generalize w4.drew = wd at *
      refine wpAnyH_take (i := 0) (v := ?_) (by simp only [List.getElem?_toArray, List.getElem?_cons_zero, List.getElem?_cons_succ]; rfl) (by kernel_rfl) (by kernel_rfl) (by kernel_rfl) (fun _ _ _ h => h) (Or.inl ⟨by rfl, ?_⟩) hHeld ?_
      rotate_left
      · intro w hSw
        go_simp
        try with_reducible rfl
      try simp only [Act.put, List.setIfInBounds_toArray, List.set_cons_zero, List.set_cons_succ]
      refine wpAnyH_take (i := 1) (v := ?_) (by simp only [List.getElem?_toArray, List.getElem?_cons_zero, List.getElem?_cons_succ]; rfl) (by kernel_rfl) (by kernel_rfl) (by kernel_rfl) (fun _ _ _ h => h) (Or.inl ⟨by rfl, ?_⟩) hHeld ?_
      rotate_left
      · intro w hSw
        go_simp
        try with_reducible rfl
      try simp only [Act.put, List.setIfInBounds_toArray, List.set_cons_zero, List.set_cons_succ]
      refine wpAnyH_take (i := 2) (v := ?_) (by simp only [List.getElem?_toArray, List.getElem?_cons_zero, List.getElem?_cons_succ]; rfl) (by kernel_rfl) (by kernel_rfl) (by kernel_rfl) (fun _ _ _ h => h) (Or.inl ⟨by rfl, ?_⟩) hHeld ?_
      rotate_left
      · intro w hSw
        go_simp
        try with_reducible rfl
      try simp only [Act.put, List.setIfInBounds_toArray, List.set_cons_zero, List.set_cons_succ]
      refine wpAnyH_take (i := 3) (v := ?_) (by simp only [List.getElem?_toArray, List.getElem?_cons_zero, List.getElem?_cons_succ]; rfl) (by kernel_rfl) (by kernel_rfl) (by kernel_rfl) (fun _ _ _ h => h) (Or.inl ⟨by rfl, ?_⟩) hHeld ?_
      rotate_left
      · intro w hSw
        go_simp
        try with_reducible rfl
      try simp only [Act.put, List.setIfInBounds_toArray, List.set_cons_zero, List.set_cons_succ]
      refine wpAnyH_take (i := 4) (v := undef) (by simp only [List.getElem?_toArray, List.getElem?_cons_zero, List.getElem?_cons_succ]; rfl) (by kernel_rfl) (by kernel_rfl) (by kernel_rfl) (fun _ _ _ h => h) (Or.inr ⟨by rfl, rfl⟩) hHeld ?_
      try simp only [Act.put, List.setIfInBounds_toArray, List.set_cons_zero, List.set_cons_succ]
      refine wpAnyH_take (i := 5) (v := undef) (by simp only [List.getElem?_toArray, List.getElem?_cons_zero, List.getElem?_cons_succ]; rfl) (by kernel_rfl) (by kernel_rfl) (by kernel_rfl) (fun _ _ _ h => h) (Or.inr ⟨by rfl, rfl⟩) hHeld ?_
      try simp only [Act.put, List.setIfInBounds_toArray, List.set_cons_zero, List.set_cons_succ]
      refine wpAnyH_take (i := 6) (v := undef) (by simp only [List.getElem?_toArray, List.getElem?_cons_zero, List.getElem?_cons_succ]; rfl) (by kernel_rfl) (by kernel_rfl) (by kernel_rfl) (fun _ _ _ h => h) (Or.inr ⟨by rfl, rfl⟩) hHeld ?_
      try simp only [Act.put, List.setIfInBounds_toArray, List.set_cons_zero, List.set_cons_succ]
      refine wpAnyH_take (i := 7) (v := undef) (by simp only [List.getElem?_toArray, List.getElem?_cons_zero, List.getElem?_cons_succ]; rfl) (by kernel_rfl) (by kernel_rfl) (by kernel_rfl) (fun _ _ _ h => h) (Or.inr ⟨by rfl, rfl⟩) hHeld ?_
      try simp only [Act.put, List.setIfInBounds_toArray, List.set_cons_zero, List.set_cons_succ]
      refine wpAnyH_take (i := 8) (v := undef) (by simp only [List.getElem?_toArray, List.getElem?_cons_zero, List.getElem?_cons_succ]; rfl) (by kernel_rfl) (by kernel_rfl) (by kernel_rfl) (fun _ _ _ h => h) (Or.inr ⟨by rfl, rfl⟩) hHeld ?_
      try simp only [Act.put, List.setIfInBounds_toArray, List.set_cons_zero, List.set_cons_succ]
      refine wpAnyH_take (i := 9) (v := undef) (by simp only [List.getElem?_toArray, List.getElem?_cons_zero, List.getElem?_cons_succ]; rfl) (by kernel_rfl) (by kernel_rfl) (by kernel_rfl) (fun _ _ _ h => h) (Or.inr ⟨by rfl, rfl⟩) hHeld ?_
      try simp only [Act.put, List.setIfInBounds_toArray, List.set_cons_zero, List.set_cons_succ]
      refine wpAnyH_take (i := 10) (v := undef) (by simp only [List.getElem?_toArray, List.getElem?_cons_zero, List.getElem?_cons_succ]; rfl) (by kernel_rfl) (by kernel_rfl) (by kernel_rfl) (fun _ _ _ h => h) (Or.inr ⟨by rfl, rfl⟩) hHeld ?_
      try simp only [Act.put, List.setIfInBounds_toArray, List.set_cons_zero, List.set_cons_succ]
      refine wpAnyH_take (i := 11) (v := undef) (by simp only [List.getElem?_toArray, List.getElem?_cons_zero, List.getElem?_cons_succ]; rfl) (by kernel_rfl) (by kernel_rfl) (by kernel_rfl) (fun _ _ _ h => h) (Or.inr ⟨by rfl, rfl⟩) hHeld ?_
      try simp only [Act.put, List.setIfInBounds_toArray, List.set_cons_zero, List.set_cons_succ]
      refine wpAnyH_take (i := 12) (v := undef) (by simp only [List.getElem?_toArray, List.getElem?_cons_zero, List.getElem?_cons_succ]; rfl) (by kernel_rfl) (by kernel_rfl) (by kernel_rfl) (fun _ _ _ h => h) (Or.inr ⟨by rfl, rfl⟩) hHeld ?_
      try simp only [Act.put, List.setIfInBounds_toArray, List.set_cons_zero, List.set_cons_succ]
      refine wpAnyH_take (i := 13) (v := ?_) (by simp only [List.getElem?_toArray, List.getElem?_cons_zero, List.getElem?_cons_succ]; rfl) (by kernel_rfl) (by kernel_rfl) (by kernel_rfl) (fun _ _ _ h => h) (Or.inl ⟨by rfl, ?_⟩) hHeld ?_
      rotate_left
      · intro w hSw
        go_simp
        try with_reducible rfl
      try simp only [Act.put, List.setIfInBounds_toArray, List.set_cons_zero, List.set_cons_succ]
      refine wpAnyH_take (i := 14) (v := ?_) (by simp only [List.getElem?_toArray, List.getElem?_cons_zero, List.getElem?_cons_succ]; rfl) (by kernel_rfl) (by kernel_rfl) (by kernel_rfl) (fun _ _ _ h => h) (Or.inl ⟨by rfl, ?_⟩) hHeld ?_
      rotate_left
      · intro w hSw
        go_simp
        try with_reducible rfl
      try simp only [Act.put, List.setIfInBounds_toArray, List.set_cons_zero, List.set_cons_succ]
      refine wpAnyH_done (by kernel_rfl) (NoPanic.normal ?_) _
      clear hHeld
      go_wp2_with fail
      go_ret
      exact ⟨rfl, below_trans HB4.out HBd.out⟩
    · by_cases h1 : n = 1
      · subst h1
        have g1 : ((1 : Nat) : Int) < 2 := by omega
        obtain ⟨b, o, rfl⟩ := (HK.out _ HB1.out).2.addr (by omega)
        have HL : Hid (∀ wx, Below w.heap.size w wx → wx.rangeAt b o (cellsB (rootT ls))) := fun wx hx => by
          rw [rootT_one HLEN.out]
          have := (HK.out _ hx).2.at 0 (by omega)
          rwa [Nat.zero_mul, Nat.add_zero] at this
        have lz : zD.length = 32 := rfl
        go_wp2_with fail
        refine (wtree_root (some ⟨b, o, none⟩) 1 c ls w1 (HK.out _ HB1.out).1 (HK.out _ HB1.out).2 hc (by omega)).mono ?_
        rintro e w2 ⟨rfl, hb2⟩
        have HB2 : Hid (Below w.heap.size w w2) := below_trans HB1.out hb2
        clear hb2
        generalize rootT ls = X at *
        obtain ⟨w3, hw3⟩ : ∃ w3, w2.alloc (.cells (cellsB zD).toArray 26) = w3 := ⟨_, rfl⟩
        have HTw3 : Hid (w3.there w2.heap.size 0 32) := by rw [← hw3]; exact alloc_thereAt _ _ _ 32 _ rfl zD_size.symm
        have hbw4 : Below w2.heap.size w2 (w3.setCells w2.heap.size 0 (cellsB X)) := by rw [← hw3]; exact new_stored _ _ _
        have HD4 : Hid (DAt (w3.setCells w2.heap.size 0 (cellsB X)) w2.heap.size 0 X) := dat_stored HTw3.out h32
        have HB4 : Hid (Below w.heap.size w (w3.setCells w2.heap.size 0 (cellsB X))) := below_trans HB2.out hbw4
        clear hbw4
        obtain ⟨w4, hw4⟩ : ∃ w4, w3.setCells w2.heap.size 0 (cellsB X) = w4 := ⟨_, rfl⟩
        rw [hw4] at HD4 HB4
        go_wp2_with (first
          | (refine wpList_allocE (by rfl) 26 (by rfl) (cellsB zD).toArray Tryd.zeroDg w2.heap.size rfl w3 hw3 ?_)
          | (refine wpList_store_mid (by rfl) 26 (.tmp 4) (.tmp 27) (by rfl) w2.heap.size 0 (cellsB X).toArray (by rfl) (by rfl) (by rw [cellsB_size, h32]; exact HTw3.out) (by rw [cellsB_size, h32]; exact Tryd.sizeDg) (all_oneCell_toArray (cellsB_one _)) ?_; rw [show (cellsB X).toArray.toList = cellsB X from rfl, hw4]))
        clear hw3 hw4 HTw3
        have hgd : w2.heap.size < w4.heap.size := cell_block (HD4.out.cell 0 (by rw [h32]; omega))
        generalize w2.heap.size = gd at *
        have HSx : Hid (∀ wx, Below w4.heap.size w4 wx → wx.rangeAt gd 0 (cellsB X) ∧ wx.rangeAt b o (cellsB X)) := fun wx hx => ⟨HD4.out.below hx hgd, HL.out _ (below_trans HB4.out hx)⟩
        refine wp_region_noPanic ?_
        refine wp_region_held_drew (S := fun w' => w'.rangeAt gd 0 (cellsB X) ∧ w'.rangeAt b o (cellsB X)) (by kernel_rfl) (HSx.out _ (below_drewN w4 1)) (fun hHeld => ?_)
        try simp only [Act.put, List.setIfInBounds_toArray, List.set_cons_zero, List.set_cons_succ]
        have HBd : Hid (Below w4.heap.size w4 w4.drew) := below_drewN w4 1
        generalize w4.drew = wd at *
        refine wpAnyH_take (i := 0) (v := ?_) (by simp only [List.getElem?_toArray, List.getElem?_cons_zero, List.getElem?_cons_succ]; rfl) (by kernel_rfl) (by kernel_rfl) (by kernel_rfl) (fun _ _ _ h => h) (Or.inl ⟨by rfl, ?_⟩) hHeld ?_
        rotate_left
        · intro w hSw
          obtain ⟨hSw0, hSw1⟩ := hSw
          go_simp
          try with_reducible rfl
        try simp only [Act.put, List.setIfInBounds_toArray, List.set_cons_zero, List.set_cons_succ]
        refine wpAnyH_take (i := 1) (v := ?_) (by simp only [List.getElem?_toArray, List.getElem?_cons_zero, List.getElem?_cons_succ]; rfl) (by kernel_rfl) (by kernel_rfl) (by kernel_rfl) (fun _ _ _ h => h) (Or.inl ⟨by rfl, ?_⟩) hHeld ?_
        rotate_left
        · intro w hSw
          obtain ⟨hSw0, hSw1⟩ := hSw
          go_simp
          try with_reducible rfl
        try simp only [Act.put, List.setIfInBounds_toArray, List.set_cons_zero, List.set_cons_succ]
        refine wpAnyH_take (i := 2) (v := ?_) (by simp only [List.getElem?_toArray, List.getElem?_cons_zero, List.getElem?_cons_succ]; rfl) (by kernel_rfl) (by kernel_rfl) (by kernel_rfl) (fun _ _ _ h => h) (Or.inl ⟨by rfl, ?_⟩) hHeld ?_
        rotate_left
        · intro w hSw
          obtain ⟨hSw0, hSw1⟩ := hSw
          go_simp
          try with_reducible rfl
        try simp only [Act.put, List.setIfInBounds_toArray, List.set_cons_zero, List.set_cons_succ]
        refine wpAnyH_take (i := 3) (v := ?_) (by simp only [List.getElem?_toArray, List.getElem?_cons_zero, List.getElem?_cons_succ]; rfl) (by kernel_rfl) (by kernel_rfl) (by kernel_rfl) (fun _ _ _ h => h) (Or.inl ⟨by rfl, ?_⟩) hHeld ?_
        rotate_left
        · intro w hSw
          obtain ⟨hSw0, hSw1⟩ := hSw
          go_simp
          try with_reducible rfl
        try simp only [Act.put, List.setIfInBounds_toArray, List.set_cons_zero, List.set_cons_succ]
        refine wpAnyH_take (i := 4) (v := ?_) (by simp only [List.getElem?_toArray, List.getElem?_cons_zero, List.getElem?_cons_succ]; rfl) (by kernel_rfl) (by kernel_rfl) (by kernel_rfl) (fun _ _ _ h => h) (Or.inl ⟨by rfl, ?_⟩) hHeld ?_
        rotate_left
        · intro w hSw
          obtain ⟨hSw0, hSw1⟩ := hSw
          go_simp
          try with_reducible rfl
        try simp only [Act.put, List.setIfInBounds_toArray, List.set_cons_zero, List.set_cons_succ]
        refine wpAnyH_take (i := 5) (v := ?_) (by simp only [List.getElem?_toArray, List.getElem?_cons_zero, List.getElem?_cons_succ]; rfl) (by kernel_rfl) (by kernel_rfl) (by kernel_rfl) (fun _ _ _ h => h) (Or.inl ⟨by rfl, ?_⟩) hHeld ?_
        rotate_left
        · intro w hSw
          obtain ⟨hSw0, hSw1⟩ := hSw
          go_simp
          try with_reducible rfl
        try simp only [Act.put, List.setIfInBounds_toArray, List.set_cons_zero, List.set_cons_succ]
        refine wpAnyH_take (i := 6) (v := ?_) (by simp only [List.getElem?_toArray, List.getElem?_cons_zero, List.getElem?_cons_succ]; rfl) (by kernel_rfl) (by kernel_rfl) (by kernel_rfl) (fun _ _ _ h => h) (Or.inl ⟨by rfl, ?_⟩) hHeld ?_
        rotate_left
        · intro w hSw
          obtain ⟨hSw0, hSw1⟩ := hSw
          go_simp
          try with_reducible rfl
        try simp only [Act.put, List.setIfInBounds_toArray, List.set_cons_zero, List.set_cons_succ]
        refine wpAnyH_take (i := 7) (v := .agg (cellsB X).toArray) (by simp only [List.getElem?_toArray, List.getElem?_cons_zero, List.getElem?_cons_succ]; rfl) (by kernel_rfl) (by kernel_rfl) (by kernel_rfl) (fun _ _ _ h => h)
          (yieldsIf_load_mid (by rfl) _ _ rfl _ _ rfl _ _ (fun w hw => hw.1) Tryd.underlying26 rfl (by rw [cellsB_length, h32]; exact Tryd.sizeDg)) hHeld ?_
        try simp only [Act.put, List.setIfInBounds_toArray, List.set_cons_zero, List.set_cons_succ]
        refine wpAnyH_take (i := 8) (v := ?_) (by simp only [List.getElem?_toArray, List.getElem?_cons_zero, List.getElem?_cons_succ]; rfl) (by kernel_rfl) (by kernel_rfl) (by kernel_rfl) (fun _ _ _ h => h) (Or.inl ⟨by rfl, ?_⟩) hHeld ?_
        rotate_left
        · intro w hSw
          obtain ⟨hSw0, hSw1⟩ := hSw
          go_simp
          try with_reducible rfl
        try simp only [Act.put, List.setIfInBounds_toArray, List.set_cons_zero, List.set_cons_succ]
        refine wpAnyH_take (i := 9) (v := .pointer (some ⟨b, o, none⟩)) (by simp only [List.getElem?_toArray, List.getElem?_cons_zero, List.getElem?_cons_succ]; rfl) (by kernel_rfl) (by kernel_rfl) (by kernel_rfl) (fun _ _ _ h => h) (Or.inl ⟨by rfl, ?_⟩) hHeld ?_
        · intro w hSw
          obtain ⟨hSw0, hSw1⟩ := hSw
          go_simp
        try simp only [Act.put, List.setIfInBounds_toArray, List.set_cons_zero, List.set_cons_succ]
        refine wpAnyH_take (i := 10) (v := .agg (cellsB X).toArray) (by simp only [List.getElem?_toArray, List.getElem?_cons_zero, List.getElem?_cons_succ]; rfl) (by kernel_rfl) (by kernel_rfl) (by kernel_rfl) (fun _ _ _ h => h)
          (yieldsIf_load_mid (by rfl) _ _ rfl _ _ rfl _ _ (fun w hw => hw.2) Tryd.underlying26 rfl (by rw [cellsB_length, h32]; exact Tryd.sizeDg)) hHeld ?_
        try simp only [Act.put, List.setIfInBounds_toArray, List.set_cons_zero, List.set_cons_succ]
        refine wpAnyH_take (i := 11) (v := .bool true) (by simp only [List.getElem?_toArray, List.getElem?_cons_zero, List.getElem?_cons_succ]; rfl) (by kernel_rfl) (by kernel_rfl) (by kernel_rfl) (fun _ _ _ h => h)
          (yieldsIf_eqD (by rfl) _ _ rfl X X h32 h32 rfl rfl true (decide_eq_true rfl)) hHeld ?_
        try simp only [Act.put, List.setIfInBounds_toArray, List.set_cons_zero, List.set_cons_succ]
        refine wpAnyH_take (i := 12) (v := ?_) (by simp only [List.getElem?_toArray, List.getElem?_cons_zero, List.getElem?_cons_succ]; rfl) (by kernel_rfl) (by kernel_rfl) (by kernel_rfl) (fun _ _ _ h => h) (Or.inl ⟨by rfl, ?_⟩) hHeld ?_
        rotate_left
        · intro w hSw
          obtain ⟨hSw0, hSw1⟩ := hSw
          go_simp
          try with_reducible rfl
        try simp only [Act.put, List.setIfInBounds_toArray, List.set_cons_zero, List.set_cons_succ]
        refine wpAnyH_take (i := 13) (v := ?_) (by simp only [List.getElem?_toArray, List.getElem?_cons_zero, List.getElem?_cons_succ]; rfl) (by kernel_rfl) (by kernel_rfl) (by kernel_rfl) (fun _ _ _ h => h) (Or.inl ⟨by rfl, ?_⟩) hHeld ?_
        rotate_left
        · intro w hSw
          obtain ⟨hSw0, hSw1⟩ := hSw
          go_simp
          try with_reducible rfl
        try simp only [Act.put, List.setIfInBounds_toArray, List.set_cons_zero, List.set_cons_succ]
        refine wpAnyH_take (i := 14) (v := ?_) (by simp only [List.getElem?_toArray, List.getElem?_cons_zero, List.getElem?_cons_succ]; rfl) (by kernel_rfl) (by kernel_rfl) (by kernel_rfl) (fun _ _ _ h => h) (Or.inl ⟨by rfl, ?_⟩) hHeld ?_
        rotate_left
        · intro w hSw
          obtain ⟨hSw0, hSw1⟩ := hSw
          go_simp
          try with_reducible rfl
        try simp only [Act.put, List.setIfInBounds_toArray, List.set_cons_zero, List.set_cons_succ]
        refine wpAnyH_done (by kernel_rfl) (NoPanic.normal ?_) _
        clear hHeld
        go_wp2_with fail
        go_ret
        exact ⟨rfl, below_trans HB4.out HBd.out⟩
      · have hbig : 256 < n := by omega
        have g1 : ¬ (n : Int) < 2 := by omega
        have g2 : (256 : Int) < (n : Int) := by omega
        have lz : zD.length = 32 := rfl
        go_wp2_with fail
        refine (wtree_full a n c ls w1 (HK.out _ HB1.out).1 (HK.out _ HB1.out).2 hc hbig hn).mono ?_
        rintro e w2 ⟨rfl, hb2⟩
        have HB2 : Hid (Below w.heap.size w w2) := below_trans HB1.out hb2
        clear hb2
        obtain ⟨w3, hw3⟩ : ∃ w3, w2.alloc (.cells (cellsB zD).toArray 26) = w3 := ⟨_, rfl⟩
        have HTw3 : Hid (w3.there w2.heap.size 0 32) := by rw [← hw3]; exact alloc_thereAt _ _ _ 32 _ rfl zD_size.symm
        have hbw4 : Below w2.heap.size w2 (w3.setCells w2.heap.size 0 (cellsB zD)) := by rw [← hw3]; exact new_stored _ _ _
        have HD4 : Hid (DAt (w3.setCells w2.heap.size 0 (cellsB zD)) w2.heap.size 0 zD) := dat_stored HTw3.out lz
        have HB4 : Hid (Below w.heap.size w (w3.setCells w2.heap.size 0 (cellsB zD))) := below_trans HB2.out hbw4
        clear hbw4
        obtain ⟨w4, hw4⟩ : ∃ w4, w3.setCells w2.heap.size 0 (cellsB zD) = w4 := ⟨_, rfl⟩
        rw [hw4] at HD4 HB4
        go_wp2_with (first
          | (refine wpList_allocE (by rfl) 26 (by rfl) (cellsB zD).toArray Tryd.zeroDg w2.heap.size rfl w3 hw3 ?_)
          | (refine wpList_store_mid (by rfl) 26 (.tmp 4) (.tmp 27) (by rfl) w2.heap.size 0 (cellsB zD).toArray (by rfl) (by rfl) (by rw [cellsB_size, lz]; exact HTw3.out) (by rw [cellsB_size, lz]; exact Tryd.sizeDg) (all_oneCell_toArray (cellsB_one _)) ?_; rw [show (cellsB zD).toArray.toList = cellsB zD from rfl, hw4]))
        clear hw3 hw4 HTw3
        have hgd : w2.heap.size < w4.heap.size := cell_block (HD4.out.cell 0 (by rw [lz]; omega))
        generalize w2.heap.size = gd at *
        have e5 : ((n : Int) != 1) = true := by simp; omega
        refine wp_region_noPanic ?_
        refine wp_region_held_drew (S := fun _ => True) (by kernel_rfl) True.intro (fun hHeld => ?_)
        try simp only [Act.put, List.setIfInBounds_toArray, List.set_cons_zero, List.set_cons_succ]
        have HBd : Hid (Below w4.heap.size w4 w4.drew) := below_drewN w4 1
        generalize w4.drew = wd at *
        refine wpAnyH_take (i := 0) (v := ?_) (by simp only [List.getElem?_toArray, List.getElem?_cons_zero, List.getElem?_cons_succ]; rfl) (by kernel_rfl) (by kernel_rfl) (by kernel_rfl) (fun _ _ _ h => h) (Or.inl ⟨by rfl, ?_⟩) hHeld ?_
        rotate_left
        · intro w hSw
          go_simp
          try with_reducible rfl
        try simp only [Act.put, List.setIfInBounds_toArray, List.set_cons_zero, List.set_cons_succ]
        refine wpAnyH_take (i := 1) (v := ?_) (by simp only [List.getElem?_toArray, List.getElem?_cons_zero, List.getElem?_cons_succ]; rfl) (by kernel_rfl) (by kernel_rfl) (by kernel_rfl) (fun _ _ _ h => h) (Or.inl ⟨by rfl, ?_⟩) hHeld ?_
        rotate_left
        · intro w hSw
          go_simp
          try with_reducible rfl
        try simp only [Act.put, List.setIfInBounds_toArray, List.set_cons_zero, List.set_cons_succ]
        refine wpAnyH_take (i := 2) (v := ?_) (by simp only [List.getElem?_toArray, List.getElem?_cons_zero, List.getElem?_cons_succ]; rfl) (by kernel_rfl) (by kernel_rfl) (by kernel_rfl) (fun _ _ _ h => h) (Or.inl ⟨by rfl, ?_⟩) hHeld ?_
        rotate_left
        · intro w hSw
          go_simp
          try with_reducible rfl
        try simp only [Act.put, List.setIfInBounds_toArray, List.set_cons_zero, List.set_cons_succ]
        refine wpAnyH_take (i := 3) (v := ?_) (by simp only [List.getElem?_toArray, List.getElem?_cons_zero, List.getElem?_cons_succ]; rfl) (by kernel_rfl) (by kernel_rfl) (by kernel_rfl) (fun _ _ _ h => h) (Or.inl ⟨by rfl, ?_⟩) hHeld ?_
        rotate_left
        · intro w hSw
          go_simp
          try with_reducible rfl
        try simp only [Act.put, List.setIfInBounds_toArray, List.set_cons_zero, List.set_cons_succ]
        refine wpAnyH_take (i := 4) (v := undef) (by simp only [List.getElem?_toArray, List.getElem?_cons_zero, List.getElem?_cons_succ]; rfl) (by kernel_rfl) (by kernel_rfl) (by kernel_rfl) (fun _ _ _ h => h) (Or.inr ⟨by rfl, rfl⟩) hHeld ?_
        try simp only [Act.put, List.setIfInBounds_toArray, List.set_cons_zero, List.set_cons_succ]
        refine wpAnyH_take (i := 5) (v := undef) (by simp only [List.getElem?_toArray, List.getElem?_cons_zero, List.getElem?_cons_succ]; rfl) (by kernel_rfl) (by kernel_rfl) (by kernel_rfl) (fun _ _ _ h => h) (Or.inr ⟨by rfl, rfl⟩) hHeld ?_
        try simp only [Act.put, List.setIfInBounds_toArray, List.set_cons_zero, List.set_cons_succ]
        refine wpAnyH_take (i := 6) (v := undef) (by simp only [List.getElem?_toArray, List.getElem?_cons_zero, List.getElem?_cons_succ]; rfl) (by kernel_rfl) (by kernel_rfl) (by kernel_rfl) (fun _ _ _ h => h) (Or.inr ⟨by rfl, rfl⟩) hHeld ?_
        try simp only [Act.put, List.setIfInBounds_toArray, List.set_cons_zero, List.set_cons_succ]
        refine wpAnyH_take (i := 7) (v := undef) (by simp only [List.getElem?_toArray, List.getElem?_cons_zero, List.getElem?_cons_succ]; rfl) (by kernel_rfl) (by kernel_rfl) (by kernel_rfl) (fun _ _ _ h => h) (Or.inr ⟨by rfl, rfl⟩) hHeld ?_
        try simp only [Act.put, List.setIfInBounds_toArray, List.set_cons_zero, List.set_cons_succ]
        refine wpAnyH_take (i := 8) (v := undef) (by simp only [List.getElem?_toArray, List.getElem?_cons_zero, List.getElem?_cons_succ]; rfl) (by kernel_rfl) (by kernel_rfl) (by kernel_rfl) (fun _ _ _ h => h) (Or.inr ⟨by rfl, rfl⟩) hHeld ?_
        try simp only [Act.put, List.setIfInBounds_toArray, List.set_cons_zero, List.set_cons_succ]
        refine wpAnyH_take (i := 9) (v := undef) (by simp only [List.getElem?_toArray, List.getElem?_cons_zero, List.getElem?_cons_succ]; rfl) (by kernel_rfl) (by kernel_rfl) (by kernel_rfl) (fun _ _ _ h => h) (Or.inr ⟨by rfl, rfl⟩) hHeld ?_
        try simp only [Act.put, List.setIfInBounds_toArray, List.set_cons_zero, List.set_cons_succ]
        refine wpAnyH_take (i := 10) (v := undef) (by simp only [List.getElem?_toArray, List.getElem?_cons_zero, List.getElem?_cons_succ]; rfl) (by kernel_rfl) (by kernel_rfl) (by kernel_rfl) (fun _ _ _ h => h) (Or.inr ⟨by rfl, rfl⟩) hHeld ?_
        try simp only [Act.put, List.setIfInBounds_toArray, List.set_cons_zero, List.set_cons_succ]
        refine wpAnyH_take (i := 11) (v := undef) (by simp only [List.getElem?_toArray, List.getElem?_cons_zero, List.getElem?_cons_succ]; rfl) (by kernel_rfl) (by kernel_rfl) (by kernel_rfl) (fun _ _ _ h => h) (Or.inr ⟨by rfl, rfl⟩) hHeld ?_
        try simp only [Act.put, List.setIfInBounds_toArray, List.set_cons_zero, List.set_cons_succ]
        refine wpAnyH_take (i := 12) (v := undef) (by simp only [List.getElem?_toArray, List.getElem?_cons_zero, List.getElem?_cons_succ]; rfl) (by kernel_rfl) (by kernel_rfl) (by kernel_rfl) (fun _ _ _ h => h) (Or.inr ⟨by rfl, rfl⟩) hHeld ?_
        try simp only [Act.put, List.setIfInBounds_toArray, List.set_cons_zero, List.set_cons_succ]
        refine wpAnyH_take (i := 13) (v := ?_) (by simp only [List.getElem?_toArray, List.getElem?_cons_zero, List.getElem?_cons_succ]; rfl) (by kernel_rfl) (by kernel_rfl) (by kernel_rfl) (fun _ _ _ h => h) (Or.inl ⟨by rfl, ?_⟩) hHeld ?_
        rotate_left
        · intro w hSw
          go_simp
          try with_reducible rfl
        try simp only [Act.put, List.setIfInBounds_toArray, List.set_cons_zero, List.set_cons_succ]
        refine wpAnyH_take (i := 14) (v := ?_) (by simp only [List.getElem?_toArray, List.getElem?_cons_zero, List.getElem?_cons_succ]; rfl) (by kernel_rfl) (by kernel_rfl) (by kernel_rfl) (fun _ _ _ h => h) (Or.inl ⟨by rfl, ?_⟩) hHeld ?_
        rotate_left
        · intro w hSw
          go_simp
          try with_reducible rfl
        try simp only [Act.put, List.setIfInBounds_toArray, List.set_cons_zero, List.set_cons_succ]
        refine wpAnyH_done (by kernel_rfl) (NoPanic.normal ?_) _
        clear hHeld
        go_wp2_with fail
        go_ret
        exact ⟨rfl, below_trans HB4.out HBd.out⟩
end Go.Proofs.YtdldkhhcicjbmaaDoor
