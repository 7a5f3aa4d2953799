/- The law TreeBinds: two lists, two roots. -/
import Derived.Test.YtdldkhhcicjbmaaDoorJ13
namespace Go.Proofs.YtdldkhhcicjbmaaDoor
open Go.RowKit
set_option linter.unusedVariables false
set_option linter.unusedSimpArgs false

/-- What Root tells, whatever it is asked. -/
theorem root_all (a : Option Addr) (n c : Nat) (ls : List (List UInt8)) (w : World) (G : Env w) (R : DRow w a n ls) (hc : n ≤ c) (hn : 32 * n ≤ 140737488351232) :
    Calls Tryd.prog 10 #[.slice a n c] w fun e w' => (∃ (X : List UInt8) (er : Value), X.length = 32 ∧ e = .returned (.tuple #[digestV X, er]) ∧ Hid ((∃ k : Int, er = .iface 24 (.int .i64 k)) ∨ (er = .nilIface ∧ n ≤ 256 ∧ X = rootT ls))) ∧ Below w.heap.size w w' := by
  by_cases h : n ≤ 256
  · refine (wtree_root a n c ls w G R hc h).mono ?_
    rintro e w' ⟨rfl, hb⟩
    exact ⟨⟨_, _, rootT_length R.2.1, rfl, .inr ⟨rfl, h, rfl⟩⟩, hb⟩
  · refine (wtree_full a n c ls w G R hc (by omega) hn).mono ?_
    rintro e w' ⟨rfl, hb⟩
    exact ⟨⟨zD, _, rfl, rfl, .inl ⟨4, rfl⟩⟩, hb⟩

set_option maxRecDepth 100000 in
set_option maxHeartbeats 4000000 in
theorem tbinds_walk (a1 : Option Addr) (n c1 : Nat) (As : List (List UInt8)) (a2 : Option Addr) (n2 c2 : Nat) (Bs : List (List UInt8)) (w : World) (G : Env w) (R1 : DRow w a1 n As) (hc1 : n ≤ c1) (hn1 : 32 * n ≤ 140737488351232) (R2 : DRow w a2 n2 Bs) (hc2 : n2 ≤ c2) (hn2 : 32 * n2 ≤ 140737488351232) :
    Calls Tryd.prog 7 #[.slice a1 n c1, .slice a2 n2 c2] w fun e w' => e = .returned (.bool true) ∧ Below w.heap.size w w' := by
  have HK : Hid (∀ wx, Below w.heap.size w wx → Env wx ∧ DRow wx a1 n As ∧ DRow wx a2 n2 Bs) := fun wx hx => ⟨G.below hx, R1.below hx, R2.below hx⟩
  have HRT : Hid (Calls Tryd.prog 22 #[] w fun e w' => e = .returned (.bool true) ∧ Below w.heap.size w w') := lrooted_any w G
  have HL1 : Hid (As.length = n) := R1.1
  have HL2 : Hid (Bs.length = n2) := R2.1
  clear G R1 R2
  go_enter Tryd.func7, Tryd.ntmps7
  go_wp2_with fail
  refine HRT.out.mono ?_
  rintro e w1 ⟨rfl, hb1⟩
  have HB1 : Hid (Below w.heap.size w w1) := hb1
  clear hb1 HRT
  go_wp2_with fail
  refine (root_all a1 n c1 As w1 (HK.out _ HB1.out).1 (HK.out _ HB1.out).2.1 hc1 hn1).mono ?_
  rintro e w3 ⟨⟨X, er1, lX, rfl, HX⟩, hb3⟩
  have HB3 : Hid (Below w.heap.size w w3) := below_trans HB1.out hb3
  clear hb3 HB1
  obtain ⟨w4, hw4⟩ : ∃ w4, w3.alloc (.cells (cellsB zD).toArray 26) = w4 := ⟨_, rfl⟩
  have HTw4 : Hid (w4.there w3.heap.size 0 32) := by rw [← hw4]; exact alloc_thereAt _ _ _ 32 _ rfl zD_size.symm
  have hbw5 : Below w3.heap.size w3 (w4.setCells w3.heap.size 0 (cellsB X)) := by rw [← hw4]; exact new_stored _ _ _
  have HX5 : Hid (DAt (w4.setCells w3.heap.size 0 (cellsB X)) w3.heap.size 0 X) := dat_stored HTw4.out lX
  have HB5 : Hid (Below w.heap.size w (w4.setCells w3.heap.size 0 (cellsB X))) := HB3.out.trans (hbw5.mono HB3.out.size)
  clear hbw5
  obtain ⟨w5, hw5⟩ : ∃ w5, w4.setCells w3.heap.size 0 (cellsB X) = w5 := ⟨_, rfl⟩
  rw [hw5] at HX5 HB5
  go_wp2_with (first
    | (refine wpList_allocE (by rfl) 26 (by rfl) (cellsB zD).toArray Tryd.zeroDg w3.heap.size rfl w4 hw4 ?_)
    | (refine wpList_store_mid (by rfl) 26 (.tmp 6) (.tmp 22) (by rfl) w3.heap.size 0 (cellsB X).toArray (by rfl) (by rfl) (by rw [cellsB_size, lX]; exact HTw4.out) (by rw [cellsB_size, lX]; exact Tryd.sizeDg) (all_oneCell_toArray (cellsB_one _)) ?_; rw [show (cellsB X).toArray.toList = cellsB X from rfl, hw5]))
  clear hw4 hw5 HTw4
  have hgx : w3.heap.size < w5.heap.size := cell_block (HX5.out.cell 0 (by omega))
  generalize w3.heap.size = gx at *
  refine (root_all a2 n2 c2 Bs w5 (HK.out _ HB5.out).1 (HK.out _ HB5.out).2.2 hc2 hn2).mono ?_
  rintro e w6 ⟨⟨Y, er2, lY, rfl, HY⟩, hb6⟩
  have HB6 : Hid (Below w.heap.size w w6) := below_trans HB5.out hb6
  have HX6 : Hid (DAt w6 gx 0 X) := HX5.out.below hb6 hgx
  have hgx6 : gx < w6.heap.size := Nat.lt_of_lt_of_le hgx hb6.size
  clear hb6 HB5 HX5
  obtain ⟨w7, hw7⟩ : ∃ w7, w6.alloc (.cells (cellsB zD).toArray 26) = w7 := ⟨_, rfl⟩
  have HTw7 : Hid (w7.there w6.heap.size 0 32) := by rw [← hw7]; exact alloc_thereAt _ _ _ 32 _ rfl zD_size.symm
  have hbw8 : Below w6.heap.size w6 (w7.setCells w6.heap.size 0 (cellsB Y)) := by rw [← hw7]; exact new_stored _ _ _
  have HY8 : Hid (DAt (w7.setCells w6.heap.size 0 (cellsB Y)) w6.heap.size 0 Y) := dat_stored HTw7.out lY
  have HB8 : Hid (Below w.heap.size w (w7.setCells w6.heap.size 0 (cellsB Y))) := HB6.out.trans (hbw8.mono HB6.out.size)
  have HX8 : Hid (DAt (w7.setCells w6.heap.size 0 (cellsB Y)) gx 0 X) := HX6.out.below hbw8 hgx6
  clear hbw8
  obtain ⟨w8, hw8⟩ : ∃ w8, w7.setCells w6.heap.size 0 (cellsB Y) = w8 := ⟨_, rfl⟩
  rw [hw8] at HY8 HB8 HX8
  rcases HX.out with ⟨k1, rfl⟩ | ⟨rfl, hn3, hXr⟩
  · have hd1 : (!decide (X = Y)) = (!decide (X = Y)) := rfl
    clear HX HY
    go_wp2_with (first
      | (refine wpList_allocE (by rfl) 26 (by rfl) (cellsB zD).toArray Tryd.zeroDg w6.heap.size rfl w7 hw7 ?_)
      | (refine wpList_store_mid (by rfl) 26 (.tmp 8) (.tmp 27) (by rfl) w6.heap.size 0 (cellsB Y).toArray (by rfl) (by rfl) (by rw [cellsB_size, lY]; exact HTw7.out) (by rw [cellsB_size, lY]; exact Tryd.sizeDg) (all_oneCell_toArray (cellsB_one _)) ?_; rw [show (cellsB Y).toArray.toList = cellsB Y from rfl, hw8])
      | (refine wpList_load_midG (by rfl) 26 (.tmp 6) (by rfl) gx 0 (by rfl) (cellsB X) _ HX8.out Tryd.underlying26 (by rfl) (by rw [cellsB_length, lX]; exact Tryd.sizeDg) ?_)
      | (refine wpList_load_midG (by rfl) 26 (.tmp 8) (by rfl) w6.heap.size 0 (by rfl) (cellsB Y) _ HY8.out Tryd.underlying26 (by rfl) (by rw [cellsB_length, lY]; exact Tryd.sizeDg) ?_)
      | (refine wpList_neqD (.tmp 43) (.tmp 44) (by rfl) (by rfl) X Y lX lY (by rfl) (by rfl) (!decide (X = Y)) hd1 ?_))
    go_ret
    exact ⟨rfl, HB8.out⟩
  · rcases HY.out with ⟨k2, rfl⟩ | ⟨rfl, hn4, hYr⟩
    · have hd1 : (!decide (X = Y)) = (!decide (X = Y)) := rfl
      clear HX HY hXr
      go_wp2_with (first
        | (refine wpList_allocE (by rfl) 26 (by rfl) (cellsB zD).toArray Tryd.zeroDg w6.heap.size rfl w7 hw7 ?_)
        | (refine wpList_store_mid (by rfl) 26 (.tmp 8) (.tmp 27) (by rfl) w6.heap.size 0 (cellsB Y).toArray (by rfl) (by rfl) (by rw [cellsB_size, lY]; exact HTw7.out) (by rw [cellsB_size, lY]; exact Tryd.sizeDg) (all_oneCell_toArray (cellsB_one _)) ?_; rw [show (cellsB Y).toArray.toList = cellsB Y from rfl, hw8])
        | (refine wpList_load_midG (by rfl) 26 (.tmp 6) (by rfl) gx 0 (by rfl) (cellsB X) _ HX8.out Tryd.underlying26 (by rfl) (by rw [cellsB_length, lX]; exact Tryd.sizeDg) ?_)
        | (refine wpList_load_midG (by rfl) 26 (.tmp 8) (by rfl) w6.heap.size 0 (by rfl) (cellsB Y) _ HY8.out Tryd.underlying26 (by rfl) (by rw [cellsB_length, lY]; exact Tryd.sizeDg) ?_)
        | (refine wpList_neqD (.tmp 43) (.tmp 44) (by rfl) (by rfl) X Y lX lY (by rfl) (by rfl) (!decide (X = Y)) hd1 ?_))
      go_ret
      exact ⟨rfl, HB8.out⟩
    · by_cases hnn : n = n2
      · subst hnn
        clear HX HY
        by_cases hXY : X = Y
        · have hd1 : (!decide (X = Y)) = false := by simp [hXY]
          have hrr : rootT As = rootT Bs := by rw [← hXr, ← hYr]; exact hXY
          have HRR : Hid (rootT As = rootT Bs) := hrr
          have e0 : ((n : Int) != (n : Int)) = false := by simp
          clear hXY hXr hYr hrr
          go_wp2_with (first
            | (refine wpList_allocE (by rfl) 26 (by rfl) (cellsB zD).toArray Tryd.zeroDg w6.heap.size rfl w7 hw7 ?_)
            | (refine wpList_store_mid (by rfl) 26 (.tmp 8) (.tmp 27) (by rfl) w6.heap.size 0 (cellsB Y).toArray (by rfl) (by rfl) (by rw [cellsB_size, lY]; exact HTw7.out) (by rw [cellsB_size, lY]; exact Tryd.sizeDg) (all_oneCell_toArray (cellsB_one _)) ?_; rw [show (cellsB Y).toArray.toList = cellsB Y from rfl, hw8])
            | (refine wpList_load_midG (by rfl) 26 (.tmp 6) (by rfl) gx 0 (by rfl) (cellsB X) _ HX8.out Tryd.underlying26 (by rfl) (by rw [cellsB_length, lX]; exact Tryd.sizeDg) ?_)
            | (refine wpList_load_midG (by rfl) 26 (.tmp 8) (by rfl) w6.heap.size 0 (by rfl) (cellsB Y) _ HY8.out Tryd.underlying26 (by rfl) (by rw [cellsB_length, lY]; exact Tryd.sizeDg) ?_)
            | (refine wpList_neqD (.tmp 43) (.tmp 44) (by rfl) (by rfl) X Y lX lY (by rfl) (by rfl) false hd1 ?_))
          clear hw7 hw8 HTw7 HX8 HY8 hd1 e0
          go_loopw [10] (fun i wr => ∃ k : Nat, k ≤ n ∧ i = .int .i64 (k : Int) ∧ Below w.heap.size w wr) (fun i _ => n - (intOf i).toNat)
          case atStart => exact ⟨0, Nat.zero_le _, rfl, HB8.out⟩
          case round =>
            obtain ⟨k, hk, rfl, hB⟩ := hrel
            have HB : Hid (Below w.heap.size w wr) := hB
            by_cases hlt : k < n
            · have hD := HK.out _ hB
              obtain ⟨b1, o1, rfl⟩ := hD.2.1.addr (by omega)
              obtain ⟨b2, o2, rfl⟩ := hD.2.2.addr (by omega)
              have lP := hD.2.1.len k hlt
              have lQ := hD.2.2.len k hlt
              have HSx : Hid (∀ wx, Below w.heap.size w wx → wx.rangeAt b1 (o1 + k * 32) (cellsB (As.getD k [])) ∧ wx.rangeAt b2 (o2 + k * 32) (cellsB (Bs.getD k []))) := fun wx hx => ⟨(HK.out _ hx).2.1.at k hlt, (HK.out _ hx).2.2.at k hlt⟩
              obtain ⟨hf1, hg1⟩ := fold_path n As k HL1.out hlt
              obtain ⟨hf2, hg2⟩ := fold_path n Bs k HL2.out hlt
              have HP1 : Hid (∀ wx, Below w.heap.size w wx → Calls Tryd.prog 15 #[.slice (some ⟨b1, o1, none⟩) n c1, .int .i64 (k : Int)] wx fun e w' => (∃ a' c', e = .returned (.tuple #[.slice a' (longT k n) c', .nilIface]) ∧ longT k n ≤ c' ∧ DRow w' a' (longT k n) (pathT As k)) ∧ Below wx.heap.size wx w') := fun wx hx => wtree_path _ n c1 k As wx (HK.out _ hx).1 (HK.out _ hx).2.1 hc1 hn3 hlt
              have HP2 : Hid (∀ wx, Below w.heap.size w wx → Calls Tryd.prog 15 #[.slice (some ⟨b2, o2, none⟩) n c2, .int .i64 (k : Int)] wx fun e w' => (∃ a' c', e = .returned (.tuple #[.slice a' (longT k n) c', .nilIface]) ∧ longT k n ≤ c' ∧ DRow w' a' (longT k n) (pathT Bs k)) ∧ Below wx.heap.size wx w') := fun wx hx => wtree_path _ n c2 k Bs wx (HK.out _ hx).1 (HK.out _ hx).2.2 hc2 hn3 hlt
              have HCL : Hid (As.getD k [] ≠ Bs.getD k [] → ∀ wx a' c' a'' c'', longT k n ≤ c' → longT k n ≤ c'' → DRow wx a' (longT k n) (pathT As k) → DRow wx a'' (longT k n) (pathT Bs k) → Calls Tryd.prog 23 #[digestV (As.getD k []), .slice a' (longT k n) c', digestV (Bs.getD k []), .slice a'' (longT k n) c'', .int .i64 (k : Int), .int .i64 (n : Int)] wx fun e w' => e = .returned (.bool true) ∧ Below wx.heap.size wx w') := fun hne wx a' c' a'' c'' h1 h2 r1 r2 => lclash_any n _ _ k (longT k n) c' c'' a' a'' _ _ wx lP lQ hne r1 r2 rfl h1 h2 (by omega) (by omega) hlt (by rw [hf1, hf2]; exact HRR.out)
              have HLG : Hid (∀ wx, Calls Tryd.prog 17 #[.int .i64 (k : Int), .int .i64 (n : Int)] wx fun e w' => e = .returned (.int .i64 (longT k n : Int)) ∧ w' = wx) := fun wx => rlong_any n k wx (by omega) (by omega) hlt
              have hl8 := longT_256 k n hn3
              clear hD hB hf1 hf2 hg1 hg2 HRR
              generalize longT k n = p at *
              generalize As.getD k [] = P at *
              generalize Bs.getD k [] = Q at *
              generalize pathT As k = PA at *
              generalize pathT Bs k = PB at *
              have k0 : (0 : Int) ≤ (k : Int) := by omega
              have k1 : (k : Int) < (n : Int) := by omega
              have e0 : ((p : Int) != (p : Int)) = false := by simp
              go_wp2_with fail
              refine wp_region_noPanic ?_
              refine wp_region_held_drew (S := fun w_ => w_.rangeAt b1 (o1 + k * 32) (cellsB P) ∧ w_.rangeAt b2 (o2 + k * 32) (cellsB Q)) (by kernel_rfl) (HSx.out _ (below_trans HB.out (below_drewN wr 1))) (fun hHeld => ?_)
              try simp only [Act.put, List.setIfInBounds_toArray, List.set_cons_zero, List.set_cons_succ]
              have HBd : Hid (Below w.heap.size w wr.drew) := below_trans HB.out (below_drewN wr 1)
              generalize wr.drew = wd at *
              clear HB
              refine wpAnyH_take (i := 0) (v := ?_) (by simp only [List.getElem?_toArray, List.getElem?_cons_zero, List.getElem?_cons_succ]; rfl) (by kernel_rfl) (by kernel_rfl) (by kernel_rfl) (fun _ _ _ h => h) (Or.inl ⟨by rfl, ?_⟩) hHeld ?_
              rotate_left
              · intro w hSw
                obtain ⟨hSw0, hSw1⟩ := hSw
                go_simp
                try with_reducible rfl
              try simp only [Act.put, List.setIfInBounds_toArray, List.set_cons_zero, List.set_cons_succ]
              refine wpAnyH_take (i := 1) (v := ?_) (by simp only [List.getElem?_toArray, List.getElem?_cons_zero, List.getElem?_cons_succ]; rfl) (by kernel_rfl) (by kernel_rfl) (by kernel_rfl) (fun _ _ _ h => h) (Or.inl ⟨by rfl, ?_⟩) hHeld ?_
              rotate_left
              · intro w hSw
                obtain ⟨hSw0, hSw1⟩ := hSw
                go_simp
                try with_reducible rfl
              try simp only [Act.put, List.setIfInBounds_toArray, List.set_cons_zero, List.set_cons_succ]
              refine wpAnyH_take (i := 2) (v := .pointer (some ⟨b1, o1 + k * 32, none⟩)) (by simp only [List.getElem?_toArray, List.getElem?_cons_zero, List.getElem?_cons_succ]; rfl) (by kernel_rfl) (by kernel_rfl) (by kernel_rfl) (fun _ _ _ h => h) (Or.inl ⟨by rfl, ?_⟩) hHeld ?_
              · intro w hSw
                obtain ⟨hSw0, hSw1⟩ := hSw
                go_simp
              try simp only [Act.put, List.setIfInBounds_toArray, List.set_cons_zero, List.set_cons_succ]
              refine wpAnyH_take (i := 3) (v := .agg (cellsB P).toArray) (by simp only [List.getElem?_toArray, List.getElem?_cons_zero, List.getElem?_cons_succ]; rfl) (by kernel_rfl) (by kernel_rfl) (by kernel_rfl) (fun _ _ _ h => h)
                (yieldsIf_load_mid (by rfl) _ _ rfl _ _ rfl _ _ (fun w hw => hw.1) Tryd.underlying26 rfl (by rw [cellsB_length, lP]; exact Tryd.sizeDg)) hHeld ?_
              try simp only [Act.put, List.setIfInBounds_toArray, List.set_cons_zero, List.set_cons_succ]
              refine wpAnyH_take (i := 4) (v := ?_) (by simp only [List.getElem?_toArray, List.getElem?_cons_zero, List.getElem?_cons_succ]; rfl) (by kernel_rfl) (by kernel_rfl) (by kernel_rfl) (fun _ _ _ h => h) (Or.inl ⟨by rfl, ?_⟩) hHeld ?_
              rotate_left
              · intro w hSw
                obtain ⟨hSw0, hSw1⟩ := hSw
                go_simp
                try with_reducible rfl
              try simp only [Act.put, List.setIfInBounds_toArray, List.set_cons_zero, List.set_cons_succ]
              refine wpAnyH_take (i := 5) (v := ?_) (by simp only [List.getElem?_toArray, List.getElem?_cons_zero, List.getElem?_cons_succ]; rfl) (by kernel_rfl) (by kernel_rfl) (by kernel_rfl) (fun _ _ _ h => h) (Or.inl ⟨by rfl, ?_⟩) hHeld ?_
              rotate_left
              · intro w hSw
                obtain ⟨hSw0, hSw1⟩ := hSw
                go_simp
                try with_reducible rfl
              try simp only [Act.put, List.setIfInBounds_toArray, List.set_cons_zero, List.set_cons_succ]
              refine wpAnyH_take (i := 6) (v := .pointer (some ⟨b2, o2 + k * 32, none⟩)) (by simp only [List.getElem?_toArray, List.getElem?_cons_zero, List.getElem?_cons_succ]; rfl) (by kernel_rfl) (by kernel_rfl) (by kernel_rfl) (fun _ _ _ h => h) (Or.inl ⟨by rfl, ?_⟩) hHeld ?_
              · intro w hSw
                obtain ⟨hSw0, hSw1⟩ := hSw
                go_simp
              try simp only [Act.put, List.setIfInBounds_toArray, List.set_cons_zero, List.set_cons_succ]
              refine wpAnyH_take (i := 7) (v := .agg (cellsB Q).toArray) (by simp only [List.getElem?_toArray, List.getElem?_cons_zero, List.getElem?_cons_succ]; rfl) (by kernel_rfl) (by kernel_rfl) (by kernel_rfl) (fun _ _ _ h => h)
                (yieldsIf_load_mid (by rfl) _ _ rfl _ _ rfl _ _ (fun w hw => hw.2) Tryd.underlying26 rfl (by rw [cellsB_length, lQ]; exact Tryd.sizeDg)) hHeld ?_
              try simp only [Act.put, List.setIfInBounds_toArray, List.set_cons_zero, List.set_cons_succ]
              by_cases hPQ : P = Q
              · have hd : decide (P = Q) = true := decide_eq_true hPQ
                refine wpAnyH_take (i := 8) (v := .bool true) (by simp only [List.getElem?_toArray, List.getElem?_cons_zero, List.getElem?_cons_succ]; rfl) (by kernel_rfl) (by kernel_rfl) (by kernel_rfl) (fun _ _ _ h => h)
                  (yieldsIf_eqD (by rfl) _ _ rfl P Q lP lQ rfl rfl true hd) hHeld ?_
                try simp only [Act.put, List.setIfInBounds_toArray, List.set_cons_zero, List.set_cons_succ]
                refine wpAnyH_done (by kernel_rfl) (NoPanic.normal ?_) _
                clear hHeld hPQ hd
                go_wp2_with fail
                go_roundw
                case rel => exact ⟨k + 1, by omega, by go_num, HBd.out⟩
                case measure => simp [intOf]; omega
              · have hd : decide (P = Q) = false := decide_eq_false hPQ
                refine wpAnyH_take (i := 8) (v := .bool false) (by simp only [List.getElem?_toArray, List.getElem?_cons_zero, List.getElem?_cons_succ]; rfl) (by kernel_rfl) (by kernel_rfl) (by kernel_rfl) (fun _ _ _ h => h)
                  (yieldsIf_eqD (by rfl) _ _ rfl P Q lP lQ rfl rfl false hd) hHeld ?_
                try simp only [Act.put, List.setIfInBounds_toArray, List.set_cons_zero, List.set_cons_succ]
                refine wpAnyH_done (by kernel_rfl) (NoPanic.normal ?_) _
                clear hHeld hd
                have HPQ : Hid (P ≠ Q) := hPQ
                clear hPQ
                go_wp2_with fail
                refine (HP1.out _ HBd.out).mono ?_
                rintro e wA ⟨⟨ap, cp, rfl, hcp, hdp⟩, hbA⟩
                have HBA : Hid (Below w.heap.size w wA) := below_trans HBd.out hbA
                have HPA : Hid (DRow wA ap p PA) := hdp
                clear hbA hdp HBd HP1
                go_wp2_with fail
                refine (HP2.out _ HBA.out).mono ?_
                rintro e wB ⟨⟨aq, cq, rfl, hcq, hdq⟩, hbB⟩
                have HBB : Hid (Below w.heap.size w wB) := below_trans HBA.out hbB
                have HPB : Hid (∀ wx, Below wB.heap.size wB wx → DRow wx ap p PA ∧ DRow wx aq p PB) := fun wx hx => ⟨(HPA.out.below hbB).below hx, hdq.below hx⟩
                clear hbB hdq HBA HP2 HPA
                go_wp2_with fail
                refine (HLG.out wB).mono ?_
                rintro e wC ⟨rfl, hwC⟩
                subst hwC
                clear HLG
                go_wp2_with fail
                refine wp_region_noPanic ?_
                refine wp_region_held_drew (S := fun w_ => w_.rangeAt b1 (o1 + k * 32) (cellsB P) ∧ w_.rangeAt b2 (o2 + k * 32) (cellsB Q)) (by kernel_rfl) (HSx.out _ (below_trans HBB.out (below_drewN wC 1))) (fun hHeld => ?_)
                try simp only [Act.put, List.setIfInBounds_toArray, List.set_cons_zero, List.set_cons_succ]
                have HBe : Hid (Below wC.heap.size wC wC.drew) := below_drewN wC 1
                generalize wC.drew = we at *
                refine wpAnyH_take (i := 0) (v := ?_) (by simp only [List.getElem?_toArray, List.getElem?_cons_zero, List.getElem?_cons_succ]; rfl) (by kernel_rfl) (by kernel_rfl) (by kernel_rfl) (fun _ _ _ h => h) (Or.inl ⟨by rfl, ?_⟩) hHeld ?_
                rotate_left
                · intro w hSw
                  obtain ⟨hSw0, hSw1⟩ := hSw
                  go_simp
                  try with_reducible rfl
                try simp only [Act.put, List.setIfInBounds_toArray, List.set_cons_zero, List.set_cons_succ]
                refine wpAnyH_take (i := 1) (v := ?_) (by simp only [List.getElem?_toArray, List.getElem?_cons_zero, List.getElem?_cons_succ]; rfl) (by kernel_rfl) (by kernel_rfl) (by kernel_rfl) (fun _ _ _ h => h) (Or.inl ⟨by rfl, ?_⟩) hHeld ?_
                rotate_left
                · intro w hSw
                  obtain ⟨hSw0, hSw1⟩ := hSw
                  go_simp
                  try with_reducible rfl
                try simp only [Act.put, List.setIfInBounds_toArray, List.set_cons_zero, List.set_cons_succ]
                refine wpAnyH_take (i := 2) (v := .pointer (some ⟨b1, o1 + k * 32, none⟩)) (by simp only [List.getElem?_toArray, List.getElem?_cons_zero, List.getElem?_cons_succ]; rfl) (by kernel_rfl) (by kernel_rfl) (by kernel_rfl) (fun _ _ _ h => h) (Or.inl ⟨by rfl, ?_⟩) hHeld ?_
                · intro w hSw
                  obtain ⟨hSw0, hSw1⟩ := hSw
                  go_simp
                try simp only [Act.put, List.setIfInBounds_toArray, List.set_cons_zero, List.set_cons_succ]
                refine wpAnyH_take (i := 3) (v := .agg (cellsB P).toArray) (by simp only [List.getElem?_toArray, List.getElem?_cons_zero, List.getElem?_cons_succ]; rfl) (by kernel_rfl) (by kernel_rfl) (by kernel_rfl) (fun _ _ _ h => h)
                  (yieldsIf_load_mid (by rfl) _ _ rfl _ _ rfl _ _ (fun w hw => hw.1) Tryd.underlying26 rfl (by rw [cellsB_length, lP]; exact Tryd.sizeDg)) hHeld ?_
                try simp only [Act.put, List.setIfInBounds_toArray, List.set_cons_zero, List.set_cons_succ]
                refine wpAnyH_take (i := 4) (v := ?_) (by simp only [List.getElem?_toArray, List.getElem?_cons_zero, List.getElem?_cons_succ]; rfl) (by kernel_rfl) (by kernel_rfl) (by kernel_rfl) (fun _ _ _ h => h) (Or.inl ⟨by rfl, ?_⟩) hHeld ?_
                rotate_left
                · intro w hSw
                  obtain ⟨hSw0, hSw1⟩ := hSw
                  go_simp
                  try with_reducible rfl
                try simp only [Act.put, List.setIfInBounds_toArray, List.set_cons_zero, List.set_cons_succ]
                refine wpAnyH_take (i := 5) (v := ?_) (by simp only [List.getElem?_toArray, List.getElem?_cons_zero, List.getElem?_cons_succ]; rfl) (by kernel_rfl) (by kernel_rfl) (by kernel_rfl) (fun _ _ _ h => h) (Or.inl ⟨by rfl, ?_⟩) hHeld ?_
                rotate_left
                · intro w hSw
                  obtain ⟨hSw0, hSw1⟩ := hSw
                  go_simp
                  try with_reducible rfl
                try simp only [Act.put, List.setIfInBounds_toArray, List.set_cons_zero, List.set_cons_succ]
                refine wpAnyH_take (i := 6) (v := ?_) (by simp only [List.getElem?_toArray, List.getElem?_cons_zero, List.getElem?_cons_succ]; rfl) (by kernel_rfl) (by kernel_rfl) (by kernel_rfl) (fun _ _ _ h => h) (Or.inl ⟨by rfl, ?_⟩) hHeld ?_
                rotate_left
                · intro w hSw
                  obtain ⟨hSw0, hSw1⟩ := hSw
                  go_simp
                  try with_reducible rfl
                try simp only [Act.put, List.setIfInBounds_toArray, List.set_cons_zero, List.set_cons_succ]
                refine wpAnyH_take (i := 7) (v := .pointer (some ⟨b2, o2 + k * 32, none⟩)) (by simp only [List.getElem?_toArray, List.getElem?_cons_zero, List.getElem?_cons_succ]; rfl) (by kernel_rfl) (by kernel_rfl) (by kernel_rfl) (fun _ _ _ h => h) (Or.inl ⟨by rfl, ?_⟩) hHeld ?_
                · intro w hSw
                  obtain ⟨hSw0, hSw1⟩ := hSw
                  go_simp
                try simp only [Act.put, List.setIfInBounds_toArray, List.set_cons_zero, List.set_cons_succ]
                refine wpAnyH_take (i := 8) (v := .agg (cellsB Q).toArray) (by simp only [List.getElem?_toArray, List.getElem?_cons_zero, List.getElem?_cons_succ]; rfl) (by kernel_rfl) (by kernel_rfl) (by kernel_rfl) (fun _ _ _ h => h)
                  (yieldsIf_load_mid (by rfl) _ _ rfl _ _ rfl _ _ (fun w hw => hw.2) Tryd.underlying26 rfl (by rw [cellsB_length, lQ]; exact Tryd.sizeDg)) hHeld ?_
                try simp only [Act.put, List.setIfInBounds_toArray, List.set_cons_zero, List.set_cons_succ]
                refine wpAnyH_take (i := 9) (v := ?_) (by simp only [List.getElem?_toArray, List.getElem?_cons_zero, List.getElem?_cons_succ]; rfl) (by kernel_rfl) (by kernel_rfl) (by kernel_rfl) (fun _ _ _ h => h) (Or.inl ⟨by rfl, ?_⟩) hHeld ?_
                rotate_left
                · intro w hSw
                  obtain ⟨hSw0, hSw1⟩ := hSw
                  go_simp
                  try with_reducible rfl
                try simp only [Act.put, List.setIfInBounds_toArray, List.set_cons_zero, List.set_cons_succ]
                refine wpAnyH_take (i := 10) (v := ?_) (by simp only [List.getElem?_toArray, List.getElem?_cons_zero, List.getElem?_cons_succ]; rfl) (by kernel_rfl) (by kernel_rfl) (by kernel_rfl) (fun _ _ _ h => h) (Or.inl ⟨by rfl, ?_⟩) hHeld ?_
                rotate_left
                · intro w hSw
                  obtain ⟨hSw0, hSw1⟩ := hSw
                  go_simp
                  try with_reducible rfl
                try simp only [Act.put, List.setIfInBounds_toArray, List.set_cons_zero, List.set_cons_succ]
                refine wpAnyH_take (i := 11) (v := ?_) (by simp only [List.getElem?_toArray, List.getElem?_cons_zero, List.getElem?_cons_succ]; rfl) (by kernel_rfl) (by kernel_rfl) (by kernel_rfl) (fun _ _ _ h => h) (Or.inl ⟨by rfl, ?_⟩) hHeld ?_
                rotate_left
                · intro w hSw
                  obtain ⟨hSw0, hSw1⟩ := hSw
                  go_simp
                  try with_reducible rfl
                try simp only [Act.put, List.setIfInBounds_toArray, List.set_cons_zero, List.set_cons_succ]
                refine wpAnyH_take (i := 12) (v := ?_) (by simp only [List.getElem?_toArray, List.getElem?_cons_zero, List.getElem?_cons_succ]; rfl) (by kernel_rfl) (by kernel_rfl) (by kernel_rfl) (fun _ _ _ h => h) (Or.inl ⟨by rfl, ?_⟩) hHeld ?_
                rotate_left
                · intro w hSw
                  obtain ⟨hSw0, hSw1⟩ := hSw
                  go_simp
                  try with_reducible rfl
                try simp only [Act.put, List.setIfInBounds_toArray, List.set_cons_zero, List.set_cons_succ]
                refine wpAnyH_ready (rs := [13]) (by kernel_rfl) (by simp) ?_
                refine AllReadyH.cons (by simp only [List.getElem?_toArray, List.getElem?_cons_zero, List.getElem?_cons_succ]; rfl) (fun K hK => ?_) AllReadyH.nil
                rw [if_pos (by rfl)]
                go_simp
                refine (HCL.out HPQ.out we ap cp aq cq hcp hcq (HPB.out _ HBe.out).1 (HPB.out _ HBe.out).2).mono ?_
                rintro e wF ⟨rfl, hbF⟩
                have HBF : Hid (Below w.heap.size w wF) := below_trans (below_trans HBB.out HBe.out) hbF
                clear hbF HBe
                go_wp2_with fail
                refine hK.out _ _ (HSx.out _ HBF.out) (fun hHeld => ?_)
                clear hK K
                try simp only [Act.put, List.setIfInBounds_toArray, List.set_cons_zero, List.set_cons_succ]
                refine wpAnyH_take (i := 14) (v := ?_) (by simp only [List.getElem?_toArray, List.getElem?_cons_zero, List.getElem?_cons_succ]; rfl) (by kernel_rfl) (by kernel_rfl) (by kernel_rfl) (fun _ _ _ h => h) (Or.inl ⟨by rfl, ?_⟩) hHeld ?_
                rotate_left
                · intro w hSw
                  obtain ⟨hSw0, hSw1⟩ := hSw
                  go_simp
                  try with_reducible rfl
                try simp only [Act.put, List.setIfInBounds_toArray, List.set_cons_zero, List.set_cons_succ]
                refine wpAnyH_done (by kernel_rfl) (NoPanic.normal ?_) _
                clear hHeld
                go_wp2_with fail
                go_ret
                exact ⟨rfl, HBF.out⟩
            · obtain rfl : k = n := by omega
              clear hB
              go_wp2_with fail
              go_ret
              exact ⟨rfl, HB.out⟩
        · have hd1 : (!decide (X = Y)) = true := by simp [hXY]
          have e0 : ((n : Int) != (n : Int)) = false := by simp
          clear hXY hXr hYr
          go_wp2_with (first
            | (refine wpList_allocE (by rfl) 26 (by rfl) (cellsB zD).toArray Tryd.zeroDg w6.heap.size rfl w7 hw7 ?_)
            | (refine wpList_store_mid (by rfl) 26 (.tmp 8) (.tmp 27) (by rfl) w6.heap.size 0 (cellsB Y).toArray (by rfl) (by rfl) (by rw [cellsB_size, lY]; exact HTw7.out) (by rw [cellsB_size, lY]; exact Tryd.sizeDg) (all_oneCell_toArray (cellsB_one _)) ?_; rw [show (cellsB Y).toArray.toList = cellsB Y from rfl, hw8])
            | (refine wpList_load_midG (by rfl) 26 (.tmp 6) (by rfl) gx 0 (by rfl) (cellsB X) _ HX8.out Tryd.underlying26 (by rfl) (by rw [cellsB_length, lX]; exact Tryd.sizeDg) ?_)
            | (refine wpList_load_midG (by rfl) 26 (.tmp 8) (by rfl) w6.heap.size 0 (by rfl) (cellsB Y) _ HY8.out Tryd.underlying26 (by rfl) (by rw [cellsB_length, lY]; exact Tryd.sizeDg) ?_)
            | (refine wpList_neqD (.tmp 43) (.tmp 44) (by rfl) (by rfl) X Y lX lY (by rfl) (by rfl) true hd1 ?_))
          go_ret
          exact ⟨rfl, HB8.out⟩
      · have hd1 : (!decide (X = Y)) = (!decide (X = Y)) := rfl
        have e0 : ((n : Int) != (n2 : Int)) = true := by simp; omega
        clear HX HY hXr hYr
        go_wp2_with (first
          | (refine wpList_allocE (by rfl) 26 (by rfl) (cellsB zD).toArray Tryd.zeroDg w6.heap.size rfl w7 hw7 ?_)
          | (refine wpList_store_mid (by rfl) 26 (.tmp 8) (.tmp 27) (by rfl) w6.heap.size 0 (cellsB Y).toArray (by rfl) (by rfl) (by rw [cellsB_size, lY]; exact HTw7.out) (by rw [cellsB_size, lY]; exact Tryd.sizeDg) (all_oneCell_toArray (cellsB_one _)) ?_; rw [show (cellsB Y).toArray.toList = cellsB Y from rfl, hw8])
          | (refine wpList_load_midG (by rfl) 26 (.tmp 6) (by rfl) gx 0 (by rfl) (cellsB X) _ HX8.out Tryd.underlying26 (by rfl) (by rw [cellsB_length, lX]; exact Tryd.sizeDg) ?_)
          | (refine wpList_load_midG (by rfl) 26 (.tmp 8) (by rfl) w6.heap.size 0 (by rfl) (cellsB Y) _ HY8.out Tryd.underlying26 (by rfl) (by rw [cellsB_length, lY]; exact Tryd.sizeDg) ?_)
          | (refine wpList_neqD (.tmp 43) (.tmp 44) (by rfl) (by rfl) X Y lX lY (by rfl) (by rfl) (!decide (X = Y)) hd1 ?_))
        go_ret
        exact ⟨rfl, HB8.out⟩
end Go.Proofs.YtdldkhhcicjbmaaDoor
