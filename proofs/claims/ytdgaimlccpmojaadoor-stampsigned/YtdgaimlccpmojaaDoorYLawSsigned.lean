/- The law StampSigned: what is signed is known, each text by a key of its own. -/
import Derived.Test.YtdgaimlccpmojaaDoorJ22
import Derived.Test.YtdgaimlccpmojaaDoorJ06
import Derived.Test.YtdgaimlccpmojaaDoorJ15
import Derived.Test.YtdgaimlccpmojaaDoorJ23
import Derived.Test.YtdgaimlccpmojaaDoorJ07
import Derived.Test.YtdgaimlccpmojaaDoorYPairs
import Derived.Deep.DeepCutAuto
import Derived.Deep.RegionHeld3
namespace Go.Proofs.YtdgaimlccpmojaaDoor
open Go.RowKit
set_option linter.unusedVariables false
set_option linter.unusedSimpArgs false

set_option maxRecDepth 100000 in
set_option maxHeartbeats 4000000 in
theorem ssigned_walk (seed : List UInt8) (h : Int) (a : Option Addr) (N c : Nat) (ms : List (List UInt8)) (w : World) (G : Env w) (HH : Handle w) (hs : seed.length = 32) (h1 : -9223372036854775808 ≤ h) (h2 : h ≤ 9223372036854775807) (R : DRow w a N ms) (hc : N ≤ c) (hN : 32 * N ≤ 140737488351232) :
    Calls Tryd.prog 3 #[digestV seed, .int .i64 h, .slice a N c] w fun e w' => e = .returned (.bool true) ∧ Below w.heap.size w w' := by
  have HG : Hid (∀ wx, Below w.heap.size w wx → Env wx ∧ Handle wx ∧ DRow wx a N ms) := fun wx hx => ⟨G.below hx, HH.below hx, R.below hx⟩
  have HM32 : Hid (∀ j, j < N → (ms.getD j []).length = 32) := R.len
  obtain ⟨w2, hw2⟩ : ∃ w2, w.alloc (.cells (cellsB seed).toArray 23) = w2 := ⟨_, rfl⟩
  have HS2 : Hid (w2.heap.size = w.heap.size + 1) := by unfold Hid; rw [← hw2]; simp
  have HB2 : Hid (Below w.heap.size w w2) := by rw [← hw2]; exact (Below.refl _ _).alloc (Nat.le_refl _) _
  have HX2 : Hid (w2.rangeAt w.heap.size 0 (cellsB seed)) := by rw [← hw2]; exact box_dat w seed _
  clear G HH R
  by_cases hout : h < 0 ∨ 4 < h
  · have HP : Hid (Calls Tryd.prog 5 #[digestV seed, .int .i64 h] w2 fun e w' => e = .returned (.tuple #[digestV zD, .iface 30 (.int .i64 2)]) ∧ Below w2.heap.size w2 w') := wstamp_pubout seed h w2 (HG.out _ HB2.out).1 hs hout h1 h2
    have HOUT : Hid (h < 0 ∨ 4 < h) := hout
    have lZ : zD.length = 32 := rfl
    obtain ⟨Z, hZ⟩ : ∃ Z, zD = Z := ⟨_, rfl⟩
    have HP' : Hid (Calls Tryd.prog 5 #[digestV seed, .int .i64 h] w2 fun e w' => e = .returned (.tuple #[digestV Z, .iface 30 (.int .i64 2)]) ∧ Below w2.heap.size w2 w') := by rw [← hZ]; exact HP.out
    rw [hZ] at lZ
    clear hout HP hZ
    go_enter Tryd.func3, Tryd.ntmps3
    go_wp2_with (refine wpList_load_mid (by rfl) 23 (.tmp 3) (by rfl) w.heap.size 0 (by rfl) (cellsB seed) _ HX2.out Tryd.underlying23 (by rfl) (by rw [cellsB_length, hs]; exact Tryd.sizeDg) ?_)
    refine HP'.out.mono ?_
    rintro e w3 ⟨rfl, hb3⟩
    have HB3 : Hid (Below w.heap.size w w3) := HB2.out.trans (hb3.mono (by have := HS2.out; omega))
    clear hb3 HP' hw2
    obtain ⟨g7, hg7⟩ : ∃ g7, w3.heap.size = g7 := ⟨_, rfl⟩
    obtain ⟨w4, hw4⟩ : ∃ w4, w3.alloc (.cells (cellsB zD).toArray 23) = w4 := ⟨_, rfl⟩
    have HT4 : Hid (w4.there g7 0 32) := by rw [← hw4]; exact alloc_thereAt _ _ _ 32 _ hg7 zD_size.symm
    have HB5 : Hid (Below w.heap.size w (w4.setCells g7 0 (cellsB Z))) := below_setCells _ (by rw [← hg7]; exact HB3.out.size) _ _ _ (by rw [← hw4]; exact HB3.out.alloc HB3.out.size _)
    go_upto_region 2 with (first
      | (refine wpList_allocE (by rfl) 23 (by rfl) (cellsB zD).toArray Tryd.zeroDg g7 hg7 w4 hw4 ?_)
      | (refine wpList_store_mid (by rfl) 23 (.tmp 7) (.tmp 24) (by rfl) g7 0 (cellsB Z).toArray (by rfl) (by rfl) (by rw [cellsB_size, lZ]; exact HT4.out) (by rw [cellsB_size, lZ]; exact Tryd.sizeDg) (all_oneCell_toArray (cellsB_one _)) ?_))
    generalize w4.setCells g7 0 (cellsB Z) = w5 at *
    clear hw4 hg7 HT4
    try simp only [Act.put, List.setIfInBounds_toArray, List.set_cons_zero, List.set_cons_succ]
    go_cut [31] (fun bv wq => bv = .bool true ∧ Hid (wq = w5))
    case first =>
      by_cases hneg : h < 0
      · go_wp2_with fail
        go_meet
        case rel => exact ⟨rfl, rfl⟩
      have hbig : 4 < h := by have := HOUT.out; omega
      go_wp2_with fail
      go_meet
      case rel => exact ⟨rfl, rfl⟩
    case rest =>
    obtain ⟨rfl, hwc⟩ := hcut
    have hwc' : w5 = wc := hwc.out.symm
    subst hwc'
    go_wp2_with fail
    refine (error_errno 2 2 w5 (HG.out _ HB5.out).2.1).mono ?_
    rintro r w6 ⟨rfl, hb6⟩
    have HB6 : Hid (Below w.heap.size w w6) := HB5.out.trans (hb6.mono HB5.out.size)
    clear hb6
    go_wp2_with fail
    go_ret
    exact ⟨by simp, HB6.out⟩
  obtain ⟨hh, rfl⟩ : ∃ hh : Nat, h = (hh : Int) := ⟨h.toNat, by omega⟩
  have hh4 : hh ≤ 4 := by omega
  clear hout
  have HP : Hid (Calls Tryd.prog 5 #[digestV seed, .int .i64 (hh : Int)] w2 fun e w' => e = .returned (.tuple #[digestV (stampPubL seed (2 ^ hh)), .nilIface]) ∧ Below w2.heap.size w2 w') := wstamp_public seed hh w2 (HG.out _ HB2.out).1 hs hh4
  have lD := stampPubL_length seed (2 ^ hh)
  have hp0 : 1 ≤ 2 ^ hh := Nat.pow_pos (by omega)
  have hp16 : 2 ^ hh ≤ 16 := Nat.pow_le_pow_right (n := 2) (by omega) hh4
  have HTELL : Hid (∀ m i, i < 2 ^ hh → stampTellL m i (2 ^ hh) (wotsSigL (stampKeyL seed i) m 67) (pathT (stampLeavesL seed (2 ^ hh)) i) = stampPubL seed (2 ^ hh)) := fun m i hi => stamp_signed seed m i _ hi
  generalize stampPubL seed (2 ^ hh) = D at *
  have g1 : ¬ (hh : Int) < 0 := by omega
  have g2 : ¬ (4 : Int) < (hh : Int) := by omega
  go_enter Tryd.func3, Tryd.ntmps3
  go_wp2_with (refine wpList_load_mid (by rfl) 23 (.tmp 3) (by rfl) w.heap.size 0 (by rfl) (cellsB seed) _ HX2.out Tryd.underlying23 (by rfl) (by rw [cellsB_length, hs]; exact Tryd.sizeDg) ?_)
  refine HP.out.mono ?_
  rintro e w3 ⟨rfl, hb3⟩
  have HB3 : Hid (Below w2.heap.size w2 w3) := hb3
  clear hb3 HP hw2
  obtain ⟨g7, hg7⟩ : ∃ g7, w3.heap.size = g7 := ⟨_, rfl⟩
  obtain ⟨w4, hw4⟩ : ∃ w4, w3.alloc (.cells (cellsB zD).toArray 23) = w4 := ⟨_, rfl⟩
  have HT4 : Hid (w4.there g7 0 32) := by rw [← hw4]; exact alloc_thereAt _ _ _ 32 _ hg7 zD_size.symm
  have HN7 : Hid (w2.heap.size ≤ g7) := by rw [← hg7]; exact HB3.out.size
  have HB5 : Hid (Below w2.heap.size w2 (w4.setCells g7 0 (cellsB D))) := below_setCells _ HN7.out _ _ _ (by rw [← hw4]; exact HB3.out.alloc HB3.out.size _)
  have HX5 : Hid (DAt (w4.setCells g7 0 (cellsB D)) g7 0 D) := dat_stored HT4.out lD
  have HY5 : Hid ((w4.setCells g7 0 (cellsB D)).rangeAt w.heap.size 0 (cellsB seed)) := range_below HX2.out HB5.out (by have := HS2.out; omega)
  go_wp2_with (first
    | (refine wpList_allocE (by rfl) 23 (by rfl) (cellsB zD).toArray Tryd.zeroDg g7 hg7 w4 hw4 ?_)
    | (refine wpList_store_mid (by rfl) 23 (.tmp 7) (.tmp 24) (by rfl) g7 0 (cellsB D).toArray (by rfl) (by rfl) (by rw [cellsB_size, lD]; exact HT4.out) (by rw [cellsB_size, lD]; exact Tryd.sizeDg) (all_oneCell_toArray (cellsB_one _)) ?_)
    | (refine wpList_load_mid (by rfl) 23 (.tmp 3) (by rfl) w.heap.size 0 (by rfl) (cellsB seed) _ HY5.out Tryd.underlying23 (by rfl) (by rw [cellsB_length, hs]; exact Tryd.sizeDg) ?_))
  generalize w4.setCells g7 0 (cellsB D) = w5 at *
  clear hw4 hg7 HT4 HB3 HY5 HX2
  have HBw5 : Hid (Below w.heap.size w w5) := HB2.out.trans (HB5.out.mono (by have := HS2.out; omega))
  refine (wstamp_new seed hh w5 (HG.out _ HBw5.out).1 hs hh4).mono ?_
  rintro e w6 ⟨⟨g, rfl, hg, hst⟩, hb6⟩
  have HGG : Hid (g7 < g ∧ w.heap.size ≤ g) := by
    have := cell_block (HX5.out.cell 0 (by omega))
    have := HBw5.out.size
    unfold Hid
    omega
  have HST6 : Hid (Stm w6 g seed hh 0) := hst
  have HX6 : Hid (DAt w6 g7 0 D) := HX5.out.below hb6 (cell_block (HX5.out.cell 0 (by omega)))
  have HB6 : Hid (Below w.heap.size w w6) := HBw5.out.trans (hb6.mono HBw5.out.size)
  clear hst hb6 HX5 HB5 HBw5 hg
  by_cases hbig : 20 < N
  · have g3 : (20 : Int) < (N : Int) := by omega
    go_wp2_with fail
    go_ret
    exact ⟨rfl, HB6.out⟩
  have g3 : ¬ (20 : Int) < (N : Int) := by omega
  have hN20 : N ≤ 20 := by omega
  clear hbig
  go_wp2_with fail
  go_loopw [12, 13] (fun nv kv wr => ∃ k n : Nat, k ≤ hh ∧ kv = .int .i64 (k : Int) ∧ nv = .int .i64 (n : Int) ∧ n ≤ 16 ∧ Hid (n = 2 ^ k) ∧ Hid (wr = w6)) (fun _ kv _ => hh - (intOf kv).toNat)
  case atStart => exact ⟨0, 1, Nat.zero_le _, rfl, rfl, by omega, rfl, rfl⟩
  case round =>
    obtain ⟨k, n, hk, rfl, rfl, hn, HN, HW⟩ := hrel
    have hw := HW.out
    subst hw
    by_cases hlt : k < hh
    · have g4 : (k : Int) < (hh : Int) := by omega
      have HN2 : Hid (2 * n = 2 ^ (k + 1)) := by unfold Hid; rw [HN.out, Nat.pow_succ, Nat.mul_comm]
      have hn2 : 2 * n ≤ 16 := by
        rw [HN2.out]
        have := Nat.pow_le_pow_right (n := 2) (by omega) (show k + 1 ≤ 4 by omega)
        omega
      go_wp2_with fail
      go_roundw
      case rel => exact ⟨k + 1, 2 * n, by omega, by go_num, by go_num, hn2, HN2, by first | exact True.intro | exact rfl⟩
      case measure => simp [intOf]; omega
    · obtain rfl : k = hh := by omega
      have g4 : ¬ (k : Int) < (k : Int) := by omega
      have hn1 : 1 ≤ n := by rw [HN.out]; exact hp0
      have HTE : Hid (∀ m i, i < n → stampTellL m i n (wotsSigL (stampKeyL seed i) m 67) (pathT (stampLeavesL seed n) i) = D) := by rw [HN.out]; exact HTELL.out
      clear HTELL hp0 hp16
      go_wp2_with fail
      clear g4
      go_loopw [14] (fun iv wq => ∃ i : Nat, i ≤ N ∧ iv = .int .i64 (i : Int) ∧ Stm wq g seed k (min i n) ∧ DAt wq g7 0 D ∧ Below w.heap.size w wq) (fun iv _ => N - (intOf iv).toNat)
      case atStart => exact ⟨0, Nat.zero_le _, rfl, by rw [Nat.zero_min]; exact HST6.out, HX6.out, HB6.out⟩
      case round =>
        clear HST6 HX6 HB6
        obtain ⟨i, hi, rfl, hst, hx, hb⟩ := hrel
        have HST : Hid (Stm wr g seed k (min i n)) := hst
        have HX : Hid (DAt wr g7 0 D) := hx
        have HB : Hid (Below w.heap.size w wr) := hb
        have HX7 : Hid (∀ wx, wr.grownBy wx (some g) → DAt wx g7 0 D ∧ Below w.heap.size w wx) := fun wx h => ⟨dat_grs HX.out h (cell_block (HX.out.cell 0 (by omega))) (by have := HGG.out; omega), below_grs HB.out h HB.out.size HGG.out.2⟩
        clear hst hx hb
        by_cases hlt : i < N
        · obtain ⟨b, o', rfl⟩ := (HG.out _ HB.out).2.2.addr (by omega)
          have HMI : Hid (∀ wx, Below w.heap.size w wx → wx.rangeAt b (o' + i * 32) (cellsB (ms.getD i []))) := fun wx hx => (HG.out _ hx).2.2.at i hlt
          have lM := HM32.out i hlt
          have HMR : Hid (wr.rangeAt b (o' + i * 32) (cellsB (ms.getD i []))) := HMI.out _ HB.out
          have i1 : (i : Int) < (N : Int) := by omega
          have i0 : (0 : Int) ≤ (i : Int) := by omega
          by_cases hin : i < n
          · have hmin : min i n = i := by omega
            have HCS : Hid (Calls Tryd.prog 8 #[.pointer (some ⟨g, 0, none⟩), digestV (ms.getD i [])] wr fun e w' => (∃ a1 c1 a2 L c2, e = .returned (.tuple #[.agg #[.int .i64 (i : Int), .slice a1 67 c1, .slice a2 L c2], .nilIface]) ∧ (∀ wx, Below w'.heap.size w' wx → Env wx → Calls Tryd.prog 10 #[digestV (ms.getD i []), .int .i64 (k : Int), .agg #[.int .i64 (i : Int), .slice a1 67 c1, .slice a2 L c2]] wx fun e w' => e = .returned (.tuple #[digestV D, .nilIface]) ∧ Below wx.heap.size wx w') ∧ Stm w' g seed k (i + 1)) ∧ wr.grownBy w' (some g)) := by
              have hst := HST.out
              rw [hmin] at hst
              refine (wstamp_sign g seed (ms.getD i []) k i wr (HG.out _ HB.out).1 hst lM (by rw [← HN.out]; exact hin)).mono ?_
              rintro e w' ⟨⟨a1, c1, a2, c2, rfl, hc1, hc2, r1, r2, hs2⟩, hgr⟩
              rw [← HN.out] at hc2 r2 ⊢
              refine ⟨⟨a1, c1, a2, _, c2, rfl, fun wx hx he => ?_, hs2⟩, hgr⟩
              have := wstamp_recover (ms.getD i []) k i n a1 c1 a2 _ c2 _ _ wx he lM hh4 HN.out hin (r1.below hx) hc1 (r2.below hx) hc2 rfl
              rw [HTE.out _ i hin] at this
              exact this
            clear HST
            generalize ms.getD i [] = M at *
            go_wp2_with (refine wpList_load_mid (by rfl) 23 (.tmp 83) (by rfl) b (o' + i * 32) (by rfl) (cellsB M) _ HMR.out Tryd.underlying23 (by rfl) (by rw [cellsB_length, lM]; exact Tryd.sizeDg) ?_)
            refine HCS.out.mono ?_
            rintro e w7 ⟨⟨a1, c1, a2, L, c2, rfl, hrec, hst7⟩, hg7'⟩
            have HK7 : Hid (DAt w7 g7 0 D ∧ Below w.heap.size w w7) := HX7.out _ hg7'
            have HST7 : Hid (Stm w7 g seed k (i + 1)) := hst7
            have HREC : Hid (∀ wx, Below w7.heap.size w7 wx → Env wx → Calls Tryd.prog 10 #[digestV M, .int .i64 (k : Int), .agg #[.int .i64 (i : Int), .slice a1 67 c1, .slice a2 L c2]] wx fun e w' => e = .returned (.tuple #[digestV D, .nilIface]) ∧ Below wx.heap.size wx w') := hrec
            clear hrec hst7 hg7' HCS HX7 HX HB HMR
            obtain ⟨g15, hg15⟩ : ∃ g15, w7.heap.size = g15 := ⟨_, rfl⟩
            obtain ⟨w8, hw8⟩ : ∃ w8, w7.alloc (.cells #[.int .i64 0, .slice none 0 0, .slice none 0 0] 35) = w8 := ⟨_, rfl⟩
            have HT8 : Hid (w8.there g15 0 3) := by rw [← hw8]; exact alloc_thereAt _ _ _ 3 _ hg15 rfl
            have HB9 : Hid (Below w7.heap.size w7 (w8.setCells g15 0 [.int .i64 (i : Int), .slice a1 67 c1, .slice a2 L c2])) := below_setCells _ (by rw [hg15]; exact Nat.le_refl _) _ _ _ (by rw [← hw8]; exact (Below.refl _ _).alloc (Nat.le_refl _) _)
            have HR9 : Hid ((w8.setCells g15 0 [.int .i64 (i : Int), .slice a1 67 c1, .slice a2 L c2]).rangeAt g15 0 [.int .i64 (i : Int), .slice a1 67 c1, .slice a2 L c2]) := World.rangeAt_setCells_same _ _ _ _ HT8.out
            have g5 : ¬ (n : Int) ≤ (i : Int) := by omega
            go_upto_region 21 with (first
              | (refine wpList_allocE (by rfl) 35 (by rfl) #[.int .i64 0, .slice none 0 0, .slice none 0 0] Tryd.zeroSg g15 hg15 w8 hw8 ?_)
              | (refine wpList_store_mid (by rfl) 35 (.tmp 15) (.tmp 86) (by rfl) g15 0 #[.int .i64 (i : Int), .slice a1 67 c1, .slice a2 L c2] (by rfl) (by rfl) HT8.out Tryd.sizeSg (sig_one _ _ _ _ _ _ _) ?_))
            generalize w8.setCells g15 0 [.int .i64 (i : Int), .slice a1 67 c1, .slice a2 L c2] = w9 at *
            clear hw8 HT8
            have HB9w : Hid (Below w.heap.size w w9) := HK7.out.2.trans (HB9.out.mono HK7.out.2.size)
            have HX9 : Hid (DAt w9 g7 0 D) := HK7.out.1.below HB9.out (cell_block (HK7.out.1.cell 0 (by omega)))
            have HST9 : Hid (Stm w9 g seed k (i + 1)) := HST7.out.below HB9.out
            have HG15 : Hid (g15 < w9.heap.size) := cell_block (HR9.out 0 _ rfl)
            have HS9 : Hid (∀ wx, Below w9.heap.size w9 wx → (wx.rangeAt b (o' + i * 32) (cellsB M) ∧ wx.rangeAt g15 0 [.int .i64 (i : Int), .slice a1 67 c1, .slice a2 L c2]) ∧ Env wx ∧ Below w.heap.size w wx ∧ Below w7.heap.size w7 wx) := fun wx hx => by
              have b1 : Below w.heap.size w wx := HB9w.out.trans (hx.mono HB9w.out.size)
              exact ⟨⟨HMI.out _ b1, range_below HR9.out hx HG15.out⟩, (HG.out _ b1).1, b1, HB9.out.trans (hx.mono HB9.out.size)⟩
            clear HK7 HST7 hg15 HB9
            try simp only [Act.put, List.setIfInBounds_toArray, List.set_cons_zero, List.set_cons_succ]
            go_cut [18, 19] (fun pv ev wq => ∃ gq : Nat, pv = .pointer (some ⟨gq, 0, none⟩) ∧ ev = .nilIface ∧ DAt wq gq 0 D ∧ Below w9.heap.size w9 wq)
            case first =>
              refine wp_region_noPanic ?_
              refine wp_region_held_drew (S := fun wx => wx.rangeAt b (o' + i * 32) (cellsB M) ∧ wx.rangeAt g15 0 [.int .i64 (i : Int), .slice a1 67 c1, .slice a2 L c2]) (by kernel_rfl) ((HS9.out _ (below_drewN w9 1)).1) (fun hHeld => ?_)
              try simp only [Act.put, List.setIfInBounds_toArray, List.set_cons_zero, List.set_cons_succ]
              have HBd : Hid (Below w9.heap.size w9 w9.drew) := below_drewN w9 1
              generalize w9.drew = wd at *
              refine wpAnyH_take (i := 0) (v := ?_) (by simp only [List.getElem?_toArray, List.getElem?_cons_zero, List.getElem?_cons_succ]; rfl) (by kernel_rfl) (by kernel_rfl) (by kernel_rfl) (fun _ _ _ h => h) (Or.inl ⟨by rfl, ?_⟩) hHeld ?_
              rotate_left
              · intro w hSw
                obtain ⟨hSw0, hSw1⟩ := hSw
                go_simp
                try with_reducible rfl
              try simp only [Act.put, List.setIfInBounds_toArray, List.set_cons_zero, List.set_cons_succ]
              refine wpAnyH_take (i := 1) (v := ?_) (by simp only [List.getElem?_toArray, List.getElem?_cons_zero, List.getElem?_cons_succ]; rfl) (by kernel_rfl) (by kernel_rfl) (by kernel_rfl) (fun _ _ _ h => h) (Or.inl ⟨by rfl, ?_⟩) hHeld ?_
              rotate_left
              · intro w hSw
                obtain ⟨hSw0, hSw1⟩ := hSw
                go_simp
                try with_reducible rfl
              try simp only [Act.put, List.setIfInBounds_toArray, List.set_cons_zero, List.set_cons_succ]
              refine wpAnyH_take (i := 2) (v := .pointer (some ⟨b, o' + i * 32, none⟩)) (by simp only [List.getElem?_toArray, List.getElem?_cons_zero, List.getElem?_cons_succ]; rfl) (by kernel_rfl) (by kernel_rfl) (by kernel_rfl) (fun _ _ _ h => h) (Or.inl ⟨by rfl, ?_⟩) hHeld ?_
              · intro w hSw
                obtain ⟨hSw0, hSw1⟩ := hSw
                go_simp
              try simp only [Act.put, List.setIfInBounds_toArray, List.set_cons_zero, List.set_cons_succ]
              refine wpAnyH_take (i := 3) (v := .agg (cellsB M).toArray) (by simp only [List.getElem?_toArray, List.getElem?_cons_zero, List.getElem?_cons_succ]; rfl) (by kernel_rfl) (by kernel_rfl) (by kernel_rfl) (fun _ _ _ h => h)
                (yieldsIf_load_mid (by rfl) _ _ rfl _ _ rfl _ _ (fun w hw => hw.1) Tryd.underlying23 rfl (by rw [cellsB_length, lM]; exact Tryd.sizeDg)) hHeld ?_
              try simp only [Act.put, List.setIfInBounds_toArray, List.set_cons_zero, List.set_cons_succ]
              refine wpAnyH_take (i := 4) (v := ?_) (by simp only [List.getElem?_toArray, List.getElem?_cons_zero, List.getElem?_cons_succ]; rfl) (by kernel_rfl) (by kernel_rfl) (by kernel_rfl) (fun _ _ _ h => h) (Or.inl ⟨by rfl, ?_⟩) hHeld ?_
              rotate_left
              · intro w hSw
                obtain ⟨hSw0, hSw1⟩ := hSw
                go_simp
                try with_reducible rfl
              try simp only [Act.put, List.setIfInBounds_toArray, List.set_cons_zero, List.set_cons_succ]
              refine wpAnyH_take (i := 5) (v := .agg #[.int .i64 (i : Int), .slice a1 67 c1, .slice a2 L c2]) (by simp only [List.getElem?_toArray, List.getElem?_cons_zero, List.getElem?_cons_succ]; rfl) (by kernel_rfl) (by kernel_rfl) (by kernel_rfl) (fun _ _ _ h => h)
                (yieldsIf_load_mid (by rfl) _ _ rfl _ _ rfl [.int .i64 (i : Int), .slice a1 67 c1, .slice a2 L c2] _ (fun w hw => hw.2) Tryd.underlying35 rfl Tryd.sizeSg) hHeld ?_
              try simp only [Act.put, List.setIfInBounds_toArray, List.set_cons_zero, List.set_cons_succ]
              refine wpAnyH_ready (rs := [6, 10]) (by kernel_rfl) (by simp) ?_
              refine AllReadyH.cons (by simp only [List.getElem?_toArray, List.getElem?_cons_zero, List.getElem?_cons_succ]; rfl) (fun K hK => ?_) (AllReadyH.cons (by simp only [List.getElem?_toArray, List.getElem?_cons_zero, List.getElem?_cons_succ]; rfl) (fun K hK => ?_) AllReadyH.nil)
              · rw [if_pos (by rfl)]
                go_simp
                refine (HREC.out wd (HS9.out _ HBd.out).2.2.2 (HS9.out _ HBd.out).2.1).mono ?_
                rintro e w10 ⟨rfl, hb10⟩
                have HB10 : Hid (Below w9.heap.size w9 w10) := HBd.out.trans (hb10.mono HBd.out.size)
                clear hb10
                go_wp2_with fail
                refine hK.out _ _ (HS9.out _ HB10.out).1 (fun hHeld => ?_)
                clear hK K
                try simp only [Act.put, List.setIfInBounds_toArray, List.set_cons_zero, List.set_cons_succ]
                refine wpAnyH_take (i := 7) (v := ?_) (by simp only [List.getElem?_toArray, List.getElem?_cons_zero, List.getElem?_cons_succ]; rfl) (by kernel_rfl) (by kernel_rfl) (by kernel_rfl) (fun _ _ _ h => h) (Or.inl ⟨by rfl, ?_⟩) hHeld ?_
                rotate_left
                · intro w hSw
                  obtain ⟨hSw0, hSw1⟩ := hSw
                  go_simp
                  try with_reducible rfl
                try simp only [Act.put, List.setIfInBounds_toArray, List.set_cons_zero, List.set_cons_succ]
                refine wpAnyH_take (i := 8) (v := ?_) (by simp only [List.getElem?_toArray, List.getElem?_cons_zero, List.getElem?_cons_succ]; rfl) (by kernel_rfl) (by kernel_rfl) (by kernel_rfl) (fun _ _ _ h => h) (Or.inl ⟨by rfl, ?_⟩) hHeld ?_
                rotate_left
                · intro w hSw
                  obtain ⟨hSw0, hSw1⟩ := hSw
                  go_simp
                  try with_reducible rfl
                try simp only [Act.put, List.setIfInBounds_toArray, List.set_cons_zero, List.set_cons_succ]
                refine wpAnyH_take (i := 9) (v := ?_) (by simp only [List.getElem?_toArray, List.getElem?_cons_zero, List.getElem?_cons_succ]; rfl) (by kernel_rfl) (by kernel_rfl) (by kernel_rfl) (fun _ _ _ h => h) (Or.inl ⟨by rfl, ?_⟩) hHeld ?_
                rotate_left
                · intro w hSw
                  obtain ⟨hSw0, hSw1⟩ := hSw
                  go_simp
                  try with_reducible rfl
                try simp only [Act.put, List.setIfInBounds_toArray, List.set_cons_zero, List.set_cons_succ]
                refine wpAnyH_ready (rs := [10]) (by kernel_rfl) (by simp) ?_
                refine AllReadyH.cons (by simp only [List.getElem?_toArray, List.getElem?_cons_zero, List.getElem?_cons_succ]; rfl) (fun K hK => ?_) AllReadyH.nil
                rw [if_pos (by rfl)]
                refine wp_allocE 23 (by rfl) (cellsB zD).toArray Tryd.zeroDg ?_
                obtain ⟨gq, hgq⟩ : ∃ gq, w10.heap.size = gq := ⟨_, rfl⟩
                rw [hgq]
                have HBa : Hid (Below w9.heap.size w9 (w10.alloc (.cells (cellsB zD).toArray 23))) := Below.alloc HB10.out HB10.out.size _
                have HTa : Hid ((w10.alloc (.cells (cellsB zD).toArray 23)).there gq 0 32) := alloc_thereAt _ _ _ 32 _ hgq zD_size.symm
                have HNq : Hid (w9.heap.size ≤ gq) := by rw [← hgq]; exact HB10.out.size
                refine hK.out _ _ (HS9.out _ HBa.out).1 (fun hHeld => ?_)
                generalize w10.alloc (.cells (cellsB zD).toArray 23) = wa at *
                clear hgq
                clear hK K
                try simp only [Act.put, List.setIfInBounds_toArray, List.set_cons_zero, List.set_cons_succ]
                refine wpAnyH_ready (rs := [11]) (by kernel_rfl) (by simp) ?_
                refine AllReadyH.cons (by simp only [List.getElem?_toArray, List.getElem?_cons_zero, List.getElem?_cons_succ]; rfl) (fun K hK => ?_) AllReadyH.nil
                rw [if_pos (by rfl)]
                refine wp_store_mid _ _ _ rfl gq 0 (cellsB D).toArray rfl rfl (by rw [cellsB_size, lD]; exact HTa.out) (by rw [cellsB_size, lD]; exact Tryd.sizeDg) (all_oneCell_toArray (cellsB_one _)) ?_
                have HBs : Hid (Below w9.heap.size w9 (wa.setCells gq 0 (cellsB D))) := below_setCells _ HNq.out _ _ _ HBa.out
                have HXs : Hid (DAt (wa.setCells gq 0 (cellsB D)) gq 0 D) := dat_stored HTa.out lD
                refine hK.out _ _ (HS9.out _ HBs.out).1 (fun hHeld => ?_)
                clear hK K
                try simp only [Act.put, List.setIfInBounds_toArray, List.set_cons_zero, List.set_cons_succ]
                refine wpAnyH_take (i := 12) (v := ?_) (by simp only [List.getElem?_toArray, List.getElem?_cons_zero, List.getElem?_cons_succ]; rfl) (by kernel_rfl) (by kernel_rfl) (by kernel_rfl) (fun _ _ _ h => h) (Or.inl ⟨by rfl, ?_⟩) hHeld ?_
                rotate_left
                · intro w hSw
                  obtain ⟨hSw0, hSw1⟩ := hSw
                  go_simp
                  try with_reducible rfl
                try simp only [Act.put, List.setIfInBounds_toArray, List.set_cons_zero, List.set_cons_succ]
                refine wpAnyH_done (by kernel_rfl) (NoPanic.normal ?_) _
                clear hHeld
                go_wp2_with fail
                go_meet
                case rel => exact ⟨gq, rfl, rfl, HXs.out, HBs.out⟩
              · rw [if_pos (by rfl)]
                refine wp_allocE 23 (by rfl) (cellsB zD).toArray Tryd.zeroDg ?_
                obtain ⟨gq, hgq⟩ : ∃ gq, wd.heap.size = gq := ⟨_, rfl⟩
                rw [hgq]
                have HBa : Hid (Below w9.heap.size w9 (wd.alloc (.cells (cellsB zD).toArray 23))) := Below.alloc HBd.out HBd.out.size _
                have HTa : Hid ((wd.alloc (.cells (cellsB zD).toArray 23)).there gq 0 32) := alloc_thereAt _ _ _ 32 _ hgq zD_size.symm
                have HNq : Hid (w9.heap.size ≤ gq) := by rw [← hgq]; exact HBd.out.size
                refine hK.out _ _ (HS9.out _ HBa.out).1 (fun hHeld => ?_)
                generalize wd.alloc (.cells (cellsB zD).toArray 23) = wa at *
                clear hgq
                clear hK K
                try simp only [Act.put, List.setIfInBounds_toArray, List.set_cons_zero, List.set_cons_succ]
                refine wpAnyH_ready (rs := [6]) (by kernel_rfl) (by simp) ?_
                refine AllReadyH.cons (by simp only [List.getElem?_toArray, List.getElem?_cons_zero, List.getElem?_cons_succ]; rfl) (fun K hK => ?_) AllReadyH.nil
                rw [if_pos (by rfl)]
                go_simp
                refine (HREC.out wa (HS9.out _ HBa.out).2.2.2 (HS9.out _ HBa.out).2.1).mono ?_
                rintro e w10 ⟨rfl, hb10⟩
                have HB10 : Hid (Below w9.heap.size w9 w10) := HBa.out.trans (hb10.mono HBa.out.size)
                have HT10 : Hid (w10.there gq 0 32) := there_below HTa.out hb10 (there_block HTa.out (by omega))
                clear hb10
                go_wp2_with fail
                refine hK.out _ _ (HS9.out _ HB10.out).1 (fun hHeld => ?_)
                clear hK K
                try simp only [Act.put, List.setIfInBounds_toArray, List.set_cons_zero, List.set_cons_succ]
                refine wpAnyH_take (i := 7) (v := ?_) (by simp only [List.getElem?_toArray, List.getElem?_cons_zero, List.getElem?_cons_succ]; rfl) (by kernel_rfl) (by kernel_rfl) (by kernel_rfl) (fun _ _ _ h => h) (Or.inl ⟨by rfl, ?_⟩) hHeld ?_
                rotate_left
                · intro w hSw
                  obtain ⟨hSw0, hSw1⟩ := hSw
                  go_simp
                  try with_reducible rfl
                try simp only [Act.put, List.setIfInBounds_toArray, List.set_cons_zero, List.set_cons_succ]
                refine wpAnyH_take (i := 8) (v := ?_) (by simp only [List.getElem?_toArray, List.getElem?_cons_zero, List.getElem?_cons_succ]; rfl) (by kernel_rfl) (by kernel_rfl) (by kernel_rfl) (fun _ _ _ h => h) (Or.inl ⟨by rfl, ?_⟩) hHeld ?_
                rotate_left
                · intro w hSw
                  obtain ⟨hSw0, hSw1⟩ := hSw
                  go_simp
                  try with_reducible rfl
                try simp only [Act.put, List.setIfInBounds_toArray, List.set_cons_zero, List.set_cons_succ]
                refine wpAnyH_take (i := 9) (v := ?_) (by simp only [List.getElem?_toArray, List.getElem?_cons_zero, List.getElem?_cons_succ]; rfl) (by kernel_rfl) (by kernel_rfl) (by kernel_rfl) (fun _ _ _ h => h) (Or.inl ⟨by rfl, ?_⟩) hHeld ?_
                rotate_left
                · intro w hSw
                  obtain ⟨hSw0, hSw1⟩ := hSw
                  go_simp
                  try with_reducible rfl
                try simp only [Act.put, List.setIfInBounds_toArray, List.set_cons_zero, List.set_cons_succ]
                refine wpAnyH_ready (rs := [11]) (by kernel_rfl) (by simp) ?_
                refine AllReadyH.cons (by simp only [List.getElem?_toArray, List.getElem?_cons_zero, List.getElem?_cons_succ]; rfl) (fun K hK => ?_) AllReadyH.nil
                rw [if_pos (by rfl)]
                refine wp_store_mid _ _ _ rfl gq 0 (cellsB D).toArray rfl rfl (by rw [cellsB_size, lD]; exact HT10.out) (by rw [cellsB_size, lD]; exact Tryd.sizeDg) (all_oneCell_toArray (cellsB_one _)) ?_
                have HBs : Hid (Below w9.heap.size w9 (w10.setCells gq 0 (cellsB D))) := below_setCells _ HNq.out _ _ _ HB10.out
                have HXs : Hid (DAt (w10.setCells gq 0 (cellsB D)) gq 0 D) := dat_stored HT10.out lD
                refine hK.out _ _ (HS9.out _ HBs.out).1 (fun hHeld => ?_)
                clear hK K
                try simp only [Act.put, List.setIfInBounds_toArray, List.set_cons_zero, List.set_cons_succ]
                refine wpAnyH_take (i := 12) (v := ?_) (by simp only [List.getElem?_toArray, List.getElem?_cons_zero, List.getElem?_cons_succ]; rfl) (by kernel_rfl) (by kernel_rfl) (by kernel_rfl) (fun _ _ _ h => h) (Or.inl ⟨by rfl, ?_⟩) hHeld ?_
                rotate_left
                · intro w hSw
                  obtain ⟨hSw0, hSw1⟩ := hSw
                  go_simp
                  try with_reducible rfl
                try simp only [Act.put, List.setIfInBounds_toArray, List.set_cons_zero, List.set_cons_succ]
                refine wpAnyH_done (by kernel_rfl) (NoPanic.normal ?_) _
                clear hHeld
                go_wp2_with fail
                go_meet
                case rel => exact ⟨gq, rfl, rfl, HXs.out, HBs.out⟩
            case rest =>
            obtain ⟨gq, rfl, rfl, hq, hbq⟩ := hcut
            have HBq : Hid (Below w9.heap.size w9 wc) := hbq
            have HQ : Hid (wc.rangeAt gq 0 (cellsB D)) := hq
            have HX10 : Hid (wc.rangeAt g7 0 (cellsB D)) := HX9.out.below hbq (cell_block (HX9.out.cell 0 (by omega)))
            have HSTq : Hid (Stm wc g seed k (i + 1)) := HST9.out.below hbq
            have hcell : wc.cell? ⟨g15, 0, none⟩ = some (.int .i64 (i : Int)) := (HS9.out _ hbq).1.2 0 _ rfl
            have HLC : Hid (Calls Tryd.prog 9 #[.pointer (some ⟨g, 0, none⟩)] wc fun e w' => e = .returned (.int .i64 ((n - (i + 1) : Nat) : Int)) ∧ Below wc.heap.size wc w') := by
              rw [HN.out]
              exact wstamp_left g seed k (i + 1) wc (HS9.out _ hbq).2.1 HSTq.out
            clear hq hbq
            go_wp2_with (first
              | (refine wpList_load_midG (by rfl) 23 (.tmp 18) (by rfl) gq 0 (by rfl) (cellsB D) _ HQ.out Tryd.underlying23 (by rfl) (by rw [cellsB_length, lD]; exact Tryd.sizeDg) ?_)
              | (refine wpList_load_midG (by rfl) 23 (.tmp 7) (by rfl) g7 0 (by rfl) (cellsB D) _ HX10.out Tryd.underlying23 (by rfl) (by rw [cellsB_length, lD]; exact Tryd.sizeDg) ?_)
              | (refine wpList_neqD (.tmp 123) (.tmp 124) (by rfl) (by rfl) D D lD lD (by rfl) (by rfl) false (by simp) ?_))
            refine HLC.out.mono ?_
            rintro e w11 ⟨rfl, hb11⟩
            have HB11 : Hid (Below w.heap.size w w11) := (HS9.out _ HBq.out).2.2.1.trans (hb11.mono (HS9.out _ HBq.out).2.2.1.size)
            have HX11 : Hid (DAt w11 g7 0 D) := DAt.below HX10.out hb11 (cell_block (DAt.cell (show DAt wc g7 0 D from HX10.out) 0 (by omega)))
            have HST11 : Hid (Stm w11 g seed k (i + 1)) := HSTq.out.below hb11
            have s1 : (n : Int) - (i : Int) - 1 = ((n - (i + 1) : Nat) : Int) := by omega
            have s2 : ((n - (i + 1) : Nat) : Int) ≤ 16 := by omega
            clear hb11 HLC hcell
            generalize n - (i + 1) = z at *
            go_wp2_with fail
            go_roundw
            case rel => exact ⟨i + 1, by omega, by go_num, by rw [show min (i + 1) n = i + 1 by omega]; exact HST11.out, HX11.out, HB11.out⟩
            case measure => simp [intOf]; omega
          · have hmin : min i n = n := by omega
            have HCS : Hid (Calls Tryd.prog 8 #[.pointer (some ⟨g, 0, none⟩), digestV (ms.getD i [])] wr fun e w' => (∃ a1 c1 a2 c2, e = .returned (.tuple #[.agg #[.int .i64 0, .slice a1 0 c1, .slice a2 0 c2], .iface 30 (.int .i64 6)]) ∧ Stm w' g seed k n) ∧ wr.grownBy w' (some g)) := by
              have hst := HST.out
              rw [hmin, HN.out] at hst
              rw [HN.out]
              exact wstamp_spent g seed (ms.getD i []) k wr (HG.out _ HB.out).1 hst lM
            clear HST
            generalize ms.getD i [] = M at *
            go_wp2_with (refine wpList_load_mid (by rfl) 23 (.tmp 83) (by rfl) b (o' + i * 32) (by rfl) (cellsB M) _ HMR.out Tryd.underlying23 (by rfl) (by rw [cellsB_length, lM]; exact Tryd.sizeDg) ?_)
            refine HCS.out.mono ?_
            rintro e w7 ⟨⟨a1, c1, a2, c2, rfl, hst7⟩, hg7'⟩
            have HK7 : Hid (DAt w7 g7 0 D ∧ Below w.heap.size w w7) := HX7.out _ hg7'
            have HST7 : Hid (Stm w7 g seed k n) := hst7
            clear hst7 hg7' HCS HX7 HX HB HMR
            obtain ⟨g15, hg15⟩ : ∃ g15, w7.heap.size = g15 := ⟨_, rfl⟩
            obtain ⟨w8, hw8⟩ : ∃ w8, w7.alloc (.cells #[.int .i64 0, .slice none 0 0, .slice none 0 0] 35) = w8 := ⟨_, rfl⟩
            have HT8 : Hid (w8.there g15 0 3) := by rw [← hw8]; exact alloc_thereAt _ _ _ 3 _ hg15 rfl
            have HB9 : Hid (Below w7.heap.size w7 (w8.setCells g15 0 [.int .i64 0, .slice a1 0 c1, .slice a2 0 c2])) := below_setCells _ (by rw [hg15]; exact Nat.le_refl _) _ _ _ (by rw [← hw8]; exact (Below.refl _ _).alloc (Nat.le_refl _) _)
            have g5 : (n : Int) ≤ (i : Int) := by omega
            go_wp2_with (first
              | (refine wpList_allocE (by rfl) 35 (by rfl) #[.int .i64 0, .slice none 0 0, .slice none 0 0] Tryd.zeroSg g15 hg15 w8 hw8 ?_)
              | (refine wpList_store_mid (by rfl) 35 (.tmp 15) (.tmp 86) (by rfl) g15 0 #[.int .i64 0, .slice a1 0 c1, .slice a2 0 c2] (by rfl) (by rfl) HT8.out Tryd.sizeSg (sig_one _ _ _ _ _ _ _) ?_))
            generalize w8.setCells g15 0 [.int .i64 0, .slice a1 0 c1, .slice a2 0 c2] = w9 at *
            clear hw8 HT8 hg15
            have HB9w : Hid (Below w.heap.size w w9) := HK7.out.2.trans (HB9.out.mono HK7.out.2.size)
            have HX9 : Hid (DAt w9 g7 0 D) := HK7.out.1.below HB9.out (cell_block (HK7.out.1.cell 0 (by omega)))
            have HST9 : Hid (Stm w9 g seed k n) := HST7.out.below HB9.out
            clear HK7 HST7 HB9
            refine (error_errno 6 6 w9 (HG.out _ HB9w.out).2.1).mono ?_
            rintro e w10 ⟨rfl, hb10⟩
            rw [show decide ((6 : Int) = 6) = true from rfl]
            have HX10 : Hid (DAt w10 g7 0 D) := HX9.out.below hb10 (cell_block (HX9.out.cell 0 (by omega)))
            have HST10 : Hid (Stm w10 g seed k n) := HST9.out.below hb10
            have HB10 : Hid (Below w.heap.size w w10) := HB9w.out.trans (hb10.mono HB9w.out.size)
            have HLC : Hid (Calls Tryd.prog 9 #[.pointer (some ⟨g, 0, none⟩)] w10 fun e w' => e = .returned (.int .i64 0) ∧ Below w10.heap.size w10 w') := by
              have hst := HST10.out
              rw [HN.out] at hst
              have := wstamp_left g seed k (2 ^ k) w10 (HG.out _ HB10.out).1 hst
              rw [Nat.sub_self] at this
              exact this
            clear hb10 HX9 HST9 HB9w
            go_wp2_with fail
            refine HLC.out.mono ?_
            rintro e w11 ⟨rfl, hb11⟩
            have HB11 : Hid (Below w.heap.size w w11) := HB10.out.trans (hb11.mono HB10.out.size)
            have HX11 : Hid (DAt w11 g7 0 D) := HX10.out.below hb11 (cell_block (HX10.out.cell 0 (by omega)))
            have HST11 : Hid (Stm w11 g seed k n) := HST10.out.below hb11
            clear hb11 HLC HX10 HST10 HB10
            go_wp2_with fail
            go_roundw
            case rel => exact ⟨i + 1, by omega, by go_num, by rw [show min (i + 1) n = n by omega]; exact HST11.out, HX11.out, HB11.out⟩
            case measure => simp [intOf]; omega
        · obtain rfl : i = N := by omega
          have i1 : ¬ (i : Int) < (i : Int) := by omega
          have HLC : Hid (Calls Tryd.prog 9 #[.pointer (some ⟨g, 0, none⟩)] wr fun e w' => e = .returned (.int .i64 ((n - min i n : Nat) : Int)) ∧ Below wr.heap.size wr w') := by
            have := wstamp_left g seed k (min i n) wr (HG.out _ HB.out).1 HST.out
            rw [← HN.out] at this
            exact this
          go_wp2_with fail
          refine HLC.out.mono ?_
          rintro e w11 ⟨rfl, hb11⟩
          have HB11 : Hid (Below w.heap.size w w11) := HB.out.trans (hb11.mono HB.out.size)
          have z1 : (0 : Int) ≤ ((n - min i n : Nat) : Int) := by omega
          clear hb11 HLC
          generalize n - min i n = z at *
          go_wp2_with fail
          go_ret
          exact ⟨by first | rfl | simp, HB11.out⟩
end Go.Proofs.YtdgaimlccpmojaaDoor
