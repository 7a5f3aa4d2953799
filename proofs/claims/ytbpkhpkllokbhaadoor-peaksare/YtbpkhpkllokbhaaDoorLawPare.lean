/- The law PeaksAre: each peak is a root. -/
import Derived.Test.YtbpkhpkllokbhaaDoorWpeaks
import Derived.Test.YtbpkhpkllokbhaaDoorWroot
import Derived.Test.YtbpkhpkllokbhaaDoorSameG
import Derived.Deep.RegionHeld3
namespace Go.Proofs.YtbpkhpkllokbhaaDoor
open Go.RowKit
set_option linter.unusedVariables false
set_option linter.unusedSimpArgs false

theorem peaks_walk {ls : List (List UInt8)} {s r i k : Nat} (hs : (ls.drop s).length = r) (h : peaksT (ls.drop s) = (peaksT ls).drop i) (hr : 1 ≤ r) (hk : halfT (r + 1) = k) :
    (peaksT ls).getD i [] = rootT ((ls.drop s).take k) ∧ peaksT (ls.drop (s + k)) = (peaksT ls).drop (i + 1) := by
  have h1 := peaksT_at (ls := ls.drop s) (k := k) (by omega) (by rw [hs]; exact hk)
  rw [h] at h1
  refine ⟨?_, ?_⟩
  · have h2 : ((peaksT ls).drop i)[0]? = some (rootT ((ls.drop s).take k)) := by rw [h1]; rfl
    rw [List.getElem?_drop, Nat.add_zero] at h2
    rw [List.getD_eq_getElem?_getD, h2]
    rfl
  · rw [← List.drop_drop, ← List.tail_drop, h1]
    rfl
set_option maxRecDepth 100000 in
set_option maxHeartbeats 4000000 in
theorem pare_walk (a : Option Addr) (N c : Nat) (ls : List (List UInt8)) (w : World) (G : Env w) (R : DRow w a N ls) (hc : N ≤ c) (hN : 32 * N ≤ 140737488351232) :
    Calls Tryd.prog 5 #[.slice a N c] w fun e w' => e = .returned (.bool true) ∧ Below w.heap.size w w' := by
  have HG : Hid (∀ wx, Below w.heap.size w wx → Env wx ∧ DRow wx a N ls) := fun wx hx => ⟨G.below hx, R.below hx⟩
  have HLEN : Hid (ls.length = N) := R.1
  have HL32 : Hid (∀ j, j < N → (ls.getD j []).length = 32) := R.len
  have HLM : Hid (∀ l ∈ ls, l.length = 32) := R.2.1
  have H0 : Hid (Below w.heap.size w w) := Below.refl _ _
  have HBU : Hid (∃ X : List UInt8, X.length = 32 ∧ Tryd.prog.built 24 [(0, .int .u8 7)] = some (cellsB X).toArray) := ⟨dSeven, dSeven_len, Tryd.builtSeven⟩
  obtain ⟨X, lX, hX⟩ := HBU.out
  have HB7 : Hid (Tryd.prog.built 24 [(0, .int .u8 7)] = some (cellsB X).toArray) := hX
  have HC0 : Hid (Calls Tryd.prog 9 #[.int .i64 0, .slice none 0 0, digestV X] w fun e w' => (∃ g o c', e = .returned (.tuple #[.slice (some ⟨g, o, none⟩) 1 c', .nilIface]) ∧ DAt w' g o X) ∧ Below w.heap.size w w') := by
    refine (wpeaks_add 0 0 0 none [] X w G (DRow.nil _) (Nat.le_refl _) (by omega) onesT_zero.symm lX).mono ?_
    rintro e w' ⟨⟨a', c', rfl, _, hd⟩, hb⟩
    rw [show (0 : Nat) + 1 = 1 from rfl, onesT_one, peaks_first] at hd
    obtain ⟨g, o, rfl⟩ := hd.addr (by omega)
    have h0 := hd.at 0 (by omega)
    rw [Nat.zero_mul, Nat.add_zero] at h0
    exact ⟨⟨g, o, c', by rw [show (0 : Nat) + 1 = 1 from rfl, onesT_one], h0⟩, hb⟩
  clear G R hX HBU
  go_enter Tryd.func5, Tryd.ntmps5
  go_wp2_with (refine wpList_buildC (by rfl) 24 #[(0, .const (.int .u8 7))] (by rfl) (cellsB X).toArray (by simp only [List.map_toArray, List.map_cons, List.map_nil, Act.eval]; exact HB7.out) ?_)
  refine HC0.out.mono ?_
  rintro e w1 ⟨⟨g, o, c1, rfl, hX1⟩, hb1⟩
  have HB1 : Hid (Below w.heap.size w w1) := hb1
  clear hX1 hb1 HC0 HB7
  by_cases hbig : 256 < N
  · have g1 : (256 : Int) < (N : Int) := by omega
    go_wp2_with fail
    go_ret
    exact ⟨rfl, HB1.out⟩
  have g1 : ¬ (256 : Int) < (N : Int) := by omega
  have hN2 : N ≤ 256 := by omega
  clear hbig
  go_wp2_with fail
  go_loopw [5, 6] (fun pv iv wr => ∃ (k q c' : Nat) (a' : Option Addr), k ≤ N ∧ iv = .int .i64 (k : Int) ∧ pv = .slice a' q c' ∧ q ≤ c' ∧ Hid (q = onesT k) ∧ DRow wr a' q (peaksT (ls.take k)) ∧ Below w.heap.size w wr) (fun _ iv _ => N - (intOf iv).toNat)
  case atStart => exact ⟨0, 0, 0, none, Nat.zero_le _, rfl, rfl, Nat.le_refl _, onesT_zero.symm, by rw [List.take_zero, peaksT_nil rfl]; exact DRow.nil _, HB1.out⟩
  case round =>
    clear HB1
    obtain ⟨k, q, c', a', hk, rfl, rfl, hqc, HQ, hR, hB⟩ := hrel
    have HB : Hid (Below w.heap.size w wr) := hB
    have hk31 : onesT k ≤ 31 := onesT_30 (by omega)
    have hq31 : q ≤ 31 := by rw [HQ.out]; exact hk31
    by_cases hlt : k < N
    · have HAC : Hid (Calls Tryd.prog 9 #[.int .i64 (k : Int), .slice a' q c', digestV (ls.getD k [])] wr fun e w' => (∃ a2 q2 c2, e = .returned (.tuple #[.slice a2 q2 c2, .nilIface]) ∧ q2 ≤ c2 ∧ Hid (q2 = onesT (k + 1)) ∧ DRow w' a2 q2 (peaksT (ls.take (k + 1)))) ∧ Below wr.heap.size wr w') := by
        refine (wpeaks_add k q c' a' _ (ls.getD k []) wr (HG.out _ hB).1 hR hqc (by omega) HQ.out (HL32.out k hlt)).mono ?_
        rintro e w' ⟨⟨a2, c2, rfl, hc2, hd⟩, hb⟩
        rw [peaks_next (by rw [HLEN.out]; exact hlt)] at hd
        exact ⟨⟨a2, _, c2, rfl, hc2, rfl, hd⟩, hb⟩
      obtain ⟨b, o', rfl⟩ := (HG.out _ hB).2.addr (by omega)
      have HX8 : Hid (wr.rangeAt b (o' + k * 32) (cellsB (ls.getD k []))) := (HG.out _ hB).2.at k hlt
      have lK := HL32.out k hlt
      clear hR hB
      generalize ls.getD k [] = Y at *
      have k3 : (k : Int) < (N : Int) := by omega
      have k0 : (0 : Int) ≤ (k : Int) := by omega
      go_wp2_with (refine wpList_load_mid (by rfl) 24 (.tmp 40) (by rfl) b (o' + k * 32) (by rfl) (cellsB Y) _ HX8.out Tryd.underlying24 (by rfl) (by rw [cellsB_length, lK]; exact Tryd.sizeDg) ?_)
      refine HAC.out.mono ?_
      rintro e w9 ⟨⟨a2, q2, c2, rfl, hc2, HQ2, hd2⟩, hb9⟩
      have HD9 : Hid (DRow w9 a2 q2 (peaksT (ls.take (k + 1)))) := hd2
      have HB9 : Hid (Below w.heap.size w w9) := HB.out.trans (hb9.mono HB.out.size)
      clear hd2 hb9 HAC HX8
      go_wp2_with fail
      go_roundw
      case rel => exact ⟨k + 1, q2, c2, a2, by omega, by go_num, rfl, hc2, HQ2, HD9.out, HB9.out⟩
      case measure => simp [intOf]; omega
    · obtain rfl : k = N := by omega
      rw [List.take_of_length_le (by rw [HLEN.out]; exact Nat.le_refl _)] at hR
      have HPS : Hid (∀ wx, Below wr.heap.size wr wx → DRow wx a' q (peaksT ls) ∧ Env wx ∧ DRow wx a k ls ∧ Below w.heap.size w wx) := fun wx hx => by
        have b := hB.trans (hx.mono hB.size)
        exact ⟨hR.below hx, (HG.out _ b).1, (HG.out _ b).2, b⟩
      have HPQ : Hid ((peaksT ls).length = q) := hR.1
      have HP32 : Hid (∀ i, i < q → ((peaksT ls).getD i []).length = 32) := hR.len
      clear hR hB hk hlt
      have k3 : ¬ (k : Int) < (k : Int) := by omega
      go_wp2_with fail
      clear k3
      have H1 : Hid (Below wr.heap.size wr wr) := Below.refl _ _
      obtain ⟨BB, hBB⟩ : ∃ BB : World → Prop, BB = fun wx => Below wr.heap.size wr wx := ⟨_, rfl⟩
      have HBB : Hid (BB wr ∧ (∀ wx wy, BB wx → Below wx.heap.size wx wy → BB wy) ∧ ∀ wx, BB wx → DRow wx a' q (peaksT ls) ∧ Env wx ∧ DRow wx a k ls ∧ Below w.heap.size w wx) := by
        subst hBB
        exact ⟨H1.out, fun wx wy hx hy => hx.trans (hy.mono hx.size), HPS.out⟩
      clear hBB HPS H1
      go_loopw [9, 10] (fun rv iv wq => ∃ (i s r c2 : Nat) (a2 : Option Addr), i ≤ q ∧ iv = .int .i64 (i : Int) ∧ rv = .slice a2 r c2 ∧ r ≤ c2 ∧ s + r = k ∧ DRow wq a2 r (ls.drop s) ∧ Hid (peaksT (ls.drop s) = (peaksT ls).drop i) ∧ BB wq) (fun _ iv _ => q - (intOf iv).toNat)
      case atStart => exact ⟨0, 0, k, c, a, Nat.zero_le _, rfl, rfl, hc, by omega, by rw [List.drop_zero]; exact (HBB.out.2.2 _ HBB.out.1).2.2.1, rfl, HBB.out.1⟩
      case round =>
        obtain ⟨i, s, r, c2, a2, hi, rfl, rfl, hrc, hsr, hd, HE, hb⟩ := hrel
        have HBQ : Hid (BB wr ∧ DRow wr a2 r (ls.drop s)) := ⟨hb, hd⟩
        have HDL : Hid ((ls.drop s).length = r) := hd.1
        clear hd hb
        by_cases hlt : i < q
        · have hr1 : 1 ≤ r := by
            apply Classical.byContradiction
            intro hc0
            have h1 : peaksT (ls.drop s) = [] := peaksT_nil (by rw [HDL.out]; omega)
            rw [HE.out] at h1
            have h2 := congrArg List.length h1
            rw [List.length_drop, HPQ.out] at h2
            simp at h2
            omega
          obtain ⟨b2, o2, rfl⟩ := HBQ.out.2.addr (by omega)
          have i1 : (i : Int) < (q : Int) := by omega
          have i0 : (0 : Int) ≤ (i : Int) := by omega
          have e0 : ((r : Int) == 0) = false := by simp; omega
          go_wp2_with fail
          go_loopw [11] (fun kv wz => ∃ kk : Nat, kv = .int .i64 (kk : Int) ∧ 1 ≤ kk ∧ kk ≤ r ∧ Hid (∃ e, kk = 2 ^ e) ∧ Hid (wz = wr)) (fun kv _ => r - (intOf kv).toNat)
          case atStart => exact ⟨1, rfl, by omega, by omega, ⟨0, rfl⟩, rfl⟩
          case round =>
            obtain ⟨kk, rfl, hk1, hk2, HPW, HW⟩ := hrel
            have hw := HW.out
            subst hw
            by_cases hdb : 2 * kk ≤ r
            · have d1 : (2 : Int) * (kk : Int) ≤ (r : Int) := by omega
              go_wp2_with fail
              go_roundw
              case rel => exact ⟨2 * kk, by go_num, by omega, hdb, by obtain ⟨e, he⟩ := HPW.out; exact ⟨e + 1, by rw [he, Nat.pow_succ, Nat.mul_comm]⟩, by first | exact True.intro | exact rfl⟩
              case measure => simp [intOf]; omega
            · have d1 : ¬ (2 : Int) * (kk : Int) ≤ (r : Int) := by omega
              have HT := peaks_walk HDL.out HE.out hr1 (top_is HPW.out hk2 (by omega) hr1)
              have HW1 : Hid ((peaksT ls).getD i [] = rootT ((ls.drop s).take kk) ∧ peaksT (ls.drop (s + kk)) = (peaksT ls).drop (i + 1)) := HT
              have HROW : Hid (DRow wr (some ⟨b2, o2, none⟩) kk ((ls.drop s).take kk)) := HBQ.out.2.take kk hk2
              have HREST : Hid (∀ wx, Below wr.heap.size wr wx → DRow wx (some ⟨b2, o2 + kk * 32, none⟩) (r - kk) (ls.drop (s + kk))) := fun wx hx => by
                have := (HBQ.out.2.below hx).drop kk hk2
                rwa [List.drop_drop] at this
              have lD : (rootT ((ls.drop s).take kk)).length = 32 := by rw [← HT.1]; exact HP32.out i hlt
              obtain ⟨b5, o5, rfl⟩ := (HBB.out.2.2 _ HBQ.out.1).1.addr (by omega)
              have HPK : Hid (∀ wx, BB wx → wx.rangeAt b5 (o5 + i * 32) (cellsB (rootT ((ls.drop s).take kk)))) := fun wx hx => by
                have := (HBB.out.2.2 _ hx).1.at i hlt
                rw [HT.1] at this
                exact this
              have HRC : Hid (Calls Tryd.prog 13 #[.slice (some ⟨b2, o2, none⟩) kk c2] wr fun e w' => e = .returned (.tuple #[digestV (rootT ((ls.drop s).take kk)), .nilIface]) ∧ Below wr.heap.size wr w') := wtree_root _ kk c2 _ wr (HBB.out.2.2 _ HBQ.out.1).2.1 HROW.out (by omega) (by omega)
              clear HT HROW HE HDL
              generalize rootT ((ls.drop s).take kk) = D at *
              have z0 : (0 : Int) ≤ (kk : Int) := by omega
              have z1 : (kk : Int) ≤ (r : Int) := by omega
              have z2 : (kk : Int) ≤ (c2 : Int) := by omega
              have z3 : (r : Int) ≤ (c2 : Int) := by omega
              go_wp2_with fail
              refine HRC.out.mono ?_
              rintro e w3 ⟨rfl, hb3⟩
              have HB3 : Hid (Below wr.heap.size wr w3) := hb3
              clear hb3 HRC
              obtain ⟨g3, hg3⟩ : ∃ g3, w3.heap.size = g3 := ⟨_, rfl⟩
              obtain ⟨w4, hw4⟩ : ∃ w4, w3.alloc (.cells (cellsB zD).toArray 24) = w4 := ⟨_, rfl⟩
              have HT4 : Hid (w4.there g3 0 32) := by rw [← hw4]; exact alloc_thereAt _ _ _ 32 _ hg3 zD_size.symm
              have HB5 : Hid (Below wr.heap.size wr (w4.setCells g3 0 (cellsB D))) := below_setCells _ (by rw [← hg3]; exact HB3.out.size) _ _ _ (by rw [← hw4]; exact HB3.out.alloc HB3.out.size _)
              have HX5 : Hid (DAt (w4.setCells g3 0 (cellsB D)) g3 0 D) := dat_stored HT4.out lD
              go_wp2_with (first
                | (refine wpList_allocE (by rfl) 24 (by rfl) (cellsB zD).toArray Tryd.zeroDg g3 hg3 w4 hw4 ?_)
                | (refine wpList_store_mid (by rfl) 24 (.tmp 12) (.tmp 70) (by rfl) g3 0 (cellsB D).toArray (by rfl) (by rfl) (by rw [cellsB_size, lD]; exact HT4.out) (by rw [cellsB_size, lD]; exact Tryd.sizeDg) (all_oneCell_toArray (cellsB_one _)) ?_))
              generalize w4.setCells g3 0 (cellsB D) = w5 at *
              clear hw4 hg3 HT4 HB3
              have HBD : Hid (Below wr.heap.size wr w5.drew) := HB5.out.trans ((below_drewN w5 1).mono HB5.out.size)
              have HXD : Hid (w5.drew.rangeAt g3 0 (cellsB D) ∧ w5.drew.rangeAt b5 (o5 + i * 32) (cellsB D)) := ⟨HX5.out.below (below_drewN w5 1) (cell_block (HX5.out.cell 0 (by omega))), HPK.out _ (HBB.out.2.1 _ _ HBQ.out.1 HBD.out)⟩
              refine wp_region_noPanic ?_
              refine wp_region_held_drew (S := fun wx => wx.rangeAt g3 0 (cellsB D) ∧ wx.rangeAt b5 (o5 + i * 32) (cellsB D)) (by kernel_rfl) HXD.out (fun hHeld => ?_)
              try simp only [Act.put, List.setIfInBounds_toArray, List.set_cons_zero, List.set_cons_succ]
              generalize w5.drew = wd at *
              refine wpAnyH_take (i := 0) (v := ?_) (by simp only [List.getElem?_toArray, List.getElem?_cons_zero, List.getElem?_cons_succ]; rfl) (by kernel_rfl) (by kernel_rfl) (by kernel_rfl) (fun _ _ _ h => h) (Or.inl ⟨by rfl, ?_⟩) hHeld ?_
              rotate_left
              · intro w hSw
                obtain ⟨hSw0, hSw1⟩ := hSw
                go_simp
                try with_reducible rfl
              try simp only [Act.put, List.setIfInBounds_toArray, List.set_cons_zero, List.set_cons_succ]
              refine wpAnyH_take (i := 1) (v := ?_) (by simp only [List.getElem?_toArray, List.getElem?_cons_zero, List.getElem?_cons_succ]; rfl) (by kernel_rfl) (by kernel_rfl) (by kernel_rfl) (fun _ _ _ h => h) (Or.inl ⟨by rfl, ?_⟩) hHeld ?_
              rotate_left
              · intro w hSw
                obtain ⟨hSw0, hSw1⟩ := hSw
                go_simp
                try with_reducible rfl
              try simp only [Act.put, List.setIfInBounds_toArray, List.set_cons_zero, List.set_cons_succ]
              refine wpAnyH_take (i := 2) (v := ?_) (by simp only [List.getElem?_toArray, List.getElem?_cons_zero, List.getElem?_cons_succ]; rfl) (by kernel_rfl) (by kernel_rfl) (by kernel_rfl) (fun _ _ _ h => h) (Or.inl ⟨by rfl, ?_⟩) hHeld ?_
              rotate_left
              · intro w hSw
                obtain ⟨hSw0, hSw1⟩ := hSw
                go_simp
                try with_reducible rfl
              try simp only [Act.put, List.setIfInBounds_toArray, List.set_cons_zero, List.set_cons_succ]
              refine wpAnyH_take (i := 3) (v := .agg (cellsB D).toArray) (by simp only [List.getElem?_toArray, List.getElem?_cons_zero, List.getElem?_cons_succ]; rfl) (by kernel_rfl) (by kernel_rfl) (by kernel_rfl) (fun _ _ _ h => h)
                (yieldsIf_load_mid (by rfl) _ _ rfl _ _ rfl _ _ (fun w hw => hw.1) Tryd.underlying24 rfl (by rw [cellsB_length, lD]; exact Tryd.sizeDg)) hHeld ?_
              try simp only [Act.put, List.setIfInBounds_toArray, List.set_cons_zero, List.set_cons_succ]
              refine wpAnyH_take (i := 4) (v := ?_) (by simp only [List.getElem?_toArray, List.getElem?_cons_zero, List.getElem?_cons_succ]; rfl) (by kernel_rfl) (by kernel_rfl) (by kernel_rfl) (fun _ _ _ h => h) (Or.inl ⟨by rfl, ?_⟩) hHeld ?_
              rotate_left
              · intro w hSw
                obtain ⟨hSw0, hSw1⟩ := hSw
                go_simp
                try with_reducible rfl
              try simp only [Act.put, List.setIfInBounds_toArray, List.set_cons_zero, List.set_cons_succ]
              refine wpAnyH_take (i := 5) (v := ?_) (by simp only [List.getElem?_toArray, List.getElem?_cons_zero, List.getElem?_cons_succ]; rfl) (by kernel_rfl) (by kernel_rfl) (by kernel_rfl) (fun _ _ _ h => h) (Or.inl ⟨by rfl, ?_⟩) hHeld ?_
              rotate_left
              · intro w hSw
                obtain ⟨hSw0, hSw1⟩ := hSw
                go_simp
                try with_reducible rfl
              try simp only [Act.put, List.setIfInBounds_toArray, List.set_cons_zero, List.set_cons_succ]
              refine wpAnyH_take (i := 6) (v := .pointer (some ⟨b5, o5 + i * 32, none⟩)) (by simp only [List.getElem?_toArray, List.getElem?_cons_zero, List.getElem?_cons_succ]; rfl) (by kernel_rfl) (by kernel_rfl) (by kernel_rfl) (fun _ _ _ h => h) (Or.inl ⟨by rfl, ?_⟩) hHeld ?_
              · intro w hSw
                obtain ⟨hSw0, hSw1⟩ := hSw
                go_simp
              try simp only [Act.put, List.setIfInBounds_toArray, List.set_cons_zero, List.set_cons_succ]
              refine wpAnyH_take (i := 7) (v := .agg (cellsB D).toArray) (by simp only [List.getElem?_toArray, List.getElem?_cons_zero, List.getElem?_cons_succ]; rfl) (by kernel_rfl) (by kernel_rfl) (by kernel_rfl) (fun _ _ _ h => h)
                (yieldsIf_load_mid (by rfl) _ _ rfl _ _ rfl _ _ (fun w hw => hw.2) Tryd.underlying24 rfl (by rw [cellsB_length, lD]; exact Tryd.sizeDg)) hHeld ?_
              try simp only [Act.put, List.setIfInBounds_toArray, List.set_cons_zero, List.set_cons_succ]
              refine wpAnyH_take (i := 8) (v := .bool false) (by simp only [List.getElem?_toArray, List.getElem?_cons_zero, List.getElem?_cons_succ]; rfl) (by kernel_rfl) (by kernel_rfl) (by kernel_rfl) (fun _ _ _ h => h)
                (yieldsIf_neqD (by rfl) _ _ rfl D D lD lD rfl rfl false (by simp)) hHeld ?_
              try simp only [Act.put, List.setIfInBounds_toArray, List.set_cons_zero, List.set_cons_succ]
              refine wpAnyH_take (i := 9) (v := ?_) (by simp only [List.getElem?_toArray, List.getElem?_cons_zero, List.getElem?_cons_succ]; rfl) (by kernel_rfl) (by kernel_rfl) (by kernel_rfl) (fun _ _ _ h => h) (Or.inl ⟨by rfl, ?_⟩) hHeld ?_
              rotate_left
              · intro w hSw
                obtain ⟨hSw0, hSw1⟩ := hSw
                go_simp
                try with_reducible rfl
              try simp only [Act.put, List.setIfInBounds_toArray, List.set_cons_zero, List.set_cons_succ]
              refine wpAnyH_done (by kernel_rfl) (NoPanic.normal ?_) _
              clear hHeld
              go_wp2_with fail
              go_roundw
              case rel =>
                by_cases hcc : c2 = kk
                · have hz : r - kk = 0 := by omega
                  have hR := HREST.out _ HBD.out
                  exact ⟨i + 1, s + kk, r - kk, c2 - kk, some ⟨b2, o2, none⟩, by omega, by go_num, by rw [if_pos hcc], by omega, by omega, ⟨hR.1, hR.2.1, .inl hz⟩, HW1.out.2, HBB.out.2.1 _ _ HBQ.out.1 HBD.out⟩
                · exact ⟨i + 1, s + kk, r - kk, c2 - kk, some ⟨b2, o2 + kk * 32, none⟩, by omega, by go_num, by rw [if_neg hcc], by omega, by omega, HREST.out _ HBD.out, HW1.out.2, HBB.out.2.1 _ _ HBQ.out.1 HBD.out⟩
              case measure => simp [intOf]; omega
        · obtain rfl : i = q := by omega
          have hr0 : r = 0 := by
            apply Classical.byContradiction
            intro hc0
            have h1 := peaksT_cons (ls := ls.drop s) (by rw [HDL.out]; omega)
            rw [HE.out, List.drop_of_length_le (by rw [HPQ.out]; exact Nat.le_refl _)] at h1
            cases h1
          subst hr0
          have HBW : Hid (Below w.heap.size w wr) := (HBB.out.2.2 _ HBQ.out.1).2.2.2
          have i1 : ¬ (i : Int) < (i : Int) := by omega
          go_wp2_with fail
          go_ret
          exact ⟨rfl, HBW.out⟩
end Go.Proofs.YtbpkhpkllokbhaaDoor
