/- The law PeaksGrow: leaf by leaf, the peaks' root is the root of all. -/
import Derived.Test.YtbpkhpkllokbhaaDoorJ11
import Derived.Test.YtbpkhpkllokbhaaDoorJ09
import Derived.Test.YtbpkhpkllokbhaaDoorJ13
import Derived.Deep.RegionHeld3
namespace Go.Proofs.YtbpkhpkllokbhaaDoor
open Go.RowKit
set_option linter.unusedVariables false
set_option linter.unusedSimpArgs false

set_option maxRecDepth 100000 in
set_option maxHeartbeats 4000000 in
theorem pgrow_walk (a : Option Addr) (N c : Nat) (ls : List (List UInt8)) (w : World) (G : Env w) (R : DRow w a N ls) (hc : N ≤ c) (hN : 32 * N ≤ 140737488351232) :
    Calls Tryd.prog 4 #[.slice a N c] w fun e w' => e = .returned (.bool true) ∧ Below w.heap.size w w' := by
  have HG : Hid (∀ wx, Below w.heap.size w wx → Env wx ∧ DRow wx a N ls) := fun wx hx => ⟨G.below hx, R.below hx⟩
  have HLEN : Hid (ls.length = N) := R.1
  have HL32 : Hid (∀ j, j < N → (ls.getD j []).length = 32) := R.len
  have HLM : Hid (∀ l ∈ ls, l.length = 32) := R.2.1
  have H0 : Hid (Below w.heap.size w w) := Below.refl _ _
  have HBU : Hid (∃ X : List UInt8, X.length = 32 ∧ Tryd.prog.built 24 [(0, .int .u8 7)] = some (cellsB X).toArray) := ⟨dSeven, dSeven_len, Tryd.builtSeven⟩
  obtain ⟨X, lX, hX⟩ := HBU.out
  have HB7 : Hid (Tryd.prog.built 24 [(0, .int .u8 7)] = some (cellsB X).toArray) := hX
  have HC0 : Hid (Calls Tryd.prog 9 #[.int .i64 0, .slice none 0 0, digestV X] w fun e w' => (∃ g o c', e = .returned (.tuple #[.slice (some ⟨g, o, none⟩) 1 c', .nilIface]) ∧ DAt w' g o X) ∧ Below w.heap.size w w') := by
    refine (wpeaks_add 0 0 0 none [] X w G (DRow.nil _) (Nat.le_refl _) (by omega) onesT_zero.symm lX).mono ?_
    rintro e w' ⟨⟨a', c', rfl, _, hd⟩, hb⟩
    rw [show (0 : Nat) + 1 = 1 from rfl, onesT_one, peaks_first] at hd
    obtain ⟨g, o, rfl⟩ := hd.addr (by omega)
    have h0 := hd.at 0 (by omega)
    rw [Nat.zero_mul, Nat.add_zero] at h0
    exact ⟨⟨g, o, c', by rw [show (0 : Nat) + 1 = 1 from rfl, onesT_one], h0⟩, hb⟩
  clear G R hX HBU
  go_enter Tryd.func4, Tryd.ntmps4
  go_wp2_with (refine wpList_buildC (by rfl) 24 #[(0, .const (.int .u8 7))] (by rfl) (cellsB X).toArray (by simp only [List.map_toArray, List.map_cons, List.map_nil, Act.eval]; exact HB7.out) ?_)
  refine HC0.out.mono ?_
  rintro e w1 ⟨⟨g, o, c1, rfl, hX1⟩, hb1⟩
  have HX1 : Hid (w1.rangeAt g o (cellsB X)) := hX1
  have HB1 : Hid (Below w.heap.size w w1) := hb1
  clear hX1 hb1 HC0
  by_cases hbig : 256 < N
  · have g1 : (256 : Int) < (N : Int) := by omega
    go_wp2_with (first
      | (refine wpList_load_midG (by rfl) 24 (.tmp 27) (by rfl) g o (by rfl) (cellsB X) _ HX1.out Tryd.underlying24 (by rfl) (by rw [cellsB_length, lX]; exact Tryd.sizeDg) ?_)
      | (refine wpList_buildG (by rfl) 24 #[(0, .const (.int .u8 7))] (by rfl) (cellsB X).toArray (by simp only [List.map_toArray, List.map_cons, List.map_nil, Act.eval]; exact HB7.out) ?_)
      | (refine wpList_neqD (.tmp 28) (.tmp 29) (by rfl) (by rfl) X X lX lX (by rfl) (by rfl) false (by simp) ?_))
    go_ret
    exact ⟨rfl, HB1.out⟩
  have g1 : ¬ (256 : Int) < (N : Int) := by omega
  have hN2 : N ≤ 256 := by omega
  clear hbig
  go_wp2_with (first
    | (refine wpList_load_midG (by rfl) 24 (.tmp 27) (by rfl) g o (by rfl) (cellsB X) _ HX1.out Tryd.underlying24 (by rfl) (by rw [cellsB_length, lX]; exact Tryd.sizeDg) ?_)
    | (refine wpList_buildG (by rfl) 24 #[(0, .const (.int .u8 7))] (by rfl) (cellsB X).toArray (by simp only [List.map_toArray, List.map_cons, List.map_nil, Act.eval]; exact HB7.out) ?_)
    | (refine wpList_neqD (.tmp 28) (.tmp 29) (by rfl) (by rfl) X X lX lX (by rfl) (by rfl) false (by simp) ?_))
  clear HX1
  go_loopw [5, 6] (fun pv iv wr => ∃ (k q c' : Nat) (a' : Option Addr), k ≤ N ∧ iv = .int .i64 (k : Int) ∧ pv = .slice a' q c' ∧ q ≤ c' ∧ Hid (q = onesT k) ∧ DRow wr a' q (peaksT (ls.take k)) ∧ Below w.heap.size w wr) (fun _ iv _ => N - (intOf iv).toNat)
  case atStart => exact ⟨0, 0, 0, none, Nat.zero_le _, rfl, rfl, Nat.le_refl _, onesT_zero.symm, by rw [List.take_zero, peaksT_nil rfl]; exact DRow.nil _, HB1.out⟩
  case round =>
    clear HB1
    obtain ⟨k, q, c', a', hk, rfl, rfl, hqc, HQ, hR, hB⟩ := hrel
    have HR : Hid (∀ wx, Below wr.heap.size wr wx → DRow wx a' q (peaksT (ls.take k)) ∧ Env wx ∧ DRow wx a N ls ∧ Below w.heap.size w wx) := fun wx hx => by
      have b := hB.trans (hx.mono hB.size)
      exact ⟨hR.below hx, (HG.out _ b).1, (HG.out _ b).2, b⟩
    have HB : Hid (Below w.heap.size w wr) := hB
    have hk31 : onesT k ≤ 31 := onesT_30 (by omega)
    have hq31 : q ≤ 31 := by rw [HQ.out]; exact hk31
    have lP : (rootT (ls.take k)).length = 32 := rootT_length (fun l hl => HLM.out l (List.mem_of_mem_take hl))
    have HRC : Hid (Calls Tryd.prog 12 #[.int .i64 (k : Int), .slice a' q c'] wr fun e w' => e = .returned (.tuple #[digestV (rootT (ls.take k)), .nilIface]) ∧ Below wr.heap.size wr w') := by
      rw [← bag_peaks _ _ rfl]
      exact wpeaks_root k q c' a' _ wr (HR.out _ (Below.refl _ _)).2.1 hR hqc (by omega) HQ.out
    have HTC : Hid (∀ wx, Below wr.heap.size wr wx → Calls Tryd.prog 13 #[.slice a k c] wx fun e w' => e = .returned (.tuple #[digestV (rootT (ls.take k)), .nilIface]) ∧ Below wx.heap.size wx w') := fun wx hx =>
      wtree_root a k c _ wx (HR.out _ hx).2.1 ((HR.out _ hx).2.2.1.take k hk) (by omega) (by omega)
    have HAC : Hid (k < N → ∀ wx, Below wr.heap.size wr wx → Calls Tryd.prog 9 #[.int .i64 (k : Int), .slice a' q c', digestV (ls.getD k [])] wx fun e w' => (∃ a2 q2 c2, e = .returned (.tuple #[.slice a2 q2 c2, .nilIface]) ∧ q2 ≤ c2 ∧ Hid (q2 = onesT (k + 1)) ∧ DRow w' a2 q2 (peaksT (ls.take (k + 1)))) ∧ Below wx.heap.size wx w') := fun hlt wx hx => by
      refine (wpeaks_add k q c' a' _ (ls.getD k []) wx (HR.out _ hx).2.1 (HR.out _ hx).1 hqc (by omega) HQ.out (HL32.out k hlt)).mono ?_
      rintro e w' ⟨⟨a2, c2, rfl, hc2, hd⟩, hb⟩
      rw [peaks_next (by rw [HLEN.out]; exact hlt)] at hd
      exact ⟨⟨a2, _, c2, rfl, hc2, rfl, hd⟩, hb⟩
    have HLT : Hid (k < N → ∃ b o, a = some ⟨b, o, none⟩ ∧ ∀ wx, Below wr.heap.size wr wx → wx.rangeAt b (o + k * 32) (cellsB (ls.getD k []))) := fun hlt => by
      obtain ⟨b, o, rfl⟩ := (HR.out _ (Below.refl _ _)).2.2.1.addr (by omega)
      exact ⟨b, o, rfl, fun wx hx => (HR.out _ hx).2.2.1.at k hlt⟩
    clear hR hB
    generalize rootT (ls.take k) = D at *
    have k1 : (k : Int) ≤ (N : Int) := by omega
    have k0 : (0 : Int) ≤ (k : Int) := by omega
    have k2 : (k : Int) ≤ (c : Int) := by omega
    go_wp2_with fail
    refine HRC.out.mono ?_
    rintro e w2 ⟨rfl, hb2⟩
    have HB2 : Hid (Below wr.heap.size wr w2) := hb2
    clear hb2 HRC
    obtain ⟨g2, hg2⟩ : ∃ g2, w2.heap.size = g2 := ⟨_, rfl⟩
    obtain ⟨w3, hw3⟩ : ∃ w3, w2.alloc (.cells (cellsB zD).toArray 24) = w3 := ⟨_, rfl⟩
    have HT3 : Hid (w3.there g2 0 32) := by rw [← hw3]; exact alloc_thereAt _ _ _ 32 _ hg2 zD_size.symm
    have HB4 : Hid (Below wr.heap.size wr (w3.setCells g2 0 (cellsB D))) := below_setCells _ (by rw [← hg2]; exact HB2.out.size) _ _ _ (by rw [← hw3]; exact HB2.out.alloc HB2.out.size _)
    have HX4 : Hid (DAt (w3.setCells g2 0 (cellsB D)) g2 0 D) := dat_stored HT3.out lP
    go_wp2_with (first
      | (refine wpList_allocE (by rfl) 24 (by rfl) (cellsB zD).toArray Tryd.zeroDg g2 hg2 w3 hw3 ?_)
      | (refine wpList_store_mid (by rfl) 24 (.tmp 7) (.tmp 45) (by rfl) g2 0 (cellsB D).toArray (by rfl) (by rfl) (by rw [cellsB_size, lP]; exact HT3.out) (by rw [cellsB_size, lP]; exact Tryd.sizeDg) (all_oneCell_toArray (cellsB_one _)) ?_))
    generalize w3.setCells g2 0 (cellsB D) = w4 at *
    clear hw3 hg2 HT3 HB2
    refine (HTC.out w4 HB4.out).mono ?_
    rintro e w5 ⟨rfl, hb5⟩
    have HB5 : Hid (Below wr.heap.size wr w5) := HB4.out.trans (hb5.mono HB4.out.size)
    have HX5 : Hid (DAt w5 g2 0 D) := HX4.out.below hb5 (cell_block (HX4.out.cell 0 (by omega)))
    clear hb5 HTC HX4 HB4
    obtain ⟨g5, hg5⟩ : ∃ g5, w5.heap.size = g5 := ⟨_, rfl⟩
    obtain ⟨w6, hw6⟩ : ∃ w6, w5.alloc (.cells (cellsB zD).toArray 24) = w6 := ⟨_, rfl⟩
    have HT6 : Hid (w6.there g5 0 32) := by rw [← hw6]; exact alloc_thereAt _ _ _ 32 _ hg5 zD_size.symm
    have hB7 : Below w5.heap.size w5 (w6.setCells g5 0 (cellsB D)) := below_setCells _ (by rw [hg5]; exact Nat.le_refl _) _ _ _ (by rw [← hw6]; exact (Below.refl _ _).alloc (Nat.le_refl _) _)
    have HB7' : Hid (Below wr.heap.size wr (w6.setCells g5 0 (cellsB D))) := HB5.out.trans (hB7.mono HB5.out.size)
    have HX7 : Hid ((w6.setCells g5 0 (cellsB D)).rangeAt g2 0 (cellsB D)) := HX5.out.below hB7 (cell_block (HX5.out.cell 0 (by omega)))
    have HY7 : Hid ((w6.setCells g5 0 (cellsB D)).rangeAt g5 0 (cellsB D)) := dat_stored HT6.out lP
    clear hB7
    go_wp2_with (first
      | (refine wpList_allocE (by rfl) 24 (by rfl) (cellsB zD).toArray Tryd.zeroDg g5 hg5 w6 hw6 ?_)
      | (refine wpList_store_mid (by rfl) 24 (.tmp 9) (.tmp 52) (by rfl) g5 0 (cellsB D).toArray (by rfl) (by rfl) (by rw [cellsB_size, lP]; exact HT6.out) (by rw [cellsB_size, lP]; exact Tryd.sizeDg) (all_oneCell_toArray (cellsB_one _)) ?_)
      | (refine wpList_load_midG (by rfl) 24 (.tmp 7) (by rfl) g2 0 (by rfl) (cellsB D) _ HX7.out Tryd.underlying24 (by rfl) (by rw [cellsB_length, lP]; exact Tryd.sizeDg) ?_)
      | (refine wpList_load_midG (by rfl) 24 (.tmp 9) (by rfl) g5 0 (by rfl) (cellsB D) _ HY7.out Tryd.underlying24 (by rfl) (by rw [cellsB_length, lP]; exact Tryd.sizeDg) ?_)
      | (refine wpList_neqD (.tmp 61) (.tmp 62) (by rfl) (by rfl) D D lP lP (by rfl) (by rfl) false (by simp) ?_))
    generalize w6.setCells g5 0 (cellsB D) = w7 at *
    clear hw6 hg5 HT6 HX5 HB5 HX7 HY7
    refine (rones_any k w7 (by omega)).mono ?_
    rintro e w8 ⟨rfl, rfl⟩
    rw [← HQ.out]
    by_cases hlt : k < N
    · have e1 : ((k : Int) == (N : Int)) = false := by simp; omega
      obtain ⟨b, o', rfl, hx⟩ := HLT.out hlt
      have HX8 : Hid (w8.rangeAt b (o' + k * 32) (cellsB (ls.getD k []))) := hx _ HB7'.out
      have lK := HL32.out k hlt
      have HAD := HAC.out hlt
      have HAD2 : Hid (∀ wx, Below wr.heap.size wr wx → Calls Tryd.prog 9 #[.int .i64 (k : Int), .slice a' q c', digestV (ls.getD k [])] wx fun e w' => (∃ a2 q2 c2, e = .returned (.tuple #[.slice a2 q2 c2, .nilIface]) ∧ q2 ≤ c2 ∧ Hid (q2 = onesT (k + 1)) ∧ DRow w' a2 q2 (peaksT (ls.take (k + 1)))) ∧ Below wx.heap.size wx w') := HAD
      clear HAD hx HLT HAC
      generalize ls.getD k [] = Y at *
      have k3 : (k : Int) < (N : Int) := by omega
      go_wp2_with (refine wpList_load_mid (by rfl) 24 (.tmp 81) (by rfl) b (o' + k * 32) (by rfl) (cellsB Y) _ HX8.out Tryd.underlying24 (by rfl) (by rw [cellsB_length, lK]; exact Tryd.sizeDg) ?_)
      refine (HAD2.out w8 HB7'.out).mono ?_
      rintro e w9 ⟨⟨a2, q2, c2, rfl, hc2, HQ2, hd2⟩, hb9⟩
      have HD9 : Hid (DRow w9 a2 q2 (peaksT (ls.take (k + 1)))) := hd2
      have HB9 : Hid (Below w.heap.size w w9) := HB.out.trans ((HB7'.out.trans (hb9.mono HB7'.out.size)).mono HB.out.size)
      clear hd2 hb9 HAD2 HX8
      go_wp2_with fail
      go_roundw
      case rel => exact ⟨k + 1, q2, c2, a2, by omega, by go_num, rfl, hc2, HQ2, HD9.out, HB9.out⟩
      case measure => simp [intOf]; omega
    · obtain rfl : k = N := by omega
      have e1 : ((k : Int) == (k : Int)) = true := beq_self_eq_true _
      go_wp2_with fail
      go_ret
      exact ⟨rfl, HB.out.trans (HB7'.out.mono HB.out.size)⟩
end Go.Proofs.YtbpkhpkllokbhaaDoor
