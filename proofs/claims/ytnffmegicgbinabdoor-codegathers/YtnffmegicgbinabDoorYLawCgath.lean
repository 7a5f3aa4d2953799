/- The law CodeGathers: what is gathered is what the document says. -/
import Derived.Test.YtnffmegicgbinabDoorJ13
import Derived.Test.YtnffmegicgbinabDoorJ14
import Derived.Test.YtnffmegicgbinabDoorJ15
import Derived.Test.YtnffmegicgbinabDoorJ10
import Derived.Test.YtnffmegicgbinabDoorJ16
import Derived.Deep.DeepCutAuto
namespace Go.Proofs.YtnffmegicgbinabDoor
open Go.RowKit
set_option linter.unusedVariables false
set_option linter.unusedSimpArgs false

set_option maxRecDepth 100000 in
set_option maxHeartbeats 2000000 in
theorem cgath_walk (a : Option Addr) (n c : Nat) (ss : List Shr) (k : Int) (w : World) (G : Env w) (HH : Handle w) (R : SRow w a n ss) (hc : n ≤ c) (hn : 32 * n ≤ 140737488351232) (k1 : -9223372036854775808 ≤ k) (k2 : k ≤ 9223372036854775807) :
    Calls Tryd.prog 3 #[.slice a n c, .int .i64 k] w fun r w' => r = .returned (.bool true) ∧ Below w.heap.size w w' := by
  have HALL : Hid (∀ wx, Below w.heap.size w wx → Env wx ∧ Handle wx ∧ SRow wx a n ss) := fun wx hx => ⟨G.below hx, HH.below hx, R.below hx⟩
  have HLN : Hid (ss.length = n) := R.1
  have HPL : Hid (∀ s ∈ ss, s.1 < 256) := R.place
  have HBw1 : Hid (Below w.heap.size w w) := Below.refl _ _
  clear G HH R
  go_enter Tryd.func3, Tryd.ntmps3
  by_cases c1 : k < 1
  · have HE : Hid (gatherE ss k = 2) := if_pos (.inl c1)
    have HZ : Hid (k < 1) := c1
    have gz : ¬ (0 : Int) < k := by omega
    go_wp2_with fail
    go_loopw [6, 7] (fun v iv wr => v = .slice none 0 0 ∧ iv = .int .i64 0 ∧ Hid (wr = w)) (fun _ _ _ => 0)
    case atStart => exact ⟨rfl, rfl, rfl⟩
    case round =>
      obtain ⟨rfl, rfl, HW⟩ := hrel
      have hw : w = wr := HW.out.symm
      subst hw
      by_cases gk : (0 : Int) < k
      · go_wp2_with fail
        refine (wcode_gatherout a n c k ss 2 w (HALL.out _ HBw1.out).1 (HALL.out _ HBw1.out).2.2 hc (by omega) k1 k2 HE.out (by omega)).mono ?_
        rintro r w3 ⟨⟨ag, cg, rfl⟩, hb3⟩
        have HBw3 : Hid (Below w.heap.size w w3) := HBw1.out.trans (hb3.mono HBw1.out.size)
        have HGOT : Hid (BRowsB w3 ag 0 ([] : List (List UInt8))) := ⟨⟨rfl, .inl rfl⟩, fun i hi => by omega⟩
        have HWANT : Hid (BRowsB w3 none 0 ([] : List (List UInt8))) := ⟨⟨rfl, .inl rfl⟩, fun i hi => by omega⟩
        clear hb3 HE HBw1
        go_wp2_with fail
        refine (error_errno 2 2 w3 (HALL.out _ HBw3.out).2.1).mono ?_
        rintro r w31 ⟨rfl, hb1⟩
        rw [show decide ((2 : Int) = 2) = true from decide_eq_true rfl]
        have HB1 : Hid (Below w.heap.size w w31) := HBw3.out.trans (hb1.mono HBw3.out.size)
        have HG1 : Hid (BRowsB w31 ag 0 ([] : List (List UInt8))) := HGOT.out.below hb1
        have HW1 : Hid (BRowsB w31 none 0 ([] : List (List UInt8))) := HWANT.out.below hb1
        clear hb1 HGOT HWANT HBw3
        go_wp2_with fail
        refine (rows_same ag 0 cg ([] : List (List UInt8)) none 0 _ ([] : List (List UInt8)) w31 HG1.out HW1.out (by omega) (by omega) (by omega)).mono ?_
        rintro r w32 ⟨rfl, hb2⟩
        rw [show decide (([] : List (List UInt8)) = ([] : List (List UInt8))) = true from decide_eq_true rfl]
        have HB2 : Hid (Below w.heap.size w w32) := HB1.out.trans (hb2.mono HB1.out.size)
        clear hb2 HG1 HW1 HB1
        go_wp2_with fail
        go_ret
        exact ⟨rfl, HB2.out⟩
      · go_wp2_with fail
        refine (wcode_gatherout a n c k ss 2 w (HALL.out _ HBw1.out).1 (HALL.out _ HBw1.out).2.2 hc (by omega) k1 k2 HE.out (by omega)).mono ?_
        rintro r w3 ⟨⟨ag, cg, rfl⟩, hb3⟩
        have HBw3 : Hid (Below w.heap.size w w3) := HBw1.out.trans (hb3.mono HBw1.out.size)
        have HGOT : Hid (BRowsB w3 ag 0 ([] : List (List UInt8))) := ⟨⟨rfl, .inl rfl⟩, fun i hi => by omega⟩
        have HWANT : Hid (BRowsB w3 none 0 ([] : List (List UInt8))) := ⟨⟨rfl, .inl rfl⟩, fun i hi => by omega⟩
        clear hb3 HE HBw1
        go_wp2_with fail
        refine (error_errno 2 2 w3 (HALL.out _ HBw3.out).2.1).mono ?_
        rintro r w31 ⟨rfl, hb1⟩
        rw [show decide ((2 : Int) = 2) = true from decide_eq_true rfl]
        have HB1 : Hid (Below w.heap.size w w31) := HBw3.out.trans (hb1.mono HBw3.out.size)
        have HG1 : Hid (BRowsB w31 ag 0 ([] : List (List UInt8))) := HGOT.out.below hb1
        have HW1 : Hid (BRowsB w31 none 0 ([] : List (List UInt8))) := HWANT.out.below hb1
        clear hb1 HGOT HWANT HBw3
        go_wp2_with fail
        refine (rows_same ag 0 cg ([] : List (List UInt8)) none 0 _ ([] : List (List UInt8)) w31 HG1.out HW1.out (by omega) (by omega) (by omega)).mono ?_
        rintro r w32 ⟨rfl, hb2⟩
        rw [show decide (([] : List (List UInt8)) = ([] : List (List UInt8))) = true from decide_eq_true rfl]
        have HB2 : Hid (Below w.heap.size w w32) := HB1.out.trans (hb2.mono HB1.out.size)
        clear hb2 HG1 HW1 HB1
        go_wp2_with fail
        go_ret
        exact ⟨rfl, HB2.out⟩
  by_cases c2 : 20 < k
  · have HE : Hid (gatherE ss k = 2) := if_pos (.inr c2)
    go_wp2_with fail
    go_loopw [6, 7] (fun v iv wr => v = .slice none 0 0 ∧ iv = .int .i64 0 ∧ Hid (wr = w)) (fun _ _ _ => 0)
    case atStart => exact ⟨rfl, rfl, rfl⟩
    case round =>
      obtain ⟨rfl, rfl, HW⟩ := hrel
      have hw : w = wr := HW.out.symm
      subst hw
      by_cases gk : (0 : Int) < k
      · go_wp2_with fail
        refine (wcode_gatherout a n c k ss 2 w (HALL.out _ HBw1.out).1 (HALL.out _ HBw1.out).2.2 hc (by omega) k1 k2 HE.out (by omega)).mono ?_
        rintro r w3 ⟨⟨ag, cg, rfl⟩, hb3⟩
        have HBw3 : Hid (Below w.heap.size w w3) := HBw1.out.trans (hb3.mono HBw1.out.size)
        have HGOT : Hid (BRowsB w3 ag 0 ([] : List (List UInt8))) := ⟨⟨rfl, .inl rfl⟩, fun i hi => by omega⟩
        have HWANT : Hid (BRowsB w3 none 0 ([] : List (List UInt8))) := ⟨⟨rfl, .inl rfl⟩, fun i hi => by omega⟩
        clear hb3 HE HBw1
        go_wp2_with fail
        refine (error_errno 2 2 w3 (HALL.out _ HBw3.out).2.1).mono ?_
        rintro r w31 ⟨rfl, hb1⟩
        rw [show decide ((2 : Int) = 2) = true from decide_eq_true rfl]
        have HB1 : Hid (Below w.heap.size w w31) := HBw3.out.trans (hb1.mono HBw3.out.size)
        have HG1 : Hid (BRowsB w31 ag 0 ([] : List (List UInt8))) := HGOT.out.below hb1
        have HW1 : Hid (BRowsB w31 none 0 ([] : List (List UInt8))) := HWANT.out.below hb1
        clear hb1 HGOT HWANT HBw3
        go_wp2_with fail
        refine (rows_same ag 0 cg ([] : List (List UInt8)) none 0 _ ([] : List (List UInt8)) w31 HG1.out HW1.out (by omega) (by omega) (by omega)).mono ?_
        rintro r w32 ⟨rfl, hb2⟩
        rw [show decide (([] : List (List UInt8)) = ([] : List (List UInt8))) = true from decide_eq_true rfl]
        have HB2 : Hid (Below w.heap.size w w32) := HB1.out.trans (hb2.mono HB1.out.size)
        clear hb2 HG1 HW1 HB1
        go_wp2_with fail
        go_ret
        exact ⟨rfl, HB2.out⟩
      · go_wp2_with fail
        refine (wcode_gatherout a n c k ss 2 w (HALL.out _ HBw1.out).1 (HALL.out _ HBw1.out).2.2 hc (by omega) k1 k2 HE.out (by omega)).mono ?_
        rintro r w3 ⟨⟨ag, cg, rfl⟩, hb3⟩
        have HBw3 : Hid (Below w.heap.size w w3) := HBw1.out.trans (hb3.mono HBw1.out.size)
        have HGOT : Hid (BRowsB w3 ag 0 ([] : List (List UInt8))) := ⟨⟨rfl, .inl rfl⟩, fun i hi => by omega⟩
        have HWANT : Hid (BRowsB w3 none 0 ([] : List (List UInt8))) := ⟨⟨rfl, .inl rfl⟩, fun i hi => by omega⟩
        clear hb3 HE HBw1
        go_wp2_with fail
        refine (error_errno 2 2 w3 (HALL.out _ HBw3.out).2.1).mono ?_
        rintro r w31 ⟨rfl, hb1⟩
        rw [show decide ((2 : Int) = 2) = true from decide_eq_true rfl]
        have HB1 : Hid (Below w.heap.size w w31) := HBw3.out.trans (hb1.mono HBw3.out.size)
        have HG1 : Hid (BRowsB w31 ag 0 ([] : List (List UInt8))) := HGOT.out.below hb1
        have HW1 : Hid (BRowsB w31 none 0 ([] : List (List UInt8))) := HWANT.out.below hb1
        clear hb1 HGOT HWANT HBw3
        go_wp2_with fail
        refine (rows_same ag 0 cg ([] : List (List UInt8)) none 0 _ ([] : List (List UInt8)) w31 HG1.out HW1.out (by omega) (by omega) (by omega)).mono ?_
        rintro r w32 ⟨rfl, hb2⟩
        rw [show decide (([] : List (List UInt8)) = ([] : List (List UInt8))) = true from decide_eq_true rfl]
        have HB2 : Hid (Below w.heap.size w w32) := HB1.out.trans (hb2.mono HB1.out.size)
        clear hb2 HG1 HW1 HB1
        go_wp2_with fail
        go_ret
        exact ⟨rfl, HB2.out⟩
  obtain ⟨K, hK⟩ : ∃ K : Nat, k = (K : Int) := ⟨k.toNat, by omega⟩
  subst hK
  have hK1 : 1 ≤ K := by omega
  have hK20 : K ≤ 20 := by omega
  have HE1 : Hid (gatherE ss (K : Int) = if (ss.length : Int) < K then 3 else sfault 0 19 (ss.take (K : Int).toNat)) := if_neg (by omega)
  by_cases c3 : n < K
  · have HE : Hid (gatherE ss (K : Int) = 3) := by rw [HE1.out]; exact if_pos (by rw [HLN.out]; omega)
    have c3' : (n : Int) < (K : Int) := by omega
    clear HE1
    go_wp2_with fail
    go_loopw [6, 7] (fun v iv wr => v = .slice none 0 0 ∧ iv = .int .i64 0 ∧ Hid (wr = w)) (fun _ _ _ => 0)
    case atStart => exact ⟨rfl, rfl, rfl⟩
    case round =>
      obtain ⟨rfl, rfl, HW⟩ := hrel
      have hw : w = wr := HW.out.symm
      subst hw
      by_cases gk : (0 : Int) < (K : Int)
      · go_wp2_with fail
        refine (wcode_gatherout a n c (K : Int) ss 3 w (HALL.out _ HBw1.out).1 (HALL.out _ HBw1.out).2.2 hc (by omega) k1 k2 HE.out (by omega)).mono ?_
        rintro r w3 ⟨⟨ag, cg, rfl⟩, hb3⟩
        have HBw3 : Hid (Below w.heap.size w w3) := HBw1.out.trans (hb3.mono HBw1.out.size)
        have HGOT : Hid (BRowsB w3 ag 0 ([] : List (List UInt8))) := ⟨⟨rfl, .inl rfl⟩, fun i hi => by omega⟩
        have HWANT : Hid (BRowsB w3 none 0 ([] : List (List UInt8))) := ⟨⟨rfl, .inl rfl⟩, fun i hi => by omega⟩
        clear hb3 HE HBw1
        go_wp2_with fail
        refine (error_errno 3 3 w3 (HALL.out _ HBw3.out).2.1).mono ?_
        rintro r w31 ⟨rfl, hb1⟩
        rw [show decide ((3 : Int) = 3) = true from decide_eq_true rfl]
        have HB1 : Hid (Below w.heap.size w w31) := HBw3.out.trans (hb1.mono HBw3.out.size)
        have HG1 : Hid (BRowsB w31 ag 0 ([] : List (List UInt8))) := HGOT.out.below hb1
        have HW1 : Hid (BRowsB w31 none 0 ([] : List (List UInt8))) := HWANT.out.below hb1
        clear hb1 HGOT HWANT HBw3
        go_wp2_with fail
        refine (rows_same ag 0 cg ([] : List (List UInt8)) none 0 _ ([] : List (List UInt8)) w31 HG1.out HW1.out (by omega) (by omega) (by omega)).mono ?_
        rintro r w32 ⟨rfl, hb2⟩
        rw [show decide (([] : List (List UInt8)) = ([] : List (List UInt8))) = true from decide_eq_true rfl]
        have HB2 : Hid (Below w.heap.size w w32) := HB1.out.trans (hb2.mono HB1.out.size)
        clear hb2 HG1 HW1 HB1
        go_wp2_with fail
        go_ret
        exact ⟨rfl, HB2.out⟩
      · omega
  have HE2 : Hid (gatherE ss (K : Int) = sfault 0 19 (ss.take K)) := by rw [HE1.out, if_neg (by rw [HLN.out]; omega)]; rfl
  have hKn : K ≤ n := by omega
  have c3' : ¬ (n : Int) < (K : Int) := by omega
  have hKc : K ≤ c := by omega
  have c4' : (K : Int) ≤ (c : Int) := by omega
  have HTK : Hid (∀ wx, Below w.heap.size w wx → SRow wx a K (ss.take K)) := fun wx hx => (HALL.out wx hx).2.2.take hKn
  clear HE1 c3
  go_wp2_with fail
  refine (rsfault_any a K c (ss.take K) 0 19 w (HTK.out _ HBw1.out) hKc (by omega) (by omega) (by omega)).mono ?_
  rintro r w1 ⟨rfl, hb1⟩
  have HBw1 : Hid (Below w.heap.size w w1) := hb1
  clear hb1
  by_cases hf : sfault 0 19 (ss.take K) = 0
  rotate_left
  · obtain ⟨E, hE⟩ : ∃ E, sfault 0 19 (ss.take K) = E := ⟨_, rfl⟩
    have HE : Hid (gatherE ss (K : Int) = E) := by rw [HE2.out]; exact hE
    rw [hE] at hf
    rw [hE]
    have HNE : Hid (E ≠ 0) := hf
    have e1 : ¬ E = 0 := hf
    clear hE HE2
    go_wp2_with fail
    go_loopw [6, 7] (fun v iv wr => v = .slice none 0 0 ∧ iv = .int .i64 0 ∧ Hid (wr = w1)) (fun _ _ _ => 0)
    case atStart => exact ⟨rfl, rfl, rfl⟩
    case round =>
      obtain ⟨rfl, rfl, HW⟩ := hrel
      have hw : w1 = wr := HW.out.symm
      subst hw
      by_cases gk : (0 : Int) < (K : Int)
      · go_wp2_with fail
        refine (wcode_gatherout a n c (K : Int) ss E w1 (HALL.out _ HBw1.out).1 (HALL.out _ HBw1.out).2.2 hc (by omega) k1 k2 HE.out HNE.out).mono ?_
        rintro r w3 ⟨⟨ag, cg, rfl⟩, hb3⟩
        have HBw3 : Hid (Below w.heap.size w w3) := HBw1.out.trans (hb3.mono HBw1.out.size)
        have HGOT : Hid (BRowsB w3 ag 0 ([] : List (List UInt8))) := ⟨⟨rfl, .inl rfl⟩, fun i hi => by omega⟩
        have HWANT : Hid (BRowsB w3 none 0 ([] : List (List UInt8))) := ⟨⟨rfl, .inl rfl⟩, fun i hi => by omega⟩
        clear hb3 HE HBw1
        go_wp2_with fail
        refine (error_errno E E w3 (HALL.out _ HBw3.out).2.1).mono ?_
        rintro r w31 ⟨rfl, hb1⟩
        rw [show decide ((E : Int) = E) = true from decide_eq_true rfl]
        have HB1 : Hid (Below w.heap.size w w31) := HBw3.out.trans (hb1.mono HBw3.out.size)
        have HG1 : Hid (BRowsB w31 ag 0 ([] : List (List UInt8))) := HGOT.out.below hb1
        have HW1 : Hid (BRowsB w31 none 0 ([] : List (List UInt8))) := HWANT.out.below hb1
        clear hb1 HGOT HWANT HBw3
        go_wp2_with fail
        refine (rows_same ag 0 cg ([] : List (List UInt8)) none 0 _ ([] : List (List UInt8)) w31 HG1.out HW1.out (by omega) (by omega) (by omega)).mono ?_
        rintro r w32 ⟨rfl, hb2⟩
        rw [show decide (([] : List (List UInt8)) = ([] : List (List UInt8))) = true from decide_eq_true rfl]
        have HB2 : Hid (Below w.heap.size w w32) := HB1.out.trans (hb2.mono HB1.out.size)
        clear hb2 HG1 HW1 HB1
        go_wp2_with fail
        go_ret
        exact ⟨rfl, HB2.out⟩
      · omega
  have HE : Hid (gatherE ss (K : Int) = 0) := by rw [HE2.out]; exact hf
  have hok := sfault_ok hf
  have HND : Hid (((ss.take K).map (·.1)).Nodup) := hok.2
  obtain ⟨F, hF⟩ : ∃ F, ((ss.take K).getD 0 noS).2.length = F := ⟨_, rfl⟩
  have HFE : Hid (((ss.take K).getD 0 noS).2.length = F) := hF
  have HLF : Hid (∀ s ∈ ss.take K, s.2.length = F) := fun s hs => by rw [← hF]; exact (hok.1 s hs).2.2
  have hF47 : F ≤ 140737488351232 := by
    have R := HTK.out _ HBw1.out
    obtain ⟨b, o, ha⟩ := R.addr (by omega)
    rw [ha] at R
    obtain ⟨_, _, ai, ni, ci, _, _, h5, hR⟩ := R.at 0 (by omega)
    rw [← hF, hR.1]
    exact h5
  rw [hf]
  clear hok hF hf HE2
  obtain ⟨B0, hB0⟩ : ∃ B0, w1.heap.size = B0 := ⟨_, rfl⟩
  have HBB : Hid (w1.heap.size = B0) := hB0
  have HB00 : Hid (Below B0 w1 w1) := Below.refl _ _
  have HBW : Hid (∀ wx, Below B0 w1 wx → Below w.heap.size w wx ∧ B0 ≤ wx.heap.size) := fun wx hx => ⟨HBw1.out.trans (hx.mono (by have := HBw1.out.size; omega)), by have := hx.size; omega⟩
  clear hB0
  go_wp2_with fail
  go_loopw [6, 7] (fun v iv wr => ∃ i : Nat, iv = .int .i64 (i : Int) ∧ i ≤ K ∧ Hid (OwnR wr B0 v (wantG (ss.take K) F i)) ∧ Hid (Below B0 w1 wr)) (fun _ iv _ => K - (intOf iv).toNat)
  case atStart => exact ⟨0, rfl, Nat.zero_le _, OwnR.nil _ _, HB00.out⟩
  case round =>
    obtain ⟨i, rfl, hi, HO, HB⟩ := hrel
    by_cases hlt : i < K
    · have HIK : Hid (i < K) := hlt
      have g4 : (i : Int) < (K : Int) := by omega
      have i8 : (i : Int) ≤ 255 := by omega
      have i0 : (0 : Int) ≤ (i : Int) := by omega
      have hbw := (HBW.out _ HB.out).1
      have HJ : Hid (Calls Tryd.prog 5 #[.slice a K c, .int .u8 (i : Int)] wr fun e w' => (∃ a' c', e = .returned (.slice a' F c') ∧ F ≤ c' ∧ Row w' a' F (joinedL (ss.take K) i F) ∧ OwnL w' wr.heap.size (.slice a' F c') (joinedL (ss.take K) i F)) ∧ Below wr.heap.size wr w') :=
        rjoined_own a K c (ss.take K) i F wr (HTK.out _ hbw) hKc (by omega) (by omega) (by omega) HLF.out hF47 HND.out
      have HSC : Hid (wantG (ss.take K) F i ++ [joinedL (ss.take K) i F] = wantG (ss.take K) F (i + 1)) := wantG_succ _ _ _
      have HWL : Hid ((wantG (ss.take K) F i).length = i) := wantG_length _ _ _
      obtain ⟨J, hJ⟩ : ∃ J, joinedL (ss.take K) i F = J := ⟨_, rfl⟩
      obtain ⟨U, hU⟩ : ∃ U, wantG (ss.take K) F i = U := ⟨_, rfl⟩
      rw [hJ] at HJ HSC
      rw [hU] at HSC HWL HO
      clear hJ hU hbw hlt hi
      go_wp2_with fail
      refine HJ.out.mono ?_
      rintro r w5 ⟨⟨a', c', rfl, hc', rJ, oJ⟩, hb5⟩
      have HDR : Hid (DatR w5 (a', F, c') J) := ⟨hc', hF47, rJ⟩
      have HAP : Hid (ApartR (a', F, c') u6.ownBlock) := by
        rcases rJ.2 with h0 | ⟨b', o', e, hcc⟩
        · exact .inl h0
        · by_cases h0 : F = 0
          · exact .inl h0
          · refine .inr fun ad e2 e3 => ?_
            have e2' : a' = some ad := e2
            rw [e] at e2'
            cases e2'
            have l2 := (HO.out.lt _ e3).2
            have l1 := (World.ownsRow.lt oJ b' (by rw [e]; rfl)).1
            simp only at l2
            omega
      have HO5 : Hid (OwnR w5 B0 u6 U) := HO.out.below hb5
      have HB5 : Hid (Below B0 w1 w5) := HB.out.trans (hb5.mono (HBW.out _ HB.out).2)
      clear hb5 rJ oJ hc' HJ HO
      go_wp2_with (at_builtin; refine wpList_append_rowB (by rfl) (.tmp 35) (.tmp 42) (by rfl) B0 u6 U (by rfl) (OwnR.alloc HO5.out _) w5.heap.size 0 1 (a', F, c') J (by rfl) (lit_row w5 (a', F, c') _) (HDR.out.below ((Below.refl _ _).alloc (Nat.le_refl _) _)) HAP.out (by rw [HWL.out]; have := HIK.out; omega) (by have := (HBW.out _ HB5.out).2; simp; omega) ?_; intro v7 w7 ho7 hg7 ha7)
      have q7 : OwnR w7 B0 v7 (wantG (ss.take K) F (i + 1)) := by rw [← HSC.out]; exact ho7
      have B7 := OwnR.grown (OwnR.alloc HO5.out _) (HB5.out.alloc (HBW.out _ HB5.out).2 _) hg7 (Nat.le_refl _) (by have := (HBW.out _ HB5.out).2; simp; omega)
      have hik := HIK.out
      go_roundw
      case rel => exact ⟨i + 1, by go_num, by omega, q7, B7⟩
      case measure => simp [intOf]; omega
    · have hin : i = K := by omega
      subst hin
      have g2 : ¬ (i : Int) < (i : Int) := by omega
      obtain ⟨aw, cw, hu, rw6, hcw⟩ := HO.out.form
      rw [wantG_length] at hu rw6 hcw
      subst hu
      have HRW : Hid (BRowsB wr aw i (wantG (ss.take i) F i)) := rw6
      have HBr : Hid (Below w.heap.size w wr) := (HBW.out _ HB.out).1
      clear rw6 hlt HO
      go_wp2_with fail
      refine (wcode_gather a n c i ss wr (HALL.out _ HBr.out).1 (HALL.out _ HBr.out).2.2 hc (by omega) HE.out).mono ?_
      rintro r w3 ⟨⟨ag, cg, rows, rfl, hcg, rg, pg⟩, hb3⟩
      have hrw := gather_want hK1 (by rw [HLN.out]; exact hKn) (by omega) (fun s hs => HPL.out s (List.mem_of_mem_take hs)) HND.out HFE.out pg
      subst hrw
      have HBw3 : Hid (Below w.heap.size w w3) := HBr.out.trans (hb3.mono HBr.out.size)
      have HGOT : Hid (BRowsB w3 ag i (wantG (ss.take i) F i)) := rg
      have HWANT : Hid (BRowsB w3 aw i (wantG (ss.take i) F i)) := HRW.out.below hb3
      clear hb3 HRW rg pg HBr HB HBW HE HLF HTK
      generalize wantG (ss.take i) F i = L at *
      go_wp2_with fail
      refine (error_nil 0 w3).mono ?_
      rintro r w31 ⟨rfl, hb1⟩
      rw [show decide ((0 : Int) = 0) = true from decide_eq_true rfl]
      have HB1 : Hid (Below w.heap.size w w31) := HBw3.out.trans (hb1.mono HBw3.out.size)
      have HG1 : Hid (BRowsB w31 ag i L) := HGOT.out.below hb1
      have HW1 : Hid (BRowsB w31 aw i L) := HWANT.out.below hb1
      clear hb1 HGOT HWANT HBw3
      go_wp2_with fail
      refine (rows_same ag i cg L aw i _ L w31 HG1.out HW1.out hcg hcw (by omega)).mono ?_
      rintro r w32 ⟨rfl, hb2⟩
      rw [show decide (L = L) = true from decide_eq_true rfl]
      have HB2 : Hid (Below w.heap.size w w32) := HB1.out.trans (hb2.mono HB1.out.size)
      clear hb2 HG1 HW1 HB1
      go_wp2_with fail
      go_ret
      exact ⟨rfl, HB2.out⟩
end Go.Proofs.YtnffmegicgbinabDoor
