/- The law CodeSpreads: what rows are, spread, is what the document says. -/
import Derived.Test.YtnffmegicgbinaaDoorJ13
import Derived.Test.YtnffmegicgbinaaDoorJ14
import Derived.Test.YtnffmegicgbinaaDoorJ15
import Derived.Test.YtnffmegicgbinaaDoorJ10
import Derived.Test.YtnffmegicgbinaaDoorJ16
import Derived.Deep.DeepCutAuto
import Derived.Deep.RegionHeld3
namespace Go.Proofs.YtnffmegicgbinaaDoor
open Go.RowKit
set_option linter.unusedVariables false
set_option linter.unusedSimpArgs false

set_option maxRecDepth 100000 in
set_option maxHeartbeats 2000000 in
theorem cspr_walk (a : Option Addr) (n c : Nat) (ls : List (List UInt8)) (N : Int) (w : World) (G : Env w) (HH : Handle w) (R : BRowsB w a n ls) (hc : n ≤ c) (hn : 24 * n ≤ 140737488351232) (k1 : -9223372036854775808 ≤ N) (k2 : N ≤ 9223372036854775807) :
    Calls Tryd.prog 5 #[.slice a n c, .int .i64 N] w fun r w' => r = .returned (.bool true) ∧ Below w.heap.size w w' := by
  have HALL : Hid (∀ wx, Below w.heap.size w wx → Env wx ∧ Handle wx ∧ BRowsB wx a n ls) := fun wx hx => ⟨G.below hx, HH.below hx, R.below hx⟩
  have HLN : Hid (ls.length = n) := R.1.1
  have HB0 : Hid (Below w.heap.size w w) := Below.refl _ _
  obtain ⟨F, hF⟩ : ∃ F, (ls.getD 0 []).length = F := ⟨_, rfl⟩
  have HF : Hid ((ls.getD 0 []).length = F) := hF
  clear G HH R hF
  go_enter Tryd.func5, Tryd.ntmps5
  go_upto_region 2 with fail
  go_cut [27] (fun bv wq => bv = .bool (decide (n < 1 ∨ N < (n : Int) ∨ 20 < N)) ∧ Hid (wq = w))
  case first =>
    by_cases c1 : n < 1
    · have g1 : (n : Int) < 1 := by omega
      go_wp2_with fail
      go_meet
      case rel => exact ⟨by rw [decide_eq_true (.inl c1)], rfl⟩
    have g1 : ¬ (n : Int) < 1 := by omega
    by_cases c2 : N < (n : Int)
    · go_wp2_with fail
      go_meet
      case rel => exact ⟨by rw [decide_eq_true (.inr (.inl c2))], rfl⟩
    by_cases c3 : 20 < N
    · go_wp2_with fail
      go_meet
      case rel => exact ⟨by rw [decide_eq_true (.inr (.inr c3))], rfl⟩
    go_wp2_with fail
    go_meet
    case rel => exact ⟨by rw [decide_eq_false (by omega)], rfl⟩
  case rest =>
  obtain ⟨rfl, hwc⟩ := hcut
  have hwc' : w = wc := hwc.out.symm
  subst hwc'
  go_upto_if 27 with fail
  go_cut [5] (fun ev wq => ∃ e : Int, ev = .int .i64 e ∧ 0 ≤ e ∧ e ≤ 4 ∧ Hid (e ≠ 0 → spreadE ls N = e) ∧ Hid (e = 0 → 1 ≤ n ∧ (n : Int) ≤ N ∧ N ≤ 20 ∧ F ≤ 100) ∧ Hid (wq = w))
  case first =>
    by_cases hQ : n < 1 ∨ N < (n : Int) ∨ 20 < N
    · rw [decide_eq_true hQ]
      have HQ : Hid (spreadE ls N = 2) := if_pos (by rw [HLN.out]; exact hQ)
      clear hQ
      go_wp2_with fail
      go_meet
      case rel => exact ⟨2, rfl, by omega, by omega, fun _ => HQ.out, fun h => absurd h (by omega), rfl⟩
    rw [decide_eq_false hQ]
    have HQ : Hid (spreadE ls N = if 100 < (ls.getD 0 []).length then 4 else if ∀ l ∈ ls, l.length = (ls.getD 0 []).length then 0 else 3) := if_neg (by rw [HLN.out]; exact hQ)
    have q1 : 1 ≤ n := by omega
    have q2 : (n : Int) ≤ N := by omega
    have q3 : N ≤ 20 := by omega
    have q4 : (0 : Int) < (n : Int) := by omega
    have HQ3 : Hid (1 ≤ n ∧ (n : Int) ≤ N ∧ N ≤ 20) := ⟨q1, q2, q3⟩
    obtain ⟨b, o, ha⟩ := (HALL.out _ HB0.out).2.2.adr (by omega)
    subst ha
    obtain ⟨a0, n0, c0, h0c, h0n, e0, HC0⟩ := (HALL.out _ HB0.out).2.2.hrow 0 (by omega)
    have k0 : w.cell? ⟨b, o, none⟩ = some (.slice a0 n0 c0) := (HC0 w HB0.out).1
    have HN0 : Hid (n0 = F) := by rw [← HF.out]; exact e0
    clear HC0 e0 hQ
    by_cases c4 : 100 < n0
    · have g4 : (100 : Int) < (n0 : Int) := by omega
      have HE4 : Hid (spreadE ls N = 4) := by rw [HQ.out]; exact if_pos (by rw [HF.out, ← HN0.out]; exact c4)
      go_wp2_with fail
      go_meet
      case rel => exact ⟨4, rfl, by omega, by omega, fun _ => HE4.out, fun h => absurd h (by omega), by first | exact True.intro | exact rfl⟩
    · have g4 : ¬ (100 : Int) < (n0 : Int) := by omega
      have HE4 : Hid (F ≤ 100) := by rw [← HN0.out]; exact Nat.le_of_not_lt c4
      go_wp2_with fail
      go_meet
      case rel => exact ⟨0, rfl, by omega, by omega, fun h => absurd rfl h, fun _ => ⟨HQ3.out.1, HQ3.out.2.1, HQ3.out.2.2, HE4.out⟩, by first | exact True.intro | exact rfl⟩
  case rest =>
  obtain ⟨e0, rfl, he0, he4, HEN, HEZ, hwc⟩ := hcut
  have hwc' : w = wc := hwc.out.symm
  subst hwc'
  go_wp2_with fail
  go_loopw [5, 6] (fun ev iv wr => ∃ (e : Int) (i : Nat), ev = .int .i64 e ∧ iv = .int .i64 (i : Int) ∧ i ≤ n ∧ 0 ≤ e ∧ e ≤ 4 ∧ Hid (e ≠ 0 → spreadE ls N = e) ∧ Hid (e = 0 → (1 ≤ n ∧ (n : Int) ≤ N ∧ N ≤ 20 ∧ F ≤ 100) ∧ ∀ j, j < i → (ls.getD j []).length = F) ∧ Hid (Below w.heap.size w wr)) (fun _ iv _ => n - (intOf iv).toNat)
  case atStart => exact ⟨e0, 0, rfl, rfl, Nat.zero_le _, he0, he4, HEN.out, (fun h => ⟨HEZ.out h, fun j hj => by omega⟩), HB0.out⟩
  case round =>
    clear HEN HEZ he0 he4 HB0
    obtain ⟨e, i, rfl, rfl, hi, he0, he4, HEN, HEZ, HB⟩ := hrel
    by_cases hz : e = 0
    rotate_left
    · have HNE : Hid (e ≠ 0) := hz
      have HE : Hid (spreadE ls N = e) := HEN.out hz
      have HBw1 : Hid (Below w.heap.size w wr) := HB.out
      generalize wr = w1 at *
      clear HEN HEZ HB
      by_cases hlt : (i : Int) < (n : Int)
      · clear hi
        go_wp2_with fail
        go_loopw [7, 8] (fun v iv wr => v = .slice none 0 0 ∧ iv = .int .i64 0 ∧ Hid (wr = w1)) (fun _ _ _ => 0)
        case atStart => exact ⟨rfl, rfl, rfl⟩
        case round =>
          obtain ⟨rfl, rfl, HW⟩ := hrel
          have hw : w1 = wr := HW.out.symm
          subst hw
          by_cases gk : (0 : Int) < N
          · go_wp2_with fail
            refine (wcode_spreadout a n c N ls e w1 (HALL.out _ HBw1.out).1 (HALL.out _ HBw1.out).2.2 hc (by omega) k1 k2 HE.out HNE.out).mono ?_
            rintro r w3 ⟨⟨ag, cg, rfl⟩, hb3⟩
            have HBw3 : Hid (Below w.heap.size w w3) := HBw1.out.trans (hb3.mono HBw1.out.size)
            have HGOT : Hid (BRowsB w3 ag 0 ([] : List (List UInt8))) := ⟨⟨rfl, .inl rfl⟩, fun i hi => by omega⟩
            have HWANT : Hid (BRowsB w3 none 0 ([] : List (List UInt8))) := ⟨⟨rfl, .inl rfl⟩, fun i hi => by omega⟩
            clear hb3 HE HBw1
            go_wp2_with fail
            refine (error_errno e e w3 (HALL.out _ HBw3.out).2.1).mono ?_
            rintro r w31 ⟨rfl, hb1⟩
            rw [show decide ((e : Int) = e) = true from decide_eq_true rfl]
            have HB1 : Hid (Below w.heap.size w w31) := HBw3.out.trans (hb1.mono HBw3.out.size)
            have HG1 : Hid (BRowsB w31 ag 0 ([] : List (List UInt8))) := HGOT.out.below hb1
            have HW1 : Hid (BRowsB w31 none 0 ([] : List (List UInt8))) := HWANT.out.below hb1
            clear hb1 HGOT HWANT HBw3
            go_wp2_with fail
            refine (rows_same ag 0 cg ([] : List (List UInt8)) none 0 _ ([] : List (List UInt8)) w31 HG1.out HW1.out (by omega) (by omega) (by omega)).mono ?_
            rintro r w32 ⟨rfl, hb2⟩
            rw [show decide (([] : List (List UInt8)) = ([] : List (List UInt8))) = true from decide_eq_true rfl]
            have HB2 : Hid (Below w.heap.size w w32) := HB1.out.trans (hb2.mono HB1.out.size)
            clear hb2 HG1 HW1 HB1
            go_wp2_with fail
            generalize w32 = x at *
            have HR3 : Hid (BRowsB ((x.alloc (.cells #[.int .u8 7] 5)).alloc (.cells #[.slice (some ⟨x.heap.size, 0, none⟩) 1 1] 22)) (some ⟨x.heap.size + 1, 0, none⟩) 1 [[7]]) := litT_seven x _ _
            have HB3 : Hid (Below w.heap.size w ((x.alloc (.cells #[.int .u8 7] 5)).alloc (.cells #[.slice (some ⟨x.heap.size, 0, none⟩) 1 1] 22))) := (HB2.out.alloc HB2.out.size _).alloc (by have := HB2.out.size; simp; omega) _
            generalize (x.alloc (.cells #[.int .u8 7] 5)).alloc (.cells #[.slice (some ⟨x.heap.size, 0, none⟩) 1 1] 22) = x2 at *
            refine (wcode_spread (some ⟨x.heap.size + 1, 0, none⟩) 1 1 2 [[7]] x2 (HALL.out _ HB3.out).1 HR3.out (Nat.le_refl _) spreadE_seven).mono ?_
            rintro r x5 ⟨⟨a5, c5, rows5, rfl, hc5, r5, p5⟩, hb5⟩
            have hl5 := spread_seven p5
            subst hl5
            obtain ⟨b5, o5, b6, o6, c6, rfl, k5, k6⟩ := two_sevens r5
            have HB5 : Hid (Below w.heap.size w x5) := HB3.out.trans (hb5.mono HB3.out.size)
            clear hb5 r5 p5 HR3 HB3 HB2
            go_wp2_with fail
            go_ret
            exact ⟨rfl, HB5.out⟩
          · go_wp2_with fail
            refine (wcode_spreadout a n c N ls e w1 (HALL.out _ HBw1.out).1 (HALL.out _ HBw1.out).2.2 hc (by omega) k1 k2 HE.out HNE.out).mono ?_
            rintro r w3 ⟨⟨ag, cg, rfl⟩, hb3⟩
            have HBw3 : Hid (Below w.heap.size w w3) := HBw1.out.trans (hb3.mono HBw1.out.size)
            have HGOT : Hid (BRowsB w3 ag 0 ([] : List (List UInt8))) := ⟨⟨rfl, .inl rfl⟩, fun i hi => by omega⟩
            have HWANT : Hid (BRowsB w3 none 0 ([] : List (List UInt8))) := ⟨⟨rfl, .inl rfl⟩, fun i hi => by omega⟩
            clear hb3 HE HBw1
            go_wp2_with fail
            refine (error_errno e e w3 (HALL.out _ HBw3.out).2.1).mono ?_
            rintro r w31 ⟨rfl, hb1⟩
            rw [show decide ((e : Int) = e) = true from decide_eq_true rfl]
            have HB1 : Hid (Below w.heap.size w w31) := HBw3.out.trans (hb1.mono HBw3.out.size)
            have HG1 : Hid (BRowsB w31 ag 0 ([] : List (List UInt8))) := HGOT.out.below hb1
            have HW1 : Hid (BRowsB w31 none 0 ([] : List (List UInt8))) := HWANT.out.below hb1
            clear hb1 HGOT HWANT HBw3
            go_wp2_with fail
            refine (rows_same ag 0 cg ([] : List (List UInt8)) none 0 _ ([] : List (List UInt8)) w31 HG1.out HW1.out (by omega) (by omega) (by omega)).mono ?_
            rintro r w32 ⟨rfl, hb2⟩
            rw [show decide (([] : List (List UInt8)) = ([] : List (List UInt8))) = true from decide_eq_true rfl]
            have HB2 : Hid (Below w.heap.size w w32) := HB1.out.trans (hb2.mono HB1.out.size)
            clear hb2 HG1 HW1 HB1
            go_wp2_with fail
            generalize w32 = x at *
            have HR3 : Hid (BRowsB ((x.alloc (.cells #[.int .u8 7] 5)).alloc (.cells #[.slice (some ⟨x.heap.size, 0, none⟩) 1 1] 22)) (some ⟨x.heap.size + 1, 0, none⟩) 1 [[7]]) := litT_seven x _ _
            have HB3 : Hid (Below w.heap.size w ((x.alloc (.cells #[.int .u8 7] 5)).alloc (.cells #[.slice (some ⟨x.heap.size, 0, none⟩) 1 1] 22))) := (HB2.out.alloc HB2.out.size _).alloc (by have := HB2.out.size; simp; omega) _
            generalize (x.alloc (.cells #[.int .u8 7] 5)).alloc (.cells #[.slice (some ⟨x.heap.size, 0, none⟩) 1 1] 22) = x2 at *
            refine (wcode_spread (some ⟨x.heap.size + 1, 0, none⟩) 1 1 2 [[7]] x2 (HALL.out _ HB3.out).1 HR3.out (Nat.le_refl _) spreadE_seven).mono ?_
            rintro r x5 ⟨⟨a5, c5, rows5, rfl, hc5, r5, p5⟩, hb5⟩
            have hl5 := spread_seven p5
            subst hl5
            obtain ⟨b5, o5, b6, o6, c6, rfl, k5, k6⟩ := two_sevens r5
            have HB5 : Hid (Below w.heap.size w x5) := HB3.out.trans (hb5.mono HB3.out.size)
            clear hb5 r5 p5 HR3 HB3 HB2
            go_wp2_with fail
            go_ret
            exact ⟨rfl, HB5.out⟩
      · clear hi
        go_wp2_with fail
        go_loopw [7, 8] (fun v iv wr => v = .slice none 0 0 ∧ iv = .int .i64 0 ∧ Hid (wr = w1)) (fun _ _ _ => 0)
        case atStart => exact ⟨rfl, rfl, rfl⟩
        case round =>
          obtain ⟨rfl, rfl, HW⟩ := hrel
          have hw : w1 = wr := HW.out.symm
          subst hw
          by_cases gk : (0 : Int) < N
          · go_wp2_with fail
            refine (wcode_spreadout a n c N ls e w1 (HALL.out _ HBw1.out).1 (HALL.out _ HBw1.out).2.2 hc (by omega) k1 k2 HE.out HNE.out).mono ?_
            rintro r w3 ⟨⟨ag, cg, rfl⟩, hb3⟩
            have HBw3 : Hid (Below w.heap.size w w3) := HBw1.out.trans (hb3.mono HBw1.out.size)
            have HGOT : Hid (BRowsB w3 ag 0 ([] : List (List UInt8))) := ⟨⟨rfl, .inl rfl⟩, fun i hi => by omega⟩
            have HWANT : Hid (BRowsB w3 none 0 ([] : List (List UInt8))) := ⟨⟨rfl, .inl rfl⟩, fun i hi => by omega⟩
            clear hb3 HE HBw1
            go_wp2_with fail
            refine (error_errno e e w3 (HALL.out _ HBw3.out).2.1).mono ?_
            rintro r w31 ⟨rfl, hb1⟩
            rw [show decide ((e : Int) = e) = true from decide_eq_true rfl]
            have HB1 : Hid (Below w.heap.size w w31) := HBw3.out.trans (hb1.mono HBw3.out.size)
            have HG1 : Hid (BRowsB w31 ag 0 ([] : List (List UInt8))) := HGOT.out.below hb1
            have HW1 : Hid (BRowsB w31 none 0 ([] : List (List UInt8))) := HWANT.out.below hb1
            clear hb1 HGOT HWANT HBw3
            go_wp2_with fail
            refine (rows_same ag 0 cg ([] : List (List UInt8)) none 0 _ ([] : List (List UInt8)) w31 HG1.out HW1.out (by omega) (by omega) (by omega)).mono ?_
            rintro r w32 ⟨rfl, hb2⟩
            rw [show decide (([] : List (List UInt8)) = ([] : List (List UInt8))) = true from decide_eq_true rfl]
            have HB2 : Hid (Below w.heap.size w w32) := HB1.out.trans (hb2.mono HB1.out.size)
            clear hb2 HG1 HW1 HB1
            go_wp2_with fail
            generalize w32 = x at *
            have HR3 : Hid (BRowsB ((x.alloc (.cells #[.int .u8 7] 5)).alloc (.cells #[.slice (some ⟨x.heap.size, 0, none⟩) 1 1] 22)) (some ⟨x.heap.size + 1, 0, none⟩) 1 [[7]]) := litT_seven x _ _
            have HB3 : Hid (Below w.heap.size w ((x.alloc (.cells #[.int .u8 7] 5)).alloc (.cells #[.slice (some ⟨x.heap.size, 0, none⟩) 1 1] 22))) := (HB2.out.alloc HB2.out.size _).alloc (by have := HB2.out.size; simp; omega) _
            generalize (x.alloc (.cells #[.int .u8 7] 5)).alloc (.cells #[.slice (some ⟨x.heap.size, 0, none⟩) 1 1] 22) = x2 at *
            refine (wcode_spread (some ⟨x.heap.size + 1, 0, none⟩) 1 1 2 [[7]] x2 (HALL.out _ HB3.out).1 HR3.out (Nat.le_refl _) spreadE_seven).mono ?_
            rintro r x5 ⟨⟨a5, c5, rows5, rfl, hc5, r5, p5⟩, hb5⟩
            have hl5 := spread_seven p5
            subst hl5
            obtain ⟨b5, o5, b6, o6, c6, rfl, k5, k6⟩ := two_sevens r5
            have HB5 : Hid (Below w.heap.size w x5) := HB3.out.trans (hb5.mono HB3.out.size)
            clear hb5 r5 p5 HR3 HB3 HB2
            go_wp2_with fail
            go_ret
            exact ⟨rfl, HB5.out⟩
          · go_wp2_with fail
            refine (wcode_spreadout a n c N ls e w1 (HALL.out _ HBw1.out).1 (HALL.out _ HBw1.out).2.2 hc (by omega) k1 k2 HE.out HNE.out).mono ?_
            rintro r w3 ⟨⟨ag, cg, rfl⟩, hb3⟩
            have HBw3 : Hid (Below w.heap.size w w3) := HBw1.out.trans (hb3.mono HBw1.out.size)
            have HGOT : Hid (BRowsB w3 ag 0 ([] : List (List UInt8))) := ⟨⟨rfl, .inl rfl⟩, fun i hi => by omega⟩
            have HWANT : Hid (BRowsB w3 none 0 ([] : List (List UInt8))) := ⟨⟨rfl, .inl rfl⟩, fun i hi => by omega⟩
            clear hb3 HE HBw1
            go_wp2_with fail
            refine (error_errno e e w3 (HALL.out _ HBw3.out).2.1).mono ?_
            rintro r w31 ⟨rfl, hb1⟩
            rw [show decide ((e : Int) = e) = true from decide_eq_true rfl]
            have HB1 : Hid (Below w.heap.size w w31) := HBw3.out.trans (hb1.mono HBw3.out.size)
            have HG1 : Hid (BRowsB w31 ag 0 ([] : List (List UInt8))) := HGOT.out.below hb1
            have HW1 : Hid (BRowsB w31 none 0 ([] : List (List UInt8))) := HWANT.out.below hb1
            clear hb1 HGOT HWANT HBw3
            go_wp2_with fail
            refine (rows_same ag 0 cg ([] : List (List UInt8)) none 0 _ ([] : List (List UInt8)) w31 HG1.out HW1.out (by omega) (by omega) (by omega)).mono ?_
            rintro r w32 ⟨rfl, hb2⟩
            rw [show decide (([] : List (List UInt8)) = ([] : List (List UInt8))) = true from decide_eq_true rfl]
            have HB2 : Hid (Below w.heap.size w w32) := HB1.out.trans (hb2.mono HB1.out.size)
            clear hb2 HG1 HW1 HB1
            go_wp2_with fail
            generalize w32 = x at *
            have HR3 : Hid (BRowsB ((x.alloc (.cells #[.int .u8 7] 5)).alloc (.cells #[.slice (some ⟨x.heap.size, 0, none⟩) 1 1] 22)) (some ⟨x.heap.size + 1, 0, none⟩) 1 [[7]]) := litT_seven x _ _
            have HB3 : Hid (Below w.heap.size w ((x.alloc (.cells #[.int .u8 7] 5)).alloc (.cells #[.slice (some ⟨x.heap.size, 0, none⟩) 1 1] 22))) := (HB2.out.alloc HB2.out.size _).alloc (by have := HB2.out.size; simp; omega) _
            generalize (x.alloc (.cells #[.int .u8 7] 5)).alloc (.cells #[.slice (some ⟨x.heap.size, 0, none⟩) 1 1] 22) = x2 at *
            refine (wcode_spread (some ⟨x.heap.size + 1, 0, none⟩) 1 1 2 [[7]] x2 (HALL.out _ HB3.out).1 HR3.out (Nat.le_refl _) spreadE_seven).mono ?_
            rintro r x5 ⟨⟨a5, c5, rows5, rfl, hc5, r5, p5⟩, hb5⟩
            have hl5 := spread_seven p5
            subst hl5
            obtain ⟨b5, o5, b6, o6, c6, rfl, k5, k6⟩ := two_sevens r5
            have HB5 : Hid (Below w.heap.size w x5) := HB3.out.trans (hb5.mono HB3.out.size)
            clear hb5 r5 p5 HR3 HB3 HB2
            go_wp2_with fail
            go_ret
            exact ⟨rfl, HB5.out⟩
    subst hz
    have HG := HEZ.out rfl
    have HGD : Hid (1 ≤ n ∧ (n : Int) ≤ N ∧ N ≤ 20 ∧ F ≤ 100) := HG.1
    have HJ : Hid (∀ j, j < i → (ls.getD j []).length = F) := HG.2
    clear HG HEN HEZ he0 he4
    by_cases hlt : i < n
    · have HIN : Hid (i < n) := hlt
      have i0 : (0 : Int) ≤ (i : Int) := by omega
      have i1 : (i : Int) < (n : Int) := by omega
      have q4 : (0 : Int) < (n : Int) := by omega
      obtain ⟨b, o, ha⟩ := (HALL.out _ HB.out).2.2.adr (by omega)
      subst ha
      obtain ⟨a0, n0, c0, h0c, h0n, e0', HC0⟩ := (HALL.out _ HB.out).2.2.hrow 0 (by omega)
      obtain ⟨ai, ni, ci, hci, hni, ei, HC⟩ := (HALL.out _ HB.out).2.2.hrow i hlt
      have HN0 : Hid (n0 = F) := by rw [← HF.out]; exact e0'
      have HNI : Hid (ni = (ls.getD i []).length) := ei
      have HCI : Hid (∀ wx, Below wr.heap.size wr wx → wx.cell? ⟨b, o + i, none⟩ = some (.slice ai ni ci) ∧ wx.cell? ⟨b, o, none⟩ = some (.slice a0 n0 c0)) := fun wx hx => ⟨(HC wx hx).1, (HC0 wx hx).1⟩
      clear HC HC0 e0' ei hlt hi
      by_cases ce : ni = n0
      · have HJ2 : Hid (∀ j, j < i + 1 → (ls.getD j []).length = F) := fun j hj => by
          by_cases e : j = i
          · rw [e, ← HNI.out, ce, HN0.out]
          · exact HJ.out j (by omega)
        have HPN : Hid ((ni : Int) = (n0 : Int)) := by rw [ce]; rfl
        clear ce
        go_upto_region 9 with fail
        try simp only [Act.put, List.setIfInBounds_toArray, List.set_cons_zero, List.set_cons_succ]
        refine wp_region_noPanic ?_
        refine wp_region_held_drew (S := fun wx => wx.cell? ⟨b, o + i, none⟩ = some (.slice ai ni ci) ∧ wx.cell? ⟨b, o, none⟩ = some (.slice a0 n0 c0)) (by kernel_rfl) (HCI.out _ (below_drewN wr 1)) (fun hHeld => ?_)
        try simp only [Act.put, List.setIfInBounds_toArray, List.set_cons_zero, List.set_cons_succ]
        have HBd : Hid (Below wr.heap.size wr wr.drew) := below_drewN wr 1
        generalize wr.drew = wd at *
        refine wpAnyH_take (i := 0) (v := .slice (some ⟨b, o, none⟩) n c) (by simp only [List.getElem?_toArray, List.getElem?_cons_zero, List.getElem?_cons_succ]; rfl) (by kernel_rfl) (by kernel_rfl) (by kernel_rfl) (fun _ _ _ h => h) (Or.inl ⟨by rfl, ?_⟩) hHeld ?_
        · intro w hSw
          obtain ⟨hSw0, hSw1⟩ := hSw
          go_simp
        try simp only [Act.put, List.setIfInBounds_toArray, List.set_cons_zero, List.set_cons_succ]
        refine wpAnyH_take (i := 1) (v := .int .i64 (i : Int)) (by simp only [List.getElem?_toArray, List.getElem?_cons_zero, List.getElem?_cons_succ]; rfl) (by kernel_rfl) (by kernel_rfl) (by kernel_rfl) (fun _ _ _ h => h) (Or.inl ⟨by rfl, ?_⟩) hHeld ?_
        · intro w hSw
          obtain ⟨hSw0, hSw1⟩ := hSw
          go_simp
        try simp only [Act.put, List.setIfInBounds_toArray, List.set_cons_zero, List.set_cons_succ]
        refine wpAnyH_take (i := 2) (v := .pointer (some ⟨b, o + i, none⟩)) (by simp only [List.getElem?_toArray, List.getElem?_cons_zero, List.getElem?_cons_succ]; rfl) (by kernel_rfl) (by kernel_rfl) (by kernel_rfl) (fun _ _ _ h => h) (Or.inl ⟨by rfl, ?_⟩) hHeld ?_
        · intro w hSw
          obtain ⟨hSw0, hSw1⟩ := hSw
          go_simp
        try simp only [Act.put, List.setIfInBounds_toArray, List.set_cons_zero, List.set_cons_succ]
        refine wpAnyH_take (i := 3) (v := .slice ai ni ci) (by simp only [List.getElem?_toArray, List.getElem?_cons_zero, List.getElem?_cons_succ]; rfl) (by kernel_rfl) (by kernel_rfl) (by kernel_rfl) (fun _ _ _ h => h) (Or.inl ⟨by rfl, ?_⟩) hHeld ?_
        · intro w hSw
          obtain ⟨hSw0, hSw1⟩ := hSw
          go_simp
        try simp only [Act.put, List.setIfInBounds_toArray, List.set_cons_zero, List.set_cons_succ]
        refine wpAnyH_take (i := 4) (v := .int .i64 (ni : Int)) (by simp only [List.getElem?_toArray, List.getElem?_cons_zero, List.getElem?_cons_succ]; rfl) (by kernel_rfl) (by kernel_rfl) (by kernel_rfl) (fun _ _ _ h => h) (Or.inl ⟨by rfl, ?_⟩) hHeld ?_
        · intro w hSw
          obtain ⟨hSw0, hSw1⟩ := hSw
          go_simp
        try simp only [Act.put, List.setIfInBounds_toArray, List.set_cons_zero, List.set_cons_succ]
        refine wpAnyH_take (i := 5) (v := .slice (some ⟨b, o, none⟩) n c) (by simp only [List.getElem?_toArray, List.getElem?_cons_zero, List.getElem?_cons_succ]; rfl) (by kernel_rfl) (by kernel_rfl) (by kernel_rfl) (fun _ _ _ h => h) (Or.inl ⟨by rfl, ?_⟩) hHeld ?_
        · intro w hSw
          obtain ⟨hSw0, hSw1⟩ := hSw
          go_simp
        try simp only [Act.put, List.setIfInBounds_toArray, List.set_cons_zero, List.set_cons_succ]
        refine wpAnyH_take (i := 6) (v := .pointer (some ⟨b, o, none⟩)) (by simp only [List.getElem?_toArray, List.getElem?_cons_zero, List.getElem?_cons_succ]; rfl) (by kernel_rfl) (by kernel_rfl) (by kernel_rfl) (fun _ _ _ h => h) (Or.inl ⟨by rfl, ?_⟩) hHeld ?_
        · intro w hSw
          obtain ⟨hSw0, hSw1⟩ := hSw
          go_simp
          intro h0
          omega
        try simp only [Act.put, List.setIfInBounds_toArray, List.set_cons_zero, List.set_cons_succ]
        refine wpAnyH_take (i := 7) (v := .slice a0 n0 c0) (by simp only [List.getElem?_toArray, List.getElem?_cons_zero, List.getElem?_cons_succ]; rfl) (by kernel_rfl) (by kernel_rfl) (by kernel_rfl) (fun _ _ _ h => h) (Or.inl ⟨by rfl, ?_⟩) hHeld ?_
        · intro w hSw
          obtain ⟨hSw0, hSw1⟩ := hSw
          go_simp
        try simp only [Act.put, List.setIfInBounds_toArray, List.set_cons_zero, List.set_cons_succ]
        refine wpAnyH_take (i := 8) (v := .int .i64 (n0 : Int)) (by simp only [List.getElem?_toArray, List.getElem?_cons_zero, List.getElem?_cons_succ]; rfl) (by kernel_rfl) (by kernel_rfl) (by kernel_rfl) (fun _ _ _ h => h) (Or.inl ⟨by rfl, ?_⟩) hHeld ?_
        · intro w hSw
          obtain ⟨hSw0, hSw1⟩ := hSw
          go_simp
        try simp only [Act.put, List.setIfInBounds_toArray, List.set_cons_zero, List.set_cons_succ]
        refine wpAnyH_take (i := 9) (v := .bool false) (by simp only [List.getElem?_toArray, List.getElem?_cons_zero, List.getElem?_cons_succ]; rfl) (by kernel_rfl) (by kernel_rfl) (by kernel_rfl) (fun _ _ _ h => h) (Or.inl ⟨by rfl, ?_⟩) hHeld ?_
        · intro w hSw
          obtain ⟨hSw0, hSw1⟩ := hSw
          go_simp
          exact HPN.out
        try simp only [Act.put, List.setIfInBounds_toArray, List.set_cons_zero, List.set_cons_succ]
        refine wpAnyH_done (by kernel_rfl) (NoPanic.normal ?_) _
        clear hHeld
        go_wp2_with fail
        go_roundw
        case rel => exact ⟨0, i + 1, rfl, by go_num, HIN.out, by omega, by omega, (fun h => absurd rfl h), (fun _ => ⟨HGD.out, HJ2.out⟩), HB.out.trans (HBd.out.mono HB.out.size)⟩
        case measure => have := HIN.out; simp [intOf]; omega
      · have HE3 : Hid (spreadE ls N = 3) := by
          have g := HGD.out
          have l := HLN.out
          have f := HF.out
          unfold Hid spreadE
          rw [if_neg (by omega), if_neg (by omega)]
          refine if_neg fun q => ce ?_
          rw [HNI.out, HN0.out, ← f]
          refine q _ ?_
          rw [List.getD_eq_getElem?_getD, List.getElem?_eq_getElem (by rw [l]; exact HIN.out)]
          exact List.getElem_mem _
        have HPN : Hid (¬ (ni : Int) = (n0 : Int)) := by unfold Hid; omega
        clear ce
        go_upto_region 9 with fail
        try simp only [Act.put, List.setIfInBounds_toArray, List.set_cons_zero, List.set_cons_succ]
        refine wp_region_noPanic ?_
        refine wp_region_held_drew (S := fun wx => wx.cell? ⟨b, o + i, none⟩ = some (.slice ai ni ci) ∧ wx.cell? ⟨b, o, none⟩ = some (.slice a0 n0 c0)) (by kernel_rfl) (HCI.out _ (below_drewN wr 1)) (fun hHeld => ?_)
        try simp only [Act.put, List.setIfInBounds_toArray, List.set_cons_zero, List.set_cons_succ]
        have HBd : Hid (Below wr.heap.size wr wr.drew) := below_drewN wr 1
        generalize wr.drew = wd at *
        refine wpAnyH_take (i := 0) (v := .slice (some ⟨b, o, none⟩) n c) (by simp only [List.getElem?_toArray, List.getElem?_cons_zero, List.getElem?_cons_succ]; rfl) (by kernel_rfl) (by kernel_rfl) (by kernel_rfl) (fun _ _ _ h => h) (Or.inl ⟨by rfl, ?_⟩) hHeld ?_
        · intro w hSw
          obtain ⟨hSw0, hSw1⟩ := hSw
          go_simp
        try simp only [Act.put, List.setIfInBounds_toArray, List.set_cons_zero, List.set_cons_succ]
        refine wpAnyH_take (i := 1) (v := .int .i64 (i : Int)) (by simp only [List.getElem?_toArray, List.getElem?_cons_zero, List.getElem?_cons_succ]; rfl) (by kernel_rfl) (by kernel_rfl) (by kernel_rfl) (fun _ _ _ h => h) (Or.inl ⟨by rfl, ?_⟩) hHeld ?_
        · intro w hSw
          obtain ⟨hSw0, hSw1⟩ := hSw
          go_simp
        try simp only [Act.put, List.setIfInBounds_toArray, List.set_cons_zero, List.set_cons_succ]
        refine wpAnyH_take (i := 2) (v := .pointer (some ⟨b, o + i, none⟩)) (by simp only [List.getElem?_toArray, List.getElem?_cons_zero, List.getElem?_cons_succ]; rfl) (by kernel_rfl) (by kernel_rfl) (by kernel_rfl) (fun _ _ _ h => h) (Or.inl ⟨by rfl, ?_⟩) hHeld ?_
        · intro w hSw
          obtain ⟨hSw0, hSw1⟩ := hSw
          go_simp
        try simp only [Act.put, List.setIfInBounds_toArray, List.set_cons_zero, List.set_cons_succ]
        refine wpAnyH_take (i := 3) (v := .slice ai ni ci) (by simp only [List.getElem?_toArray, List.getElem?_cons_zero, List.getElem?_cons_succ]; rfl) (by kernel_rfl) (by kernel_rfl) (by kernel_rfl) (fun _ _ _ h => h) (Or.inl ⟨by rfl, ?_⟩) hHeld ?_
        · intro w hSw
          obtain ⟨hSw0, hSw1⟩ := hSw
          go_simp
        try simp only [Act.put, List.setIfInBounds_toArray, List.set_cons_zero, List.set_cons_succ]
        refine wpAnyH_take (i := 4) (v := .int .i64 (ni : Int)) (by simp only [List.getElem?_toArray, List.getElem?_cons_zero, List.getElem?_cons_succ]; rfl) (by kernel_rfl) (by kernel_rfl) (by kernel_rfl) (fun _ _ _ h => h) (Or.inl ⟨by rfl, ?_⟩) hHeld ?_
        · intro w hSw
          obtain ⟨hSw0, hSw1⟩ := hSw
          go_simp
        try simp only [Act.put, List.setIfInBounds_toArray, List.set_cons_zero, List.set_cons_succ]
        refine wpAnyH_take (i := 5) (v := .slice (some ⟨b, o, none⟩) n c) (by simp only [List.getElem?_toArray, List.getElem?_cons_zero, List.getElem?_cons_succ]; rfl) (by kernel_rfl) (by kernel_rfl) (by kernel_rfl) (fun _ _ _ h => h) (Or.inl ⟨by rfl, ?_⟩) hHeld ?_
        · intro w hSw
          obtain ⟨hSw0, hSw1⟩ := hSw
          go_simp
        try simp only [Act.put, List.setIfInBounds_toArray, List.set_cons_zero, List.set_cons_succ]
        refine wpAnyH_take (i := 6) (v := .pointer (some ⟨b, o, none⟩)) (by simp only [List.getElem?_toArray, List.getElem?_cons_zero, List.getElem?_cons_succ]; rfl) (by kernel_rfl) (by kernel_rfl) (by kernel_rfl) (fun _ _ _ h => h) (Or.inl ⟨by rfl, ?_⟩) hHeld ?_
        · intro w hSw
          obtain ⟨hSw0, hSw1⟩ := hSw
          go_simp
          intro h0
          omega
        try simp only [Act.put, List.setIfInBounds_toArray, List.set_cons_zero, List.set_cons_succ]
        refine wpAnyH_take (i := 7) (v := .slice a0 n0 c0) (by simp only [List.getElem?_toArray, List.getElem?_cons_zero, List.getElem?_cons_succ]; rfl) (by kernel_rfl) (by kernel_rfl) (by kernel_rfl) (fun _ _ _ h => h) (Or.inl ⟨by rfl, ?_⟩) hHeld ?_
        · intro w hSw
          obtain ⟨hSw0, hSw1⟩ := hSw
          go_simp
        try simp only [Act.put, List.setIfInBounds_toArray, List.set_cons_zero, List.set_cons_succ]
        refine wpAnyH_take (i := 8) (v := .int .i64 (n0 : Int)) (by simp only [List.getElem?_toArray, List.getElem?_cons_zero, List.getElem?_cons_succ]; rfl) (by kernel_rfl) (by kernel_rfl) (by kernel_rfl) (fun _ _ _ h => h) (Or.inl ⟨by rfl, ?_⟩) hHeld ?_
        · intro w hSw
          obtain ⟨hSw0, hSw1⟩ := hSw
          go_simp
        try simp only [Act.put, List.setIfInBounds_toArray, List.set_cons_zero, List.set_cons_succ]
        refine wpAnyH_take (i := 9) (v := .bool true) (by simp only [List.getElem?_toArray, List.getElem?_cons_zero, List.getElem?_cons_succ]; rfl) (by kernel_rfl) (by kernel_rfl) (by kernel_rfl) (fun _ _ _ h => h) (Or.inl ⟨by rfl, ?_⟩) hHeld ?_
        · intro w hSw
          obtain ⟨hSw0, hSw1⟩ := hSw
          go_simp
          exact HPN.out
        try simp only [Act.put, List.setIfInBounds_toArray, List.set_cons_zero, List.set_cons_succ]
        refine wpAnyH_done (by kernel_rfl) (NoPanic.normal ?_) _
        clear hHeld
        go_wp2_with fail
        go_roundw
        case rel => exact ⟨3, i + 1, rfl, by go_num, HIN.out, by omega, by omega, (fun _ => HE3.out), (fun h => absurd h (by omega)), HB.out.trans (HBd.out.mono HB.out.size)⟩
        case measure => have := HIN.out; simp [intOf]; omega
    have hin : i = n := by omega
    subst hin
    obtain ⟨q1, q2, q3, hF100⟩ := HGD.out
    obtain ⟨M, hM⟩ : ∃ M : Nat, N = (M : Int) := ⟨N.toNat, by omega⟩
    subst hM
    have hiM : i ≤ M := by omega
    have hM20 : M ≤ 20 := by omega
    have g9 : ¬ (i : Int) < (i : Int) := by omega
    have HALF : Hid (∀ l ∈ ls, l.length = F) := fun l hl => by
      obtain ⟨j, hj, rfl⟩ := List.mem_iff_getElem.1 hl
      have := HJ.out j (by rw [← HLN.out]; exact hj)
      rw [List.getD_eq_getElem?_getD, List.getElem?_eq_getElem hj] at this
      exact this
    have HE : Hid (spreadE ls (M : Int) = 0) := by
      have l := HLN.out
      have f := HF.out
      unfold Hid spreadE
      rw [if_neg (by omega), if_neg (by omega)]
      exact if_pos fun l hl => by rw [f]; exact HALF.out l hl
    have HB1 : Hid (Below w.heap.size w wr) := HB.out
    generalize wr = w1 at *
    clear HB HJ hi hlt
    obtain ⟨B0, hB0⟩ : ∃ B0, w1.heap.size = B0 := ⟨_, rfl⟩
    have HB00 : Hid (Below B0 w1 w1) := Below.refl _ _
    have HBW : Hid (∀ wx, Below B0 w1 wx → Below w.heap.size w wx ∧ B0 ≤ wx.heap.size ∧ w.heap.size ≤ B0) := fun wx hx => ⟨HB1.out.trans (hx.mono (by have := HB1.out.size; omega)), by have := hx.size; omega, by have := HB1.out.size; omega⟩
    have HB00w : Hid (Below w.heap.size w w) := Below.refl _ _
    clear hB0
    go_wp2_with fail
    go_loopw [7, 8] (fun v kv wr => ∃ k : Nat, kv = .int .i64 (k : Int) ∧ k ≤ M ∧ Hid (OwnR wr B0 v (wantS ls F k)) ∧ Hid (Below B0 w1 wr)) (fun _ kv _ => M - (intOf kv).toNat)
    case atStart => exact ⟨0, rfl, Nat.zero_le _, OwnR.nil _ _, HB00.out⟩
    case round =>
      obtain ⟨k, rfl, hk, HO, HB⟩ := hrel
      have hbw := (HBW.out _ HB.out).1
      by_cases hlt : k < M
      · have HKM : Hid (k < M) := hlt
        have g4 : (k : Int) < (M : Int) := by omega
        have j0 : (0 : Int) ≤ (k : Int) := by omega
        have HWL : Hid ((wantS ls F k).length = k) := wantS_length _ _ _
        by_cases hki : k < i
        · have j1 : (k : Int) < (i : Int) := by omega
          obtain ⟨b, o, ha⟩ := (HALL.out _ hbw).2.2.adr (by omega)
          subst ha
          obtain ⟨ai, ni, ci, hci, hni, ei, HC⟩ := (HALL.out _ HB00w.out).2.2.hrow k hki
          have k0 : wr.cell? ⟨b, o + k, none⟩ = some (.slice ai ni ci) := (HC wr hbw).1
          obtain ⟨t, ht⟩ : ∃ t, ls.getD k [] = t := ⟨_, rfl⟩
          have hsc := wantS_succ1 (ls := ls) (F := F) (i := k) (by rw [HLN.out]; exact hki)
          rw [ht] at hsc
          have HSC : Hid (wantS ls F k ++ [t] = wantS ls F (k + 1)) := hsc
          have HDR : Hid (DatR wr (ai, ni, ci) t) := ⟨hci, hni, by rw [← ht]; exact (HC wr hbw).2⟩
          have HAP : Hid (ApartR (ai, ni, ci) u7.ownBlock) := HO.out.old (w0 := w) (l := t) ⟨hci, hni, by rw [← ht]; exact (HC w HB00w.out).2⟩ (HBW.out _ HB.out).2.2
          obtain ⟨U, hU⟩ : ∃ U, wantS ls F k = U := ⟨_, rfl⟩
          rw [hU] at HSC HWL HO
          clear ei HC ht hsc hU hbw hki hlt hk
          go_wp2_with (at_builtin; refine wpList_append_rowB (by rfl) (.tmp 66) (.tmp 71) (by rfl) B0 u7 U (by rfl) (OwnR.alloc HO.out _) wr.heap.size 0 1 (ai, ni, ci) t (by rfl) (lit_row wr (ai, ni, ci) _) (HDR.out.below ((Below.refl _ _).alloc (Nat.le_refl _) _)) HAP.out (by rw [HWL.out]; have := HKM.out; omega) (by have := (HBW.out _ HB.out).2.1; simp; omega) ?_; intro v7 w7 ho7 hg7 ha7)
          have q7 : OwnR w7 B0 v7 (wantS ls F (k + 1)) := by rw [← HSC.out]; exact ho7
          have B7 := OwnR.grown (OwnR.alloc HO.out _) (HB.out.alloc (HBW.out _ HB.out).2.1 _) hg7 (Nat.le_refl _) (by have := (HBW.out _ HB.out).2.1; simp; omega)
          have hkm := HKM.out
          go_roundw
          case rel => exact ⟨k + 1, by go_num, by omega, q7, B7⟩
          case measure => simp [intOf]; omega
        · have j1 : ¬ (k : Int) < (i : Int) := by omega
          have k8 : (k : Int) ≤ 255 := by omega
          have HPC : Hid (Calls Tryd.prog 17 #[.slice a i c] wr fun e w' => (∃ a' c', e = .returned (.slice a' i c') ∧ i ≤ c' ∧ SRow w' a' i (placedL ls)) ∧ Below wr.heap.size wr w') := rplaced_any a i c ls wr (HALL.out _ hbw).2.2 hc (by omega)
          have HSC0 : Hid (wantS ls F k ++ [joinedL (placedL ls) k F] = wantS ls F (k + 1)) := wantS_succ2 (by rw [HLN.out]; omega)
          have HJC : Hid (∀ wx a' c', SRow wx a' i (placedL ls) → i ≤ c' → Calls Tryd.prog 14 #[.slice a' i c', .int .u8 (k : Int)] wx fun e w' => (∃ a1 c1, e = .returned (.slice a1 F c1) ∧ F ≤ c1 ∧ Row w' a1 F (joinedL (placedL ls) k F) ∧ OwnL w' wx.heap.size (.slice a1 F c1) (joinedL (placedL ls) k F)) ∧ Below wx.heap.size wx w') := fun wx a' c' hr hc' =>
            rjoined_own a' i c' (placedL ls) k F wx hr hc' (by omega) (by omega) (by omega) (placedL_len HALF.out) (by omega) (placedL_nodup ls)
          obtain ⟨J, hJ⟩ : ∃ J, joinedL (placedL ls) k F = J := ⟨_, rfl⟩
          obtain ⟨U, hU⟩ : ∃ U, wantS ls F k = U := ⟨_, rfl⟩
          rw [hJ] at HSC0 HJC
          rw [hU] at HSC0 HWL HO
          clear hJ hU hbw hki hlt hk
          go_wp2_with fail
          refine HPC.out.mono ?_
          rintro r w4 ⟨⟨a', c', rfl, hc', rP⟩, hb4⟩
          have HO4 : Hid (OwnR w4 B0 u7 U) := HO.out.below hb4
          have HB4 : Hid (Below B0 w1 w4) := HB.out.trans (hb4.mono (HBW.out _ HB.out).2.1)
          have HJD := HJC.out w4 a' c' rP hc'
          have HJ4 : Hid (Calls Tryd.prog 14 #[.slice a' i c', .int .u8 (k : Int)] w4 fun e w' => (∃ a1 c1, e = .returned (.slice a1 F c1) ∧ F ≤ c1 ∧ Row w' a1 F J ∧ OwnL w' w4.heap.size (.slice a1 F c1) J) ∧ Below w4.heap.size w4 w') := HJD
          clear HJD HPC HJC hb4 rP hc' HO HB
          go_wp2_with fail
          refine HJ4.out.mono ?_
          rintro r w5 ⟨⟨a1, c1, rfl, hc1, rJ, oJ⟩, hb5⟩
          have HDR : Hid (DatR w5 (a1, F, c1) J) := ⟨hc1, by show F ≤ 140737488351232; omega, rJ⟩
          have HAP : Hid (ApartR (a1, F, c1) u7.ownBlock) := by
            rcases rJ.2 with h0 | ⟨b', o', e, hcc⟩
            · exact .inl h0
            · by_cases h0 : F = 0
              · exact .inl h0
              · refine .inr fun ad e2 e3 => ?_
                have e2' : a1 = some ad := e2
                rw [e] at e2'
                cases e2'
                have l2 := (HO4.out.lt _ e3).2
                have l1 := (World.ownsRow.lt oJ b' (by rw [e]; rfl)).1
                simp only at l2
                omega
          have HO5 : Hid (OwnR w5 B0 u7 U) := HO4.out.below hb5
          have HB5 : Hid (Below B0 w1 w5) := HB4.out.trans (hb5.mono (HBW.out _ HB4.out).2.1)
          clear hb5 rJ oJ hc1 HJ4 HO4 HB4
          go_wp2_with (at_builtin; refine wpList_append_rowB (by rfl) (.tmp 73) (.tmp 79) (by rfl) B0 u7 U (by rfl) (OwnR.alloc HO5.out _) w5.heap.size 0 1 (a1, F, c1) J (by rfl) (lit_row w5 (a1, F, c1) _) (HDR.out.below ((Below.refl _ _).alloc (Nat.le_refl _) _)) HAP.out (by rw [HWL.out]; have := HKM.out; omega) (by have := (HBW.out _ HB5.out).2.1; simp; omega) ?_; intro v7 w7 ho7 hg7 ha7)
          have q7 : OwnR w7 B0 v7 (wantS ls F (k + 1)) := by rw [← HSC0.out]; exact ho7
          have B7 := OwnR.grown (OwnR.alloc HO5.out _) (HB5.out.alloc (HBW.out _ HB5.out).2.1 _) hg7 (Nat.le_refl _) (by have := (HBW.out _ HB5.out).2.1; simp; omega)
          have hkm := HKM.out
          go_roundw
          case rel => exact ⟨k + 1, by go_num, by omega, q7, B7⟩
          case measure => simp [intOf]; omega
      · have hkM : k = M := by omega
        subst hkM
        have g2 : ¬ (k : Int) < (k : Int) := by omega
        obtain ⟨aw, cw, hu, rw6, hcw⟩ := HO.out.form
        rw [wantS_length] at hu rw6 hcw
        subst hu
        have HRW : Hid (BRowsB wr aw k (wantS ls F k)) := rw6
        have HBr : Hid (Below w.heap.size w wr) := hbw
        clear rw6 hlt HO hbw
        go_wp2_with fail
        refine (wcode_spread a i c k ls wr (HALL.out _ HBr.out).1 (HALL.out _ HBr.out).2.2 hc HE.out).mono ?_
        rintro r w3 ⟨⟨ag, cg, rows, rfl, hcg, rg, pg⟩, hb3⟩
        have hrw := spread_want (by rw [HLN.out]; exact q1) hM20 (by rw [HLN.out]; exact hiM) pg
        rw [HF.out] at hrw
        subst hrw
        have HBw3 : Hid (Below w.heap.size w w3) := HBr.out.trans (hb3.mono HBr.out.size)
        have HGOT : Hid (BRowsB w3 ag k (wantS ls F k)) := rg
        have HWANT : Hid (BRowsB w3 aw k (wantS ls F k)) := HRW.out.below hb3
        clear hb3 HRW rg pg HBr HB HBW HE HALF
        generalize wantS ls F k = L at *
        go_wp2_with fail
        refine (error_nil 0 w3).mono ?_
        rintro r w31 ⟨rfl, hb1⟩
        rw [show decide ((0 : Int) = 0) = true from decide_eq_true rfl]
        have HB1 : Hid (Below w.heap.size w w31) := HBw3.out.trans (hb1.mono HBw3.out.size)
        have HG1 : Hid (BRowsB w31 ag k L) := HGOT.out.below hb1
        have HW1 : Hid (BRowsB w31 aw k L) := HWANT.out.below hb1
        clear hb1 HGOT HWANT HBw3
        go_wp2_with fail
        refine (rows_same ag k cg L aw k _ L w31 HG1.out HW1.out hcg hcw (by omega)).mono ?_
        rintro r w32 ⟨rfl, hb2⟩
        rw [show decide (L = L) = true from decide_eq_true rfl]
        have HB2 : Hid (Below w.heap.size w w32) := HB1.out.trans (hb2.mono HB1.out.size)
        clear hb2 HG1 HW1 HB1
        go_wp2_with fail
        generalize w32 = x at *
        have HR3 : Hid (BRowsB ((x.alloc (.cells #[.int .u8 7] 5)).alloc (.cells #[.slice (some ⟨x.heap.size, 0, none⟩) 1 1] 22)) (some ⟨x.heap.size + 1, 0, none⟩) 1 [[7]]) := litT_seven x _ _
        have HB3 : Hid (Below w.heap.size w ((x.alloc (.cells #[.int .u8 7] 5)).alloc (.cells #[.slice (some ⟨x.heap.size, 0, none⟩) 1 1] 22))) := (HB2.out.alloc HB2.out.size _).alloc (by have := HB2.out.size; simp; omega) _
        generalize (x.alloc (.cells #[.int .u8 7] 5)).alloc (.cells #[.slice (some ⟨x.heap.size, 0, none⟩) 1 1] 22) = x2 at *
        refine (wcode_spread (some ⟨x.heap.size + 1, 0, none⟩) 1 1 2 [[7]] x2 (HALL.out _ HB3.out).1 HR3.out (Nat.le_refl _) spreadE_seven).mono ?_
        rintro r x5 ⟨⟨a5, c5, rows5, rfl, hc5, r5, p5⟩, hb5⟩
        have hl5 := spread_seven p5
        subst hl5
        obtain ⟨b5, o5, b6, o6, c6, rfl, k5, k6⟩ := two_sevens r5
        have HB5 : Hid (Below w.heap.size w x5) := HB3.out.trans (hb5.mono HB3.out.size)
        clear hb5 r5 p5 HR3 HB3 HB2
        go_wp2_with fail
        go_ret
        exact ⟨rfl, HB5.out⟩
end Go.Proofs.YtnffmegicgbinaaDoor
