/- The contract of sha.spread: a word for each round. -/
import Derived.Test.YtbpkhpkllokbhaaDoorWturn
import Derived.Test.YtbpkhpkllokbhaaDoorWords
import Derived.Deep.QuietTactic
import Derived.BigQuiet
import Derived.BigRegion
namespace Go.Proofs.YtbpkhpkllokbhaaDoor
open Go.RowKit
set_option linter.unusedVariables false
set_option linter.unusedSimpArgs false

theorem Tryd.infoW8 : (Tryd.prog.info? 5).map (fun i => (i.zero, i.size, i.bytes)) = some (some (.int .u8 0), 1, 1) := by kernel_rfl

/-- The number of k bytes from s on. -/
def beTo (m : List UInt8) (s : Nat) : Nat → Nat
  | 0 => 0
  | k + 1 => beTo m s k * 256 + (m.getD (s + k) 0).toNat
theorem beTo_lt (m : List UInt8) (s : Nat) : ∀ k, beTo m s k < 256 ^ k
  | 0 => by simp [beTo]
  | k + 1 => by
    have h := beTo_lt m s k
    have b := (m.getD (s + k) 0).toNat_lt
    rw [beTo, Nat.pow_succ]
    omega
theorem beTo_word (m : List UInt8) (t : Nat) : beTo m (4 * t) 4 = wordB m t := by
  simp only [beTo, wordB, Nat.add_zero]
  omega
/-- Word q when i bytes were taken. -/
def pwTo (m : List UInt8) (i q : Nat) : Nat := beTo m (4 * q) (min (i - 4 * q) 4)
theorem pwTo_zero (m : List UInt8) (q : Nat) : pwTo m 0 q = 0 := by simp [pwTo, beTo]
theorem pwTo_end (m : List UInt8) (q : Nat) (h : q < 16) : pwTo m 64 q = wordB m q := by
  unfold pwTo
  rw [show min (64 - 4 * q) 4 = 4 by omega, beTo_word]
theorem pwTo_other (m : List UInt8) (i q : Nat) (h : q ≠ i / 4) : pwTo m (i + 1) q = pwTo m i q := by
  unfold pwTo
  congr 1
  omega
theorem pwTo_same (m : List UInt8) (i : Nat) : pwTo m (i + 1) (i / 4) = pwTo m i (i / 4) * 256 + (m.getD i 0).toNat ∧ pwTo m i (i / 4) < 16777216 := by
  unfold pwTo
  have e1 : min (i + 1 - 4 * (i / 4)) 4 = i % 4 + 1 := by omega
  have e2 : min (i - 4 * (i / 4)) 4 = i % 4 := by omega
  have e3 : 4 * (i / 4) + i % 4 = i := by omega
  rw [e1, e2, beTo, e3]
  refine ⟨rfl, Nat.lt_of_lt_of_le (beTo_lt m _ _) ?_⟩
  have : (256 : Nat) ^ (i % 4) ≤ 256 ^ 3 := Nat.pow_le_pow_right (by omega) (by omega)
  omega

theorem there_set {w : World} {b o n : Nat} (h : w.there b o n) (g j : Nat) (v : Value) : (w.setCell ⟨g, j, none⟩ v).there b o n := World.there_setCells h g j [v]

theorem shl8_or (x : Nat) (b : UInt8) (h : x < 16777216) : bits BinOp.or IntKind.u32 ((x : Int) * 256 % 4294967296) ((b.toNat : Nat) : Int) = ((x * 256 + b.toNat : Nat) : Int) := by
  have hb := b.toNat_lt
  have e : (x : Int) * 256 % 4294967296 = ((x * 256 : Nat) : Int) := by omega
  rw [e, u32_or_nat _ _ (by omega) (by omega)]
  have : x * 256 ||| b.toNat = x * 256 + b.toNat := by
    have := Nat.two_pow_add_eq_or_of_lt (i := 8) (b := b.toNat) (by omega) x
    rw [show (2 : Nat) ^ 8 * x = x * 256 by omega] at this
    exact this.symm
  rw [this]

/-- What the words that 64 bytes are spread to keep. -/
def WSpread (m : List UInt8) (W : List Nat) : Prop := Fit W ∧ W.length = 64 ∧ ∀ t, t < 64 → at' W t = if t < 16 then wordB m t else (ss1 (at' W (t - 2)) + at' W (t - 7) + ss0 (at' W (t - 15)) + at' W (t - 16)) % 4294967296
theorem wspread_wTo (m : List UInt8) : WSpread m (wTo m 64) := ⟨fit_wTo m 64, wTo_length m 64, fun t h => wTo_rec m t h⟩

set_option maxRecDepth 100000 in
set_option maxHeartbeats 1000000 in
theorem wspread_core (W : List Nat) (m : List UInt8) (w : World) (hl : m.length = 64) (hW : WSpread m W) :
    Calls Tryd.prog 49 #[.agg (cellsB m).toArray] w fun e w' => e = .returned (.agg (cellsW W).toArray) ∧ Below w.heap.size w w' := by
  obtain ⟨i8, hi8, _, hs8, _⟩ := info_parts Tryd.infoW8
  go_enter Tryd.func49, Tryd.ntmps49
  go_wp2_with (refine wpList_load_mid (by rfl) 83 (.tmp 1) (by rfl) w.heap.size 0 (by rfl) (cellsB m) _ (World.rangeAt_alloc (World.rangeAt_alloc (box_range w (cellsB m) _) _) _) Tryd.underlying83 (by rfl) (by rw [cellsB_length, hl]; kernel_rfl) ?_)
  go_loopw [12] (fun i wr => ∃ t : Nat, t ≤ 64 ∧ i = .int .i64 (t : Int) ∧ OwnK .u32 101 wr (w.heap.size + 1 + 1) (w.heap.size + 1 + 1) 64 64 (fun q => ((pwTo m t q : Nat) : Int)) ∧ wr.there (w.heap.size + 1) 0 64 ∧ Below w.heap.size w wr) (fun i _ => 64 - (intOf i).toNat)
  case atStart =>
    refine ⟨0, Nat.zero_le _, rfl, ?_, ?_, ?_⟩
    · refine OwnK.congr (f := fun _ => 0) ?_ (fun i hi => by rw [pwTo_zero]; rfl)
      refine OwnK.newAt _ _ 101 64 (by omega) (fun _ => 0) _ (by simp) ?_
      kernel_rfl
    · refine World.there_alloc (alloc_thereAt _ _ _ 64 _ (by simp) ?_) _
      kernel_rfl
    · exact (((Below.refl _ _).alloc (Nat.le_refl _) _).alloc (by simp) _).alloc (by simp; omega) _
  case round =>
    obtain ⟨t, ht, rfl, hO, hT, hB⟩ := hrel
    by_cases hlt : t < 64
    · have hq := hO.cell (t / 4) (by omega)
      have hz := hO.frozen (t / 4)
      have hx : ∀ w : World, (Instr.index 83 (.agg (cellsB m).toArray) (.int .i64 (t : Int))).run Tryd.prog w = .ok (.int .u8 (nth m t)) w := fun w => run_index_int w _ _ 64 .u8 i8 _ t _ hlt Tryd.underlying83 Tryd.underlying5 hi8 hs8 (by simpa using cellsB_at m t (by omega))
      have hn := nth_bd m t
      have HO : Hid (OwnK .u32 101 wr (w.heap.size + 1 + 1) (w.heap.size + 1 + 1) 64 64 (fun q => ((pwTo m t q : Nat) : Int))) := hO
      have HT : Hid (wr.there (w.heap.size + 1) 0 64) := hT
      clear hO hT
      go_wp2_with fail
      go_roundw
      case rel =>
        refine ⟨t + 1, by omega, by go_num, (OwnK.store HO.out (t / 4) _).congr fun q hq => ?_, there_set HT.out _ _ _, hB.setCell (by show w.heap.size ≤ w.heap.size + 1 + 1; omega) _⟩
        by_cases hqt : q = t / 4
        · subst hqt
          rw [if_pos rfl]
          obtain ⟨e1, e2⟩ := pwTo_same m t
          rw [e1]
          exact shl8_or _ _ e2
        · rw [if_neg hqt, pwTo_other m t q hqt]
      case measure => simp [intOf]; omega
    · obtain rfl : t = 64 := by omega
      have hO2 : OwnK .u32 101 wr (w.heap.size + 1 + 1) (w.heap.size + 1 + 1) 64 64 (fun q => if q < 16 then ((at' W q : Nat) : Int) else 0) := hO.congr fun q hq => by
        by_cases h16 : q < 16
        · rw [if_pos h16, pwTo_end m q h16, hW.2.2 q hq, if_pos h16]
        · rw [if_neg h16]
          unfold pwTo
          rw [show min (64 - 4 * q) 4 = 0 by omega]
          rfl
      clear hO
      go_wp2_with fail
      go_loopw [6] (fun i wr => ∃ t : Nat, 16 ≤ t ∧ t ≤ 64 ∧ i = .int .i64 (t : Int) ∧ OwnK .u32 101 wr (w.heap.size + 1 + 1) (w.heap.size + 1 + 1) 64 64 (fun q => if q < t then ((at' W q : Nat) : Int) else 0) ∧ wr.there (w.heap.size + 1) 0 64 ∧ Below w.heap.size w wr) (fun i _ => 64 - (intOf i).toNat)
      case atStart => exact ⟨16, by omega, by omega, rfl, hO2, hT, hB⟩
      case round =>
        clear hO2 hT hB
        obtain ⟨t, ht16, ht, rfl, hO, hT, hB⟩ := hrel
        by_cases hlt : t < 64
        · have c0 := hO.cell t hlt
          have hfz := hO.frozen t
          have c2 := hO.cell (t - 2) (by omega)
          have c7 := hO.cell (t - 7) (by omega)
          have c15 := hO.cell (t - 15) (by omega)
          have c16 := hO.cell (t - 16) (by omega)
          rw [if_pos (by omega)] at c2 c7 c15 c16
          rw [if_neg (by omega)] at c0
          have f2 := hW.1 (t - 2)
          have f7 := hW.1 (t - 7)
          have f15 := hW.1 (t - 15)
          have f16 := hW.1 (t - 16)
          have HW : Hid (at' W t = (ss1 (at' W (t - 2)) + at' W (t - 7) + ss0 (at' W (t - 15)) + at' W (t - 16)) % 4294967296) := by
            unfold Hid; rw [hW.2.2 t hlt, if_neg (by omega)]
          have HO : Hid (OwnK .u32 101 wr (w.heap.size + 1 + 1) (w.heap.size + 1 + 1) 64 64 (fun q => if q < t then ((at' W q : Nat) : Int) else 0)) := hO
          have HT : Hid (wr.there (w.heap.size + 1) 0 64) := hT
          clear hO hT
          generalize at' W (t - 2) = x2 at *
          generalize at' W (t - 7) = x7 at *
          generalize at' W (t - 15) = x15 at *
          generalize at' W (t - 16) = x16 at *
          have b15 : (0 : Int) ≤ (t : Int) - 15 := by omega
          have b15' : (t : Int) - 15 < 64 := by omega
          have b2 : (0 : Int) ≤ (t : Int) - 2 := by omega
          have b2' : (t : Int) - 2 < 64 := by omega
          go_wp2_with fail
          go_quiet (fail)
          have HO : Hid (OwnK .u32 101 (wr.drewN nq) (w.heap.size + 1 + 1) (w.heap.size + 1 + 1) 64 64 (fun q => if q < t then ((at' W q : Nat) : Int) else 0)) := OwnK.drewN HO.out nq
          have HT : Hid ((wr.drewN nq).there (w.heap.size + 1) 0 64) := there_below HT.out (below_drewN wr nq) (by have := (OwnK.base HO.out).2; simp at this; omega)
          have hB : Below w.heap.size w (wr.drewN nq) := hB.trans ((below_drewN wr _).mono hB.size)
          rw [← drewN_cell wr nq] at c0 c7 c16
          rw [← drewN_frozen wr nq] at hfz
          clear c2 c15 b15 b15' b2 b2'
          generalize wr.drewN nq = w5 at *
          have b7 : (0 : Int) ≤ (t : Int) - 7 := by omega
          have b7' : (t : Int) - 7 < 64 := by omega
          have b16 : (0 : Int) ≤ (t : Int) - 16 := by omega
          have b16' : (t : Int) - 16 < 64 := by omega
          have E0 := wss0_eq f15
          have E1 := wss1_eq f2
          have g0 := ss0_lt f15
          have g1 := ss1_lt f2
          go_wp2_with fail
          refine (wturn_any x15 7 _ _ f15 rfl (by omega) (by omega)).mono ?_
          rintro e w' ⟨rfl, rfl⟩
          go_wp2_with fail
          refine (wturn_any x15 18 _ _ f15 rfl (by omega) (by omega)).mono ?_
          rintro e w' ⟨rfl, rfl⟩
          go_wp2_with fail
          refine (wturn_any x2 17 _ _ f2 rfl (by omega) (by omega)).mono ?_
          rintro e w' ⟨rfl, rfl⟩
          go_wp2_with fail
          refine (wturn_any x2 19 _ _ f2 rfl (by omega) (by omega)).mono ?_
          rintro e w' ⟨rfl, rfl⟩
          go_wp2_with fail
          clear E0 E1
          generalize ss0 x15 = y0 at *
          generalize ss1 x2 = y1 at *
          go_region
          all_goals
            go_wp2
            go_roundw
            case rel =>
              (repeat apply Exists.intro)
              refine ⟨⟨t + 1, by omega, by omega, by go_num, (OwnK.store HO.out t _).congr fun q hq => ?_, ?_, (Below.setCell (p := ⟨w.heap.size + 1 + 1, t, none⟩) hB (by show w.heap.size ≤ w.heap.size + 1 + 1; omega) _).drew⟩, rfl⟩
              · by_cases hqt : q = t
                · subst hqt
                  rw [if_pos rfl, if_pos (by omega), HW.out]
                  omega
                · rw [if_neg hqt]
                  by_cases hlt2 : q < t
                  · rw [if_pos hlt2, if_pos (by omega)]
                  · rw [if_neg hlt2, if_neg (by omega)]
              · exact (World.there_drew _ _ _ _).2 (there_set HT.out _ _ _)
            case measure => simp [intOf]; omega
        · obtain rfl : t = 64 := by omega
          have HO : Hid (WAt wr (w.heap.size + 1 + 1) 0 W) := hO.wat hW.2.1 fun i hi => by rw [if_pos hi]
          have HT : Hid (wr.there (w.heap.size + 1) 0 64) := hT
          have h64 := hW.2.1
          clear hO hT hW
          go_wp2_with (first
            | (refine wpList_load_mid (by rfl) 101 (.tmp 3) (by rfl) (w.heap.size + 1 + 1) 0 (by rfl) (cellsW W) _ HO.out Tryd.underlying101 (by rfl) (by rw [cellsW_length, h64]; kernel_rfl) ?_)
            | (refine wpList_store_mid (by rfl) 101 (.tmp 2) (.tmp 71) (by rfl) (w.heap.size + 1) 0 (cellsW W).toArray (by rfl) (by rfl) (by rw [cellsW_size, h64]; exact HT.out) (by rw [cellsW_size, h64]; kernel_rfl) (all_oneCell_toArray (cellsW_one _)) ?_))
          refine bodyPost_ret (v := .agg (cellsW W).toArray) (run_results_row Tryd.results49 _ _ (w.heap.size + 1) 0 (by rfl) (cellsW W) (World.rangeAt_setCells_same _ _ _ _ (by rw [cellsW_length, h64]; exact HT.out)) _ Tryd.underlying101 (by rfl) (by rw [cellsW_length, h64]; kernel_rfl)) rfl ⟨rfl, ?_⟩
          exact below_setCells _ (by omega) _ _ _ hB
theorem wspread_any (m : List UInt8) (w : World) (hl : m.length = 64) :
    Calls Tryd.prog 49 #[.agg (cellsB m).toArray] w fun e w' => e = .returned (.agg (cellsW (wTo m 64)).toArray) ∧ Below w.heap.size w w' := wspread_core _ m w hl (wspread_wTo m)
end Go.Proofs.YtbpkhpkllokbhaaDoor
