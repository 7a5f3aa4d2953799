/- Texts of this claim, joined: Wspread, Wafter, Wdigest, Hasher. -/
import Derived.Test.YtbhoijnhpmkglaaDoorJ02
import Derived.Deep.QuietTactic
import Derived.BigQuiet
import Derived.BigRegion
import Derived.Laws.IdiomCopy
/- The contract of sha.spread: a word for each round. -/
namespace Go.Proofs.YtbhoijnhpmkglaaDoor
open Go.RowKit
set_option linter.unusedVariables false
set_option linter.unusedSimpArgs false

theorem Tryd.infoW8 : (Tryd.prog.info? 5).map (fun i => (i.zero, i.size, i.bytes)) = some (some (.int .u8 0), 1, 1) := by kernel_rfl

/-- The number of k bytes from s on. -/
def beTo (m : List UInt8) (s : Nat) : Nat → Nat
  | 0 => 0
  | k + 1 => beTo m s k * 256 + (m.getD (s + k) 0).toNat
theorem beTo_lt (m : List UInt8) (s : Nat) : ∀ k, beTo m s k < 256 ^ k
  | 0 => by simp [beTo]
  | k + 1 => by
    have h := beTo_lt m s k
    have b := (m.getD (s + k) 0).toNat_lt
    rw [beTo, Nat.pow_succ]
    omega
theorem beTo_word (m : List UInt8) (t : Nat) : beTo m (4 * t) 4 = wordB m t := by
  simp only [beTo, wordB, Nat.add_zero]
  omega
/-- Word q when i bytes were taken. -/
def pwTo (m : List UInt8) (i q : Nat) : Nat := beTo m (4 * q) (min (i - 4 * q) 4)
theorem pwTo_zero (m : List UInt8) (q : Nat) : pwTo m 0 q = 0 := by simp [pwTo, beTo]
theorem pwTo_end (m : List UInt8) (q : Nat) (h : q < 16) : pwTo m 64 q = wordB m q := by
  unfold pwTo
  rw [show min (64 - 4 * q) 4 = 4 by omega, beTo_word]
theorem pwTo_other (m : List UInt8) (i q : Nat) (h : q ≠ i / 4) : pwTo m (i + 1) q = pwTo m i q := by
  unfold pwTo
  congr 1
  omega
theorem pwTo_same (m : List UInt8) (i : Nat) : pwTo m (i + 1) (i / 4) = pwTo m i (i / 4) * 256 + (m.getD i 0).toNat ∧ pwTo m i (i / 4) < 16777216 := by
  unfold pwTo
  have e1 : min (i + 1 - 4 * (i / 4)) 4 = i % 4 + 1 := by omega
  have e2 : min (i - 4 * (i / 4)) 4 = i % 4 := by omega
  have e3 : 4 * (i / 4) + i % 4 = i := by omega
  rw [e1, e2, beTo, e3]
  refine ⟨rfl, Nat.lt_of_lt_of_le (beTo_lt m _ _) ?_⟩
  have : (256 : Nat) ^ (i % 4) ≤ 256 ^ 3 := Nat.pow_le_pow_right (by omega) (by omega)
  omega

theorem there_set {w : World} {b o n : Nat} (h : w.there b o n) (g j : Nat) (v : Value) : (w.setCell ⟨g, j, none⟩ v).there b o n := World.there_setCells h g j [v]

theorem shl8_or (x : Nat) (b : UInt8) (h : x < 16777216) : bits BinOp.or IntKind.u32 ((x : Int) * 256 % 4294967296) ((b.toNat : Nat) : Int) = ((x * 256 + b.toNat : Nat) : Int) := by
  have hb := b.toNat_lt
  have e : (x : Int) * 256 % 4294967296 = ((x * 256 : Nat) : Int) := by omega
  rw [e, u32_or_nat _ _ (by omega) (by omega)]
  have : x * 256 ||| b.toNat = x * 256 + b.toNat := by
    have := Nat.two_pow_add_eq_or_of_lt (i := 8) (b := b.toNat) (by omega) x
    rw [show (2 : Nat) ^ 8 * x = x * 256 by omega] at this
    exact this.symm
  rw [this]

/-- What the words that 64 bytes are spread to keep. -/
def WSpread (m : List UInt8) (W : List Nat) : Prop := Fit W ∧ W.length = 64 ∧ ∀ t, t < 64 → at' W t = if t < 16 then wordB m t else (ss1 (at' W (t - 2)) + at' W (t - 7) + ss0 (at' W (t - 15)) + at' W (t - 16)) % 4294967296
theorem wspread_wTo (m : List UInt8) : WSpread m (wTo m 64) := ⟨fit_wTo m 64, wTo_length m 64, fun t h => wTo_rec m t h⟩

set_option maxRecDepth 100000 in
set_option maxHeartbeats 1000000 in
theorem wspread_core (W : List Nat) (m : List UInt8) (w : World) (hl : m.length = 64) (hW : WSpread m W) :
    Calls Tryd.prog 55 #[.agg (cellsB m).toArray] w fun e w' => e = .returned (.agg (cellsW W).toArray) ∧ Below w.heap.size w w' := by
  obtain ⟨i8, hi8, _, hs8, _⟩ := info_parts Tryd.infoW8
  go_enter Tryd.func55, Tryd.ntmps55
  go_wp2_with (refine wpList_load_mid (by rfl) 99 (.tmp 1) (by rfl) w.heap.size 0 (by rfl) (cellsB m) _ (World.rangeAt_alloc (World.rangeAt_alloc (box_range w (cellsB m) _) _) _) Tryd.underlying99 (by rfl) (by rw [cellsB_length, hl]; kernel_rfl) ?_)
  go_loopw [12] (fun i wr => ∃ t : Nat, t ≤ 64 ∧ i = .int .i64 (t : Int) ∧ OwnK .u32 117 wr (w.heap.size + 1 + 1) (w.heap.size + 1 + 1) 64 64 (fun q => ((pwTo m t q : Nat) : Int)) ∧ wr.there (w.heap.size + 1) 0 64 ∧ Below w.heap.size w wr) (fun i _ => 64 - (intOf i).toNat)
  case atStart =>
    refine ⟨0, Nat.zero_le _, rfl, ?_, ?_, ?_⟩
    · refine OwnK.congr (f := fun _ => 0) ?_ (fun i hi => by rw [pwTo_zero]; rfl)
      refine OwnK.newAt _ _ 117 64 (by omega) (fun _ => 0) _ (by simp) ?_
      kernel_rfl
    · refine World.there_alloc (alloc_thereAt _ _ _ 64 _ (by simp) ?_) _
      kernel_rfl
    · exact (((Below.refl _ _).alloc (Nat.le_refl _) _).alloc (by simp) _).alloc (by simp; omega) _
  case round =>
    obtain ⟨t, ht, rfl, hO, hT, hB⟩ := hrel
    by_cases hlt : t < 64
    · have hq := hO.cell (t / 4) (by omega)
      have hz := hO.frozen (t / 4)
      have hx : ∀ w : World, (Instr.index 99 (.agg (cellsB m).toArray) (.int .i64 (t : Int))).run Tryd.prog w = .ok (.int .u8 (nth m t)) w := fun w => run_index_int w _ _ 64 .u8 i8 _ t _ hlt Tryd.underlying99 Tryd.underlying5 hi8 hs8 (by simpa using cellsB_at m t (by omega))
      have hn := nth_bd m t
      have HO : Hid (OwnK .u32 117 wr (w.heap.size + 1 + 1) (w.heap.size + 1 + 1) 64 64 (fun q => ((pwTo m t q : Nat) : Int))) := hO
      have HT : Hid (wr.there (w.heap.size + 1) 0 64) := hT
      clear hO hT
      go_wp2_with fail
      go_roundw
      case rel =>
        refine ⟨t + 1, by omega, by go_num, (OwnK.store HO.out (t / 4) _).congr fun q hq => ?_, there_set HT.out _ _ _, hB.setCell (by show w.heap.size ≤ w.heap.size + 1 + 1; omega) _⟩
        by_cases hqt : q = t / 4
        · subst hqt
          rw [if_pos rfl]
          obtain ⟨e1, e2⟩ := pwTo_same m t
          rw [e1]
          exact shl8_or _ _ e2
        · rw [if_neg hqt, pwTo_other m t q hqt]
      case measure => simp [intOf]; omega
    · obtain rfl : t = 64 := by omega
      have hO2 : OwnK .u32 117 wr (w.heap.size + 1 + 1) (w.heap.size + 1 + 1) 64 64 (fun q => if q < 16 then ((at' W q : Nat) : Int) else 0) := hO.congr fun q hq => by
        by_cases h16 : q < 16
        · rw [if_pos h16, pwTo_end m q h16, hW.2.2 q hq, if_pos h16]
        · rw [if_neg h16]
          unfold pwTo
          rw [show min (64 - 4 * q) 4 = 0 by omega]
          rfl
      clear hO
      go_wp2_with fail
      go_loopw [6] (fun i wr => ∃ t : Nat, 16 ≤ t ∧ t ≤ 64 ∧ i = .int .i64 (t : Int) ∧ OwnK .u32 117 wr (w.heap.size + 1 + 1) (w.heap.size + 1 + 1) 64 64 (fun q => if q < t then ((at' W q : Nat) : Int) else 0) ∧ wr.there (w.heap.size + 1) 0 64 ∧ Below w.heap.size w wr) (fun i _ => 64 - (intOf i).toNat)
      case atStart => exact ⟨16, by omega, by omega, rfl, hO2, hT, hB⟩
      case round =>
        clear hO2 hT hB
        obtain ⟨t, ht16, ht, rfl, hO, hT, hB⟩ := hrel
        by_cases hlt : t < 64
        · have c0 := hO.cell t hlt
          have hfz := hO.frozen t
          have c2 := hO.cell (t - 2) (by omega)
          have c7 := hO.cell (t - 7) (by omega)
          have c15 := hO.cell (t - 15) (by omega)
          have c16 := hO.cell (t - 16) (by omega)
          rw [if_pos (by omega)] at c2 c7 c15 c16
          rw [if_neg (by omega)] at c0
          have f2 := hW.1 (t - 2)
          have f7 := hW.1 (t - 7)
          have f15 := hW.1 (t - 15)
          have f16 := hW.1 (t - 16)
          have HW : Hid (at' W t = (ss1 (at' W (t - 2)) + at' W (t - 7) + ss0 (at' W (t - 15)) + at' W (t - 16)) % 4294967296) := by
            unfold Hid; rw [hW.2.2 t hlt, if_neg (by omega)]
          have HO : Hid (OwnK .u32 117 wr (w.heap.size + 1 + 1) (w.heap.size + 1 + 1) 64 64 (fun q => if q < t then ((at' W q : Nat) : Int) else 0)) := hO
          have HT : Hid (wr.there (w.heap.size + 1) 0 64) := hT
          clear hO hT
          generalize at' W (t - 2) = x2 at *
          generalize at' W (t - 7) = x7 at *
          generalize at' W (t - 15) = x15 at *
          generalize at' W (t - 16) = x16 at *
          have b15 : (0 : Int) ≤ (t : Int) - 15 := by omega
          have b15' : (t : Int) - 15 < 64 := by omega
          have b2 : (0 : Int) ≤ (t : Int) - 2 := by omega
          have b2' : (t : Int) - 2 < 64 := by omega
          go_wp2_with fail
          go_quiet (fail)
          have HO : Hid (OwnK .u32 117 (wr.drewN nq) (w.heap.size + 1 + 1) (w.heap.size + 1 + 1) 64 64 (fun q => if q < t then ((at' W q : Nat) : Int) else 0)) := OwnK.drewN HO.out nq
          have HT : Hid ((wr.drewN nq).there (w.heap.size + 1) 0 64) := there_below HT.out (below_drewN wr nq) (by have := (OwnK.base HO.out).2; simp at this; omega)
          have hB : Below w.heap.size w (wr.drewN nq) := hB.trans ((below_drewN wr _).mono hB.size)
          rw [← drewN_cell wr nq] at c0 c7 c16
          rw [← drewN_frozen wr nq] at hfz
          clear c2 c15 b15 b15' b2 b2'
          generalize wr.drewN nq = w5 at *
          have b7 : (0 : Int) ≤ (t : Int) - 7 := by omega
          have b7' : (t : Int) - 7 < 64 := by omega
          have b16 : (0 : Int) ≤ (t : Int) - 16 := by omega
          have b16' : (t : Int) - 16 < 64 := by omega
          have E0 := wss0_eq f15
          have E1 := wss1_eq f2
          have g0 := ss0_lt f15
          have g1 := ss1_lt f2
          go_wp2_with fail
          refine (wturn_any x15 7 _ _ f15 rfl (by omega) (by omega)).mono ?_
          rintro e w' ⟨rfl, rfl⟩
          go_wp2_with fail
          refine (wturn_any x15 18 _ _ f15 rfl (by omega) (by omega)).mono ?_
          rintro e w' ⟨rfl, rfl⟩
          go_wp2_with fail
          refine (wturn_any x2 17 _ _ f2 rfl (by omega) (by omega)).mono ?_
          rintro e w' ⟨rfl, rfl⟩
          go_wp2_with fail
          refine (wturn_any x2 19 _ _ f2 rfl (by omega) (by omega)).mono ?_
          rintro e w' ⟨rfl, rfl⟩
          go_wp2_with fail
          clear E0 E1
          generalize ss0 x15 = y0 at *
          generalize ss1 x2 = y1 at *
          go_region
          all_goals
            go_wp2
            go_roundw
            case rel =>
              (repeat apply Exists.intro)
              refine ⟨⟨t + 1, by omega, by omega, by go_num, (OwnK.store HO.out t _).congr fun q hq => ?_, ?_, (Below.setCell (p := ⟨w.heap.size + 1 + 1, t, none⟩) hB (by show w.heap.size ≤ w.heap.size + 1 + 1; omega) _).drew⟩, rfl⟩
              · by_cases hqt : q = t
                · subst hqt
                  rw [if_pos rfl, if_pos (by omega), HW.out]
                  omega
                · rw [if_neg hqt]
                  by_cases hlt2 : q < t
                  · rw [if_pos hlt2, if_pos (by omega)]
                  · rw [if_neg hlt2, if_neg (by omega)]
              · exact (World.there_drew _ _ _ _).2 (there_set HT.out _ _ _)
            case measure => simp [intOf]; omega
        · obtain rfl : t = 64 := by omega
          have HO : Hid (WAt wr (w.heap.size + 1 + 1) 0 W) := hO.wat hW.2.1 fun i hi => by rw [if_pos hi]
          have HT : Hid (wr.there (w.heap.size + 1) 0 64) := hT
          have h64 := hW.2.1
          clear hO hT hW
          go_wp2_with (first
            | (refine wpList_load_mid (by rfl) 117 (.tmp 3) (by rfl) (w.heap.size + 1 + 1) 0 (by rfl) (cellsW W) _ HO.out Tryd.underlying117 (by rfl) (by rw [cellsW_length, h64]; kernel_rfl) ?_)
            | (refine wpList_store_mid (by rfl) 117 (.tmp 2) (.tmp 71) (by rfl) (w.heap.size + 1) 0 (cellsW W).toArray (by rfl) (by rfl) (by rw [cellsW_size, h64]; exact HT.out) (by rw [cellsW_size, h64]; kernel_rfl) (all_oneCell_toArray (cellsW_one _)) ?_))
          refine bodyPost_ret (v := .agg (cellsW W).toArray) (run_results_row Tryd.results55 _ _ (w.heap.size + 1) 0 (by rfl) (cellsW W) (World.rangeAt_setCells_same _ _ _ _ (by rw [cellsW_length, h64]; exact HT.out)) _ Tryd.underlying117 (by rfl) (by rw [cellsW_length, h64]; kernel_rfl)) rfl ⟨rfl, ?_⟩
          exact below_setCells _ (by omega) _ _ _ hB
theorem wspread_any (m : List UInt8) (w : World) (hl : m.length = 64) :
    Calls Tryd.prog 55 #[.agg (cellsB m).toArray] w fun e w' => e = .returned (.agg (cellsW (wTo m 64)).toArray) ∧ Below w.heap.size w w' := wspread_core _ m w hl (wspread_wTo m)
end Go.Proofs.YtbhoijnhpmkglaaDoor
/- The contract of state.after: the words that come behind 64 bytes more. -/
namespace Go.Proofs.YtbhoijnhpmkglaaDoor
open Go.RowKit
set_option linter.unusedVariables false
set_option linter.unusedSimpArgs false
theorem Tryd.infoW32 : (Tryd.prog.info? 96).map (fun i => (i.zero, i.size, i.bytes)) = some (some (.int .u32 0), 1, 4) := by kernel_rfl

/-- The table of what is added lies where the program laid it. -/
def Tab (w : World) : Prop := ∀ t, t < 64 → w.cell? ⟨1, t, none⟩ = some (.int .u32 ((at' kW t : Nat) : Int))
theorem Tab.below {w w' : World} (h : Tab w) (hb : Below w.heap.size w w') : Tab w' := fun t ht => (hb.cell (p := ⟨1, t, none⟩) (cell_block (h t ht))).trans (h t ht)

theorem step_a (x7 y1 y2 kt wt y3 y4 : Nat) : Value.int .u32 ((((x7 : Int) + y1 + y2 + kt + wt) % 4294967296 + ((y3 : Int) + y4) % 4294967296) % 4294967296) = Value.int .u32 (((x7 + y1 + y2 + kt + wt + (y3 + y4)) % 4294967296 : Nat) : Int) := congrArg (Value.int .u32) (by omega)
theorem step_e (x3 x7 y1 y2 kt wt : Nat) : Value.int .u32 (((x3 : Int) + ((x7 : Int) + y1 + y2 + kt + wt) % 4294967296) % 4294967296) = Value.int .u32 (((x3 + (x7 + y1 + y2 + kt + wt)) % 4294967296 : Nat) : Int) := congrArg (Value.int .u32) (by omega)
theorem add_lit (x y : Nat) : ((y : Int) + (x : Int)) % 4294967296 = (((x + y) % 4294967296 : Nat) : Int) := by omega
theorem addW_lit (v h : List Nat) : (#[.int .u32 (((at' h 0 : Nat) + (at' v 0 : Nat) : Int) % 4294967296), .int .u32 (((at' h 1 : Nat) + (at' v 1 : Nat) : Int) % 4294967296), .int .u32 (((at' h 2 : Nat) + (at' v 2 : Nat) : Int) % 4294967296), .int .u32 (((at' h 3 : Nat) + (at' v 3 : Nat) : Int) % 4294967296), .int .u32 (((at' h 4 : Nat) + (at' v 4 : Nat) : Int) % 4294967296), .int .u32 (((at' h 5 : Nat) + (at' v 5 : Nat) : Int) % 4294967296), .int .u32 (((at' h 6 : Nat) + (at' v 6 : Nat) : Int) % 4294967296), .int .u32 (((at' h 7 : Nat) + (at' v 7 : Nat) : Int) % 4294967296)] : Array Value) = (cellsW (addW v h)).toArray := by
  simp only [add_lit]
  rfl
theorem addW_length (v h : List Nat) : (addW v h).length = 8 := by simp [addW]

set_option maxRecDepth 100000 in
set_option maxHeartbeats 1000000 in
theorem wafter_core (W : List Nat) (h : List Nat) (m : List UInt8) (w : World) (G : Tab w) (h8 : h.length = 8) (hf : Fit h) (hl : m.length = 64) (hW : W.length = 64) (hfW : Fit W) (hWm : wTo m 64 = W) :
    Calls Tryd.prog 49 #[.agg (cellsW h).toArray, .agg (cellsB m).toArray] w fun e w' => e = .returned (.agg (cellsW (addW (rTo h W 64) h)).toArray) ∧ Below w.heap.size w w' := by
  obtain ⟨i32, hi32, _, hs32, _⟩ := info_parts Tryd.infoW32
  go_enter Tryd.func49, Tryd.ntmps49
  go_wp2_with fail
  generalize hw3 : ((w.alloc (Obj.cells (cellsW h).toArray 98)).alloc (Obj.cells (cellsB m).toArray 99)).alloc (Obj.cells #[.int .u32 0, .int .u32 0, .int .u32 0, .int .u32 0, .int .u32 0, .int .u32 0, .int .u32 0, .int .u32 0] 98) = w3 at *
  have hh : WAt w3 w.heap.size 0 h := by rw [← hw3]; exact World.rangeAt_alloc (World.rangeAt_alloc (box_range w (cellsW h) _) _) _
  have hm : DAt w3 (w.heap.size + 1) 0 m := by
    rw [← hw3]; exact World.rangeAt_alloc (box_rangeAt _ (cellsB m) _ _ (by simp)) _
  have hT : w3.there (w.heap.size + 1 + 1) 0 8 := by rw [← hw3]; exact alloc_thereAt _ _ _ 8 _ (by simp) rfl
  have hB : Below w.heap.size w w3 := by rw [← hw3]; exact (((Below.refl _ _).alloc (Nat.le_refl _) _).alloc (by simp) _).alloc (by simp; omega) _
  have hsz : w3.heap.size = w.heap.size + 1 + 1 + 1 := by rw [← hw3]; simp
  clear hw3
  have c0 := hh.cell 0 (by omega)
  have c1 := hh.cell 1 (by omega)
  have c2 := hh.cell 2 (by omega)
  have c3 := hh.cell 3 (by omega)
  have c4 := hh.cell 4 (by omega)
  have c5 := hh.cell 5 (by omega)
  have c6 := hh.cell 6 (by omega)
  have c7 := hh.cell 7 (by omega)
  simp only [Nat.zero_add] at c0 c1 c2 c3 c4 c5 c6 c7
  have HF : Hid (Fit h ∧ Fit W) := ⟨hf, hfW⟩
  clear hf hfW
  go_quiet (fail)
  have hd := below_drewN w3 nq
  have hh := range_below hh hd (by omega)
  have hm := range_below hm hd (by omega)
  have hT := there_below hT hd (by omega)
  have hB := below_trans hB hd
  have hsz : (w3.drewN nq).heap.size = w.heap.size + 1 + 1 + 1 := by simpa using hsz
  clear hd c0 c1 c2 c3 c4 c5 c6 c7
  generalize w3.drewN nq = w4 at *
  go_wp2_with (refine wpList_load_mid (by rfl) 99 (.tmp 3) (by rfl) (w.heap.size + 1) 0 (by rfl) (cellsB m) _ hm Tryd.underlying99 (by rfl) (by rw [cellsB_length, hl]; kernel_rfl) ?_)
  refine (wspread_any m _ hl).mono ?_
  rintro e w5 ⟨rfl, hb5⟩
  rw [hWm]
  have G5 := (G.below hB).below hb5
  have hh := range_below hh hb5 (by omega)
  have hT := there_below hT hb5 (by omega)
  have hB := below_trans hB hb5
  clear hm hb5 hsz G
  go_wp2_with fail
  go_loopw [5, 6, 7, 8, 9, 10, 11, 12, 35] (fun xa xb xc xd xe xf xg xh i wr => ∃ t : Nat, t ≤ 64 ∧ i = .int .i64 (t : Int) ∧ xa = .int .u32 ((at' (rTo h W t) 0 : Nat) : Int) ∧ xb = .int .u32 ((at' (rTo h W t) 1 : Nat) : Int) ∧ xc = .int .u32 ((at' (rTo h W t) 2 : Nat) : Int) ∧ xd = .int .u32 ((at' (rTo h W t) 3 : Nat) : Int) ∧ xe = .int .u32 ((at' (rTo h W t) 4 : Nat) : Int) ∧ xf = .int .u32 ((at' (rTo h W t) 5 : Nat) : Int) ∧ xg = .int .u32 ((at' (rTo h W t) 6 : Nat) : Int) ∧ xh = .int .u32 ((at' (rTo h W t) 7 : Nat) : Int) ∧ ∃ q, wr = w5.drewN q) (fun _ _ _ _ _ _ _ _ i _ => 64 - (intOf i).toNat)
  case atStart => exact ⟨0, Nat.zero_le _, rfl, rfl, rfl, rfl, rfl, rfl, rfl, rfl, rfl, 0, rfl⟩
  case round =>
    obtain ⟨t, ht, rfl, rfl, rfl, rfl, rfl, rfl, rfl, rfl, rfl, q, hq⟩ := hrel
    have HQ : Hid (∃ q, wr = w5.drewN q) := ⟨q, hq⟩
    by_cases hlt : t < 64
    · have hx : ∀ w : World, (Instr.index 117 (.agg (cellsW W).toArray) (.int .i64 (t : Int))).run Tryd.prog w = .ok (.int .u32 ((at' W t : Nat) : Int)) w := fun w => run_index_int w _ _ 64 .u32 i32 _ t _ hlt Tryd.underlying117 Tryd.underlying96 hi32 hs32 (by simpa using cellsW_at W t (by omega))
      have hfv := fit_rTo (ws := W) HF.out.1 t
      have HS : Hid (rTo h W (t + 1) = stepW (rTo h W t) (at' kW t) (at' W t)) := rfl
      generalize rTo h W t = v at *
      have f0 := hfv 0
      have f1 := hfv 1
      have f2 := hfv 2
      have f4 := hfv 4
      have f5 := hfv 5
      have f6 := hfv 6
      have f7 := hfv 7
      have f3 := hfv 3
      have ck := G5 t hlt
      rw [← drewN_cell w5 q, ← hq] at ck
      clear hq
      have fk := fit_kW t
      have fw := HF.out.2 t
      have HP : Hid (∀ x0 x1 x2 x3 x4 x5 x6 x7 : Nat, x0 = at' v 0 → x1 = at' v 1 → x2 = at' v 2 → x3 = at' v 3 → x4 = at' v 4 → x5 = at' v 5 → x6 = at' v 6 → x7 = at' v 7 → stepW v (at' kW t) (at' W t) = [(x7 + bs1 x4 + chW x4 x5 x6 + at' kW t + at' W t + (bs0 x0 + mjW x0 x1 x2)) % 4294967296, x0, x1, x2, (x3 + (x7 + bs1 x4 + chW x4 x5 x6 + at' kW t + at' W t)) % 4294967296, x4, x5, x6]) := by
        intro x0 x1 x2 x3 x4 x5 x6 x7 h0 h1 h2 h3 h4 h5 h6 h7
        subst h0 h1 h2 h3 h4 h5 h6 h7
        rfl
      clear hfv
      generalize at' v 0 = x0 at *
      generalize at' v 1 = x1 at *
      generalize at' v 2 = x2 at *
      generalize at' v 3 = x3 at *
      generalize at' v 4 = x4 at *
      generalize at' v 5 = x5 at *
      generalize at' v 6 = x6 at *
      generalize at' v 7 = x7 at *
      generalize at' kW t = kt at *
      generalize at' W t = wt at *
      have hlt' : (t : Int) < 64 := by omega
      have ht0 : (0 : Int) ≤ (t : Int) := by omega
      have E1 := wbs1_eq f4
      have E2 := wch_eq f4 f5 f6
      have EN := wnot_eq f4
      have G1 := bs1_lt f4
      have G2 := chW_lt (e := x4) f5 f6
      have E3 := wbs0_eq f0
      have E4 := wmj_eq f0 f1 f2
      have G3 := bs0_lt f0
      have G4 := mjW_lt (a := x0) f1 f2
      go_wp2_with fail
      go_quiet ((go_at_call 56; exact Calls.quiet_of (wturn_z _ _ _ f4 (by omega) (by omega))))
      have HQ : Hid (∃ q, wr.drewN nq = w5.drewN q) := by
        obtain ⟨q', hq'⟩ := HQ.out
        exact ⟨q' + nq, by rw [hq', World.drewN_drewN]⟩
      clear ck E1 E2 EN
      generalize wr.drewN nq = w6 at *
      go_wp2_with fail
      refine (wturn_any x0 2 _ _ f0 rfl (by omega) (by omega)).mono ?_
      rintro e w' ⟨rfl, rfl⟩
      go_wp2_with fail
      refine (wturn_any x0 13 _ _ f0 rfl (by omega) (by omega)).mono ?_
      rintro e w' ⟨rfl, rfl⟩
      go_wp2_with fail
      refine (wturn_any x0 22 _ _ f0 rfl (by omega) (by omega)).mono ?_
      rintro e w' ⟨rfl, rfl⟩
      generalize hp1 : bs1 x4 = y1 at *
      generalize hp2 : chW x4 x5 x6 = y2 at *
      generalize hp3 : bs0 x0 = y3 at *
      generalize hp4 : mjW x0 x1 x2 = y4 at *
      have HP1 : Hid (_ ∧ _ ∧ _ ∧ _) := ⟨hp1, hp2, hp3, hp4⟩
      clear hp1 hp2 hp3 hp4
      go_wp2
      go_roundw
      case rel =>
        have he : rTo h W (t + 1) = [(x7 + y1 + y2 + kt + wt + (y3 + y4)) % 4294967296, x0, x1, x2, (x3 + (x7 + y1 + y2 + kt + wt)) % 4294967296, x4, x5, x6] := by
          obtain ⟨p1, p2, p3, p4⟩ := HP1.out
          rw [HS.out, HP.out x0 x1 x2 x3 x4 x5 x6 x7 rfl rfl rfl rfl rfl rfl rfl rfl, p1, p2, p3, p4]
        refine ⟨t + 1, by omega, by go_num, ?_⟩
        rw [he]
        refine ⟨?_, rfl, rfl, rfl, ?_, rfl, rfl, rfl, HQ.out⟩
        · exact step_a x7 y1 y2 kt wt y3 y4
        · exact step_e x3 x7 y1 y2 kt wt
      case measure => simp [intOf]; omega
    · obtain rfl : t = 64 := by omega
      have hd := below_drewN w5 q
      have hs5 := cell_block (WAt.cell hh 0 (by omega))
      have hs6 : w.heap.size + 1 + 1 < w5.heap.size := by
        have h0 := (hT 0 (by omega)).1
        obtain ⟨u, hu⟩ := Option.isSome_iff_exists.1 h0
        exact cell_block hu
      have hh := range_below hh hd hs5
      have HT := there_below hT hd hs6
      have HB := below_trans hB hd
      rw [← hq] at hh HT HB
      have HT : Hid (wr.there (w.heap.size + 1 + 1) 0 8) := HT
      have HB : Hid (Below w.heap.size w wr) := HB
      have hh : WAt wr w.heap.size 0 h := hh
      have c0 := hh.cell 0 (by omega)
      have c1 := hh.cell 1 (by omega)
      have c2 := hh.cell 2 (by omega)
      have c3 := hh.cell 3 (by omega)
      have c4 := hh.cell 4 (by omega)
      have c5 := hh.cell 5 (by omega)
      have c6 := hh.cell 6 (by omega)
      have c7 := hh.cell 7 (by omega)
      simp only [Nat.zero_add] at c0 c1 c2 c3 c4 c5 c6 c7
      have hfv := fit_rTo (ws := W) HF.out.1 64
      have hfh := HF.out.1
      generalize hv : rTo h W 64 = v at *
      have HV : Hid (rTo h W 64 = v) := hv
      have HE : Hid (_ = _) := addW_lit v h
      clear hh hd hs5 hs6 hq hT hB hv
      have f0 := hfv 0
      have f1 := hfv 1
      have f2 := hfv 2
      have f4 := hfv 4
      have f5 := hfv 5
      have f6 := hfv 6
      have f7 := hfv 7
      have f3 := hfv 3
      have k0 := hfh 0
      have k1 := hfh 1
      have k2 := hfh 2
      have k4 := hfh 4
      have k5 := hfh 5
      have k6 := hfh 6
      have k7 := hfh 7
      have k3 := hfh 3
      generalize at' v 0 = x0 at *
      generalize at' v 1 = x1 at *
      generalize at' v 2 = x2 at *
      generalize at' v 3 = x3 at *
      generalize at' v 4 = x4 at *
      generalize at' v 5 = x5 at *
      generalize at' v 6 = x6 at *
      generalize at' v 7 = x7 at *
      generalize at' h 0 = y0 at *
      generalize at' h 1 = y1 at *
      generalize at' h 2 = y2 at *
      generalize at' h 3 = y3 at *
      generalize at' h 4 = y4 at *
      generalize at' h 5 = y5 at *
      generalize at' h 6 = y6 at *
      generalize at' h 7 = y7 at *
      go_wp2_with (first
        | (refine wpList_buildE (by rfl) 98 _ (by rfl) _ _ HE.out (by kernel_rfl) ?_)
        | (refine wpList_store_mid (by rfl) 98 (.tmp 4) (.tmp 129) (by rfl) (w.heap.size + 1 + 1) 0 (cellsW (addW v h)).toArray (by rfl) (by rfl) (by rw [cellsW_size, addW_length]; exact HT.out) (by rw [cellsW_size, addW_length]; kernel_rfl) (all_oneCell_toArray (cellsW_one _)) ?_))
      refine bodyPost_ret (v := .agg (cellsW (addW v h)).toArray) (run_results_row Tryd.results49 _ _ (w.heap.size + 1 + 1) 0 (by rfl) (cellsW (addW v h)) (World.rangeAt_setCells_same _ _ _ _ (by rw [cellsW_length, addW_length]; exact HT.out)) _ Tryd.underlying98 (by rfl) (by rw [cellsW_length, addW_length]; kernel_rfl)) rfl ⟨by rw [HV.out], ?_⟩
      exact below_setCells _ (by omega) _ _ _ HB.out
theorem wafter_any (h : List Nat) (m : List UInt8) (w : World) (G : Tab w) (h8 : h.length = 8) (hf : Fit h) (hl : m.length = 64) :
    Calls Tryd.prog 49 #[.agg (cellsW h).toArray, .agg (cellsB m).toArray] w fun e w' => e = .returned (.agg (cellsW (blockW h m)).toArray) ∧ Below w.heap.size w w' :=
  wafter_core (wTo m 64) h m w G h8 hf hl (wTo_length m 64) (fit_wTo m 64) rfl
end Go.Proofs.YtbhoijnhpmkglaaDoor
/- The contract of state.digest: the words as bytes. -/
namespace Go.Proofs.YtbhoijnhpmkglaaDoor
open Go.RowKit
set_option linter.unusedVariables false
set_option linter.unusedSimpArgs false

theorem out_eq (x k : Nat) (e : Nat) (h : e = 24 - k % 4 * 8) : (x : Int) / 2 ^ e % 256 = ((x >>> (24 - k % 4 * 8) % 256 : Nat) : Int) := by
  rw [← h, Nat.shiftRight_eq_div_pow, Int.natCast_emod, Int.natCast_ediv, Int.natCast_pow]
  rfl

set_option maxRecDepth 100000 in
set_option maxHeartbeats 1000000 in
theorem wdigest_any (h : List Nat) (w : World) (h8 : h.length = 8) (hf : Fit h) :
    Calls Tryd.prog 51 #[.agg (cellsW h).toArray] w fun e w' => e = .returned (digestV (outL h)) ∧ Below w.heap.size w w' := by
  go_enter Tryd.func51, Tryd.ntmps51
  go_wp2_with fail
  go_loopw [5] (fun i wr => ∃ t : Nat, t ≤ 32 ∧ i = .int .i64 (t : Int) ∧ OwnK .u8 24 wr (w.heap.size + 1 + 1) (w.heap.size + 1 + 1) 32 32 (fun q => if q < t then nth (outL h) q else 0) ∧ WAt wr w.heap.size 0 h ∧ wr.there (w.heap.size + 1) 0 32 ∧ Below w.heap.size w wr) (fun i _ => 32 - (intOf i).toNat)
  case atStart =>
    refine ⟨0, Nat.zero_le _, rfl, ?_, ?_, ?_, ?_⟩
    · refine OwnK.congr (f := fun _ => 0) ?_ (fun i hi => by rw [if_neg (by omega)])
      refine OwnK.newAt _ _ 24 32 (by omega) (fun _ => 0) _ (by simp) ?_
      kernel_rfl
    · exact World.rangeAt_alloc (World.rangeAt_alloc (box_range w (cellsW h) _) _) _
    · refine World.there_alloc (alloc_thereAt _ _ _ 32 _ (by simp) ?_) _
      kernel_rfl
    · exact (((Below.refl _ _).alloc (Nat.le_refl _) _).alloc (by simp) _).alloc (by simp; omega) _
  case round =>
    obtain ⟨t, ht, rfl, hO, hh, hT, hB⟩ := hrel
    by_cases hlt : t < 32
    · have c0 := hO.cell t hlt
      rw [if_neg (by omega)] at c0
      have z0 := hO.frozen t
      have ch := hh.cell (t / 4) (by omega)
      rw [Nat.zero_add] at ch
      have fx := hf (t / 4)
      have HN : Hid (nth (outL h) t = ((at' h (t / 4) >>> (24 - t % 4 * 8) % 256 : Nat) : Int)) := nth_outL _ _ hlt
      have HO : Hid (OwnK .u8 24 wr (w.heap.size + 1 + 1) (w.heap.size + 1 + 1) 32 32 (fun q => if q < t then nth (outL h) q else 0)) := hO
      have HH : Hid (WAt wr w.heap.size 0 h ∧ wr.there (w.heap.size + 1) 0 32) := ⟨hh, hT⟩
      clear hO hh hT
      generalize hx : at' h (t / 4) = x at *
      clear hx
      go_wp2
      go_roundw
      case rel =>
        refine ⟨t + 1, by omega, by go_num, (OwnK.store HO.out t _).congr fun q hq => ?_, range_set HH.out.1 _ _ _ (by omega), there_set HH.out.2 _ _ _, hB.setCell (by show w.heap.size ≤ w.heap.size + 1 + 1; omega) _⟩
        by_cases hqt : q = t
        · subst hqt
          rw [if_pos rfl, if_pos (by omega), HN.out]
          exact out_eq x q _ (by omega)
        · rw [if_neg hqt]
          by_cases hlt2 : q < t
          · rw [if_pos hlt2, if_pos (by omega)]
          · rw [if_neg hlt2, if_neg (by omega)]
      case measure => simp [intOf]; omega
    · obtain rfl : t = 32 := by omega
      have HD : Hid (DAt wr (w.heap.size + 1 + 1) 0 (outL h)) := hO.dat (outL_length _) fun i hi => by rw [if_pos hi]
      have HT : Hid (wr.there (w.heap.size + 1) 0 32) := hT
      have hlen := outL_length h
      clear hO hT hh
      generalize hD : outL h = D at *
      have HE : Hid (outL h = D) := hD
      clear hD
      go_wp2_with (first
        | (refine wpList_load_mid (by rfl) 24 (.tmp 3) (by rfl) (w.heap.size + 1 + 1) 0 (by rfl) (cellsB D) _ HD.out Tryd.underlying24 (by rfl) (by rw [cellsB_length, hlen]; kernel_rfl) ?_)
        | (refine wpList_store_mid (by rfl) 24 (.tmp 2) (.tmp 21) (by rfl) (w.heap.size + 1) 0 (cellsB D).toArray (by rfl) (by rfl) (by rw [cellsB_size, hlen]; exact HT.out) (by rw [cellsB_size, hlen]; kernel_rfl) (all_oneCell_toArray (cellsB_one _)) ?_))
      refine bodyPost_ret (v := digestV D) (run_results_row Tryd.results51 _ _ (w.heap.size + 1) 0 (by rfl) (cellsB D) (World.rangeAt_setCells_same _ _ _ _ (by rw [cellsB_length, hlen]; exact HT.out)) _ Tryd.underlying24 (by rfl) (by rw [cellsB_length, hlen]; kernel_rfl)) rfl ⟨by rw [HE.out], ?_⟩
      exact below_setCells _ (by omega) _ _ _ hB
end Go.Proofs.YtbhoijnhpmkglaaDoor
/- A Hasher in memory: plain facts. -/
namespace Go.Proofs.YtbhoijnhpmkglaaDoor
open Go.RowKit
set_option linter.unusedVariables false
set_option linter.unusedSimpArgs false

/-! what changes one block alone -/
theorem gr_trans {w w1 w2 : World} {r : Option Nat} (h : w.grownBy w1 r) (k : w1.grownBy w2 r) : w.grownBy w2 r :=
  ⟨k.os.trans h.os, k.tape.trans h.tape, k.output.trans h.output, Nat.le_trans h.size k.size, fun i hi hne => (k.block i (Nat.lt_of_lt_of_le hi h.size) hne).trans (h.block i hi hne)⟩
theorem gr_below {w w' : World} (h : Below w.heap.size w w') (r : Option Nat) : w.grownBy w' r := ⟨h.os, h.tape, h.output, h.size, fun i hi _ => h.block i hi⟩
theorem gr_setCell (w : World) (g j : Nat) (v : Value) : w.grownBy (w.setCell ⟨g, j, none⟩ v) (some g) :=
  ⟨rfl, rfl, rfl, by simp [World.setCell], fun i hi hne => Below.heap_setCell _ _ _ _ (fun e => hne (congrArg some e))⟩
theorem gr_setCells (g : Nat) : ∀ (vs : List Value) (o : Nat) (w : World), w.grownBy (w.setCells g o vs) (some g)
  | [], _, w => World.grownBy.refl w _
  | v :: r, o, w => by
    rw [World.setCells]
    exact gr_trans (gr_setCell w g o v) (gr_setCells g r (o + 1) _)
theorem gr_drew (w : World) (r : Option Nat) : w.grownBy w.drew r := ⟨rfl, rfl, rfl, Nat.le_refl _, fun _ _ _ => rfl⟩
theorem gr_drewN (w : World) (n : Nat) (r : Option Nat) : w.grownBy (w.drewN n) r := gr_below (below_drewN w n) r
theorem below_gr {B g : Nat} {w0 w w' : World} (h : Below B w0 w) (hg : w.grownBy w' (some g)) (hB : B ≤ w.heap.size) (hb : B ≤ g) : Below B w0 w' := h.grown hg hB (fun k e => by cases e; exact hb)
theorem Row.grown {w w' : World} {a : Option Addr} {n g : Nat} {l : List UInt8} (h : Row w a n l) (hg : w.grownBy w' (some g)) (hne : ∀ ad, a = some ad → ad.block ≠ g) : Row w' a n l := by
  obtain ⟨h1, h2⟩ := h
  refine ⟨h1, ?_⟩
  rcases h2 with h2 | ⟨b, o, ha, hc⟩
  · exact .inl h2
  · by_cases hn : n = 0
    · exact .inl hn
    · have hlt := Row.block hc (by omega)
      exact .inr ⟨b, o, ha, fun i hi => (World.cell?_of_block (hg.block b hlt (fun e => hne _ ha (Option.some.inj e)))).trans (hc i hi)⟩

theorem Tab.grown {w w' : World} {g : Nat} (h : Tab w) (hg : w.grownBy w' (some g)) (hne : g ≠ 1) : Tab w' := fun t ht =>
  (World.cell?_of_block (hg.block 1 (cell_block (h t ht)) (fun e => hne (Option.some.inj e).symm))).trans (h t ht)
theorem below_of_drew {w w' : World} (h : Below w.drew.heap.size w.drew w') : Below w.heap.size w w' := ⟨h.os, h.tape, h.output, h.size, h.block⟩
/-- What is left of a slice behind its first bytes. -/
theorem row_rest {wr wF : World} {sb so N M c' g : Nat} {z : List UInt8} (hs : ∀ i, i < N → wr.cell? ⟨sb, so + i, none⟩ = some (.int .u8 (nth z i))) (hz : z.length = N) (hN : 0 < N) (hM : M ≤ N) (hc : N ≤ c') (hg : wr.grownBy wF (some g)) (hne : sb ≠ g) :
    Row wF (if c' = M then some ⟨sb, so, none⟩ else some ⟨sb, so + M, none⟩) (N - M) (z.drop M) := by
  refine ⟨by simp; omega, ?_⟩
  by_cases h0 : N - M = 0
  · exact .inl h0
  · rw [if_neg (by omega)]
    have hlt := Row.block hs hN
    refine .inr ⟨sb, so + M, rfl, fun i hi => ?_⟩
    rw [World.cell?_of_block (a := ⟨sb, so + M + i, none⟩) (hg.block sb hlt (fun e => hne (Option.some.inj e))), show so + M + i = so + (M + i) by omega, hs (M + i) (by omega)]
    unfold nth
    simp [List.getD_eq_getElem?_getD, List.getElem?_drop]

theorem row_ne {w : World} {a : Option Addr} {n g : Nat} {l : List UInt8} (h : Row w a n l) (hg : w.heap.size ≤ g) : 0 < n → ∀ ad, a = some ad → ad.block ≠ g := by
  intro hn ad had
  rcases h.2 with h2 | ⟨b, o, ha, hc⟩
  · omega
  · rw [ha] at had
    cases had
    have := Row.block hc hn
    show b ≠ g
    omega

/-! the words so far -/
theorem hTo_length (l : List UInt8) : ∀ b, (hTo l b).length = 8
  | 0 => rfl
  | b + 1 => by rw [hTo, blockW, addW_length]
theorem hTo_append (l r : List UInt8) : ∀ b, 64 * b ≤ l.length → hTo (l ++ r) b = hTo l b
  | 0, _ => rfl
  | b + 1, h => by
    rw [hTo, hTo, hTo_append l r b (by omega)]
    congr 1
    rw [List.drop_append_of_le_length (by omega), List.take_append_of_le_length (by simp; omega)]
/-- A block with some of its bytes put anew. -/
def blkPut (blk : List UInt8) (r : Nat) (y : List UInt8) : List UInt8 := blk.take r ++ y ++ blk.drop (r + y.length)
theorem blkPut_length {blk : List UInt8} {r : Nat} {y : List UInt8} (h : blk.length = 64) (hr : r + y.length ≤ 64) : (blkPut blk r y).length = 64 := by
  simp [blkPut]; omega
theorem blkPut_nth {blk : List UInt8} {r : Nat} {y : List UInt8} (h : blk.length = 64) (hr : r + y.length ≤ 64) (i : Nat) (hi : i < 64) :
    nth (blkPut blk r y) i = if i < r then nth blk i else if i < r + y.length then nth y (i - r) else nth blk i := by
  unfold nth blkPut
  have hl : (blk.take r).length = r := by simp; omega
  simp only [List.getD_eq_getElem?_getD]
  by_cases h1 : i < r
  · rw [if_pos h1, List.append_assoc, List.getElem?_append_left (by omega), List.getElem?_take, if_pos h1]
  · rw [if_neg h1]
    by_cases h2 : i < r + y.length
    · rw [if_pos h2, List.append_assoc, List.getElem?_append_right (by omega), hl, List.getElem?_append_left (by omega)]
    · rw [if_neg h2, List.append_assoc, List.getElem?_append_right (by omega), hl, List.getElem?_append_right (by omega), List.getElem?_drop]
      rw [show r + y.length + (i - r - y.length) = i by omega]
/-- The words and the block that belong to what was taken. -/
def Took (h : List Nat) (blk l : List UInt8) : Prop := h = hTo l (l.length / 64) ∧ blk.length = 64 ∧ blk.take (l.length % 64) = l.drop (64 * (l.length / 64))
theorem took_take {h : List Nat} {blk l y : List UInt8} (t : Took h blk l) (hr : l.length % 64 + y.length ≤ 64) : (blkPut blk (l.length % 64) y).take (l.length % 64 + y.length) = (l ++ y).drop (64 * (l.length / 64)) := by
  obtain ⟨_, t2, t3⟩ := t
  have hl : (blk.take (l.length % 64)).length = l.length % 64 := by simp; omega
  unfold blkPut
  rw [List.take_append_of_le_length (by simp; omega), List.take_of_length_le (by simp; omega), t3, List.drop_append_of_le_length (by omega)]
theorem took_part {h : List Nat} {blk l y : List UInt8} (t : Took h blk l) (hr : l.length % 64 + y.length < 64) : Took h (blkPut blk (l.length % 64) y) (l ++ y) := by
  have e := took_take (y := y) t (by omega)
  obtain ⟨t1, t2, t3⟩ := t
  have e1 : (l ++ y).length / 64 = l.length / 64 := by simp; omega
  have e2 : (l ++ y).length % 64 = l.length % 64 + y.length := by simp; omega
  refine ⟨?_, blkPut_length t2 (by omega), ?_⟩
  · rw [e1, hTo_append _ _ _ (by omega), ← t1]
  · rw [e1, e2, e]
theorem took_full {h : List Nat} {blk l y : List UInt8} (t : Took h blk l) (hr : l.length % 64 + y.length = 64) : Took (blockW h (blkPut blk (l.length % 64) y)) (blkPut blk (l.length % 64) y) (l ++ y) := by
  have e := took_take (y := y) t (by omega)
  obtain ⟨t1, t2, t3⟩ := t
  have hlen := blkPut_length (y := y) (r := l.length % 64) t2 (by omega)
  have e1 : (l ++ y).length / 64 = l.length / 64 + 1 := by simp; omega
  have e2 : (l ++ y).length % 64 = 0 := by simp; omega
  rw [hr, List.take_of_length_le (by omega)] at e
  refine ⟨?_, hlen, ?_⟩
  · rw [e1, hTo, hTo_append _ _ _ (by omega), ← t1, ← e, List.take_of_length_le (by omega)]
  · rw [e1, e2, List.take_zero, List.drop_eq_nil_of_le (by simp; omega)]
theorem took_new : Took hW (List.replicate 64 0) [] := ⟨rfl, by simp, rfl⟩
theorem Took.words {h : List Nat} {blk l : List UInt8} (t : Took h blk l) : h.length = 8 ∧ Fit h := by
  rw [t.1]
  exact ⟨hTo_length _ _, fit_hTo _ _⟩

/-! the object -/
/-- The words, the block and the count of a Hasher, at block g. -/
def HAt (w : World) (g : Nat) (h : List Nat) (blk : List UInt8) (n : Nat) : Prop :=
  w.rangeAt g 0 (cellsW h) ∧ w.rangeAt g 8 (cellsB blk) ∧ w.cell? ⟨g, 72, none⟩ = some (.int .i64 (n : Int)) ∧ w.there g 0 73 ∧ h.length = 8 ∧ blk.length = 64
theorem HAt.block {w : World} {g n : Nat} {h : List Nat} {blk : List UInt8} (H : HAt w g h blk n) : g < w.heap.size := cell_block H.2.2.1
theorem HAt.below {w w' : World} {g n : Nat} {h : List Nat} {blk : List UInt8} (H : HAt w g h blk n) (hb : Below w.heap.size w w') : HAt w' g h blk n := by
  have hg := H.block
  obtain ⟨h1, h2, h3, h4, h5, h6⟩ := H
  exact ⟨range_below h1 hb hg, range_below h2 hb hg, (hb.cell (p := ⟨g, 72, none⟩) hg).trans h3, there_below h4 hb hg, h5, h6⟩
theorem HAt.other {w w' : World} {g g' n : Nat} {h : List Nat} {blk : List UInt8} (H : HAt w g h blk n) (hb : w.grownBy w' (some g')) (hne : g ≠ g') : HAt w' g h blk n := by
  have hg := H.block
  have hk := hb.block g hg (fun e => hne (Option.some.inj e))
  obtain ⟨h1, h2, h3, h4, h5, h6⟩ := H
  have hc : ∀ j, w'.cell? ⟨g, j, none⟩ = w.cell? ⟨g, j, none⟩ := fun j => World.cell?_of_block hk
  have hf : ∀ j, w'.frozen? ⟨g, j, none⟩ = w.frozen? ⟨g, j, none⟩ := fun j => World.frozen?_of_block hk
  exact ⟨fun j v hj => (hc _).trans (h1 j v hj), fun j v hj => (hc _).trans (h2 j v hj), (hc _).trans h3, fun j hj => by rw [hc, hf]; exact h4 j hj, h5, h6⟩
theorem HAt.copy {w : World} {g n r : Nat} {h : List Nat} {blk y : List UInt8} (H : HAt w g h blk n) (hr : r + y.length ≤ 64) : HAt (w.setCells g (8 + r) (cellsB y)) g h (blkPut blk r y) n := by
  obtain ⟨h1, h2, h3, h4, h5, h6⟩ := H
  have hs : ∀ j, j < (cellsB y).length → (w.cell? ⟨g, 8 + r + j, none⟩).isSome = true := fun j hj => by
    rw [cellsB_length] at hj
    have := (h4 (8 + r + j) (by omega)).1
    rwa [Nat.zero_add] at this
  refine ⟨World.rangeAt_setCells_apart h1 _ _ _ (.inr (.inl (by rw [cellsW_length]; omega))), ?_, ?_, World.there_setCells h4 _ _ _, h5, blkPut_length h6 hr⟩
  · refine DAt.mk fun i hi => ?_
    rw [blkPut_length h6 hr] at hi
    rw [blkPut_nth h6 hr i hi]
    by_cases c1 : i < r
    · rw [if_pos c1, World.cell?_setCells_out _ _ _ _ _ (fun _ _ => Or.inl (by show 8 + i < 8 + r; omega))]
      exact DAt.cell h2 i (by omega)
    · rw [if_neg c1]
      by_cases c2 : i < r + y.length
      · rw [if_pos c2]
        have := World.cell?_setCells_in g (cellsB y) (8 + r) w hs (i - r) (by rw [cellsB_length]; omega)
        rw [show 8 + r + (i - r) = 8 + i by omega] at this
        rw [this]
        have := cellsB_at y (i - r) (by omega)
        rw [List.getElem?_eq_getElem (by rw [cellsB_length]; omega)] at this
        exact this
      · rw [if_neg c2, World.cell?_setCells_out _ _ _ _ _ (fun _ _ => Or.inr (by show 8 + r + (cellsB y).length ≤ 8 + i; rw [cellsB_length]; omega))]
        exact DAt.cell h2 i (by omega)
  · rw [World.cell?_setCells_out _ _ _ _ _ (fun _ _ => Or.inr (by show 8 + r + (cellsB y).length ≤ 72; rw [cellsB_length]; omega))]
    exact h3
theorem HAt.count {w : World} {g n : Nat} {h : List Nat} {blk : List UInt8} (H : HAt w g h blk n) (n' : Nat) : HAt (w.setCell ⟨g, 72, none⟩ (.int .i64 (n' : Int))) g h blk n' := by
  obtain ⟨h1, h2, h3, h4, h5, h6⟩ := H
  refine ⟨World.rangeAt_setCells_apart h1 g 72 [_] (.inr (.inl (by rw [cellsW_length]; omega))), World.rangeAt_setCells_apart h2 g 72 [_] (.inr (.inl (by rw [cellsB_length]; omega))), ?_, there_set h4 _ _ _, h5, h6⟩
  simpa using World.cell?_setCell_same _ _ _ h3
theorem HAt.words {w : World} {g n : Nat} {h h' : List Nat} {blk : List UInt8} (H : HAt w g h blk n) (h8 : h'.length = 8) : HAt (w.setCells g 0 (cellsW h')) g h' blk n := by
  obtain ⟨h1, h2, h3, h4, h5, h6⟩ := H
  refine ⟨World.rangeAt_setCells_same _ _ _ _ (fun j hj => h4 j (by rw [cellsW_length] at hj; omega)), World.rangeAt_setCells_apart h2 _ _ _ (.inr (.inr (by rw [cellsW_length]; omega))), ?_, World.there_setCells h4 _ _ _, h8, h6⟩
  rw [World.cell?_setCells_out _ _ _ _ _ (fun _ _ => Or.inr (by show 0 + (cellsW h').length ≤ 72; rw [cellsW_length]; omega))]
  exact h3
/-- A Hasher that has taken l. -/
def Hasher (w : World) (g : Nat) (l : List UInt8) : Prop := ∃ h blk, HAt w g h blk l.length ∧ Took h blk l
theorem Hasher.below {w w' : World} {g : Nat} {l : List UInt8} (H : Hasher w g l) (hb : Below w.heap.size w w') : Hasher w' g l := by
  obtain ⟨h, blk, H1, H2⟩ := H
  exact ⟨h, blk, H1.below hb, H2⟩
theorem Hasher.other {w w' : World} {g g' : Nat} {l : List UInt8} (H : Hasher w g l) (hb : w.grownBy w' (some g')) (hne : g ≠ g') : Hasher w' g l := by
  obtain ⟨h, blk, H1, H2⟩ := H
  exact ⟨h, blk, H1.other hb hne, H2⟩
theorem Hasher.block {w : World} {g : Nat} {l : List UInt8} (H : Hasher w g l) : g < w.heap.size := by
  obtain ⟨h, blk, H1, H2⟩ := H
  exact H1.block

theorem blockW_length (h : List Nat) (m : List UInt8) : (blockW h m).length = 8 := addW_length _ _
/-- after, beside a Hasher that it leaves as it is. -/
theorem wafter_in (g n : Nat) (h : List Nat) (B : List UInt8) (w : World) (G : Tab w) (H : HAt w g h B n) (hf : Fit h) :
    Calls Tryd.prog 49 #[.agg (cellsW h).toArray, .agg (cellsB B).toArray] w fun e w' => ∃ h', e = .returned (.agg (cellsW h').toArray) ∧ (cellsW h').length = 8 ∧ Hid (h' = blockW h B) ∧ Hid (Below w.heap.size w w') ∧ w'.rangeAt g 8 (cellsB B) ∧ w'.there g 0 8 := by
  refine (wafter_any h B w G H.2.2.2.2.1 hf H.2.2.2.2.2).mono ?_
  rintro e w' ⟨rfl, hb⟩
  have H2 := H.below hb
  exact ⟨_, rfl, by rw [cellsW_length, blockW_length], rfl, hb, H2.2.1, fun j hj => H2.2.2.2.1 j (by omega)⟩
theorem Tryd.sizeState : (Tryd.prog.info? 98).map (·.size) = some 8 := by kernel_rfl
/-- copy as one step of a region that draws its order: the cells that go over are told. -/
theorem step_copy_cells {P : Program} {ops : Array Oper} {o : Oper} {a : Act} {w : World} {K : Act → World → Prop} {Q : Exit → Act → World → Prop} {E : Prop}
    (hg : o.guard = none) (d x : Operand) (dT sT elem : TypeId) (hop : o.op = Op.call { callee := Callee.builtin Builtin.copy, args := #[d, x], argTypes := #[dT, sT] }) (hu : P.underlying dT = some (.slice elem)) (hs : (P.info? elem).map (·.size) = some 1)
    (b p dLen dCap : Nat) (s : Addr) (sLen sCap : Nat) (cs : List Value) (hd : a.eval d = .slice (some ⟨b, p, none⟩) dLen dCap) (hx : a.eval x = .slice (some s) sLen sCap) (hn : cs.length = Nat.min sLen dLen)
    (hsrc : ∀ j v, cs[j]? = some v → w.cell? (s.add j) = some v) (ht : w.there b p cs.length) (h1 : ∀ v ∈ cs, v.oneCell' = true)
    (hK : K (a.put o.dst (.int .i64 ((cs.length : Nat) : Int))) (w.setCells b p cs)) :
    if Region.wanted o (yielded ops a.tmps) = true then Oper.wp P o a w K Q else E := by
  have hw : Region.wanted o (yielded ops a.tmps) = true := by simp [Region.wanted, hg]
  have hr := run_copy_cells (P := P) w dT sT o.type elem b p dLen dCap s sLen sCap cs hu hs hn hsrc (fun j hj => (ht j hj).1) (fun j hj => (ht j hj).2) h1
  rw [if_pos hw]
  unfold Oper.wp
  simp only [execOp, hop, resolve, invoke, builtin, Sem.run_bind, Sem.run_pure, Result.andThen_ok, List.map_toArray, List.map_cons, List.map_nil, hd, hx, hr]
  exact hK
end Go.Proofs.YtbhoijnhpmkglaaDoor
