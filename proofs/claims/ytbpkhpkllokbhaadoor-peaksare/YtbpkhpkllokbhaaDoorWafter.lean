/- The contract of state.after: the words that come behind 64 bytes more. -/
import Derived.Test.YtbpkhpkllokbhaaDoorWspread
namespace Go.Proofs.YtbpkhpkllokbhaaDoor
open Go.RowKit
set_option linter.unusedVariables false
set_option linter.unusedSimpArgs false
theorem Tryd.infoW32 : (Tryd.prog.info? 60).map (fun i => (i.zero, i.size, i.bytes)) = some (some (.int .u32 0), 1, 4) := by kernel_rfl

/-- The table of what is added lies where the program laid it. -/
def Tab (w : World) : Prop := ∀ t, t < 64 → w.cell? ⟨1, t, none⟩ = some (.int .u32 ((at' kW t : Nat) : Int))
theorem Tab.below {w w' : World} (h : Tab w) (hb : Below w.heap.size w w') : Tab w' := fun t ht => (hb.cell (p := ⟨1, t, none⟩) (cell_block (h t ht))).trans (h t ht)

theorem step_a (x7 y1 y2 kt wt y3 y4 : Nat) : Value.int .u32 ((((x7 : Int) + y1 + y2 + kt + wt) % 4294967296 + ((y3 : Int) + y4) % 4294967296) % 4294967296) = Value.int .u32 (((x7 + y1 + y2 + kt + wt + (y3 + y4)) % 4294967296 : Nat) : Int) := congrArg (Value.int .u32) (by omega)
theorem step_e (x3 x7 y1 y2 kt wt : Nat) : Value.int .u32 (((x3 : Int) + ((x7 : Int) + y1 + y2 + kt + wt) % 4294967296) % 4294967296) = Value.int .u32 (((x3 + (x7 + y1 + y2 + kt + wt)) % 4294967296 : Nat) : Int) := congrArg (Value.int .u32) (by omega)
theorem add_lit (x y : Nat) : ((y : Int) + (x : Int)) % 4294967296 = (((x + y) % 4294967296 : Nat) : Int) := by omega
theorem addW_lit (v h : List Nat) : (#[.int .u32 (((at' h 0 : Nat) + (at' v 0 : Nat) : Int) % 4294967296), .int .u32 (((at' h 1 : Nat) + (at' v 1 : Nat) : Int) % 4294967296), .int .u32 (((at' h 2 : Nat) + (at' v 2 : Nat) : Int) % 4294967296), .int .u32 (((at' h 3 : Nat) + (at' v 3 : Nat) : Int) % 4294967296), .int .u32 (((at' h 4 : Nat) + (at' v 4 : Nat) : Int) % 4294967296), .int .u32 (((at' h 5 : Nat) + (at' v 5 : Nat) : Int) % 4294967296), .int .u32 (((at' h 6 : Nat) + (at' v 6 : Nat) : Int) % 4294967296), .int .u32 (((at' h 7 : Nat) + (at' v 7 : Nat) : Int) % 4294967296)] : Array Value) = (cellsW (addW v h)).toArray := by
  simp only [add_lit]
  rfl
theorem addW_length (v h : List Nat) : (addW v h).length = 8 := by simp [addW]

set_option maxRecDepth 100000 in
set_option maxHeartbeats 1000000 in
theorem wafter_core (W : List Nat) (h : List Nat) (m : List UInt8) (w : World) (G : Tab w) (h8 : h.length = 8) (hf : Fit h) (hl : m.length = 64) (hW : W.length = 64) (hfW : Fit W) (hWm : wTo m 64 = W) :
    Calls Tryd.prog 41 #[.agg (cellsW h).toArray, .agg (cellsB m).toArray] w fun e w' => e = .returned (.agg (cellsW (addW (rTo h W 64) h)).toArray) ∧ Below w.heap.size w w' := by
  obtain ⟨i32, hi32, _, hs32, _⟩ := info_parts Tryd.infoW32
  go_enter Tryd.func41, Tryd.ntmps41
  go_wp2_with fail
  generalize hw3 : ((w.alloc (Obj.cells (cellsW h).toArray 82)).alloc (Obj.cells (cellsB m).toArray 83)).alloc (Obj.cells #[.int .u32 0, .int .u32 0, .int .u32 0, .int .u32 0, .int .u32 0, .int .u32 0, .int .u32 0, .int .u32 0] 82) = w3 at *
  have hh : WAt w3 w.heap.size 0 h := by rw [← hw3]; exact World.rangeAt_alloc (World.rangeAt_alloc (box_range w (cellsW h) _) _) _
  have hm : DAt w3 (w.heap.size + 1) 0 m := by
    rw [← hw3]; exact World.rangeAt_alloc (box_rangeAt _ (cellsB m) _ _ (by simp)) _
  have hT : w3.there (w.heap.size + 1 + 1) 0 8 := by rw [← hw3]; exact alloc_thereAt _ _ _ 8 _ (by simp) rfl
  have hB : Below w.heap.size w w3 := by rw [← hw3]; exact (((Below.refl _ _).alloc (Nat.le_refl _) _).alloc (by simp) _).alloc (by simp; omega) _
  have hsz : w3.heap.size = w.heap.size + 1 + 1 + 1 := by rw [← hw3]; simp
  clear hw3
  have c0 := hh.cell 0 (by omega)
  have c1 := hh.cell 1 (by omega)
  have c2 := hh.cell 2 (by omega)
  have c3 := hh.cell 3 (by omega)
  have c4 := hh.cell 4 (by omega)
  have c5 := hh.cell 5 (by omega)
  have c6 := hh.cell 6 (by omega)
  have c7 := hh.cell 7 (by omega)
  simp only [Nat.zero_add] at c0 c1 c2 c3 c4 c5 c6 c7
  have HF : Hid (Fit h ∧ Fit W) := ⟨hf, hfW⟩
  clear hf hfW
  go_quiet (fail)
  have hd := below_drewN w3 nq
  have hh := range_below hh hd (by omega)
  have hm := range_below hm hd (by omega)
  have hT := there_below hT hd (by omega)
  have hB := below_trans hB hd
  have hsz : (w3.drewN nq).heap.size = w.heap.size + 1 + 1 + 1 := by simpa using hsz
  clear hd c0 c1 c2 c3 c4 c5 c6 c7
  generalize w3.drewN nq = w4 at *
  go_wp2_with (refine wpList_load_mid (by rfl) 83 (.tmp 3) (by rfl) (w.heap.size + 1) 0 (by rfl) (cellsB m) _ hm Tryd.underlying83 (by rfl) (by rw [cellsB_length, hl]; kernel_rfl) ?_)
  refine (wspread_any m _ hl).mono ?_
  rintro e w5 ⟨rfl, hb5⟩
  rw [hWm]
  have G5 := (G.below hB).below hb5
  have hh := range_below hh hb5 (by omega)
  have hT := there_below hT hb5 (by omega)
  have hB := below_trans hB hb5
  clear hm hb5 hsz G
  go_wp2_with fail
  go_loopw [5, 6, 7, 8, 9, 10, 11, 12, 35] (fun xa xb xc xd xe xf xg xh i wr => ∃ t : Nat, t ≤ 64 ∧ i = .int .i64 (t : Int) ∧ xa = .int .u32 ((at' (rTo h W t) 0 : Nat) : Int) ∧ xb = .int .u32 ((at' (rTo h W t) 1 : Nat) : Int) ∧ xc = .int .u32 ((at' (rTo h W t) 2 : Nat) : Int) ∧ xd = .int .u32 ((at' (rTo h W t) 3 : Nat) : Int) ∧ xe = .int .u32 ((at' (rTo h W t) 4 : Nat) : Int) ∧ xf = .int .u32 ((at' (rTo h W t) 5 : Nat) : Int) ∧ xg = .int .u32 ((at' (rTo h W t) 6 : Nat) : Int) ∧ xh = .int .u32 ((at' (rTo h W t) 7 : Nat) : Int) ∧ ∃ q, wr = w5.drewN q) (fun _ _ _ _ _ _ _ _ i _ => 64 - (intOf i).toNat)
  case atStart => exact ⟨0, Nat.zero_le _, rfl, rfl, rfl, rfl, rfl, rfl, rfl, rfl, rfl, 0, rfl⟩
  case round =>
    obtain ⟨t, ht, rfl, rfl, rfl, rfl, rfl, rfl, rfl, rfl, rfl, q, hq⟩ := hrel
    have HQ : Hid (∃ q, wr = w5.drewN q) := ⟨q, hq⟩
    by_cases hlt : t < 64
    · have hx : ∀ w : World, (Instr.index 101 (.agg (cellsW W).toArray) (.int .i64 (t : Int))).run Tryd.prog w = .ok (.int .u32 ((at' W t : Nat) : Int)) w := fun w => run_index_int w _ _ 64 .u32 i32 _ t _ hlt Tryd.underlying101 Tryd.underlying60 hi32 hs32 (by simpa using cellsW_at W t (by omega))
      have hfv := fit_rTo (ws := W) HF.out.1 t
      have HS : Hid (rTo h W (t + 1) = stepW (rTo h W t) (at' kW t) (at' W t)) := rfl
      generalize rTo h W t = v at *
      have f0 := hfv 0
      have f1 := hfv 1
      have f2 := hfv 2
      have f4 := hfv 4
      have f5 := hfv 5
      have f6 := hfv 6
      have f7 := hfv 7
      have f3 := hfv 3
      have ck := G5 t hlt
      rw [← drewN_cell w5 q, ← hq] at ck
      clear hq
      have fk := fit_kW t
      have fw := HF.out.2 t
      have HP : Hid (∀ x0 x1 x2 x3 x4 x5 x6 x7 : Nat, x0 = at' v 0 → x1 = at' v 1 → x2 = at' v 2 → x3 = at' v 3 → x4 = at' v 4 → x5 = at' v 5 → x6 = at' v 6 → x7 = at' v 7 → stepW v (at' kW t) (at' W t) = [(x7 + bs1 x4 + chW x4 x5 x6 + at' kW t + at' W t + (bs0 x0 + mjW x0 x1 x2)) % 4294967296, x0, x1, x2, (x3 + (x7 + bs1 x4 + chW x4 x5 x6 + at' kW t + at' W t)) % 4294967296, x4, x5, x6]) := by
        intro x0 x1 x2 x3 x4 x5 x6 x7 h0 h1 h2 h3 h4 h5 h6 h7
        subst h0 h1 h2 h3 h4 h5 h6 h7
        rfl
      clear hfv
      generalize at' v 0 = x0 at *
      generalize at' v 1 = x1 at *
      generalize at' v 2 = x2 at *
      generalize at' v 3 = x3 at *
      generalize at' v 4 = x4 at *
      generalize at' v 5 = x5 at *
      generalize at' v 6 = x6 at *
      generalize at' v 7 = x7 at *
      generalize at' kW t = kt at *
      generalize at' W t = wt at *
      have hlt' : (t : Int) < 64 := by omega
      have ht0 : (0 : Int) ≤ (t : Int) := by omega
      have E1 := wbs1_eq f4
      have E2 := wch_eq f4 f5 f6
      have EN := wnot_eq f4
      have G1 := bs1_lt f4
      have G2 := chW_lt (e := x4) f5 f6
      have E3 := wbs0_eq f0
      have E4 := wmj_eq f0 f1 f2
      have G3 := bs0_lt f0
      have G4 := mjW_lt (a := x0) f1 f2
      go_wp2_with fail
      go_quiet ((go_at_call 50; exact Calls.quiet_of (wturn_z _ _ _ f4 (by omega) (by omega))))
      have HQ : Hid (∃ q, wr.drewN nq = w5.drewN q) := by
        obtain ⟨q', hq'⟩ := HQ.out
        exact ⟨q' + nq, by rw [hq', World.drewN_drewN]⟩
      clear ck E1 E2 EN
      generalize wr.drewN nq = w6 at *
      go_wp2_with fail
      refine (wturn_any x0 2 _ _ f0 rfl (by omega) (by omega)).mono ?_
      rintro e w' ⟨rfl, rfl⟩
      go_wp2_with fail
      refine (wturn_any x0 13 _ _ f0 rfl (by omega) (by omega)).mono ?_
      rintro e w' ⟨rfl, rfl⟩
      go_wp2_with fail
      refine (wturn_any x0 22 _ _ f0 rfl (by omega) (by omega)).mono ?_
      rintro e w' ⟨rfl, rfl⟩
      generalize hp1 : bs1 x4 = y1 at *
      generalize hp2 : chW x4 x5 x6 = y2 at *
      generalize hp3 : bs0 x0 = y3 at *
      generalize hp4 : mjW x0 x1 x2 = y4 at *
      have HP1 : Hid (_ ∧ _ ∧ _ ∧ _) := ⟨hp1, hp2, hp3, hp4⟩
      clear hp1 hp2 hp3 hp4
      go_wp2
      go_roundw
      case rel =>
        have he : rTo h W (t + 1) = [(x7 + y1 + y2 + kt + wt + (y3 + y4)) % 4294967296, x0, x1, x2, (x3 + (x7 + y1 + y2 + kt + wt)) % 4294967296, x4, x5, x6] := by
          obtain ⟨p1, p2, p3, p4⟩ := HP1.out
          rw [HS.out, HP.out x0 x1 x2 x3 x4 x5 x6 x7 rfl rfl rfl rfl rfl rfl rfl rfl, p1, p2, p3, p4]
        refine ⟨t + 1, by omega, by go_num, ?_⟩
        rw [he]
        refine ⟨?_, rfl, rfl, rfl, ?_, rfl, rfl, rfl, HQ.out⟩
        · exact step_a x7 y1 y2 kt wt y3 y4
        · exact step_e x3 x7 y1 y2 kt wt
      case measure => simp [intOf]; omega
    · obtain rfl : t = 64 := by omega
      have hd := below_drewN w5 q
      have hs5 := cell_block (WAt.cell hh 0 (by omega))
      have hs6 : w.heap.size + 1 + 1 < w5.heap.size := by
        have h0 := (hT 0 (by omega)).1
        obtain ⟨u, hu⟩ := Option.isSome_iff_exists.1 h0
        exact cell_block hu
      have hh := range_below hh hd hs5
      have HT := there_below hT hd hs6
      have HB := below_trans hB hd
      rw [← hq] at hh HT HB
      have HT : Hid (wr.there (w.heap.size + 1 + 1) 0 8) := HT
      have HB : Hid (Below w.heap.size w wr) := HB
      have hh : WAt wr w.heap.size 0 h := hh
      have c0 := hh.cell 0 (by omega)
      have c1 := hh.cell 1 (by omega)
      have c2 := hh.cell 2 (by omega)
      have c3 := hh.cell 3 (by omega)
      have c4 := hh.cell 4 (by omega)
      have c5 := hh.cell 5 (by omega)
      have c6 := hh.cell 6 (by omega)
      have c7 := hh.cell 7 (by omega)
      simp only [Nat.zero_add] at c0 c1 c2 c3 c4 c5 c6 c7
      have hfv := fit_rTo (ws := W) HF.out.1 64
      have hfh := HF.out.1
      generalize hv : rTo h W 64 = v at *
      have HV : Hid (rTo h W 64 = v) := hv
      have HE : Hid (_ = _) := addW_lit v h
      clear hh hd hs5 hs6 hq hT hB hv
      have f0 := hfv 0
      have f1 := hfv 1
      have f2 := hfv 2
      have f4 := hfv 4
      have f5 := hfv 5
      have f6 := hfv 6
      have f7 := hfv 7
      have f3 := hfv 3
      have k0 := hfh 0
      have k1 := hfh 1
      have k2 := hfh 2
      have k4 := hfh 4
      have k5 := hfh 5
      have k6 := hfh 6
      have k7 := hfh 7
      have k3 := hfh 3
      generalize at' v 0 = x0 at *
      generalize at' v 1 = x1 at *
      generalize at' v 2 = x2 at *
      generalize at' v 3 = x3 at *
      generalize at' v 4 = x4 at *
      generalize at' v 5 = x5 at *
      generalize at' v 6 = x6 at *
      generalize at' v 7 = x7 at *
      generalize at' h 0 = y0 at *
      generalize at' h 1 = y1 at *
      generalize at' h 2 = y2 at *
      generalize at' h 3 = y3 at *
      generalize at' h 4 = y4 at *
      generalize at' h 5 = y5 at *
      generalize at' h 6 = y6 at *
      generalize at' h 7 = y7 at *
      go_wp2_with (first
        | (refine wpList_buildE (by rfl) 82 _ (by rfl) _ _ HE.out (by kernel_rfl) ?_)
        | (refine wpList_store_mid (by rfl) 82 (.tmp 4) (.tmp 129) (by rfl) (w.heap.size + 1 + 1) 0 (cellsW (addW v h)).toArray (by rfl) (by rfl) (by rw [cellsW_size, addW_length]; exact HT.out) (by rw [cellsW_size, addW_length]; kernel_rfl) (all_oneCell_toArray (cellsW_one _)) ?_))
      refine bodyPost_ret (v := .agg (cellsW (addW v h)).toArray) (run_results_row Tryd.results41 _ _ (w.heap.size + 1 + 1) 0 (by rfl) (cellsW (addW v h)) (World.rangeAt_setCells_same _ _ _ _ (by rw [cellsW_length, addW_length]; exact HT.out)) _ Tryd.underlying82 (by rfl) (by rw [cellsW_length, addW_length]; kernel_rfl)) rfl ⟨by rw [HV.out], ?_⟩
      exact below_setCells _ (by omega) _ _ _ HB.out
theorem wafter_any (h : List Nat) (m : List UInt8) (w : World) (G : Tab w) (h8 : h.length = 8) (hf : Fit h) (hl : m.length = 64) :
    Calls Tryd.prog 41 #[.agg (cellsW h).toArray, .agg (cellsB m).toArray] w fun e w' => e = .returned (.agg (cellsW (blockW h m)).toArray) ∧ Below w.heap.size w w' :=
  wafter_core (wTo m 64) h m w G h8 hf hl (wTo_length m 64) (fit_wTo m 64) rfl
end Go.Proofs.YtbpkhpkllokbhaaDoor
