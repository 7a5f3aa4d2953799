/- The contract of oathbookref1.Walked. -/
import Derived.Test.YtggkieemleibjaaDoorRof
import Derived.Test.YtggkieemleibjaaDoorChain
import Derived.Test.YtggkieemleibjaaDoorBuild
namespace Go.Proofs.YtggkieemleibjaaDoor
open Go.RowKit
set_option linter.unusedVariables false
set_option linter.unusedSimpArgs false

theorem Tryd.infoDigest : (Tryd.prog.info? 23).map (fun i => (i.zero, i.size, i.bytes)) = some (some (.agg zeros32), 32, 32) := by kernel_rfl

set_option maxRecDepth 100000 in
set_option maxHeartbeats 1000000 in
theorem rwalk_any (d : List UInt8) (n : Nat) (w : World) (hd : d.length = 32) (hn : n ≤ 1000000) :
    Calls Tryd.prog 6 #[digestV d, .int .i64 (n : Int)] w fun e w' => e = .returned (digestV (walkL d n)) ∧ Below w.heap.size w w' := by
  obtain ⟨iD, hiD, hzD0, hzD1, hzD2⟩ := info_parts Tryd.infoDigest
  go_enter Tryd.func6, Tryd.ntmps6
  go_wp2
  go_loopw [5] (fun i wr => ∃ k : Nat, k ≤ n ∧ i = .int .i64 (k : Int) ∧ DAt wr w.heap.size 0 (walkL d k) ∧ wr.there w.heap.size 0 32 ∧ wr.there (w.heap.size + 1) 0 32 ∧ Below w.heap.size w wr ∧ w.heap.size + 1 < wr.heap.size) (fun i _ => n - (intOf i).toNat)
  case atStart =>
    have hb : Below (w.heap.size + 1) (w.alloc (.cells (cellsB d).toArray 23)) _ := (Below.refl _ _).alloc (by simp) (.cells zeros32 23)
    refine ⟨0, Nat.zero_le _, rfl, (box_dat w d _).below hb (Nat.lt_succ_self _), there_below (box_there w d _ hd) hb (Nat.lt_succ_self _), ?_, ((Below.refl _ _).alloc (Nat.le_refl _) _).alloc (by simp) _, by simp⟩
    have := there_new (w.alloc (.cells (cellsB d).toArray 23)) 23
    simpa using this
  case round =>
    obtain ⟨k, hk, rfl, hD, hT1, hT2, hB, hs⟩ := hrel
    have HD : Hid (DAt wr w.heap.size 0 (walkL d k)) := hD
    have HT1 : Hid (wr.there w.heap.size 0 32) := hT1
    have HT2 : Hid (wr.there (w.heap.size + 1) 0 32) := hT2
    have HL : Hid ((walkL d k).length = 32) := walkL_length hd k
    clear hD hT1 hT2
    by_cases hlt : k < n
    · have HS : Hid (walkL d (k + 1) = shaL (8 :: walkL d k)) := rfl
      generalize walkL d k = x at *
      go_wp2_with (first
        | (refine wpList_load_mid (by rfl) 23 (.tmp 2) (by rfl) w.heap.size 0 (by rfl) (cellsB x) _ HD.out Tryd.underlying23 (by rfl) (by rw [cellsB_length, HL.out]; kernel_rfl) ?_)
        | (refine wpList_build1 (by rfl) (.tmp 11) 40 (by rfl) 23 (.agg zeros32) iD x HL.out (by rfl) Tryd.underlying40 hiD hzD0 (by rfl) hzD1 ?_))
      refine (rof_any 8 _ _ _ [x] _ (DRow.lit1 wr x _ HL.out) (by omega)).mono ?_
      rintro e w4 ⟨rfl, hb4⟩
      have e1 : shaL (8 :: [x].flatten) = walkL d (k + 1) := by rw [HS.out]; simp
      rw [e1]
      have b4 : Below wr.heap.size wr w4 := below_trans ((Below.refl _ _).alloc (Nat.le_refl _) _) hb4
      have HL1 : Hid ((walkL d (k + 1)).length = 32) := walkL_length hd (k + 1)
      have t1 := there_below HT1.out b4 (by omega)
      have t2 := there_below HT2.out b4 hs
      have hs4 := b4.size
      have B4 := hB.trans (b4.mono (by omega))
      generalize hy : walkL d (k + 1) = y at *
      have HY : Hid (walkL d (k + 1) = y) := hy
      clear hy
      have HW1 : Hid (w4.there w.heap.size 0 32) := t1
      have HW2 : Hid (w4.there (w.heap.size + 1) 0 32) := t2
      clear e1 b4 hb4 hB t1 t2
      go_wp2_with (refine wpList_store_mid (by rfl) 23 (.tmp 2) (.tmp 13) (by rfl) w.heap.size 0 (cellsB y).toArray (by rfl) (by rfl) (by rw [cells32 HL1.out]; exact HW1.out) (by rw [cells32 HL1.out]; kernel_rfl) (all_oneCell_toArray (cellsB_one _)) ?_)
      go_roundw
      case rel =>
        have hz := (below_setCells (B := 0) w.heap.size (Nat.zero_le _) (cellsB y) 0 w4 (Below.refl 0 w4)).size
        exact ⟨k + 1, by omega, by go_num, by rw [HY.out]; exact dat_stored HW1.out HL1.out, World.there_setCells HW1.out _ _ _, World.there_setCells HW2.out _ _ _, below_setCells _ (Nat.le_refl _) _ _ _ B4, by omega⟩
      case measure => simp [intOf]; omega
    · obtain rfl : k = n := by omega
      generalize hx : walkL d k = x at *
      have HX : Hid (walkL d k = x) := hx
      clear hx
      go_wp2_with (first
        | (refine wpList_load_mid (by rfl) 23 (.tmp 2) (by rfl) w.heap.size 0 (by rfl) (cellsB x) _ HD.out Tryd.underlying23 (by rfl) (by rw [cellsB_length, HL.out]; kernel_rfl) ?_)
        | (refine wpList_store_mid (by rfl) 23 (.tmp 4) (.tmp 14) (by rfl) (w.heap.size + 1) 0 (cellsB x).toArray (by rfl) (by rfl) (by rw [cells32 HL.out]; exact HT2.out) (by rw [cells32 HL.out]; kernel_rfl) (all_oneCell_toArray (cellsB_one _)) ?_))
      refine bodyPost_ret (v := digestV x) (run_results_digest Tryd.results6 _ _ (w.heap.size + 1) 0 (by rfl) x (dat_stored HT2.out HL.out) _ Tryd.underlying23 (by rfl) (by rw [HL.out]; kernel_rfl)) rfl ⟨by rw [HX.out], ?_⟩
      exact below_setCells _ (Nat.le_succ _) _ _ _ hB
end Go.Proofs.YtggkieemleibjaaDoor
