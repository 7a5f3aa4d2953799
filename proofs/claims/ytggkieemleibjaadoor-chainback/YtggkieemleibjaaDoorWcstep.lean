/- The contracts of chain.Step, chain.walk and chain.Walk. -/
import Derived.Test.YtggkieemleibjaaDoorEnv
import Derived.Test.YtggkieemleibjaaDoorWsumof
import Derived.Test.YtggkieemleibjaaDoorChain
import Derived.Test.YtggkieemleibjaaDoorZd
import Derived.StillTailTactics
namespace Go.Proofs.YtggkieemleibjaaDoor
open Go.RowKit
set_option linter.unusedVariables false
set_option linter.unusedSimpArgs false

set_option maxRecDepth 100000 in
set_option maxHeartbeats 1000000 in
theorem wchain_step (d : List UInt8) (w : World) (G : Env w) (hd : d.length = 32) :
    Calls Tryd.prog 9 #[digestV d] w fun e w' => e = .returned (digestV (walkL d 1)) ∧ Below w.heap.size w w' := by
  obtain ⟨w2, hw2⟩ : ∃ w2, (w.alloc (.cells (cellsB d).toArray 23)).alloc (.cells (cellsB zD).toArray 23) = w2 := ⟨_, rfl⟩
  have hs1 : (w.alloc (.cells (cellsB d).toArray 23)).heap.size = w.heap.size + 1 := by simp
  have HS2 : Hid (w2.heap.size = w.heap.size + 1 + 1) := by unfold Hid; rw [← hw2]; simp
  have HR2 : Hid (Row w2 (some ⟨w.heap.size, 0, none⟩) 32 d) := by
    rw [← hw2]
    exact DAt.row (World.rangeAt_alloc (box_dat w d _) _) hd
  have HT2 : Hid (w2.there (w.heap.size + 1) 0 32) := by rw [← hw2]; exact alloc_thereAt _ _ _ 32 _ hs1 zD_size.symm
  have HB2 : Hid (Below w.heap.size w w2) := by rw [← hw2]; exact ((Below.refl _ _).alloc (Nat.le_refl _) _).alloc (by simp) _
  have HG : Hid (Env w2) := G.below HB2.out
  clear G
  go_enter Tryd.func9, Tryd.ntmps9
  go_wp2_with (refine wpList_allocE (by rfl) 23 (by rfl) (cellsB zD).toArray Tryd.zeroDg (w.heap.size + 1) hs1 w2 hw2 ?_)
  clear hw2 hs1
  have hsa : (w2.alloc (.cells #[.int .u8 8] 5)).heap.size = w2.heap.size + 1 := by simp
  have HRB : Hid (BRows ((w2.alloc (.cells #[.int .u8 8] 5)).alloc (.cells #[.slice (some ⟨w2.heap.size, 0, none⟩) 1 1, .slice (some ⟨w.heap.size, 0, none⟩) 32 32] 43)) (some ⟨w2.heap.size + 1, 0, none⟩) 2 [[8], d]) := by
    have := BRows.lit2 (w := w2.alloc (.cells #[.int .u8 8] 5)) (t := 43) (Nat.le_refl 1) (Row.lit1v w2 8 5 8 rfl) (Nat.le_refl 32) (HR2.out.below ((Below.refl _ _).alloc (Nat.le_refl _) _))
    rw [hsa] at this
    exact this
  have HBB : Hid (Below w2.heap.size w2 ((w2.alloc (.cells #[.int .u8 8] 5)).alloc (.cells #[.slice (some ⟨w2.heap.size, 0, none⟩) 1 1, .slice (some ⟨w.heap.size, 0, none⟩) 32 32] 43))) := ((Below.refl _ _).alloc (Nat.le_refl _) _).alloc (by simp) _
  refine (wsumof_any _ 2 2 [[8], d] _ (HG.out.below HBB.out) HRB.out (by simp; omega) (by omega)).mono ?_
  rintro e w3 ⟨rfl, hb3⟩
  have e1 : shaL [[8], d].flatten = walkL d 1 := by
    rw [show [[8], d].flatten = 8 :: d by simp]
    rfl
  rw [e1]
  have HB3 : Hid (Below w2.heap.size w2 w3) := HBB.out.trans (hb3.mono HBB.out.size)
  have HT3 : Hid (w3.there (w.heap.size + 1) 0 32) := there_below HT2.out HB3.out (by have := HS2.out; omega)
  have hlen := walkL_length hd 1
  clear hb3 HRB HBB hsa e1
  generalize hD : walkL d 1 = D at *
  have HD : Hid (walkL d 1 = D) := hD
  clear hD
  go_wp2_with (refine wpList_store_mid (by rfl) 23 (.tmp 2) (.tmp 6) (by rfl) (w.heap.size + 1) 0 (cellsB D).toArray (by rfl) (by rfl) (by rw [cellsB_size, hlen]; exact HT3.out) (by rw [cellsB_size, hlen]; exact Tryd.sizeDg) (all_oneCell_toArray (cellsB_one _)) ?_)
  refine bodyPost_ret (v := digestV D) (run_results_row Tryd.results9 _ _ (w.heap.size + 1) 0 (by rfl) (cellsB D) (World.rangeAt_setCells_same _ _ _ _ (by rw [cellsB_length, hlen]; exact HT3.out)) _ Tryd.underlying23 (by rfl) (by rw [cellsB_length, hlen]; exact Tryd.sizeDg)) rfl ⟨by rw [HD.out], ?_⟩
  exact below_setCells _ (by omega) _ _ _ (HB2.out.trans (HB3.out.mono (by have := HS2.out; omega)))

set_option maxRecDepth 100000 in
set_option maxHeartbeats 1000000 in
theorem wchain_steps (d : List UInt8) (n : Nat) (w : World) (G : Env w) (hd : d.length = 32) (hn : n ≤ 1000000) :
    Calls Tryd.prog 14 #[digestV d, .int .i64 (n : Int)] w fun e w' => e = .returned (digestV (walkL d n)) ∧ Below w.heap.size w w' := by
  obtain ⟨w2, hw2⟩ : ∃ w2, (w.alloc (.cells (cellsB d).toArray 23)).alloc (.cells (cellsB zD).toArray 23) = w2 := ⟨_, rfl⟩
  have hs1 : (w.alloc (.cells (cellsB d).toArray 23)).heap.size = w.heap.size + 1 := by simp
  have HS2 : Hid (w2.heap.size = w.heap.size + 1 + 1) := by unfold Hid; rw [← hw2]; simp
  have HD2 : Hid (DAt w2 w.heap.size 0 d ∧ w2.there w.heap.size 0 32) := by
    rw [← hw2]
    exact ⟨World.rangeAt_alloc (box_dat w d _) _, there_below (box_there w d _ hd) ((Below.refl _ _).alloc (Nat.le_refl _) _) (by simp)⟩
  have HT2 : Hid (w2.there (w.heap.size + 1) 0 32) := by rw [← hw2]; exact alloc_thereAt _ _ _ 32 _ hs1 zD_size.symm
  have HB2 : Hid (Below w.heap.size w w2) := by rw [← hw2]; exact ((Below.refl _ _).alloc (Nat.le_refl _) _).alloc (by simp) _
  have HG : Hid (Env w) := G
  clear G
  go_enter Tryd.func14, Tryd.ntmps14
  go_wp2_with (refine wpList_allocE (by rfl) 23 (by rfl) (cellsB zD).toArray Tryd.zeroDg (w.heap.size + 1) hs1 w2 hw2 ?_)
  clear hw2 hs1
  go_loopw [6] (fun i wr => ∃ k : Nat, k ≤ n ∧ i = .int .i64 (k : Int) ∧ DAt wr w.heap.size 0 (walkL d k) ∧ wr.there w.heap.size 0 32 ∧ wr.there (w.heap.size + 1) 0 32 ∧ Below w.heap.size w wr ∧ w.heap.size + 1 < wr.heap.size) (fun i _ => n - (intOf i).toNat)
  case atStart => exact ⟨0, Nat.zero_le _, rfl, HD2.out.1, HD2.out.2, HT2.out, HB2.out, by have := HS2.out; omega⟩
  case round =>
    clear HD2 HT2 HB2 HS2
    obtain ⟨k, hk, rfl, hD, hT1, hT2, hB, hs⟩ := hrel
    have HD : Hid (DAt wr w.heap.size 0 (walkL d k)) := hD
    have HT1 : Hid (wr.there w.heap.size 0 32) := hT1
    have HT2 : Hid (wr.there (w.heap.size + 1) 0 32) := hT2
    have HB : Hid (Below w.heap.size w wr) := hB
    have hx := walkL_length hd k
    clear hD hT1 hT2 hB
    by_cases hlt : k < n
    · have HS : Hid (walkL d (k + 1) = walkL (walkL d k) 1) := walkL_add d k 1
      generalize walkL d k = x at *
      have hlt' : (k : Int) < (n : Int) := by omega
      go_wp2_with (refine wpList_load_mid (by rfl) 23 (.tmp 2) (by rfl) w.heap.size 0 (by rfl) (cellsB x) _ HD.out Tryd.underlying23 (by rfl) (by rw [cellsB_length, hx]; exact Tryd.sizeDg) ?_)
      refine (wchain_step x wr (HG.out.below HB.out) hx).mono ?_
      rintro e w4 ⟨rfl, hb4⟩
      have hy := walkL_length hx 1
      have HW1 : Hid (w4.there w.heap.size 0 32) := there_below HT1.out hb4 (by omega)
      have HW2 : Hid (w4.there (w.heap.size + 1) 0 32) := there_below HT2.out hb4 hs
      have HB4 : Hid (Below w.heap.size w w4 ∧ w.heap.size + 1 < w4.heap.size) := ⟨below_trans HB.out hb4, by have := hb4.size; omega⟩
      generalize hye : walkL x 1 = y at *
      clear hye hb4 HD HT1 HT2 HB
      go_wp2_with (refine wpList_store_mid (by rfl) 23 (.tmp 2) (.tmp 9) (by rfl) w.heap.size 0 (cellsB y).toArray (by rfl) (by rfl) (by rw [cellsB_size, hy]; exact HW1.out) (by rw [cellsB_size, hy]; exact Tryd.sizeDg) (all_oneCell_toArray (cellsB_one _)) ?_)
      go_roundw
      case rel =>
        have hz := (below_setCells (B := 0) w.heap.size (Nat.zero_le _) (cellsB y) 0 w4 (Below.refl 0 w4)).size
        exact ⟨k + 1, by omega, by go_num, by rw [HS.out]; exact dat_stored HW1.out hy, World.there_setCells HW1.out _ _ _, World.there_setCells HW2.out _ _ _, below_setCells _ (Nat.le_refl _) _ _ _ HB4.out.1, by have := HB4.out.2; omega⟩
      case measure => simp [intOf]; omega
    · obtain rfl : k = n := by omega
      generalize hXe : walkL d k = X at *
      have HX : Hid (walkL d k = X) := hXe
      clear hXe
      go_wp2_with (first
        | (refine wpList_load_mid (by rfl) 23 (.tmp 2) (by rfl) w.heap.size 0 (by rfl) (cellsB X) _ HD.out Tryd.underlying23 (by rfl) (by rw [cellsB_length, hx]; exact Tryd.sizeDg) ?_)
        | (refine wpList_store_mid (by rfl) 23 (.tmp 4) (.tmp 11) (by rfl) (w.heap.size + 1) 0 (cellsB X).toArray (by rfl) (by rfl) (by rw [cellsB_size, hx]; exact HT2.out) (by rw [cellsB_size, hx]; exact Tryd.sizeDg) (all_oneCell_toArray (cellsB_one _)) ?_))
      refine bodyPost_ret (v := digestV X) (run_results_row Tryd.results14 _ _ (w.heap.size + 1) 0 (by rfl) (cellsB X) (World.rangeAt_setCells_same _ _ _ _ (by rw [cellsB_length, hx]; exact HT2.out)) _ Tryd.underlying23 (by rfl) (by rw [cellsB_length, hx]; exact Tryd.sizeDg)) rfl ⟨by rw [HX.out], ?_⟩
      exact below_setCells _ (by omega) _ _ _ HB.out

set_option maxRecDepth 100000 in
set_option maxHeartbeats 1000000 in
theorem wchain_walk (d : List UInt8) (n : Nat) (w : World) (G : Env w) (hd : d.length = 32) (hn : n ≤ 1000) :
    Calls Tryd.prog 7 #[digestV d, .int .i64 (n : Int)] w fun e w' => e = .returned (.tuple #[digestV (walkL d n), .nilIface]) ∧ Below w.heap.size w w' := by
  have h1 : ¬ (n : Int) < 0 := by omega
  have h2 : ¬ (1000 : Int) < (n : Int) := by omega
  obtain ⟨w2, hw2⟩ : ∃ w2, (w.alloc (.cells (cellsB d).toArray 23)).alloc (.cells (cellsB zD).toArray 23) = w2 := ⟨_, rfl⟩
  have hs1 : (w.alloc (.cells (cellsB d).toArray 23)).heap.size = w.heap.size + 1 := by simp
  have HS2 : Hid (w2.heap.size = w.heap.size + 1 + 1) := by unfold Hid; rw [← hw2]; simp
  have HD2 : Hid (DAt w2 w.heap.size 0 d) := by
    rw [← hw2]
    exact World.rangeAt_alloc (box_dat w d _) _
  have HT2 : Hid (w2.there (w.heap.size + 1) 0 32) := by rw [← hw2]; exact alloc_thereAt _ _ _ 32 _ hs1 zD_size.symm
  have HB2 : Hid (Below w.heap.size w w2) := by rw [← hw2]; exact ((Below.refl _ _).alloc (Nat.le_refl _) _).alloc (by simp) _
  have HG : Hid (Env w2) := G.below HB2.out
  clear G
  go_enter Tryd.func7, Tryd.ntmps7
  go_wp2_with (first
    | (refine wpList_allocE (by rfl) 23 (by rfl) (cellsB zD).toArray Tryd.zeroDg (w.heap.size + 1) hs1 w2 hw2 ?_)
    | (refine wpList_load_mid (by rfl) 23 (.tmp 2) (by rfl) w.heap.size 0 (by rfl) (cellsB d) _ HD2.out Tryd.underlying23 (by rfl) (by rw [cellsB_length, hd]; exact Tryd.sizeDg) ?_))
  clear hw2 hs1
  refine (wchain_steps d n w2 HG.out hd (by omega)).mono ?_
  rintro e w3 ⟨rfl, hb3⟩
  have HT3 : Hid (w3.there (w.heap.size + 1) 0 32) := there_below HT2.out hb3 (by have := HS2.out; omega)
  have HB3 : Hid (Below w.heap.size w w3) := below_trans HB2.out hb3
  have hx := walkL_length hd n
  clear hb3
  generalize hXe : walkL d n = X at *
  have HX : Hid (walkL d n = X) := hXe
  clear hXe
  go_wp2_with (refine wpList_store_mid (by rfl) 23 (.tmp 4) (.tmp 16) (by rfl) (w.heap.size + 1) 0 (cellsB X).toArray (by rfl) (by rfl) (by rw [cellsB_size, hx]; exact HT3.out) (by rw [cellsB_size, hx]; exact Tryd.sizeDg) (all_oneCell_toArray (cellsB_one _)) ?_)
  refine bodyPost_ret (v := .tuple #[digestV X, .nilIface]) (run_results_row2 Tryd.results7 _ _ (w.heap.size + 1) 0 (by rfl) .nilIface (by rfl) (cellsB X) (World.rangeAt_setCells_same _ _ _ _ (by rw [cellsB_length, hx]; exact HT3.out)) _ Tryd.underlying23 (by rfl) (by rw [cellsB_length, hx]; exact Tryd.sizeDg)) rfl ⟨by rw [HX.out], ?_⟩
  exact below_setCells _ (by omega) _ _ _ HB3.out

set_option maxRecDepth 100000 in
set_option maxHeartbeats 1000000 in
theorem wchain_out (d : List UInt8) (m : Int) (w : World) (G : Env w) (hd : d.length = 32) (hm : m < 0 ∨ 1000 < m) :
    Calls Tryd.prog 7 #[digestV d, .int .i64 m] w fun e w' => e = .returned (.tuple #[digestV zD, .iface 24 (.int .i64 2)]) ∧ Below w.heap.size w w' := by
  clear G
  obtain ⟨w2, hw2⟩ : ∃ w2, (w.alloc (.cells (cellsB d).toArray 23)).alloc (.cells (cellsB zD).toArray 23) = w2 := ⟨_, rfl⟩
  have hs1 : (w.alloc (.cells (cellsB d).toArray 23)).heap.size = w.heap.size + 1 := by simp
  have HS2 : Hid (w2.heap.size = w.heap.size + 1 + 1) := by unfold Hid; rw [← hw2]; simp
  have HD2 : Hid (DAt w2 w.heap.size 0 d) := by
    rw [← hw2]
    exact World.rangeAt_alloc (box_dat w d _) _
  have HT2 : Hid (w2.there (w.heap.size + 1) 0 32) := by rw [← hw2]; exact alloc_thereAt _ _ _ 32 _ hs1 zD_size.symm
  have HB2 : Hid (Below w.heap.size w w2) := by rw [← hw2]; exact ((Below.refl _ _).alloc (Nat.le_refl _) _).alloc (by simp) _
  go_enter Tryd.func7, Tryd.ntmps7
  by_cases h1 : m < 0
  · clear hm
    go_wp2_with (first
      | (refine wpList_allocE (by rfl) 23 (by rfl) (cellsB zD).toArray Tryd.zeroDg (w.heap.size + 1) hs1 w2 hw2 ?_)
      | (refine wpList_buildC (by rfl) 23 _ (by rfl) (cellsB zD).toArray (by kernel_rfl) ?_)
      | (refine wpList_store_mid (by rfl) 23 (.tmp 4) (.tmp 12) (by rfl) (w.heap.size + 1) 0 (cellsB zD).toArray (by rfl) (by rfl) (by rw [cellsB_size]; exact HT2.out) (by rw [cellsB_size]; exact Tryd.sizeDg) (all_oneCell_toArray (cellsB_one _)) ?_))
    refine bodyPost_ret (v := .tuple #[digestV zD, .iface 24 (.int .i64 2)]) (run_results_row2 Tryd.results7 _ _ (w.heap.size + 1) 0 (by rfl) _ (by rfl) (cellsB zD) (World.rangeAt_setCells_same _ _ _ _ (by rw [cellsB_length]; exact HT2.out)) _ Tryd.underlying23 (by rfl) (by rw [cellsB_length]; exact Tryd.sizeDg)) rfl ⟨rfl, ?_⟩
    exact below_setCells _ (by omega) _ _ _ HB2.out
  · have h2 : 1000 < m := by omega
    clear hm
    go_wp2_with (first
      | (refine wpList_allocE (by rfl) 23 (by rfl) (cellsB zD).toArray Tryd.zeroDg (w.heap.size + 1) hs1 w2 hw2 ?_)
      | (refine wpList_buildC (by rfl) 23 _ (by rfl) (cellsB zD).toArray (by kernel_rfl) ?_)
      | (refine wpList_store_mid (by rfl) 23 (.tmp 4) (.tmp 12) (by rfl) (w.heap.size + 1) 0 (cellsB zD).toArray (by rfl) (by rfl) (by rw [cellsB_size]; exact HT2.out) (by rw [cellsB_size]; exact Tryd.sizeDg) (all_oneCell_toArray (cellsB_one _)) ?_))
    refine bodyPost_ret (v := .tuple #[digestV zD, .iface 24 (.int .i64 2)]) (run_results_row2 Tryd.results7 _ _ (w.heap.size + 1) 0 (by rfl) _ (by rfl) (cellsB zD) (World.rangeAt_setCells_same _ _ _ _ (by rw [cellsB_length]; exact HT2.out)) _ Tryd.underlying23 (by rfl) (by rw [cellsB_length]; exact Tryd.sizeDg)) rfl ⟨rfl, ?_⟩
    exact below_setCells _ (by omega) _ _ _ HB2.out
end Go.Proofs.YtggkieemleibjaaDoor
