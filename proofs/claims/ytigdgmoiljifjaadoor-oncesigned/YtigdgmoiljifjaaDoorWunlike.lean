/- The contract of block.unlike: a block of which each bit is another where x has one. -/
import Derived.Test.YtigdgmoiljifjaaDoorMac
import Derived.Test.YtigdgmoiljifjaaDoorWsum
namespace Go.Proofs.YtigdgmoiljifjaaDoor
open Go.RowKit
set_option linter.unusedVariables false
set_option linter.unusedSimpArgs false

/-- A new variable for a block. -/
def z64 : List UInt8 := List.replicate 64 0
theorem z64_size : (cellsB z64).toArray.size = 64 := by rw [cellsB_size]; rfl
theorem Tryd.zeroKblock : (Tryd.prog.info? 64).map (·.zero) = some (some (.agg (cellsB z64).toArray)) := by kernel_rfl
theorem Tryd.sizeKblock : (Tryd.prog.info? 64).map (·.size) = some 64 := by kernel_rfl
theorem cellsB_range (l : List UInt8) (n : Nat) (h : l.length = n) : cellsB l = (List.range n).map fun i => Value.int .u8 (nth l i) := by
  apply List.ext_getElem?
  intro i
  by_cases hi : i < n
  · rw [cellsB_at l i (by omega)]
    simp [hi]
  · rw [List.getElem?_eq_none (by rw [cellsB_length]; omega), List.getElem?_eq_none (by simp; omega)]
theorem nth_padX (k : List UInt8) (x : UInt8) (n i : Nat) (h : i < n) : nth (padX k x n) i = (((xorB k i x).toNat : Nat) : Int) := by
  unfold padX
  rw [nth_map_range _ _ _ h]

set_option maxRecDepth 100000 in
set_option maxHeartbeats 1000000 in
theorem wunlike_any (kk : List UInt8) (x : UInt8) (v : Int) (hv : v = (x.toNat : Int)) (w : World) (h64 : kk.length = 64) :
    Calls Tryd.prog 45 #[.agg (cellsB kk).toArray, .int .u8 v] w fun e w' => e = .returned (.agg (cellsB (padX kk x 64)).toArray) ∧ Below w.heap.size w w' := by
  have HV : Hid (v = (x.toNat : Int)) := hv
  clear hv
  obtain ⟨w2, hw2⟩ : ∃ w2, (w.alloc (.cells (cellsB kk).toArray 64)).alloc (.cells (cellsB z64).toArray 64) = w2 := ⟨_, rfl⟩
  have hs1 : (w.alloc (.cells (cellsB kk).toArray 64)).heap.size = w.heap.size + 1 := by simp
  have HO2 : Hid (OwnK .u8 64 w2 w.heap.size w.heap.size 64 64 (nth kk)) := by
    rw [← hw2]
    exact World.ownsRow.alloc (OwnK.new w _ 64 64 (by omega) (nth kk) (cellsB_range kk 64 h64)) _
  have HB2 : Hid (Below w.heap.size w w2) := by
    rw [← hw2]
    exact ((Below.refl _ _).alloc (Nat.le_refl _) _).alloc (by simp) _
  have HT2 : Hid (w2.there (w.heap.size + 1) 0 64) := by rw [← hw2]; exact alloc_thereAt _ _ _ 64 _ hs1 z64_size.symm
  go_enter Tryd.func45, Tryd.ntmps45
  go_wp2_with (refine wpList_allocE (by rfl) 64 (by rfl) (cellsB z64).toArray Tryd.zeroKblock (w.heap.size + 1) hs1 w2 hw2 ?_)
  clear hw2 hs1
  go_loopw [6] (fun i wr => ∃ t : Nat, t ≤ 64 ∧ i = .int .i64 (t : Int) ∧ OwnK .u8 64 wr w.heap.size w.heap.size 64 64 (fun q => if q < t then nth (padX kk x 64) q else nth kk q) ∧ wr.there (w.heap.size + 1) 0 64 ∧ Below w.heap.size w wr) (fun i _ => 64 - (intOf i).toNat)
  case atStart =>
    refine ⟨0, Nat.zero_le _, rfl, ?_, HT2.out, HB2.out⟩
    exact OwnK.congr HO2.out (fun i hi => by rw [if_neg (by omega)])
  case round =>
    clear HO2 HB2 HT2
    obtain ⟨t, ht, rfl, hO, hT, hB⟩ := hrel
    by_cases hlt : t < 64
    · have c0 := hO.cell t hlt
      rw [if_neg (by omega)] at c0
      have z0 := hO.frozen t
      have E1 : bits .xor .u8 (nth kk t) v = (((xorB kk t x).toNat : Nat) : Int) := by rw [HV.out]; exact xor_byte kk t x
      have HN : Hid (nth (padX kk x 64) t = (((xorB kk t x).toNat : Nat) : Int)) := nth_padX _ _ _ _ hlt
      have HO : Hid (OwnK .u8 64 wr w.heap.size w.heap.size 64 64 (fun q => if q < t then nth (padX kk x 64) q else nth kk q)) := hO
      have HT : Hid (wr.there (w.heap.size + 1) 0 64) := hT
      clear hO hT
      have ht0 : (0 : Int) ≤ (t : Int) := by omega
      have ht1 : (t : Int) < 64 := by omega
      generalize hy : (((xorB kk t x).toNat : Nat) : Int) = y at *
      clear hy
      go_wp2
      go_roundw
      case rel =>
        refine ⟨t + 1, by omega, by go_num, (OwnK.store HO.out t _).congr fun q hq => ?_, there_set HT.out _ _ _, hB.setCell (Nat.le_refl _) _⟩
        by_cases hqt : q = t
        · subst hqt
          rw [if_pos rfl, if_pos (by omega), HN.out]
        · rw [if_neg hqt]
          by_cases hlt2 : q < t
          · rw [if_pos hlt2, if_pos (by omega)]
          · rw [if_neg hlt2, if_neg (by omega)]
      case measure => simp [intOf]; omega
    · obtain rfl : t = 64 := by omega
      have HD : Hid (DAt wr w.heap.size 0 (padX kk x 64)) := hO.bat (padX_length _ _ _) fun i hi => by rw [if_pos hi]
      have HT : Hid (wr.there (w.heap.size + 1) 0 64) := hT
      have hlen := padX_length kk x 64
      clear hO hT
      generalize hD : padX kk x 64 = D at *
      have HE : Hid (padX kk x 64 = D) := hD
      clear hD
      go_wp2_with (first
        | (refine wpList_load_mid (by rfl) 64 (.tmp 2) (by rfl) w.heap.size 0 (by rfl) (cellsB D) _ HD.out Tryd.underlying64 (by rfl) (by rw [cellsB_length, hlen]; exact Tryd.sizeKblock) ?_)
        | (refine wpList_store_mid (by rfl) 64 (.tmp 4) (.tmp 16) (by rfl) (w.heap.size + 1) 0 (cellsB D).toArray (by rfl) (by rfl) (by rw [cellsB_size, hlen]; exact HT.out) (by rw [cellsB_size, hlen]; exact Tryd.sizeKblock) (all_oneCell_toArray (cellsB_one _)) ?_))
      refine bodyPost_ret (v := .agg (cellsB D).toArray) (run_results_row Tryd.results45 _ _ (w.heap.size + 1) 0 (by rfl) (cellsB D) (World.rangeAt_setCells_same _ _ _ _ (by rw [cellsB_length, hlen]; exact HT.out)) _ Tryd.underlying64 (by rfl) (by rw [cellsB_length, hlen]; exact Tryd.sizeKblock)) rfl ⟨by rw [HE.out], ?_⟩
      exact below_setCells _ (by omega) _ _ _ hB
end Go.Proofs.YtigdgmoiljifjaaDoor
