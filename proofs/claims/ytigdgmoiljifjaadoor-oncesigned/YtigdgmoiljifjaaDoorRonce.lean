/- The contracts of oathbookref1's keyed, OnceSecret and OnceLeaf. -/
import Derived.Test.YtigdgmoiljifjaaDoorRbit
import Derived.Test.YtigdgmoiljifjaaDoorRmac
import Derived.Test.YtigdgmoiljifjaaDoorRof
import Derived.Test.YtigdgmoiljifjaaDoorOwnD
import Derived.Test.YtigdgmoiljifjaaDoorZd
namespace Go.Proofs.YtigdgmoiljifjaaDoor
open Go.RowKit
set_option linter.unusedVariables false
set_option linter.unusedSimpArgs false

set_option maxRecDepth 100000 in
set_option maxHeartbeats 1000000 in
theorem rkeyed_any (seed : List UInt8) (a : Option Addr) (n c : Nat) (b : List UInt8) (w : World) (hs : seed.length = 32) (R : Row w a n b) (hn : n ≤ 140737488353000) :
    Calls Tryd.prog 23 #[digestV seed, .slice a n c] w fun e w' => e = .returned (digestV (macL seed b)) ∧ Below w.heap.size w w' := by
  obtain ⟨w2, hw2⟩ : ∃ w2, (w.alloc (.cells (cellsB seed).toArray 23)).alloc (.cells (cellsB zD).toArray 23) = w2 := ⟨_, rfl⟩
  have hs1 : (w.alloc (.cells (cellsB seed).toArray 23)).heap.size = w.heap.size + 1 := by simp
  have hs2 : w2.heap.size = w.heap.size + 1 + 1 := by rw [← hw2]; simp
  have HR2 : Hid (Row w2 (some ⟨w.heap.size, 0, none⟩) 32 seed) := by
    rw [← hw2]
    exact DAt.row (World.rangeAt_alloc (box_dat w seed _) _) hs
  have HT2 : Hid (w2.there (w.heap.size + 1) 0 32) := by rw [← hw2]; exact alloc_thereAt _ _ _ 32 _ hs1 zD_size.symm
  have HB2 : Hid (Below w.heap.size w w2) := by rw [← hw2]; exact ((Below.refl _ _).alloc (Nat.le_refl _) _).alloc (by simp) _
  have HRb : Hid (Row w2 a n b) := R.below HB2.out
  clear R
  go_enter Tryd.func23, Tryd.ntmps23
  go_wp2_with (refine wpList_allocE (by rfl) 23 (by rfl) (cellsB zD).toArray Tryd.zeroDg (w.heap.size + 1) hs1 w2 hw2 ?_)
  refine (rmac_any (some ⟨w.heap.size, 0, none⟩) a 32 n 32 c seed b w2 HR2.out HRb.out (by omega) hn).mono ?_
  rintro e w3 ⟨rfl, hb3⟩
  have HB3 : Hid (Below w.heap.size w w3) := below_trans HB2.out hb3
  have HT3 : Hid (w3.there (w.heap.size + 1) 0 32) := there_below HT2.out hb3 (by omega)
  have hlen := macL_length seed b
  clear hb3 HB2 HT2 HR2 HRb hw2 hs2 hs1
  generalize hD : macL seed b = D at *
  have HD : Hid (macL seed b = D) := hD
  clear hD
  go_wp2_with (refine wpList_store_mid (by rfl) 23 (.tmp 4) (.tmp 7) (by rfl) (w.heap.size + 1) 0 (cellsB D).toArray (by rfl) (by rfl) (by rw [cellsB_size, hlen]; exact HT3.out) (by rw [cellsB_size, hlen]; exact Tryd.sizeDg) (all_oneCell_toArray (cellsB_one _)) ?_)
  refine bodyPost_ret (v := digestV D) (run_results_row Tryd.results23 _ _ (w.heap.size + 1) 0 (by rfl) (cellsB D) (World.rangeAt_setCells_same _ _ _ _ (by rw [cellsB_length, hlen]; exact HT3.out)) _ Tryd.underlying23 (by rfl) (by rw [cellsB_length, hlen]; exact Tryd.sizeDg)) rfl ⟨by rw [HD.out], ?_⟩
  exact below_setCells _ (by omega) _ _ _ HB3.out

/-- A literal of bytes. -/
theorem Row.litL (w : World) (cs : Array Value) (t : TypeId) (l : List UInt8) (h : cs.toList = cellsB l) (n : Nat) (hn : l.length = n) : Row (w.alloc (.cells cs t)) (some ⟨w.heap.size, 0, none⟩) n l := by
  have : DAt (w.alloc (.cells cs t)) w.heap.size 0 l := by
    unfold DAt
    rw [← h]
    exact alloc_range w cs t
  exact ⟨hn, .inr ⟨w.heap.size, 0, rfl, fun i hi => this.cell i (by omega)⟩⟩

set_option maxRecDepth 100000 in
set_option maxHeartbeats 1000000 in
theorem ronceSecret_any (seed : List UInt8) (i bit : Nat) (w : World) (hs : seed.length = 32) (hi : i < 256) (hbit : bit < 256) :
    Calls Tryd.prog 16 #[digestV seed, .int .i64 (i : Int), .int .i64 (bit : Int)] w fun e w' => e = .returned (digestV (onceSecL seed i bit)) ∧ Below w.heap.size w w' := by
  obtain ⟨w2, hw2⟩ : ∃ w2, (w.alloc (.cells (cellsB seed).toArray 23)).alloc (.cells (cellsB zD).toArray 23) = w2 := ⟨_, rfl⟩
  have hs1 : (w.alloc (.cells (cellsB seed).toArray 23)).heap.size = w.heap.size + 1 := by simp
  have hs2 : w2.heap.size = w.heap.size + 1 + 1 := by rw [← hw2]; simp
  have HD2 : Hid (DAt w2 w.heap.size 0 seed) := by rw [← hw2]; exact World.rangeAt_alloc (box_dat w seed _) _
  have HT2 : Hid (w2.there (w.heap.size + 1) 0 32) := by rw [← hw2]; exact alloc_thereAt _ _ _ 32 _ hs1 zD_size.symm
  have HB2 : Hid (Below w.heap.size w w2) := by rw [← hw2]; exact ((Below.refl _ _).alloc (Nat.le_refl _) _).alloc (by simp) _
  have hR3 : Row (w2.alloc (.cells #[.int .u8 2, .int .u8 (i : Int), .int .u8 (bit : Int)] 5)) (some ⟨w2.heap.size, 0, none⟩) 3 [2, UInt8.ofNat i, UInt8.ofNat bit] := by
    refine Row.litL _ _ _ _ ?_ 3 rfl
    have e1 : (UInt8.ofNat i).toNat = i := by rw [UInt8.toNat_ofNat']; omega
    have e2 : (UInt8.ofNat bit).toNat = bit := by rw [UInt8.toNat_ofNat']; omega
    simp [cellsB, e1, e2]
  have HR3 : Hid (Row (w2.alloc (.cells #[.int .u8 2, .int .u8 (i : Int), .int .u8 (bit : Int)] 5)) (some ⟨w.heap.size + 1 + 1, 0, none⟩) 3 [2, UInt8.ofNat i, UInt8.ofNat bit]) := by rw [← hs2]; exact hR3
  have hb3 : Below w2.heap.size w2 (w2.alloc (.cells #[.int .u8 2, .int .u8 (i : Int), .int .u8 (bit : Int)] 5)) := (Below.refl _ _).alloc (Nat.le_refl _) _
  have HB3 : Hid (Below w.heap.size w (w2.alloc (.cells #[.int .u8 2, .int .u8 (i : Int), .int .u8 (bit : Int)] 5))) := below_trans HB2.out hb3
  have HT3 : Hid ((w2.alloc (.cells #[.int .u8 2, .int .u8 (i : Int), .int .u8 (bit : Int)] 5)).there (w.heap.size + 1) 0 32) := there_below HT2.out hb3 (by omega)
  clear hR3 hb3
  have i0 : (0 : Int) ≤ (i : Int) := by omega
  have i1 : (i : Int) < 256 := by omega
  have b0 : (0 : Int) ≤ (bit : Int) := by omega
  have b1 : (bit : Int) < 256 := by omega
  go_enter Tryd.func16, Tryd.ntmps16
  go_wp2_with (first
    | (refine wpList_allocE (by rfl) 23 (by rfl) (cellsB zD).toArray Tryd.zeroDg (w.heap.size + 1) hs1 w2 hw2 ?_)
    | (refine wpList_load_mid (by rfl) 23 (.tmp 3) (by rfl) w.heap.size 0 (by rfl) (cellsB seed) _ HD2.out Tryd.underlying23 (by rfl) (by rw [cellsB_length, hs]; exact Tryd.sizeDg) ?_))
  refine (rkeyed_any seed _ 3 3 _ _ hs HR3.out (by omega)).mono ?_
  rintro e w4 ⟨rfl, hb4⟩
  have hE : macL seed [2, UInt8.ofNat i, UInt8.ofNat bit] = onceSecL seed i bit := rfl
  rw [hE]
  have HB4 : Hid (Below w.heap.size w w4) := below_trans HB3.out hb4
  have HT4 : Hid (w4.there (w.heap.size + 1) 0 32) := there_below HT3.out hb4 (by simp; omega)
  have hlen := onceSecL_length seed i bit
  clear hb4 HB2 HT2 HD2 hw2 hs2 hs1 HR3 HB3 HT3 hE
  generalize hD : onceSecL seed i bit = D at *
  have HD : Hid (onceSecL seed i bit = D) := hD
  clear hD
  go_wp2_with (refine wpList_store_mid (by rfl) 23 (.tmp 6) (.tmp 13) (by rfl) (w.heap.size + 1) 0 (cellsB D).toArray (by rfl) (by rfl) (by rw [cellsB_size, hlen]; exact HT4.out) (by rw [cellsB_size, hlen]; exact Tryd.sizeDg) (all_oneCell_toArray (cellsB_one _)) ?_)
  refine bodyPost_ret (v := digestV D) (run_results_row Tryd.results16 _ _ (w.heap.size + 1) 0 (by rfl) (cellsB D) (World.rangeAt_setCells_same _ _ _ _ (by rw [cellsB_length, hlen]; exact HT4.out)) _ Tryd.underlying23 (by rfl) (by rw [cellsB_length, hlen]; exact Tryd.sizeDg)) rfl ⟨by rw [HD.out], ?_⟩
  exact below_setCells _ (by omega) _ _ _ HB4.out

set_option maxRecDepth 100000 in
set_option maxHeartbeats 1000000 in
theorem ronceLeaf_any (d : List UInt8) (w : World) (hd : d.length = 32) :
    Calls Tryd.prog 15 #[digestV d] w fun e w' => e = .returned (digestV (onceLeafL d)) ∧ Below w.heap.size w w' := by
  obtain ⟨iD, hiD, hzD0, hzD1, hzD2⟩ := info_parts Tryd.infoDg
  obtain ⟨w2, hw2⟩ : ∃ w2, (w.alloc (.cells (cellsB d).toArray 23)).alloc (.cells (cellsB zD).toArray 23) = w2 := ⟨_, rfl⟩
  have hs1 : (w.alloc (.cells (cellsB d).toArray 23)).heap.size = w.heap.size + 1 := by simp
  have hs2 : w2.heap.size = w.heap.size + 1 + 1 := by rw [← hw2]; simp
  have HD2 : Hid (DAt w2 w.heap.size 0 d) := by rw [← hw2]; exact World.rangeAt_alloc (box_dat w d _) _
  have HT2 : Hid (w2.there (w.heap.size + 1) 0 32) := by rw [← hw2]; exact alloc_thereAt _ _ _ 32 _ hs1 zD_size.symm
  have HB2 : Hid (Below w.heap.size w w2) := by rw [← hw2]; exact ((Below.refl _ _).alloc (Nat.le_refl _) _).alloc (by simp) _
  have hb3 : Below w2.heap.size w2 (w2.alloc (.cells (cellsB d).toArray 23)) := (Below.refl _ _).alloc (Nat.le_refl _) _
  have HR3 : Hid (DRow (w2.alloc (.cells (cellsB d).toArray 23)) (some ⟨w.heap.size + 1 + 1, 0, none⟩) 1 [d]) := by rw [← hs2]; exact DRow.lit1 w2 d _ hd
  have HB3 : Hid (Below w.heap.size w (w2.alloc (.cells (cellsB d).toArray 23))) := below_trans HB2.out hb3
  have HT3 : Hid ((w2.alloc (.cells (cellsB d).toArray 23)).there (w.heap.size + 1) 0 32) := there_below HT2.out hb3 (by omega)
  clear hb3
  go_enter Tryd.func15, Tryd.ntmps15
  go_wp2_with (first
    | (refine wpList_allocE (by rfl) 23 (by rfl) (cellsB zD).toArray Tryd.zeroDg (w.heap.size + 1) hs1 w2 hw2 ?_)
    | (refine wpList_load_mid (by rfl) 23 (.tmp 1) (by rfl) w.heap.size 0 (by rfl) (cellsB d) _ HD2.out Tryd.underlying23 (by rfl) (by rw [cellsB_length, hd]; exact Tryd.sizeDg) ?_)
    | (refine wpList_build1 (by rfl) (.tmp 3) 24 (by rfl) 23 (.agg zeros32) iD d hd (by rfl) Tryd.underlying24 hiD hzD0 (by rfl) hzD1 ?_))
  try rw [hs2]
  refine (rof_any 3 _ 1 1 [d] _ HR3.out (by omega)).mono ?_
  rintro e w4 ⟨rfl, hb4⟩
  have hE : shaL (3 :: [d].flatten) = onceLeafL d := by simp [onceLeafL]
  rw [hE]
  have HB4 : Hid (Below w.heap.size w w4) := below_trans HB3.out hb4
  have HT4 : Hid (w4.there (w.heap.size + 1) 0 32) := there_below HT3.out hb4 (by simp; omega)
  have hlen := onceLeafL_length d
  clear hb4 HB2 HT2 HD2 hw2 hs2 hs1 HR3 HB3 HT3 hE
  generalize hD : onceLeafL d = D at *
  have HD : Hid (onceLeafL d = D) := hD
  clear hD
  go_wp2_with (refine wpList_store_mid (by rfl) 23 (.tmp 2) (.tmp 5) (by rfl) (w.heap.size + 1) 0 (cellsB D).toArray (by rfl) (by rfl) (by rw [cellsB_size, hlen]; exact HT4.out) (by rw [cellsB_size, hlen]; exact Tryd.sizeDg) (all_oneCell_toArray (cellsB_one _)) ?_)
  refine bodyPost_ret (v := digestV D) (run_results_row Tryd.results15 _ _ (w.heap.size + 1) 0 (by rfl) (cellsB D) (World.rangeAt_setCells_same _ _ _ _ (by rw [cellsB_length, hlen]; exact HT4.out)) _ Tryd.underlying23 (by rfl) (by rw [cellsB_length, hlen]; exact Tryd.sizeDg)) rfl ⟨by rw [HD.out], ?_⟩
  exact below_setCells _ (by omega) _ _ _ HB4.out
end Go.Proofs.YtigdgmoiljifjaaDoor
