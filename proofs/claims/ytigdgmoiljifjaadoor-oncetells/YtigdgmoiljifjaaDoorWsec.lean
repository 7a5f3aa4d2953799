/- The contracts of once.secret and once.leaf. -/
import Derived.Test.YtigdgmoiljifjaaDoorEnv
import Derived.Test.YtigdgmoiljifjaaDoorWmac
import Derived.Test.YtigdgmoiljifjaaDoorWsumof
import Derived.Test.YtigdgmoiljifjaaDoorOnce
import Derived.Test.YtigdgmoiljifjaaDoorZd
import Derived.StillTailTactics
namespace Go.Proofs.YtigdgmoiljifjaaDoor
open Go.RowKit
set_option linter.unusedVariables false
set_option linter.unusedSimpArgs false

/-- A literal of bytes. -/
theorem Row.litB (w : World) (cs : Array Value) (t : TypeId) (l : List UInt8) (h : cs.toList = cellsB l) (n : Nat) (hn : l.length = n) : Row (w.alloc (.cells cs t)) (some ⟨w.heap.size, 0, none⟩) n l := by
  have : DAt (w.alloc (.cells cs t)) w.heap.size 0 l := by
    unfold DAt
    rw [← h]
    exact alloc_range w cs t
  exact ⟨hn, .inr ⟨w.heap.size, 0, rfl, fun i hi => this.cell i (by omega)⟩⟩

set_option maxRecDepth 100000 in
set_option maxHeartbeats 1000000 in
theorem wonce_secret (seed : List UInt8) (i bit : Nat) (w : World) (G : Env w) (hs : seed.length = 32) (hi : i < 256) (hbit : bit < 256) :
    Calls Tryd.prog 19 #[digestV seed, .int .i64 (i : Int), .int .i64 (bit : Int)] w fun e w' => e = .returned (digestV (onceSecL seed i bit)) ∧ Below w.heap.size w w' := by
  obtain ⟨w2, hw2⟩ : ∃ w2, (w.alloc (.cells (cellsB seed).toArray 23)).alloc (.cells (cellsB zD).toArray 23) = w2 := ⟨_, rfl⟩
  have hs1 : (w.alloc (.cells (cellsB seed).toArray 23)).heap.size = w.heap.size + 1 := by simp
  have HS2 : Hid (w2.heap.size = w.heap.size + 1 + 1) := by unfold Hid; rw [← hw2]; simp
  have HR2 : Hid (Row w2 (some ⟨w.heap.size, 0, none⟩) 32 seed) := by
    rw [← hw2]
    exact DAt.row (World.rangeAt_alloc (box_dat w seed _) _) hs
  have HT2 : Hid (w2.there (w.heap.size + 1) 0 32) := by rw [← hw2]; exact alloc_thereAt _ _ _ 32 _ hs1 zD_size.symm
  have HB2 : Hid (Below w.heap.size w w2) := by rw [← hw2]; exact ((Below.refl _ _).alloc (Nat.le_refl _) _).alloc (by simp) _
  have HG : Hid (Env w2) := G.below HB2.out
  clear G
  have HR3 : Hid (Row (w2.alloc (.cells #[.int .u8 2, .int .u8 (i : Int), .int .u8 (bit : Int)] 5)) (some ⟨w2.heap.size, 0, none⟩) 3 [2, UInt8.ofNat i, UInt8.ofNat bit]) := by
    refine Row.litB _ _ _ _ ?_ 3 rfl
    have e1 : (UInt8.ofNat i).toNat = i := by rw [UInt8.toNat_ofNat']; omega
    have e2 : (UInt8.ofNat bit).toNat = bit := by rw [UInt8.toNat_ofNat']; omega
    simp [cellsB, e1, e2]
  have HBB : Hid (Below w2.heap.size w2 (w2.alloc (.cells #[.int .u8 2, .int .u8 (i : Int), .int .u8 (bit : Int)] 5))) := (Below.refl _ _).alloc (Nat.le_refl _) _
  have i0 : (0 : Int) ≤ (i : Int) := by omega
  have i1 : (i : Int) < 256 := by omega
  have b0 : (0 : Int) ≤ (bit : Int) := by omega
  have b1 : (bit : Int) < 256 := by omega
  go_enter Tryd.func19, Tryd.ntmps19
  go_wp2_with (refine wpList_allocE (by rfl) 23 (by rfl) (cellsB zD).toArray Tryd.zeroDg (w.heap.size + 1) hs1 w2 hw2 ?_)
  clear hw2 hs1
  refine (wmac_any _ 32 32 seed _ 3 3 _ _ (HG.out.below HBB.out) (HR2.out.below HBB.out) HR3.out (by omega) (by omega) (by omega) (by omega)).mono ?_
  rintro e w3 ⟨rfl, hb3⟩
  have hE : macL seed [2, UInt8.ofNat i, UInt8.ofNat bit] = onceSecL seed i bit := rfl
  rw [hE]
  have HB3 : Hid (Below w2.heap.size w2 w3) := HBB.out.trans (hb3.mono HBB.out.size)
  have HT3 : Hid (w3.there (w.heap.size + 1) 0 32) := there_below HT2.out HB3.out (by have := HS2.out; omega)
  have hlen := onceSecL_length seed i bit
  clear hb3 HR3 HBB hE HT2 HR2
  generalize hD : onceSecL seed i bit = D at *
  have HD : Hid (onceSecL seed i bit = D) := hD
  clear hD
  go_wp2_with (refine wpList_store_mid (by rfl) 23 (.tmp 6) (.tmp 13) (by rfl) (w.heap.size + 1) 0 (cellsB D).toArray (by rfl) (by rfl) (by rw [cellsB_size, hlen]; exact HT3.out) (by rw [cellsB_size, hlen]; exact Tryd.sizeDg) (all_oneCell_toArray (cellsB_one _)) ?_)
  refine bodyPost_ret (v := digestV D) (run_results_row Tryd.results19 _ _ (w.heap.size + 1) 0 (by rfl) (cellsB D) (World.rangeAt_setCells_same _ _ _ _ (by rw [cellsB_length, hlen]; exact HT3.out)) _ Tryd.underlying23 (by rfl) (by rw [cellsB_length, hlen]; exact Tryd.sizeDg)) rfl ⟨by rw [HD.out], ?_⟩
  exact below_setCells _ (by omega) _ _ _ (HB2.out.trans (HB3.out.mono (by have := HS2.out; omega)))

set_option maxRecDepth 100000 in
set_option maxHeartbeats 1000000 in
theorem wonce_leaf (d : List UInt8) (w : World) (G : Env w) (hd : d.length = 32) :
    Calls Tryd.prog 20 #[digestV d] w fun e w' => e = .returned (digestV (onceLeafL d)) ∧ Below w.heap.size w w' := by
  obtain ⟨w2, hw2⟩ : ∃ w2, (w.alloc (.cells (cellsB d).toArray 23)).alloc (.cells (cellsB zD).toArray 23) = w2 := ⟨_, rfl⟩
  have hs1 : (w.alloc (.cells (cellsB d).toArray 23)).heap.size = w.heap.size + 1 := by simp
  have HS2 : Hid (w2.heap.size = w.heap.size + 1 + 1) := by unfold Hid; rw [← hw2]; simp
  have HR2 : Hid (Row w2 (some ⟨w.heap.size, 0, none⟩) 32 d) := by
    rw [← hw2]
    exact DAt.row (World.rangeAt_alloc (box_dat w d _) _) hd
  have HT2 : Hid (w2.there (w.heap.size + 1) 0 32) := by rw [← hw2]; exact alloc_thereAt _ _ _ 32 _ hs1 zD_size.symm
  have HB2 : Hid (Below w.heap.size w w2) := by rw [← hw2]; exact ((Below.refl _ _).alloc (Nat.le_refl _) _).alloc (by simp) _
  have HG : Hid (Env w2) := G.below HB2.out
  clear G
  go_enter Tryd.func20, Tryd.ntmps20
  go_wp2_with (refine wpList_allocE (by rfl) 23 (by rfl) (cellsB zD).toArray Tryd.zeroDg (w.heap.size + 1) hs1 w2 hw2 ?_)
  clear hw2 hs1
  have hsa : (w2.alloc (.cells #[.int .u8 3] 5)).heap.size = w2.heap.size + 1 := by simp
  have HRB : Hid (BRows ((w2.alloc (.cells #[.int .u8 3] 5)).alloc (.cells #[.slice (some ⟨w2.heap.size, 0, none⟩) 1 1, .slice (some ⟨w.heap.size, 0, none⟩) 32 32] 49)) (some ⟨w2.heap.size + 1, 0, none⟩) 2 [[3], d]) := by
    have := BRows.lit2 (w := w2.alloc (.cells #[.int .u8 3] 5)) (t := 49) (Nat.le_refl 1) (Row.lit1v w2 3 5 3 rfl) (Nat.le_refl 32) (HR2.out.below ((Below.refl _ _).alloc (Nat.le_refl _) _))
    rw [hsa] at this
    exact this
  have HBB : Hid (Below w2.heap.size w2 ((w2.alloc (.cells #[.int .u8 3] 5)).alloc (.cells #[.slice (some ⟨w2.heap.size, 0, none⟩) 1 1, .slice (some ⟨w.heap.size, 0, none⟩) 32 32] 49))) := ((Below.refl _ _).alloc (Nat.le_refl _) _).alloc (by simp) _
  refine (wsumof_any _ 2 2 [[3], d] _ (HG.out.below HBB.out) HRB.out (by simp; omega) (by omega)).mono ?_
  rintro e w3 ⟨rfl, hb3⟩
  have e1 : shaL [[3], d].flatten = onceLeafL d := by
    rw [show [[3], d].flatten = 3 :: d by simp]
    rfl
  rw [e1]
  have HB3 : Hid (Below w2.heap.size w2 w3) := HBB.out.trans (hb3.mono HBB.out.size)
  have HT3 : Hid (w3.there (w.heap.size + 1) 0 32) := there_below HT2.out HB3.out (by have := HS2.out; omega)
  have hlen := onceLeafL_length d
  clear hb3 HRB HBB hsa e1
  generalize hD : onceLeafL d = D at *
  have HD : Hid (onceLeafL d = D) := hD
  clear hD
  go_wp2_with (refine wpList_store_mid (by rfl) 23 (.tmp 2) (.tmp 6) (by rfl) (w.heap.size + 1) 0 (cellsB D).toArray (by rfl) (by rfl) (by rw [cellsB_size, hlen]; exact HT3.out) (by rw [cellsB_size, hlen]; exact Tryd.sizeDg) (all_oneCell_toArray (cellsB_one _)) ?_)
  refine bodyPost_ret (v := digestV D) (run_results_row Tryd.results20 _ _ (w.heap.size + 1) 0 (by rfl) (cellsB D) (World.rangeAt_setCells_same _ _ _ _ (by rw [cellsB_length, hlen]; exact HT3.out)) _ Tryd.underlying23 (by rfl) (by rw [cellsB_length, hlen]; exact Tryd.sizeDg)) rfl ⟨by rw [HD.out], ?_⟩
  exact below_setCells _ (by omega) _ _ _ (HB2.out.trans (HB3.out.mono (by have := HS2.out; omega)))

end Go.Proofs.YtigdgmoiljifjaaDoor
