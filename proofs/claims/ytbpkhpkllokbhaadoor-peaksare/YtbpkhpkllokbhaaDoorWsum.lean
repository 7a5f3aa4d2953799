/- The contract of sha.Sum: the digest of bytes. -/
import Derived.Test.YtbpkhpkllokbhaaDoorWsumof
namespace Go.Proofs.YtbpkhpkllokbhaaDoor
open Go.RowKit
set_option linter.unusedVariables false
set_option linter.unusedSimpArgs false

set_option maxRecDepth 100000 in
set_option maxHeartbeats 1000000 in
theorem wsum_any (a : Option Addr) (n c : Nat) (l : List UInt8) (w : World) (G : Tab w) (R : Row w a n l) (hc : n ≤ c) (hn : n ≤ 1000000000000000000) :
    Calls Tryd.prog 27 #[.slice a n c] w fun e w' => e = .returned (digestV (shaL l)) ∧ Below w.heap.size w w' := by
  obtain ⟨w1, hw1⟩ : ∃ w1, w.alloc (.cells (cellsB z32).toArray 24) = w1 := ⟨_, rfl⟩
  have hs1 : w1.heap.size = w.heap.size + 1 := by rw [← hw1]; simp
  have hb1 : Below w.heap.size w w1 := by rw [← hw1]; exact (Below.refl _ _).alloc (Nat.le_refl _) _
  have ht1 : Hid (w1.there w.heap.size 0 32) := by rw [← hw1]; exact alloc_thereAt _ _ _ 32 _ rfl z32_size.symm
  have HG : Hid (Tab w1 ∧ BRows (w1.alloc (.cells #[.slice a n c] 45)) (some ⟨w1.heap.size, 0, none⟩) 1 [l]) := ⟨G.below hb1, BRows.lit1 hc (R.below hb1)⟩
  rw [hs1] at HG
  have hln := R.1
  clear G R
  go_enter Tryd.func27, Tryd.ntmps27
  go_wp2_with (refine wpList_allocE (by rfl) 24 (by rfl) (cellsB z32).toArray Tryd.zeroDigest w.heap.size rfl w1 hw1 ?_)
  refine (wsumof_any _ 1 1 [l] _ (HG.out.1.below ((Below.refl _ _).alloc (Nat.le_refl _) _)) HG.out.2 (by simp; omega) (by omega)).mono ?_
  rintro e w2 ⟨rfl, hb2⟩
  rw [show [l].flatten = l by simp]
  have HB2 : Hid (Below w.heap.size w w2) := below_trans hb1 (below_trans ((Below.refl _ _).alloc (Nat.le_refl _) _) hb2)
  have HT2 : Hid (w2.there w.heap.size 0 32) := there_below ht1.out (below_trans ((Below.refl _ _).alloc (Nat.le_refl _) _) hb2) (by omega)
  have hlen := shaL_length l
  clear hb2 hb1 ht1 hw1 HG
  generalize hD : shaL l = D at *
  have HD : Hid (shaL l = D) := hD
  clear hD
  go_wp2_with (refine wpList_store_mid (by rfl) 24 (.tmp 2) (.tmp 5) (by rfl) w.heap.size 0 (cellsB D).toArray (by rfl) (by rfl) (by rw [cellsB_size, hlen]; exact HT2.out) (by rw [cellsB_size, hlen]; exact Tryd.sizeDigest) (all_oneCell_toArray (cellsB_one _)) ?_)
  refine bodyPost_ret (v := digestV D) (run_results_row Tryd.results27 _ _ w.heap.size 0 (by rfl) (cellsB D) (World.rangeAt_setCells_same _ _ _ _ (by rw [cellsB_length, hlen]; exact HT2.out)) _ Tryd.underlying24 (by rfl) (by rw [cellsB_length, hlen]; exact Tryd.sizeDigest)) rfl ⟨by rw [HD.out], ?_⟩
  exact below_setCells _ (Nat.le_refl _) _ _ _ HB2.out
end Go.Proofs.YtbpkhpkllokbhaaDoor
