/- The contract of mac.Mac: the digest of bytes with a key. -/
import Derived.Test.YtigdgmoiljifjaaDoorWkmac
namespace Go.Proofs.YtigdgmoiljifjaaDoor
open Go.RowKit
set_option linter.unusedVariables false
set_option linter.unusedSimpArgs false

theorem macL_kblk (key b : List UInt8) : shaL (padX (kblk key) 92 64 ++ shaL (padX (kblk key) 54 64 ++ b)) = macL key b := by
  rw [padX_kblk, padX_kblk]
  rfl

set_option maxRecDepth 100000 in
set_option maxHeartbeats 1000000 in
theorem wmac_any (a1 : Option Addr) (n1 c1 : Nat) (key : List UInt8) (a2 : Option Addr) (n2 c2 : Nat) (b : List UInt8) (w : World) (G : Tab w) (R1 : Row w a1 n1 key) (R2 : Row w a2 n2 b) (hc1 : n1 ≤ c1) (hc2 : n2 ≤ c2) (h1 : n1 ≤ 100000000000000000) (h2 : n2 ≤ 100000000000000000) :
    Calls Tryd.prog 26 #[.slice a1 n1 c1, .slice a2 n2 c2] w fun e w' => e = .returned (digestV (macL key b)) ∧ Below w.heap.size w w' := by
  obtain ⟨w1, hw1⟩ : ∃ w1, w.alloc (.cells (cellsB z32).toArray 23) = w1 := ⟨_, rfl⟩
  have hs1 : w1.heap.size = w.heap.size + 1 := by rw [← hw1]; simp
  have hb1 : Below w.heap.size w w1 := by rw [← hw1]; exact (Below.refl _ _).alloc (Nat.le_refl _) _
  have ht1 : Hid (w1.there w.heap.size 0 32) := by rw [← hw1]; exact alloc_thereAt _ _ _ 32 _ rfl z32_size.symm
  have HG : Hid (Tab w1 ∧ Row w1 a1 n1 key ∧ Row w1 a2 n2 b) := ⟨G.below hb1, R1.below hb1, R2.below hb1⟩
  have hln := R2.1
  clear G R1 R2
  go_enter Tryd.func26, Tryd.ntmps26
  go_wp2_with (refine wpList_allocE (by rfl) 23 (by rfl) (cellsB z32).toArray Tryd.zeroDigest w.heap.size rfl w1 hw1 ?_)
  refine (wblockof_any _ _ _ key _ HG.out.1 HG.out.2.1 hc1 (by omega)).mono ?_
  rintro e w2 ⟨rfl, hb2⟩
  have hb3 : Below w2.heap.size w2 (w2.alloc (.cells #[.slice a2 n2 c2] 49)) := (Below.refl _ _).alloc (Nat.le_refl _) _
  have HR3 : Hid (BRows (w2.alloc (.cells #[.slice a2 n2 c2] 49)) (some ⟨w2.heap.size, 0, none⟩) 1 [b]) := BRows.lit1 hc2 (HG.out.2.2.below hb2)
  have HB3 : Hid (Below w.heap.size w (w2.alloc (.cells #[.slice a2 n2 c2] 49))) := below_trans hb1 (below_trans hb2 hb3)
  have HT3 : Hid ((w2.alloc (.cells #[.slice a2 n2 c2] 49)).there w.heap.size 0 32) := there_below ht1.out (below_trans hb2 hb3) (by omega)
  have HG3 : Hid (Tab (w2.alloc (.cells #[.slice a2 n2 c2] 49))) := HG.out.1.below (below_trans hb2 hb3)
  have hk := kblk_length key
  have HM : Hid (shaL (padX (kblk key) 92 64 ++ shaL (padX (kblk key) 54 64 ++ [b].flatten)) = macL key b) := by
    unfold Hid
    rw [show [b].flatten = b by simp]
    exact macL_kblk key b
  have hfl : [b].flatten.length ≤ 100000000000000000 := by simp; omega
  have hs2 : w.heap.size < w2.heap.size := by have := hb2.size; omega
  clear hb3 hb2 ht1 hb1 hw1 HG hs1
  generalize kblk key = kk at *
  go_wp2_with fail
  refine (wkmac_any kk _ 1 1 [b] _ HG3.out hk HR3.out (by omega) (by omega) hfl).mono ?_
  rintro e w4 ⟨rfl, hb4⟩
  rw [HM.out]
  have HB4 : Hid (Below w.heap.size w w4) := below_trans HB3.out hb4
  have HT4 : Hid (w4.there w.heap.size 0 32) := there_below HT3.out hb4 (by simp; omega)
  have hlen := macL_length key b
  clear hb4 HB3 HT3 HR3 HG3 HM hfl
  generalize hD : macL key b = D at *
  have HD : Hid (macL key b = D) := hD
  clear hD
  go_wp2_with (refine wpList_store_mid (by rfl) 23 (.tmp 4) (.tmp 9) (by rfl) w.heap.size 0 (cellsB D).toArray (by rfl) (by rfl) (by rw [cellsB_size, hlen]; exact HT4.out) (by rw [cellsB_size, hlen]; exact Tryd.sizeDigest) (all_oneCell_toArray (cellsB_one _)) ?_)
  refine bodyPost_ret (v := digestV D) (run_results_row Tryd.results26 _ _ w.heap.size 0 (by rfl) (cellsB D) (World.rangeAt_setCells_same _ _ _ _ (by rw [cellsB_length, hlen]; exact HT4.out)) _ Tryd.underlying23 (by rfl) (by rw [cellsB_length, hlen]; exact Tryd.sizeDigest)) rfl ⟨by rw [HD.out], ?_⟩
  exact below_setCells _ (Nat.le_refl _) _ _ _ HB4.out
end Go.Proofs.YtigdgmoiljifjaaDoor
