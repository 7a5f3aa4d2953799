/- The contract of sha.Sum: the digest of bytes. -/
import Derived.Test.YtbmdncedpihgiaaDoorWsumh
namespace Go.Proofs.YtbmdncedpihgiaaDoor
open Go.RowKit
set_option linter.unusedVariables false
set_option linter.unusedSimpArgs false

set_option maxRecDepth 100000 in
set_option maxHeartbeats 1000000 in
theorem wsum_any (a : Option Addr) (n c : Nat) (l : List UInt8) (w : World) (G : Tab w) (R : Row w a n l) (hc : n ≤ c) (hn : n ≤ 1000000000000000000) :
    Calls Tryd.prog 6 #[.slice a n c] w fun e w' => e = .returned (digestV (shaL l)) ∧ Below w.heap.size w w' := by
  have h0 : 0 < w.heap.size := cell_block (G 0 (by omega))
  obtain ⟨w1, hw1⟩ : ∃ w1, w.alloc (.cells (cellsB z32).toArray 25) = w1 := ⟨_, rfl⟩
  have hs1 : w1.heap.size = w.heap.size + 1 := by rw [← hw1]; simp
  have hb1 : Below w.heap.size w w1 := by rw [← hw1]; exact (Below.refl _ _).alloc (Nat.le_refl _) _
  have ht1 : Hid (w1.there w.heap.size 0 32) := by rw [← hw1]; exact alloc_thereAt _ _ _ 32 _ rfl z32_size.symm
  have HG : Hid (Tab w ∧ Row w a n l) := ⟨G, R⟩
  have hln := R.1
  clear G R
  go_enter Tryd.func6, Tryd.ntmps6
  go_wp2_with (refine wpList_allocE (by rfl) 25 (by rfl) (cellsB z32).toArray Tryd.zeroDigest w.heap.size rfl w1 hw1 ?_)
  refine (wnew_any w1).mono ?_
  rintro e w2 ⟨rfl, H2, hb2⟩
  have HH2 : Hid (Hasher w2 w1.heap.size []) := H2
  have HB2 : Hid (Below w.heap.size w w2 ∧ w2.there w.heap.size 0 32) := ⟨below_trans hb1 hb2, there_below ht1.out hb2 (by omega)⟩
  rw [hs1] at HH2 ⊢
  clear H2 hb2 ht1 hb1 hw1
  go_wp2_with fail
  refine (wwrite_any (w.heap.size + 1) [] a n c l w2 (HG.out.1.below HB2.out.1) HH2.out (HG.out.2.below HB2.out.1) hc (fun h0 ad had => by
    have := row_ne HG.out.2 (Nat.le_refl _) h0 ad had
    rcases HG.out.2.2 with h2 | ⟨b, o, ha, hcl⟩
    · omega
    · have hbl := Row.block hcl h0
      rw [ha] at had
      cases had
      show b ≠ _
      omega) (by omega) (by simp; omega)).mono ?_
  rintro e w3 ⟨rfl, H3, hg3⟩
  have HH3 : Hid (Hasher w3 (w.heap.size + 1) l) := H3
  have hgt : w.heap.size + 1 < w2.heap.size := HH2.out.block
  have HB3 : Hid (Below w.heap.size w w3) := below_gr HB2.out.1 hg3 (by omega) (by omega)
  have HT3 : Hid (w3.there w.heap.size 0 32) := by
    have hk := hg3.block w.heap.size (by omega) (by intro e; have := Option.some.inj e; omega)
    intro j hj
    rw [World.cell?_of_block (w := w2) (a := ⟨w.heap.size, 0 + j, none⟩) hk, World.frozen?_of_block (w := w2) (a := ⟨w.heap.size, 0 + j, none⟩) hk]
    exact HB2.out.2 j hj
  have hs3 : w.heap.size < w3.heap.size := by have := hg3.size; omega
  clear H3 hg3 HH2 HB2 hgt
  go_wp2_with fail
  refine (wsumh_any (w.heap.size + 1) l w3 (HG.out.1.below HB3.out) HH3.out (by omega)).mono ?_
  rintro e w4 ⟨rfl, hb4⟩
  have HB4 : Hid (Below w.heap.size w w4) := below_trans HB3.out hb4
  have HT4 : Hid (w4.there w.heap.size 0 32) := there_below HT3.out hb4 hs3
  have hlen := shaL_length l
  clear hb4 HB3 HT3 HH3
  generalize hD : shaL l = D at *
  have HD : Hid (shaL l = D) := hD
  clear hD
  go_wp2_with (refine wpList_store_mid (by rfl) 25 (.tmp 2) (.tmp 9) (by rfl) w.heap.size 0 (cellsB D).toArray (by rfl) (by rfl) (by rw [cellsB_size, hlen]; exact HT4.out) (by rw [cellsB_size, hlen]; exact Tryd.sizeDigest) (all_oneCell_toArray (cellsB_one _)) ?_)
  refine bodyPost_ret (v := digestV D) (run_results_row Tryd.results6 _ _ w.heap.size 0 (by rfl) (cellsB D) (World.rangeAt_setCells_same _ _ _ _ (by rw [cellsB_length, hlen]; exact HT4.out)) _ Tryd.underlying25 (by rfl) (by rw [cellsB_length, hlen]; exact Tryd.sizeDigest)) rfl ⟨by rw [HD.out], ?_⟩
  exact below_setCells _ (Nat.le_refl _) _ _ _ HB4.out
end Go.Proofs.YtbmdncedpihgiaaDoor
