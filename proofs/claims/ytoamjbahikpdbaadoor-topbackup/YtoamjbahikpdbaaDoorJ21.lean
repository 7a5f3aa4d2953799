/- Texts of this claim, joined: Wblockof. -/
import Derived.Test.YtoamjbahikpdbaaDoorJ20
import Derived.Deep.DeepCutAuto
/- The contract of mac.blockOf: a key's block. -/
namespace Go.Proofs.YtoamjbahikpdbaaDoor
open Go.RowKit
set_option linter.unusedVariables false
set_option linter.unusedSimpArgs false

/-- A key's block: the key, or its Sum, and bytes 0 behind it. -/
def kblk (key : List UInt8) : List UInt8 := blkPut z64 0 (keyL key)
theorem keyL_le (key : List UInt8) : (keyL key).length ≤ 64 := by
  unfold keyL
  split
  · rw [shaL_length]; omega
  · omega
theorem z64_len : z64.length = 64 := by unfold z64; simp
theorem kblk_length (key : List UInt8) : (kblk key).length = 64 := by
  unfold kblk
  rw [blkPut_len (by rw [z64_len]; have := keyL_le key; omega), z64_len]
theorem padX_kblk (key : List UInt8) (x : UInt8) : padX (kblk key) x 64 = padX (keyL key) x 64 := by
  unfold padX
  refine List.map_congr_left fun i hi => ?_
  have hi' : i < 64 := List.mem_range.1 hi
  have hle := keyL_le key
  unfold xorB kblk blkPut
  congr 1
  rw [List.take_zero, List.nil_append, Nat.zero_add]
  simp only [List.getD_eq_getElem?_getD]
  by_cases h : i < (keyL key).length
  · rw [List.getElem?_append_left h]
  · rw [List.getElem?_append_right (by omega), List.getElem?_drop, List.getElem?_eq_none (l := keyL key) (by omega)]
    unfold z64
    rw [List.getElem?_replicate]
    split <;> rfl
theorem Tryd.sizeU8 : (Tryd.prog.info? 5).map (·.size) = some 1 := by kernel_rfl

set_option maxRecDepth 100000 in
set_option maxHeartbeats 1000000 in
theorem wblockof_any (a : Option Addr) (n c : Nat) (key : List UInt8) (w : World) (G : Tab w) (R : Row w a n key) (hc : n ≤ c) (hn : n ≤ 1000000000000000000) :
    Calls Tryd.prog 50 #[.slice a n c] w fun e w' => e = .returned (.agg (cellsB (kblk key)).toArray) ∧ Below w.heap.size w w' := by
  obtain ⟨w1, hw1⟩ : ∃ w1, w.alloc (.cells (cellsB z64).toArray 100) = w1 := ⟨_, rfl⟩
  obtain ⟨w2, hw2⟩ : ∃ w2, w1.alloc (.cells (cellsB z64).toArray 100) = w2 := ⟨_, rfl⟩
  have hs1 : w1.heap.size = w.heap.size + 1 := by rw [← hw1]; simp
  have hb1 : Below w.heap.size w w1 := by rw [← hw1]; exact (Below.refl _ _).alloc (Nat.le_refl _) _
  have hb2 : Below w1.heap.size w1 w2 := by rw [← hw2]; exact (Below.refl _ _).alloc (Nat.le_refl _) _
  have ht1 : w1.there w.heap.size 0 64 := by rw [← hw1]; exact alloc_thereAt _ _ _ 64 _ rfl z64_size.symm
  have HS2 : Hid (w2.heap.size = w.heap.size + 2) := by unfold Hid; rw [← hw2]; simp [hs1]
  have HB2 : Hid (Below w.heap.size w w2 ∧ w2.there w.heap.size 0 64 ∧ w2.there (w.heap.size + 1) 0 64 ∧ DAt w2 (w.heap.size + 1) 0 z64) := by
    refine ⟨below_trans hb1 hb2, there_below ht1 hb2 (by omega), ?_, ?_⟩
    · rw [← hw2]; exact alloc_thereAt _ _ _ 64 _ hs1 z64_size.symm
    · rw [← hw2]; exact box_rangeAt _ _ _ _ hs1
  have HG : Hid (Tab w2 ∧ Row w2 a n key) := ⟨G.below HB2.out.1, R.below HB2.out.1⟩
  have HK1 : Hid (key.length = n) := R.1
  clear G R hb1 hb2 ht1
  go_enter Tryd.func50, Tryd.ntmps50
  go_upto_if 7 with (first
    | (refine wpList_allocE (by rfl) 100 (by rfl) (cellsB z64).toArray Tryd.zeroKblock w.heap.size rfl w1 hw1 ?_)
    | (refine wpList_allocE (by rfl) 100 (by rfl) (cellsB z64).toArray Tryd.zeroKblock (w.heap.size + 1) hs1 w2 hw2 ?_))
  clear hw1 hw2 hs1
  go_cut [0, 4] (fun kv dv wq => ∃ (ak : Option Addr) (nk ck : Nat), kv = .slice ak nk ck ∧ nk ≤ 64 ∧ Row wq ak nk (keyL key) ∧ Below w2.heap.size w2 wq)
  case first =>
    by_cases h64 : 64 < n
    · have HKL : Hid (keyL key = shaL key) := by unfold Hid keyL; rw [if_pos (by rw [HK1.out]; exact h64)]
      go_wp2_with fail
      refine (wsum_any _ _ _ _ _ HG.out.1 HG.out.2 hc hn).mono ?_
      rintro e w3 ⟨rfl, hb3⟩
      obtain ⟨w4, hw4⟩ : ∃ w4, w3.alloc (.cells (cellsB z32).toArray 23) = w4 := ⟨_, rfl⟩
      have hlen := shaL_length key
      have ht4 : Hid (w4.there w3.heap.size 0 32) := by rw [← hw4]; exact alloc_thereAt _ _ _ 32 _ rfl z32_size.symm
      have HB5 : Hid (Below w2.heap.size w2 (w4.setCells w3.heap.size 0 (cellsB (shaL key)))) := by
        rw [← hw4]
        exact below_trans hb3 (new_stored w3 _ _)
      have HR5 : Hid (Row (w4.setCells w3.heap.size 0 (cellsB (shaL key))) (some ⟨w3.heap.size, 0, none⟩) 32 (keyL key)) := by
        rw [HKL.out]
        exact (dat_stored ht4.out hlen).row hlen
      clear hb3
      generalize shaL key = D at *
      go_wp2_with (first
        | (refine wpList_allocE (by rfl) 23 (by rfl) (cellsB z32).toArray Tryd.zeroDigest w3.heap.size rfl w4 hw4 ?_)
        | (refine wpList_store_mid (by rfl) 23 (.tmp 4) (.tmp 9) (by rfl) w3.heap.size 0 (cellsB D).toArray (by rfl) (by rfl) (by rw [cellsB_size, hlen]; exact ht4.out) (by rw [cellsB_size, hlen]; exact Tryd.sizeDigest) (all_oneCell_toArray (cellsB_one _)) ?_))
      go_meet
      case rel => exact ⟨_, 32, 32, rfl, by omega, HR5.out, HB5.out⟩
    · have HKL : Hid (keyL key = key) := by unfold Hid keyL; rw [if_neg (by rw [HK1.out]; exact h64)]
      go_wp2_with fail
      go_meet
      case rel => exact ⟨_, _, _, rfl, by omega, by rw [HKL.out]; exact HG.out.2, Below.refl _ _⟩
  case rest =>
    obtain ⟨ak, nk, ck, rfl, hnk, Rk, BQ⟩ := hcut
    have hs2 := HS2.out
    have HT : Hid (wc.there w.heap.size 0 64 ∧ wc.there (w.heap.size + 1) 0 64 ∧ DAt wc (w.heap.size + 1) 0 z64 ∧ Below w.heap.size w wc) :=
      ⟨there_below HB2.out.2.1 BQ (by omega), there_below HB2.out.2.2.1 BQ (by omega), HB2.out.2.2.2.below BQ (by omega), below_trans HB2.out.1 BQ⟩
    have hkl := Rk.1
    have HRk : Hid (Row wc ak nk (keyL key)) := Rk
    have HM : Hid (nk = Nat.min nk 64) := (Nat.min_eq_left hnk).symm
    have HTn : Hid (wc.there (w.heap.size + 1) 0 nk) := fun j hj => HT.out.2.1 j (by omega)
    have HP : Hid (DAt (wc.setCells (w.heap.size + 1) 0 (cellsB ((keyL key).take nk))) (w.heap.size + 1) 0 (kblk key)) := by
      rw [List.take_of_length_le (by omega)]
      have := dat_put (r := 0) (y := keyL key) HT.out.2.2.1 (by rw [z64_len]; exact HT.out.2.1) (by rw [z64_len]; omega)
      exact this
    have HT2 : Hid ((wc.setCells (w.heap.size + 1) 0 (cellsB ((keyL key).take nk))).there w.heap.size 0 64) := World.there_setCells HT.out.1 _ _ _
    have HB3 : Hid (Below w.heap.size w (wc.setCells (w.heap.size + 1) 0 (cellsB ((keyL key).take nk)))) := below_setCells _ (by omega) _ _ _ HT.out.2.2.2
    have hlen := kblk_length key
    clear Rk BQ HG HB2 HS2 hs2 HK1 hkl HT
    generalize hD : kblk key = D at *
    have HD : Hid (kblk key = D) := hD
    clear hD
    generalize keyL key = kk at *
    go_wp2_with (first
      | (refine wpList_copy_bytes (by rfl) (.tmp 11) (.tmp 12) 33 33 (by rfl) 5 Tryd.underlying33 Tryd.sizeU8 (some ⟨w.heap.size + 1, 0, none⟩) 64 64 (by rfl) ak nk ck kk (by rfl) HRk.out nk HM.out (w.heap.size + 1) 0 (fun _ => rfl) HTn.out ?_)
      | (refine wpList_load_mid (by rfl) 100 (.tmp 3) (by rfl) (w.heap.size + 1) 0 (by rfl) (cellsB D) _ HP.out Tryd.underlying100 (by rfl) (by rw [cellsB_length, hlen]; exact Tryd.sizeKblock) ?_)
      | (refine wpList_store_mid (by rfl) 100 (.tmp 2) (.tmp 14) (by rfl) w.heap.size 0 (cellsB D).toArray (by rfl) (by rfl) (by rw [cellsB_size, hlen]; exact HT2.out) (by rw [cellsB_size, hlen]; exact Tryd.sizeKblock) (all_oneCell_toArray (cellsB_one _)) ?_))
    refine bodyPost_ret (v := .agg (cellsB D).toArray) (run_results_row Tryd.results50 _ _ w.heap.size 0 (by rfl) (cellsB D) (World.rangeAt_setCells_same _ _ _ _ (by rw [cellsB_length, hlen]; exact HT2.out)) _ Tryd.underlying100 (by rfl) (by rw [cellsB_length, hlen]; exact Tryd.sizeKblock)) rfl ⟨by rw [HD.out], ?_⟩
    exact below_setCells _ (Nat.le_refl _) _ _ _ HB3.out
end Go.Proofs.YtoamjbahikpdbaaDoor
