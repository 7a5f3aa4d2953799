/- Texts of this claim, joined: Copyb, Wblockof. -/
import Derived.Test.YtghiniaijobonaaDoorJ18
import Derived.Laws.CopyOwn
import Derived.Test.YtghiniaijobonaaDoorJ20
import Derived.Deep.DeepCutAuto
/- copy of bytes: whatever the slice, into cells that are there. -/
namespace Go.Proofs.YtghiniaijobonaaDoor
open Go.RowKit
set_option linter.unusedVariables false
set_option linter.unusedSimpArgs false

theorem blkPut_len {blk : List UInt8} {r : Nat} {y : List UInt8} (hr : r + y.length ≤ blk.length) : (blkPut blk r y).length = blk.length := by
  simp [blkPut]; omega
theorem blkPut_at {blk : List UInt8} {r : Nat} {y : List UInt8} (hr : r + y.length ≤ blk.length) (i : Nat) :
    nth (blkPut blk r y) i = if i < r then nth blk i else if i < r + y.length then nth y (i - r) else nth blk i := by
  unfold nth blkPut
  have hl : (blk.take r).length = r := by simp; omega
  simp only [List.getD_eq_getElem?_getD]
  by_cases h1 : i < r
  · rw [if_pos h1, List.append_assoc, List.getElem?_append_left (by omega), List.getElem?_take, if_pos h1]
  · rw [if_neg h1]
    by_cases h2 : i < r + y.length
    · rw [if_pos h2, List.append_assoc, List.getElem?_append_right (by omega), hl, List.getElem?_append_left (by omega)]
    · rw [if_neg h2, List.append_assoc, List.getElem?_append_right (by omega), hl, List.getElem?_append_right (by omega), List.getElem?_drop]
      rw [show r + y.length + (i - r - y.length) = i by omega]
/-- Bytes put into a row that lies there. -/
theorem dat_put {w : World} {b o r : Nat} {blk y : List UInt8} (h : DAt w b o blk) (ht : w.there b o blk.length) (hr : r + y.length ≤ blk.length) : DAt (w.setCells b (o + r) (cellsB y)) b o (blkPut blk r y) := by
  have hs : ∀ j, j < (cellsB y).length → (w.cell? ⟨b, o + r + j, none⟩).isSome = true := fun j hj => by
    rw [cellsB_length] at hj
    have := (ht (r + j) (by omega)).1
    rwa [← Nat.add_assoc] at this
  refine DAt.mk fun i hi => ?_
  rw [blkPut_len hr] at hi
  rw [blkPut_at hr i]
  by_cases c1 : i < r
  · rw [if_pos c1, World.cell?_setCells_out _ _ _ _ _ (fun _ _ => Or.inl (by show o + i < o + r; omega))]
    exact DAt.cell h i (by omega)
  · rw [if_neg c1]
    by_cases c2 : i < r + y.length
    · rw [if_pos c2]
      have := World.cell?_setCells_in b (cellsB y) (o + r) w hs (i - r) (by rw [cellsB_length]; omega)
      rw [show o + r + (i - r) = o + i by omega] at this
      rw [this]
      have := cellsB_at y (i - r) (by omega)
      rw [List.getElem?_eq_getElem (by rw [cellsB_length]; omega)] at this
      exact this
    · rw [if_neg c2, World.cell?_setCells_out _ _ _ _ _ (fun _ _ => Or.inr (by show o + r + (cellsB y).length ≤ o + i; rw [cellsB_length]; omega))]
      exact DAt.cell h i (by omega)
/-- 'copy(d, s)', s any slice of bytes. -/
theorem wpList_copy_bytes {P : Program} {w : World} {ops : Array Oper} {rest : List Oper} {o : Oper} {a : Act} {Q : Exit → Act → World → Prop} (hgd : o.guard = none) (d s : Operand) (dT sT : TypeId)
    (ho : o.op = .call { callee := .builtin .copy, args := #[d, s], argTypes := #[dT, sT] }) (elem : TypeId) (hu : P.underlying dT = some (.slice elem)) (hsz : (P.info? elem).map (·.size) = some 1)
    (dp : Option Addr) (dLen dCap : Nat) (hd : a.eval d = .slice dp dLen dCap) (ad : Option Addr) (n c : Nat) (l : List UInt8) (hs : a.eval s = .slice ad n c) (R : Row w ad n l)
    (m : Nat) (hm : m = Nat.min n dLen) (b off : Nat) (hdp : 0 < m → dp = some ⟨b, off, none⟩) (ht : w.there b off m)
    (h : wpList P ops Q rest (a.put o.dst (.int .i64 (m : Int))) (w.setCells b off (cellsB (l.take m)))) : wpList P ops Q (o :: rest) a w := by
  obtain ⟨hl, hR⟩ := R
  have hmn : m ≤ n := by rw [hm]; exact Nat.min_le_left _ _
  by_cases h0 : m = 0
  · subst h0
    exact wpList_copy_nothing hgd d s dT sT ho elem hu hsz dp ad dLen dCap n c hd hs hm.symm h
  · rcases hR with h1 | ⟨sb, so, rfl, hcells⟩
    · omega
    obtain rfl := hdp (by omega)
    have hlen : (cellsB (l.take m)).length = m := by rw [cellsB_length, List.length_take]; omega
    refine wpList_plain hgd fun K hK => ?_
    have hrun := run_copy_cells (P := P) w dT sT o.type elem b off dLen dCap ⟨sb, so, none⟩ n c (cellsB (l.take m)) hu hsz (by rw [hlen, hm]) (fun j v hj => by
      have hj' : j < m := by have := (List.getElem?_eq_some_iff.1 hj).1; omega
      rw [Go.WideShapes.add_plain, hcells j (by omega), ← hj, cellsB_at _ j (by rw [List.length_take]; omega)]
      unfold nth
      simp only [List.getD_eq_getElem?_getD, List.getElem?_take, if_pos hj']) (fun j hj => (ht j (by omega)).1) (fun j hj => (ht j (by omega)).2) (cellsB_one _)
    rw [hlen] at hrun
    unfold Oper.wp
    simp [execOp, ho, resolve, invoke, builtin, hd, hs, hrun, Result.andThen]
    exact hK _ _ h
end Go.Proofs.YtghiniaijobonaaDoor
/- The contract of mac.blockOf: a key's block. -/
namespace Go.Proofs.YtghiniaijobonaaDoor
open Go.RowKit
set_option linter.unusedVariables false
set_option linter.unusedSimpArgs false

/-- A key's block: the key, or its Sum, and bytes 0 behind it. -/
def kblk (key : List UInt8) : List UInt8 := blkPut z64 0 (keyL key)
theorem keyL_le (key : List UInt8) : (keyL key).length ≤ 64 := by
  unfold keyL
  split
  · rw [shaL_length]; omega
  · omega
theorem z64_len : z64.length = 64 := by unfold z64; simp
theorem kblk_length (key : List UInt8) : (kblk key).length = 64 := by
  unfold kblk
  rw [blkPut_len (by rw [z64_len]; have := keyL_le key; omega), z64_len]
theorem padX_kblk (key : List UInt8) (x : UInt8) : padX (kblk key) x 64 = padX (keyL key) x 64 := by
  unfold padX
  refine List.map_congr_left fun i hi => ?_
  have hi' : i < 64 := List.mem_range.1 hi
  have hle := keyL_le key
  unfold xorB kblk blkPut
  congr 1
  rw [List.take_zero, List.nil_append, Nat.zero_add]
  simp only [List.getD_eq_getElem?_getD]
  by_cases h : i < (keyL key).length
  · rw [List.getElem?_append_left h]
  · rw [List.getElem?_append_right (by omega), List.getElem?_drop, List.getElem?_eq_none (l := keyL key) (by omega)]
    unfold z64
    rw [List.getElem?_replicate]
    split <;> rfl
theorem Tryd.sizeU8 : (Tryd.prog.info? 5).map (·.size) = some 1 := by kernel_rfl

set_option maxRecDepth 100000 in
set_option maxHeartbeats 1000000 in
theorem wblockof_any (a : Option Addr) (n c : Nat) (key : List UInt8) (w : World) (G : Tab w) (R : Row w a n key) (hc : n ≤ c) (hn : n ≤ 1000000000000000000) :
    Calls Tryd.prog 50 #[.slice a n c] w fun e w' => e = .returned (.agg (cellsB (kblk key)).toArray) ∧ Below w.heap.size w w' := by
  obtain ⟨w1, hw1⟩ : ∃ w1, w.alloc (.cells (cellsB z64).toArray 99) = w1 := ⟨_, rfl⟩
  obtain ⟨w2, hw2⟩ : ∃ w2, w1.alloc (.cells (cellsB z64).toArray 99) = w2 := ⟨_, rfl⟩
  have hs1 : w1.heap.size = w.heap.size + 1 := by rw [← hw1]; simp
  have hb1 : Below w.heap.size w w1 := by rw [← hw1]; exact (Below.refl _ _).alloc (Nat.le_refl _) _
  have hb2 : Below w1.heap.size w1 w2 := by rw [← hw2]; exact (Below.refl _ _).alloc (Nat.le_refl _) _
  have ht1 : w1.there w.heap.size 0 64 := by rw [← hw1]; exact alloc_thereAt _ _ _ 64 _ rfl z64_size.symm
  have HS2 : Hid (w2.heap.size = w.heap.size + 2) := by unfold Hid; rw [← hw2]; simp [hs1]
  have HB2 : Hid (Below w.heap.size w w2 ∧ w2.there w.heap.size 0 64 ∧ w2.there (w.heap.size + 1) 0 64 ∧ DAt w2 (w.heap.size + 1) 0 z64) := by
    refine ⟨below_trans hb1 hb2, there_below ht1 hb2 (by omega), ?_, ?_⟩
    · rw [← hw2]; exact alloc_thereAt _ _ _ 64 _ hs1 z64_size.symm
    · rw [← hw2]; exact box_rangeAt _ _ _ _ hs1
  have HG : Hid (Tab w2 ∧ Row w2 a n key) := ⟨G.below HB2.out.1, R.below HB2.out.1⟩
  have HK1 : Hid (key.length = n) := R.1
  clear G R hb1 hb2 ht1
  go_enter Tryd.func50, Tryd.ntmps50
  go_upto_if 7 with (first
    | (refine wpList_allocE (by rfl) 99 (by rfl) (cellsB z64).toArray Tryd.zeroKblock w.heap.size rfl w1 hw1 ?_)
    | (refine wpList_allocE (by rfl) 99 (by rfl) (cellsB z64).toArray Tryd.zeroKblock (w.heap.size + 1) hs1 w2 hw2 ?_))
  clear hw1 hw2 hs1
  go_cut [0, 4] (fun kv dv wq => ∃ (ak : Option Addr) (nk ck : Nat), kv = .slice ak nk ck ∧ nk ≤ 64 ∧ Row wq ak nk (keyL key) ∧ Below w2.heap.size w2 wq)
  case first =>
    by_cases h64 : 64 < n
    · have HKL : Hid (keyL key = shaL key) := by unfold Hid keyL; rw [if_pos (by rw [HK1.out]; exact h64)]
      go_wp2_with fail
      refine (wsum_any _ _ _ _ _ HG.out.1 HG.out.2 hc hn).mono ?_
      rintro e w3 ⟨rfl, hb3⟩
      obtain ⟨w4, hw4⟩ : ∃ w4, w3.alloc (.cells (cellsB z32).toArray 23) = w4 := ⟨_, rfl⟩
      have hlen := shaL_length key
      have ht4 : Hid (w4.there w3.heap.size 0 32) := by rw [← hw4]; exact alloc_thereAt _ _ _ 32 _ rfl z32_size.symm
      have HB5 : Hid (Below w2.heap.size w2 (w4.setCells w3.heap.size 0 (cellsB (shaL key)))) := by
        rw [← hw4]
        exact below_trans hb3 (new_stored w3 _ _)
      have HR5 : Hid (Row (w4.setCells w3.heap.size 0 (cellsB (shaL key))) (some ⟨w3.heap.size, 0, none⟩) 32 (keyL key)) := by
        rw [HKL.out]
        exact (dat_stored ht4.out hlen).row hlen
      clear hb3
      generalize shaL key = D at *
      go_wp2_with (first
        | (refine wpList_allocE (by rfl) 23 (by rfl) (cellsB z32).toArray Tryd.zeroDigest w3.heap.size rfl w4 hw4 ?_)
        | (refine wpList_store_mid (by rfl) 23 (.tmp 4) (.tmp 9) (by rfl) w3.heap.size 0 (cellsB D).toArray (by rfl) (by rfl) (by rw [cellsB_size, hlen]; exact ht4.out) (by rw [cellsB_size, hlen]; exact Tryd.sizeDigest) (all_oneCell_toArray (cellsB_one _)) ?_))
      go_meet
      case rel => exact ⟨_, 32, 32, rfl, by omega, HR5.out, HB5.out⟩
    · have HKL : Hid (keyL key = key) := by unfold Hid keyL; rw [if_neg (by rw [HK1.out]; exact h64)]
      go_wp2_with fail
      go_meet
      case rel => exact ⟨_, _, _, rfl, by omega, by rw [HKL.out]; exact HG.out.2, Below.refl _ _⟩
  case rest =>
    obtain ⟨ak, nk, ck, rfl, hnk, Rk, BQ⟩ := hcut
    have hs2 := HS2.out
    have HT : Hid (wc.there w.heap.size 0 64 ∧ wc.there (w.heap.size + 1) 0 64 ∧ DAt wc (w.heap.size + 1) 0 z64 ∧ Below w.heap.size w wc) :=
      ⟨there_below HB2.out.2.1 BQ (by omega), there_below HB2.out.2.2.1 BQ (by omega), HB2.out.2.2.2.below BQ (by omega), below_trans HB2.out.1 BQ⟩
    have hkl := Rk.1
    have HRk : Hid (Row wc ak nk (keyL key)) := Rk
    have HM : Hid (nk = Nat.min nk 64) := (Nat.min_eq_left hnk).symm
    have HTn : Hid (wc.there (w.heap.size + 1) 0 nk) := fun j hj => HT.out.2.1 j (by omega)
    have HP : Hid (DAt (wc.setCells (w.heap.size + 1) 0 (cellsB ((keyL key).take nk))) (w.heap.size + 1) 0 (kblk key)) := by
      rw [List.take_of_length_le (by omega)]
      have := dat_put (r := 0) (y := keyL key) HT.out.2.2.1 (by rw [z64_len]; exact HT.out.2.1) (by rw [z64_len]; omega)
      exact this
    have HT2 : Hid ((wc.setCells (w.heap.size + 1) 0 (cellsB ((keyL key).take nk))).there w.heap.size 0 64) := World.there_setCells HT.out.1 _ _ _
    have HB3 : Hid (Below w.heap.size w (wc.setCells (w.heap.size + 1) 0 (cellsB ((keyL key).take nk)))) := below_setCells _ (by omega) _ _ _ HT.out.2.2.2
    have hlen := kblk_length key
    clear Rk BQ HG HB2 HS2 hs2 HK1 hkl HT
    generalize hD : kblk key = D at *
    have HD : Hid (kblk key = D) := hD
    clear hD
    generalize keyL key = kk at *
    go_wp2_with (first
      | (refine wpList_copy_bytes (by rfl) (.tmp 11) (.tmp 12) 33 33 (by rfl) 5 Tryd.underlying33 Tryd.sizeU8 (some ⟨w.heap.size + 1, 0, none⟩) 64 64 (by rfl) ak nk ck kk (by rfl) HRk.out nk HM.out (w.heap.size + 1) 0 (fun _ => rfl) HTn.out ?_)
      | (refine wpList_load_mid (by rfl) 99 (.tmp 3) (by rfl) (w.heap.size + 1) 0 (by rfl) (cellsB D) _ HP.out Tryd.underlying99 (by rfl) (by rw [cellsB_length, hlen]; exact Tryd.sizeKblock) ?_)
      | (refine wpList_store_mid (by rfl) 99 (.tmp 2) (.tmp 14) (by rfl) w.heap.size 0 (cellsB D).toArray (by rfl) (by rfl) (by rw [cellsB_size, hlen]; exact HT2.out) (by rw [cellsB_size, hlen]; exact Tryd.sizeKblock) (all_oneCell_toArray (cellsB_one _)) ?_))
    refine bodyPost_ret (v := .agg (cellsB D).toArray) (run_results_row Tryd.results50 _ _ w.heap.size 0 (by rfl) (cellsB D) (World.rangeAt_setCells_same _ _ _ _ (by rw [cellsB_length, hlen]; exact HT2.out)) _ Tryd.underlying99 (by rfl) (by rw [cellsB_length, hlen]; exact Tryd.sizeKblock)) rfl ⟨by rw [HD.out], ?_⟩
    exact below_setCells _ (Nat.le_refl _) _ _ _ HB3.out
end Go.Proofs.YtghiniaijobonaaDoor
