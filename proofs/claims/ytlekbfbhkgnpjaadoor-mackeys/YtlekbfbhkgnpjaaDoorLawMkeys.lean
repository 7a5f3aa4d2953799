/- The law MacKeys: a key longer than a block is as its Sum; bytes 0 behind a shorter one change nothing. -/
import Derived.Test.YtlekbfbhkgnpjaaDoorMfact
import Derived.Test.YtlekbfbhkgnpjaaDoorSameH
import Derived.Deep.RegionHeld3
namespace Go.Proofs.YtlekbfbhkgnpjaaDoor
open Go.RowKit
set_option linter.unusedVariables false
set_option linter.unusedSimpArgs false

theorem Tryd.infoK8 : (Tryd.prog.info? 5).map (fun i => (i.zero, i.size, i.bytes)) = some (some (.int .u8 0), 1, 1) := by kernel_rfl
theorem macL_long (key b : List UInt8) (h : 64 < key.length) : macL (shaL key) b = macL key b := by
  unfold macL
  have e1 : keyL (shaL key) = shaL key := by unfold keyL; rw [if_neg (by rw [shaL_length]; omega)]
  have e2 : keyL key = shaL key := by unfold keyL; rw [if_pos h]
  rw [e1, e2]
theorem padX_zeros (key : List UInt8) (z : Nat) (x : UInt8) (n : Nat) : padX (key ++ List.replicate z 0) x n = padX key x n := by
  unfold padX
  refine List.map_congr_left fun i hi => ?_
  unfold xorB
  congr 1
  simp only [List.getD_eq_getElem?_getD]
  by_cases h : i < key.length
  · rw [List.getElem?_append_left h]
  · rw [List.getElem?_append_right (by omega), List.getElem?_eq_none (l := key) (by omega), List.getElem?_replicate]
    split <;> rfl
theorem macL_zeros (key b : List UInt8) (z : Nat) (h : key.length + z ≤ 64) : macL (key ++ List.replicate z 0) b = macL key b := by
  unfold macL
  have e1 : keyL (key ++ List.replicate z 0) = key ++ List.replicate z 0 := by unfold keyL; rw [if_neg (by simp; omega)]
  have e2 : keyL key = key := by unfold keyL; rw [if_neg (by omega)]
  rw [e1, e2, padX_zeros, padX_zeros]

set_option maxRecDepth 100000 in
set_option maxHeartbeats 2000000 in
theorem mkeys_walk (a1 : Option Addr) (n1 c1 : Nat) (key : List UInt8) (a2 : Option Addr) (n2 c2 : Nat) (b : List UInt8) (m : Int) (w : World) (G : Tab w)
    (R1 : Row w a1 n1 key) (hc1 : n1 ≤ c1) (h1 : n1 ≤ 140737488351232) (R2 : Row w a2 n2 b) (hc2 : n2 ≤ c2) (h2 : n2 ≤ 140737488351232) (m1 : -9223372036854775808 ≤ m) (m2 : m ≤ 9223372036854775807) :
    Calls Tryd.prog 6 #[.slice a1 n1 c1, .slice a2 n2 c2, .int .i64 m] w fun e w' => e = .returned (.bool true) ∧ Below w.heap.size w w' := by
  obtain ⟨i0, hi, hz0, hz1, hz2⟩ := info_parts Tryd.infoK8
  have HG : Hid (Tab w ∧ Row w a1 n1 key ∧ Row w a2 n2 b) := ⟨G, R1, R2⟩
  have hkn : key.length = n1 := R1.1
  have HKN : Hid (key.length = n1) := hkn
  clear hkn
  obtain ⟨D0, hlen, HZ, C0⟩ := wmac_nothing w G
  have HC0 : Hid (Calls Tryd.prog 14 #[.slice none 0 0, .slice none 0 0] w fun e w' => e = .returned (digestV D0) ∧ Below w.heap.size w w') := C0
  clear G R1 R2 C0
  go_enter Tryd.func6, Tryd.ntmps6
  go_wp2_with fail
  refine HC0.out.mono ?_
  rintro e w1 ⟨rfl, hb1⟩
  clear HC0
  have hz := run_same_z D0 hlen HZ
  clear HZ
  obtain ⟨w2, hw2⟩ : ∃ w2, w1.alloc (.cells (cellsB z32).toArray 25) = w2 := ⟨_, rfl⟩
  have ht2 : Hid (w2.there w1.heap.size 0 32) := by rw [← hw2]; exact alloc_thereAt _ _ _ 32 _ rfl z32_size.symm
  have HB3 : Hid (Below w.heap.size w (w2.setCells w1.heap.size 0 (cellsB D0))) := by rw [← hw2]; exact below_trans hb1 (new_stored _ _ _)
  have HD3 : Hid (DAt (w2.setCells w1.heap.size 0 (cellsB D0)) w1.heap.size 0 D0) := dat_stored ht2.out hlen
  clear hb1
  generalize hw3 : w2.setCells w1.heap.size 0 (cellsB D0) = w3 at *
  go_wp2_with (first
    | (refine wpList_allocE (by rfl) 25 (by rfl) (cellsB z32).toArray Tryd.zeroDigest w1.heap.size rfl w2 hw2 ?_)
    | (refine wpList_store_mid (by rfl) 25 (.tmp 7) (.tmp 12) (by rfl) w1.heap.size 0 (cellsB D0).toArray (by rfl) (by rfl) (by rw [cellsB_size, hlen]; exact ht2.out) (by rw [cellsB_size, hlen]; exact Tryd.sizeDigest) (all_oneCell_toArray (cellsB_one _)) ?_; rw [show (cellsB D0).toArray.toList = cellsB D0 from rfl, hw3])
    | (refine wpList_load_mid (by rfl) 25 (.tmp 7) (by rfl) w1.heap.size 0 (by rfl) (cellsB D0) _ HD3.out Tryd.underlying25 (by rfl) (by rw [cellsB_length, hlen]; exact Tryd.sizeDigest) ?_))
  clear hw2 ht2 hw3 HD3 hz
  refine (wmac_any a1 n1 c1 key a2 n2 c2 b w3 (HG.out.1.below HB3.out) (HG.out.2.1.below HB3.out) (HG.out.2.2.below HB3.out) hc1 hc2 (by omega) (by omega)).mono ?_
  rintro e w4 ⟨rfl, hb4⟩
  have HB4 : Hid (Below w.heap.size w w4) := below_trans HB3.out hb4
  clear hb4 HB3
  have hlD := macL_length key b
  generalize hD : macL key b = D at *
  have HD : Hid (macL key b = D) := hD
  clear hD
  obtain ⟨w5, hw5⟩ : ∃ w5, w4.alloc (.cells (cellsB z32).toArray 25) = w5 := ⟨_, rfl⟩
  have ht5 : Hid (w5.there w4.heap.size 0 32) := by rw [← hw5]; exact alloc_thereAt _ _ _ 32 _ rfl z32_size.symm
  have HB6 : Hid (Below w.heap.size w (w5.setCells w4.heap.size 0 (cellsB D))) := by rw [← hw5]; exact below_trans HB4.out (new_stored _ _ _)
  have HD6 : Hid (DAt (w5.setCells w4.heap.size 0 (cellsB D)) w4.heap.size 0 D) := dat_stored ht5.out hlD
  generalize hw6 : w5.setCells w4.heap.size 0 (cellsB D) = w6 at *
  have hg6 : w4.heap.size < w6.heap.size := cell_block (HD6.out.cell 0 (by omega))
  have hu25 := Tryd.underlying25
  have hi25 : (Tryd.prog.info? 25).map (·.size) = some (cellsB D).length := by rw [cellsB_length, hlD]; exact Tryd.sizeDigest
  by_cases hL : 64 < n1
  · go_wp2_with (first
      | (refine wpList_allocE (by rfl) 25 (by rfl) (cellsB z32).toArray Tryd.zeroDigest w4.heap.size rfl w5 hw5 ?_)
      | (refine wpList_store_mid (by rfl) 25 (.tmp 8) (.tmp 18) (by rfl) w4.heap.size 0 (cellsB D).toArray (by rfl) (by rfl) (by rw [cellsB_size, hlD]; exact ht5.out) (by rw [cellsB_size, hlD]; exact Tryd.sizeDigest) (all_oneCell_toArray (cellsB_one _)) ?_; rw [show (cellsB D).toArray.toList = cellsB D from rfl, hw6]))
    clear hw5 hw6 ht5 HB4
    refine (wsum_any a1 n1 c1 key w6 (HG.out.1.below HB6.out) (HG.out.2.1.below HB6.out) hc1 (by omega)).mono ?_
    rintro e w7 ⟨rfl, hb7⟩
    have HML : Hid (macL (shaL key) b = D) := by unfold Hid; rw [macL_long key b (by rw [HKN.out]; exact hL)]; exact HD.out
    have hlS := shaL_length key
    have HB7 : Hid (Below w.heap.size w w7) := below_trans HB6.out hb7
    have HD7 : Hid (DAt w7 w4.heap.size 0 D) := HD6.out.below hb7 hg6
    have hg7 : w4.heap.size < w7.heap.size := Nat.lt_of_lt_of_le hg6 hb7.size
    clear hb7 HB6 HD6 hg6
    generalize shaL key = X at *
    obtain ⟨w8, hw8⟩ : ∃ w8, w7.alloc (.cells (cellsB z32).toArray 25) = w8 := ⟨_, rfl⟩
    have ht8 : Hid (w8.there w7.heap.size 0 32) := by rw [← hw8]; exact alloc_thereAt _ _ _ 32 _ rfl z32_size.symm
    have hb9 : Below w7.heap.size w7 (w8.setCells w7.heap.size 0 (cellsB X)) := by rw [← hw8]; exact new_stored _ _ _
    have HB9 : Hid (Below w.heap.size w (w8.setCells w7.heap.size 0 (cellsB X))) := below_trans HB7.out hb9
    have HD9 : Hid (DAt (w8.setCells w7.heap.size 0 (cellsB X)) w4.heap.size 0 D) := HD7.out.below hb9 hg7
    have HX9 : Hid (Row (w8.setCells w7.heap.size 0 (cellsB X)) (some ⟨w7.heap.size, 0, none⟩) 32 X) := (dat_stored ht8.out hlS).row hlS
    have hg9 : w4.heap.size < (w8.setCells w7.heap.size 0 (cellsB X)).heap.size := Nat.lt_of_lt_of_le hg7 hb9.size
    clear hb9
    generalize hw9 : w8.setCells w7.heap.size 0 (cellsB X) = w9 at *
    go_wp2_with (first
      | (refine wpList_allocE (by rfl) 25 (by rfl) (cellsB z32).toArray Tryd.zeroDigest w7.heap.size rfl w8 hw8 ?_)
      | (refine wpList_store_mid (by rfl) 25 (.tmp 9) (.tmp 23) (by rfl) w7.heap.size 0 (cellsB X).toArray (by rfl) (by rfl) (by rw [cellsB_size, hlS]; exact ht8.out) (by rw [cellsB_size, hlS]; exact Tryd.sizeDigest) (all_oneCell_toArray (cellsB_one _)) ?_; rw [show (cellsB X).toArray.toList = cellsB X from rfl, hw9]))
    clear hw8 hw9 ht8 HB7 HD7 hg7
    generalize w4.heap.size = g8 at *
    generalize w7.heap.size = g9 at *
    try simp only [Act.put, List.setIfInBounds_toArray, List.set_cons_zero, List.set_cons_succ]
    refine wp_region_noPanic ?_
    refine wp_region_held_drew (S := fun w' => w'.rangeAt g8 0 (cellsB D)) (by kernel_rfl) HD9.out (fun hHeld => ?_)
    refine wpAnyH_take (i := 0) (v := ?_) (by simp only [List.getElem?_toArray, List.getElem?_cons_zero, List.getElem?_cons_succ]; rfl) (by kernel_rfl) (by kernel_rfl) (by kernel_rfl) (fun _ _ _ h => h) (Or.inl ⟨by rfl, ?_⟩) hHeld ?_
    rotate_left
    · intro w hSw
      go_simp
      try with_reducible rfl
    try simp only [Act.put, List.setIfInBounds_toArray, List.set_cons_zero, List.set_cons_succ]
    refine wpAnyH_take (i := 1) (v := ?_) (by simp only [List.getElem?_toArray, List.getElem?_cons_zero, List.getElem?_cons_succ]; rfl) (by kernel_rfl) (by kernel_rfl) (by kernel_rfl) (fun _ _ _ h => h) (Or.inl ⟨by rfl, ?_⟩) hHeld ?_
    rotate_left
    · intro w hSw
      go_simp
      try with_reducible rfl
    try simp only [Act.put, List.setIfInBounds_toArray, List.set_cons_zero, List.set_cons_succ]
    refine wpAnyH_take (i := 3) (v := .agg (cellsB D).toArray) (by simp only [List.getElem?_toArray, List.getElem?_cons_zero, List.getElem?_cons_succ]; rfl) (by kernel_rfl) (by kernel_rfl) (by kernel_rfl) (fun _ _ _ h => h)
      (yieldsIf_load_mid (by rfl) _ _ rfl _ _ rfl _ _ (fun w hw => hw) hu25 rfl hi25) hHeld ?_
    try simp only [Act.put, List.setIfInBounds_toArray, List.set_cons_zero, List.set_cons_succ]
    refine wpAnyH_ready (rs := [2]) (by kernel_rfl) (by simp) ?_
    refine AllReadyH.cons (by simp only [List.getElem?_toArray, List.getElem?_cons_zero, List.getElem?_cons_succ]; rfl) (fun K hK => ?_) AllReadyH.nil
    rw [if_pos (by rfl)]
    go_simp
    have hdr : Below w9.heap.size w9 w9.drew := below_drewN w9 1
    refine (wmac_any (some ⟨g9, 0, none⟩) 32 32 X a2 n2 c2 b w9.drew (HG.out.1.below (below_trans HB9.out hdr)) (Row.below HX9.out hdr) (HG.out.2.2.below (below_trans HB9.out hdr)) (by omega) hc2 (by omega) (by omega)).mono ?_
    rintro e wA ⟨rfl, hbA⟩
    rw [HML.out]
    have HBA : Hid (Below w.heap.size w wA) := below_trans (below_trans HB9.out hdr) hbA
    have HDA : Hid (DAt wA g8 0 D) := HD9.out.below (below_trans hdr hbA) hg9
    clear hbA hdr
    go_wp2_with fail
    refine hK.out _ _ HDA.out (fun hHeld => ?_)
    clear hK K
    try simp only [Act.put, List.setIfInBounds_toArray, List.set_cons_zero, List.set_cons_succ]
    refine wpAnyH_take (i := 4) (v := .bool true) (by simp only [List.getElem?_toArray, List.getElem?_cons_zero, List.getElem?_cons_succ]; rfl) (by kernel_rfl) (by kernel_rfl) (by kernel_rfl) (fun _ _ _ h => h)
      (yieldsIf_eqD (by rfl) _ _ rfl D D hlD hlD rfl rfl true (decide_eq_true rfl)) hHeld ?_
    try simp only [Act.put, List.setIfInBounds_toArray, List.set_cons_zero, List.set_cons_succ]
    refine wpAnyH_take (i := 5) (v := ?_) (by simp only [List.getElem?_toArray, List.getElem?_cons_zero, List.getElem?_cons_succ]; rfl) (by kernel_rfl) (by kernel_rfl) (by kernel_rfl) (fun _ _ _ h => h) (Or.inl ⟨by rfl, ?_⟩) hHeld ?_
    rotate_left
    · intro w hSw
      go_simp
      try with_reducible rfl
    try simp only [Act.put, List.setIfInBounds_toArray, List.set_cons_zero, List.set_cons_succ]
    refine wpAnyH_done (by kernel_rfl) (NoPanic.normal ?_) _
    go_wp2
    go_ret
    exact ⟨rfl, HBA.out⟩
  · by_cases hm0 : m < 0
    · go_wp2_with (first
      | (refine wpList_allocE (by rfl) 25 (by rfl) (cellsB z32).toArray Tryd.zeroDigest w4.heap.size rfl w5 hw5 ?_)
      | (refine wpList_store_mid (by rfl) 25 (.tmp 8) (.tmp 18) (by rfl) w4.heap.size 0 (cellsB D).toArray (by rfl) (by rfl) (by rw [cellsB_size, hlD]; exact ht5.out) (by rw [cellsB_size, hlD]; exact Tryd.sizeDigest) (all_oneCell_toArray (cellsB_one _)) ?_; rw [show (cellsB D).toArray.toList = cellsB D from rfl, hw6]))
      go_ret
      exact ⟨rfl, HB6.out⟩
    by_cases hm1 : 64 - (n1 : Int) < m
    · go_wp2_with (first
      | (refine wpList_allocE (by rfl) 25 (by rfl) (cellsB z32).toArray Tryd.zeroDigest w4.heap.size rfl w5 hw5 ?_)
      | (refine wpList_store_mid (by rfl) 25 (.tmp 8) (.tmp 18) (by rfl) w4.heap.size 0 (cellsB D).toArray (by rfl) (by rfl) (by rw [cellsB_size, hlD]; exact ht5.out) (by rw [cellsB_size, hlD]; exact Tryd.sizeDigest) (all_oneCell_toArray (cellsB_one _)) ?_; rw [show (cellsB D).toArray.toList = cellsB D from rfl, hw6]))
      go_ret
      exact ⟨rfl, HB6.out⟩
    obtain ⟨z, rfl⟩ : ∃ z : Nat, m = (z : Int) := Int.eq_ofNat_of_zero_le (by omega)
    have HZ64 : Hid (n1 + z ≤ 64) := by unfold Hid; omega
    have HRa : Hid (Row (w6.alloc (.cells #[] 5)) a1 n1 key) := (HG.out.2.1.below HB6.out).below ((Below.refl _ _).alloc (Nat.le_refl _) _)
    go_wp2_with (first
      | (refine wpList_allocE (by rfl) 25 (by rfl) (cellsB z32).toArray Tryd.zeroDigest w4.heap.size rfl w5 hw5 ?_)
      | (refine wpList_store_mid (by rfl) 25 (.tmp 8) (.tmp 18) (by rfl) w4.heap.size 0 (cellsB D).toArray (by rfl) (by rfl) (by rw [cellsB_size, hlD]; exact ht5.out) (by rw [cellsB_size, hlD]; exact Tryd.sizeDigest) (all_oneCell_toArray (cellsB_one _)) ?_; rw [show (cellsB D).toArray.toList = cellsB D from rfl, hw6])
      | (at_builtin; refine wpList_append_bytes rfl (.tmp 38) (.tmp 39) 22 rfl w6.heap.size i0 Tryd.underlying22 hi hz0 hz1 hz2 (.slice (some ⟨w6.heap.size, 0, none⟩) 0 0) [] rfl (OwnL.lit0 _ _ (Nat.le_refl _)) a1 n1 c1 key rfl HRa.out (by simp; omega) (by simp) ?_; intro v7 w7 ho7 hg7))
    have HB7 : Hid (Below w6.heap.size w6 w7) := OwnL.grown (OwnL.lit0 w6 _ (Nat.le_refl _)) ((Below.refl _ _).alloc (Nat.le_refl _) _) hg7 (Nat.le_refl _) (by simp)
    have HO7 : Hid (OwnL w7 w6.heap.size v7 key) := ho7
    clear hw5 hw6 ht5 HB4 hg7 ho7 HRa hm0 hm1
    generalize w4.heap.size = g8 at *
    go_loopw [10, 11] (fun v i wr => ∃ k : Nat, k ≤ z ∧ i = .int .i64 (k : Int) ∧ OwnL wr w6.heap.size v (key ++ List.replicate k 0) ∧ Below w6.heap.size w6 wr) (fun _ i _ => z - (intOf i).toNat)
    case atStart => exact ⟨0, Nat.zero_le _, rfl, by rw [List.replicate_zero, List.append_nil]; exact HO7.out, HB7.out⟩
    case round =>
      clear HO7 HB7
      obtain ⟨k, hk, rfl, hO, hB⟩ := hrel
      have hz64 := HZ64.out
      by_cases hlt : k < z
      · have HO : Hid (OwnL wr w6.heap.size u10 (key ++ List.replicate k 0)) := hO
        have HB : Hid (Below w6.heap.size w6 wr) := hB
        have hll : (key ++ List.replicate k 0).length = n1 + k := by rw [List.length_append, HKN.out, List.length_replicate]
        have HLL : Hid ((key ++ List.replicate k 0).length = n1 + k) := hll
        have HSN : Hid (key ++ List.replicate k 0 ++ [0] = key ++ List.replicate (k + 1) (0 : UInt8)) := by unfold Hid; rw [List.append_assoc, ← List.replicate_succ']
        have hsz := hB.size
        clear hO hB hll
        generalize key ++ List.replicate k 0 = p at *
        go_wp2_with (at_builtin; refine wpList_append_bytes rfl (.tmp 46) (.tmp 47) 22 rfl w6.heap.size i0 Tryd.underlying22 hi hz0 hz1 hz2 u10 p rfl (World.ownsRow.alloc HO.out _) _ 1 1 [0] rfl (Row.lit1v wr 0 5 0 rfl) (by rw [HLL.out]; omega) (by simp; omega) ?_; intro v8 w8 ho8 hg8)
        have B8 := OwnL.grown (World.ownsRow.alloc HO.out _) (Below.alloc HB.out hsz _) hg8 (Nat.le_refl _) (by simp; omega)
        rw [HSN.out] at ho8
        clear hg8 HO HB HSN HLL
        go_wp2
        go_roundw
        case rel => exact ⟨k + 1, by omega, by go_num, ho8, B8⟩
        case measure => simp [intOf]; omega
      · obtain rfl : k = z := by omega
        have hll : (key ++ List.replicate k 0).length = n1 + k := by rw [List.length_append, HKN.out, List.length_replicate]
        have HML : Hid (macL (key ++ List.replicate k 0) b = D) := by unfold Hid; rw [macL_zeros key b k (by rw [HKN.out]; exact hz64)]; exact HD.out
        have hBr := below_trans HB6.out hB
        have HBr : Hid (Below w.heap.size w wr) := hBr
        have HDr : Hid (DAt wr g8 0 D) := HD6.out.below hB hg6
        have hgr : g8 < wr.heap.size := Nat.lt_of_lt_of_le hg6 hB.size
        clear hBr
        obtain ⟨av, cv, rfl, Rv, hcv⟩ := OwnL.form hO
        rw [hll] at Rv hcv
        rw [hll]
        have HXr : Hid (Row wr av (n1 + k) (key ++ List.replicate k 0)) := Rv
        clear hll
        clear Rv hO hB
        generalize key ++ List.replicate k 0 = L at *
        go_wp2_with fail
        try simp only [Act.put, List.setIfInBounds_toArray, List.set_cons_zero, List.set_cons_succ]
        refine wp_region_noPanic ?_
        refine wp_region_held_drew (S := fun w' => w'.rangeAt g8 0 (cellsB D)) (by kernel_rfl) HDr.out (fun hHeld => ?_)
        refine wpAnyH_take (i := 0) (v := ?_) (by simp only [List.getElem?_toArray, List.getElem?_cons_zero, List.getElem?_cons_succ]; rfl) (by kernel_rfl) (by kernel_rfl) (by kernel_rfl) (fun _ _ _ h => h) (Or.inl ⟨by rfl, ?_⟩) hHeld ?_
        rotate_left
        · intro w hSw
          go_simp
          try with_reducible rfl
        try simp only [Act.put, List.setIfInBounds_toArray, List.set_cons_zero, List.set_cons_succ]
        refine wpAnyH_take (i := 1) (v := ?_) (by simp only [List.getElem?_toArray, List.getElem?_cons_zero, List.getElem?_cons_succ]; rfl) (by kernel_rfl) (by kernel_rfl) (by kernel_rfl) (fun _ _ _ h => h) (Or.inl ⟨by rfl, ?_⟩) hHeld ?_
        rotate_left
        · intro w hSw
          go_simp
          try with_reducible rfl
        try simp only [Act.put, List.setIfInBounds_toArray, List.set_cons_zero, List.set_cons_succ]
        refine wpAnyH_take (i := 3) (v := .agg (cellsB D).toArray) (by simp only [List.getElem?_toArray, List.getElem?_cons_zero, List.getElem?_cons_succ]; rfl) (by kernel_rfl) (by kernel_rfl) (by kernel_rfl) (fun _ _ _ h => h)
          (yieldsIf_load_mid (by rfl) _ _ rfl _ _ rfl _ _ (fun w hw => hw) hu25 rfl hi25) hHeld ?_
        try simp only [Act.put, List.setIfInBounds_toArray, List.set_cons_zero, List.set_cons_succ]
        refine wpAnyH_ready (rs := [2]) (by kernel_rfl) (by simp) ?_
        refine AllReadyH.cons (by simp only [List.getElem?_toArray, List.getElem?_cons_zero, List.getElem?_cons_succ]; rfl) (fun K hK => ?_) AllReadyH.nil
        rw [if_pos (by rfl)]
        go_simp
        have hdr : Below wr.heap.size wr wr.drew := below_drewN wr 1
        refine (wmac_any av (n1 + k) cv L a2 n2 c2 b wr.drew (HG.out.1.below (below_trans HBr.out hdr)) (Row.below HXr.out hdr) (HG.out.2.2.below (below_trans HBr.out hdr)) hcv hc2 (by omega) (by omega)).mono ?_
        rintro e wA ⟨rfl, hbA⟩
        rw [HML.out]
        have HBA : Hid (Below w.heap.size w wA) := below_trans (below_trans HBr.out hdr) hbA
        have HDA : Hid (DAt wA g8 0 D) := HDr.out.below (below_trans hdr hbA) hgr
        clear hbA hdr
        go_wp2_with fail
        refine hK.out _ _ HDA.out (fun hHeld => ?_)
        clear hK K
        try simp only [Act.put, List.setIfInBounds_toArray, List.set_cons_zero, List.set_cons_succ]
        refine wpAnyH_take (i := 4) (v := .bool true) (by simp only [List.getElem?_toArray, List.getElem?_cons_zero, List.getElem?_cons_succ]; rfl) (by kernel_rfl) (by kernel_rfl) (by kernel_rfl) (fun _ _ _ h => h)
          (yieldsIf_eqD (by rfl) _ _ rfl D D hlD hlD rfl rfl true (decide_eq_true rfl)) hHeld ?_
        try simp only [Act.put, List.setIfInBounds_toArray, List.set_cons_zero, List.set_cons_succ]
        refine wpAnyH_take (i := 5) (v := ?_) (by simp only [List.getElem?_toArray, List.getElem?_cons_zero, List.getElem?_cons_succ]; rfl) (by kernel_rfl) (by kernel_rfl) (by kernel_rfl) (fun _ _ _ h => h) (Or.inl ⟨by rfl, ?_⟩) hHeld ?_
        rotate_left
        · intro w hSw
          go_simp
          try with_reducible rfl
        try simp only [Act.put, List.setIfInBounds_toArray, List.set_cons_zero, List.set_cons_succ]
        refine wpAnyH_done (by kernel_rfl) (NoPanic.normal ?_) _
        go_wp2
        go_ret
        exact ⟨rfl, HBA.out⟩
end Go.Proofs.YtlekbfbhkgnpjaaDoor
