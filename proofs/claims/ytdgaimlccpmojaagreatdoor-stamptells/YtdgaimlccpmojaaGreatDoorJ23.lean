/- Texts of this claim, joined: Told, Roncep, Rwalk, Rwots. -/
import Derived.Test.YtdgaimlccpmojaaGreatDoorYAs
import Derived.Test.YtdgaimlccpmojaaGreatDoorJ18
import Derived.Test.YtdgaimlccpmojaaGreatDoorJ06
import Derived.Test.YtdgaimlccpmojaaGreatDoorJ04
/- The contracts of plain.Told and of oathbooksame.Error: an error that is nil, or an Errno, is told. -/
namespace Go.Proofs.YtdgaimlccpmojaaGreatDoor
open Go.RowKit
set_option linter.unusedVariables false
set_option linter.unusedSimpArgs false

theorem told_nil (w : World) : Calls Tryz.prog 25 #[.nilIface] w fun e w' => e = .returned (.int .i64 0) ∧ Below w.heap.size w w' := by
  go_enter Tryz.func25, Tryz.ntmps25
  go_wp2
  go_ret
  exact ⟨rfl, Below.refl _ _⟩

set_option maxHeartbeats 1000000 in
theorem told_errno (n : Int) (w : World) (hg : Handle w) : Calls Tryz.prog 25 #[.iface 27 (.int .i64 n)] w fun e w' => e = .returned (.int .i64 n) ∧ Below w.heap.size w w' := by
  have hgA : Handle (w.alloc (.cells #[.int .i64 0] 27)) := hg.below ((Below.refl _ _).alloc (Nat.le_refl _) _)
  have htA : (w.alloc (.cells #[.int .i64 0] 27)).cell? ⟨w.heap.size, 0, none⟩ = some (.int .i64 0) := by simp
  have hfA : (w.alloc (.cells #[.int .i64 0] 27)).frozen? ⟨w.heap.size, 0, none⟩ = false := by simp
  go_enter Tryz.func25, Tryz.ntmps25
  go_wp2_with fail
  refine (as_hit n ⟨w.heap.size, 0, none⟩ (.int .i64 0) _ hgA htA hfA).mono ?_
  rintro e w' ⟨rfl, rfl⟩
  go_wp2
  go_ret
  exact ⟨rfl, (((((Below.refl _ _).alloc (Nat.le_refl _) _).alloc (by simp) _).alloc (by simp; omega) _).alloc (by simp; omega) _).alloc (by simp; omega) _⟩
theorem error_nil (n : Int) (w : World) : Calls Tryz.prog 7 #[.nilIface, .int .i64 n] w fun e w' => e = .returned (.bool (decide (0 = n))) ∧ Below w.heap.size w w' := by
  by_cases h : 0 = n
  · have hb : ((0 : Int) == n) = true := by simp [h]
    go_enter Tryz.func7, Tryz.ntmps7
    go_wp2_with fail
    refine (told_nil _).mono ?_
    rintro e w' ⟨rfl, b⟩
    go_wp2
    go_ret
    exact ⟨ret_bool (by simp [h]), b⟩
  · have hb : ((0 : Int) == n) = false := by simp [h]
    go_enter Tryz.func7, Tryz.ntmps7
    go_wp2_with fail
    refine (told_nil _).mono ?_
    rintro e w' ⟨rfl, b⟩
    go_wp2
    go_ret
    exact ⟨ret_bool (by simp [h]), b⟩
theorem error_errno (m n : Int) (w : World) (hg : Handle w) : Calls Tryz.prog 7 #[.iface 27 (.int .i64 m), .int .i64 n] w fun e w' => e = .returned (.bool (decide (m = n))) ∧ Below w.heap.size w w' := by
  by_cases h : m = n
  · subst h
    have hb : (m == m) = true := by simp
    go_enter Tryz.func7, Tryz.ntmps7
    go_wp2_with fail
    refine (told_errno m _ hg).mono ?_
    rintro e w' ⟨rfl, b⟩
    go_wp2
    go_ret
    exact ⟨ret_bool (by simp), b⟩
  · have hb : (m == n) = false := by simp [h]
    go_enter Tryz.func7, Tryz.ntmps7
    go_wp2_with fail
    refine (told_errno m _ hg).mono ?_
    rintro e w' ⟨rfl, b⟩
    go_wp2
    go_ret
    exact ⟨ret_bool (by simp [h]), b⟩
end Go.Proofs.YtdgaimlccpmojaaGreatDoor
/- The contract of oathbookref1.OncePublic. -/
namespace Go.Proofs.YtdgaimlccpmojaaGreatDoor
open Go.RowKit
set_option linter.unusedVariables false
set_option linter.unusedSimpArgs false

theorem half_int (k : Nat) : (k : Int).tdiv 2 = ((k / 2 : Nat) : Int) ∧ (k : Int) / 2 = ((k / 2 : Nat) : Int) ∧ (k : Int).tmod 2 = ((k % 2 : Nat) : Int) ∧ (k : Int) % 2 = ((k % 2 : Nat) : Int) := by
  refine ⟨by rw [Int.tdiv_eq_ediv_of_nonneg (by omega)]; omega, by omega, by rw [Int.tmod_eq_emod_of_nonneg (by omega)]; omega, by omega⟩

end Go.Proofs.YtdgaimlccpmojaaGreatDoor
/- The contract of oathbookref1.Walked. -/
namespace Go.Proofs.YtdgaimlccpmojaaGreatDoor
open Go.RowKit
set_option linter.unusedVariables false
set_option linter.unusedSimpArgs false

theorem Tryz.infoDigest : (Tryz.prog.info? 23).map (fun i => (i.zero, i.size, i.bytes)) = some (some (.agg zeros32), 32, 32) := by kernel_rfl

set_option maxRecDepth 100000 in
set_option maxHeartbeats 1000000 in
theorem rwalk_any (d : List UInt8) (n : Nat) (w : World) (hd : d.length = 32) (hn : n ≤ 1000000) :
    Calls Tryz.prog 27 #[digestV d, .int .i64 (n : Int)] w fun e w' => e = .returned (digestV (walkL d n)) ∧ Below w.heap.size w w' := by
  obtain ⟨iD, hiD, hzD0, hzD1, hzD2⟩ := info_parts Tryz.infoDigest
  go_enter Tryz.func27, Tryz.ntmps27
  go_wp2
  go_loopw [5] (fun i wr => ∃ k : Nat, k ≤ n ∧ i = .int .i64 (k : Int) ∧ DAt wr w.heap.size 0 (walkL d k) ∧ wr.there w.heap.size 0 32 ∧ wr.there (w.heap.size + 1) 0 32 ∧ Below w.heap.size w wr ∧ w.heap.size + 1 < wr.heap.size) (fun i _ => n - (intOf i).toNat)
  case atStart =>
    have hb : Below (w.heap.size + 1) (w.alloc (.cells (cellsB d).toArray 23)) _ := (Below.refl _ _).alloc (by simp) (.cells zeros32 23)
    refine ⟨0, Nat.zero_le _, rfl, (box_dat w d _).below hb (Nat.lt_succ_self _), there_below (box_there w d _ hd) hb (Nat.lt_succ_self _), ?_, ((Below.refl _ _).alloc (Nat.le_refl _) _).alloc (by simp) _, by simp⟩
    have := there_new (w.alloc (.cells (cellsB d).toArray 23)) 23
    simpa using this
  case round =>
    obtain ⟨k, hk, rfl, hD, hT1, hT2, hB, hs⟩ := hrel
    have HD : Hid (DAt wr w.heap.size 0 (walkL d k)) := hD
    have HT1 : Hid (wr.there w.heap.size 0 32) := hT1
    have HT2 : Hid (wr.there (w.heap.size + 1) 0 32) := hT2
    have HL : Hid ((walkL d k).length = 32) := walkL_length hd k
    clear hD hT1 hT2
    by_cases hlt : k < n
    · have HS : Hid (walkL d (k + 1) = shaL (8 :: walkL d k)) := rfl
      generalize walkL d k = x at *
      go_wp2_with (first
        | (refine wpList_load_mid (by rfl) 23 (.tmp 2) (by rfl) w.heap.size 0 (by rfl) (cellsB x) _ HD.out Tryz.underlying23 (by rfl) (by rw [cellsB_length, HL.out]; kernel_rfl) ?_)
        | (refine wpList_build1 (by rfl) (.tmp 11) 24 (by rfl) 23 (.agg zeros32) iD x HL.out (by rfl) Tryz.underlying24 hiD hzD0 (by rfl) hzD1 ?_))
      refine (rof_any 8 _ _ _ [x] _ (DRow.lit1 wr x _ HL.out) (by omega)).mono ?_
      rintro e w4 ⟨rfl, hb4⟩
      have e1 : shaL (8 :: [x].flatten) = walkL d (k + 1) := by rw [HS.out]; simp
      rw [e1]
      have b4 : Below wr.heap.size wr w4 := below_trans ((Below.refl _ _).alloc (Nat.le_refl _) _) hb4
      have HL1 : Hid ((walkL d (k + 1)).length = 32) := walkL_length hd (k + 1)
      have t1 := there_below HT1.out b4 (by omega)
      have t2 := there_below HT2.out b4 hs
      have hs4 := b4.size
      have B4 := hB.trans (b4.mono (by omega))
      generalize hy : walkL d (k + 1) = y at *
      have HY : Hid (walkL d (k + 1) = y) := hy
      clear hy
      have HW1 : Hid (w4.there w.heap.size 0 32) := t1
      have HW2 : Hid (w4.there (w.heap.size + 1) 0 32) := t2
      clear e1 b4 hb4 hB t1 t2
      go_wp2_with (refine wpList_store_mid (by rfl) 23 (.tmp 2) (.tmp 13) (by rfl) w.heap.size 0 (cellsB y).toArray (by rfl) (by rfl) (by rw [cells32 HL1.out]; exact HW1.out) (by rw [cells32 HL1.out]; kernel_rfl) (all_oneCell_toArray (cellsB_one _)) ?_)
      go_roundw
      case rel =>
        have hz := (below_setCells (B := 0) w.heap.size (Nat.zero_le _) (cellsB y) 0 w4 (Below.refl 0 w4)).size
        exact ⟨k + 1, by omega, by go_num, by rw [HY.out]; exact dat_stored HW1.out HL1.out, World.there_setCells HW1.out _ _ _, World.there_setCells HW2.out _ _ _, below_setCells _ (Nat.le_refl _) _ _ _ B4, by omega⟩
      case measure => simp [intOf]; omega
    · obtain rfl : k = n := by omega
      generalize hx : walkL d k = x at *
      have HX : Hid (walkL d k = x) := hx
      clear hx
      go_wp2_with (first
        | (refine wpList_load_mid (by rfl) 23 (.tmp 2) (by rfl) w.heap.size 0 (by rfl) (cellsB x) _ HD.out Tryz.underlying23 (by rfl) (by rw [cellsB_length, HL.out]; kernel_rfl) ?_)
        | (refine wpList_store_mid (by rfl) 23 (.tmp 4) (.tmp 14) (by rfl) (w.heap.size + 1) 0 (cellsB x).toArray (by rfl) (by rfl) (by rw [cells32 HL.out]; exact HT2.out) (by rw [cells32 HL.out]; kernel_rfl) (all_oneCell_toArray (cellsB_one _)) ?_))
      refine bodyPost_ret (v := digestV x) (run_results_digest Tryz.results27 _ _ (w.heap.size + 1) 0 (by rfl) x (dat_stored HT2.out HL.out) _ Tryz.underlying23 (by rfl) (by rw [HL.out]; kernel_rfl)) rfl ⟨by rw [HX.out], ?_⟩
      exact below_setCells _ (Nat.le_succ _) _ _ _ hB
end Go.Proofs.YtdgaimlccpmojaaGreatDoor
/- The contracts of oathbookref1's WotsSecret and WotsPublic. -/
namespace Go.Proofs.YtdgaimlccpmojaaGreatDoor
open Go.RowKit
set_option linter.unusedVariables false
set_option linter.unusedSimpArgs false

theorem wotsEndsL_len (seed : List UInt8) (n : Nat) : (wotsEndsL seed n).length = n := by simp [wotsEndsL]
theorem wotsEndsL_succ (seed : List UInt8) (n : Nat) : wotsEndsL seed n ++ [walkL (wotsSecL seed n) 15] = wotsEndsL seed (n + 1) := by
  unfold wotsEndsL; rw [List.range_succ, List.map_append]; rfl

set_option maxRecDepth 100000 in
set_option maxHeartbeats 1000000 in
theorem rwotsSecret_any (seed : List UInt8) (i : Nat) (w : World) (hs : seed.length = 32) (hi : i < 256) :
    Calls Tryz.prog 28 #[digestV seed, .int .i64 (i : Int)] w fun e w' => e = .returned (digestV (wotsSecL seed i)) ∧ Below w.heap.size w w' := by
  obtain ⟨w2, hw2⟩ : ∃ w2, (w.alloc (.cells (cellsB seed).toArray 23)).alloc (.cells (cellsB zD).toArray 23) = w2 := ⟨_, rfl⟩
  have hs1 : (w.alloc (.cells (cellsB seed).toArray 23)).heap.size = w.heap.size + 1 := by simp
  have hs2 : w2.heap.size = w.heap.size + 1 + 1 := by rw [← hw2]; simp
  have HD2 : Hid (DAt w2 w.heap.size 0 seed) := by rw [← hw2]; exact World.rangeAt_alloc (box_dat w seed _) _
  have HT2 : Hid (w2.there (w.heap.size + 1) 0 32) := by rw [← hw2]; exact alloc_thereAt _ _ _ 32 _ hs1 zD_size.symm
  have HB2 : Hid (Below w.heap.size w w2) := by rw [← hw2]; exact ((Below.refl _ _).alloc (Nat.le_refl _) _).alloc (by simp) _
  have hR3 : Row (w2.alloc (.cells #[.int .u8 5, .int .u8 (i : Int)] 5)) (some ⟨w2.heap.size, 0, none⟩) 2 [5, UInt8.ofNat i] := by
    refine Row.litL _ _ _ _ ?_ 2 rfl
    have e1 : (UInt8.ofNat i).toNat = i := by rw [UInt8.toNat_ofNat']; omega
    simp [cellsB, e1]
  have HR3 : Hid (Row (w2.alloc (.cells #[.int .u8 5, .int .u8 (i : Int)] 5)) (some ⟨w.heap.size + 1 + 1, 0, none⟩) 2 [5, UInt8.ofNat i]) := by rw [← hs2]; exact hR3
  have hb3 : Below w2.heap.size w2 (w2.alloc (.cells #[.int .u8 5, .int .u8 (i : Int)] 5)) := (Below.refl _ _).alloc (Nat.le_refl _) _
  have HB3 : Hid (Below w.heap.size w (w2.alloc (.cells #[.int .u8 5, .int .u8 (i : Int)] 5))) := below_trans HB2.out hb3
  have HT3 : Hid ((w2.alloc (.cells #[.int .u8 5, .int .u8 (i : Int)] 5)).there (w.heap.size + 1) 0 32) := there_below HT2.out hb3 (by omega)
  clear hR3 hb3
  have i0 : (0 : Int) ≤ (i : Int) := by omega
  have i1 : (i : Int) < 256 := by omega
  go_enter Tryz.func28, Tryz.ntmps28
  go_wp2_with (first
    | (refine wpList_allocE (by rfl) 23 (by rfl) (cellsB zD).toArray Tryz.zeroDg (w.heap.size + 1) hs1 w2 hw2 ?_)
    | (refine wpList_load_mid (by rfl) 23 (.tmp 2) (by rfl) w.heap.size 0 (by rfl) (cellsB seed) _ HD2.out Tryz.underlying23 (by rfl) (by rw [cellsB_length, hs]; exact Tryz.sizeDg) ?_))
  refine (rkeyed_any seed _ 2 2 _ _ hs HR3.out (by omega)).mono ?_
  rintro e w4 ⟨rfl, hb4⟩
  have hE : macL seed [5, UInt8.ofNat i] = wotsSecL seed i := rfl
  rw [hE]
  have HB4 : Hid (Below w.heap.size w w4) := below_trans HB3.out hb4
  have HT4 : Hid (w4.there (w.heap.size + 1) 0 32) := there_below HT3.out hb4 (by simp; omega)
  have hlen := wotsSecL_length seed i
  clear hb4 HB2 HT2 HD2 hw2 hs2 hs1 HR3 HB3 HT3 hE
  generalize hD : wotsSecL seed i = D at *
  have HD : Hid (wotsSecL seed i = D) := hD
  clear hD
  go_wp2_with (refine wpList_store_mid (by rfl) 23 (.tmp 4) (.tmp 9) (by rfl) (w.heap.size + 1) 0 (cellsB D).toArray (by rfl) (by rfl) (by rw [cellsB_size, hlen]; exact HT4.out) (by rw [cellsB_size, hlen]; exact Tryz.sizeDg) (all_oneCell_toArray (cellsB_one _)) ?_)
  refine bodyPost_ret (v := digestV D) (run_results_row Tryz.results28 _ _ (w.heap.size + 1) 0 (by rfl) (cellsB D) (World.rangeAt_setCells_same _ _ _ _ (by rw [cellsB_length, hlen]; exact HT4.out)) _ Tryz.underlying23 (by rfl) (by rw [cellsB_length, hlen]; exact Tryz.sizeDg)) rfl ⟨by rw [HD.out], ?_⟩
  exact below_setCells _ (by omega) _ _ _ HB4.out

set_option maxRecDepth 100000 in
set_option maxHeartbeats 1000000 in
theorem rwotsPublic_any (seed : List UInt8) (w : World) (hs : seed.length = 32) :
    Calls Tryz.prog 19 #[digestV seed] w fun e w' => e = .returned (digestV (wotsPubL seed)) ∧ Below w.heap.size w w' := by
  obtain ⟨iD, hiD, hzD0, hzD1, hzD2⟩ := info_parts Tryz.infoDg
  obtain ⟨w2, hw2⟩ : ∃ w2, (w.alloc (.cells (cellsB seed).toArray 23)).alloc (.cells (cellsB zD).toArray 23) = w2 := ⟨_, rfl⟩
  have hs1 : (w.alloc (.cells (cellsB seed).toArray 23)).heap.size = w.heap.size + 1 := by simp
  have hs2 : w2.heap.size = w.heap.size + 1 + 1 := by rw [← hw2]; simp
  have HS2 : Hid (w2.heap.size = w.heap.size + 1 + 1) := hs2
  have HD2 : Hid (DAt w2 w.heap.size 0 seed) := by rw [← hw2]; exact World.rangeAt_alloc (box_dat w seed _) _
  have HT2 : Hid (w2.there (w.heap.size + 1) 0 32) := by rw [← hw2]; exact alloc_thereAt _ _ _ 32 _ hs1 zD_size.symm
  have HB2 : Hid (Below w.heap.size w w2) := by rw [← hw2]; exact ((Below.refl _ _).alloc (Nat.le_refl _) _).alloc (by simp) _
  clear hs2
  go_enter Tryz.func19, Tryz.ntmps19
  go_wp2_with (refine wpList_allocE (by rfl) 23 (by rfl) (cellsB zD).toArray Tryz.zeroDg (w.heap.size + 1) hs1 w2 hw2 ?_)
  clear hw2 hs1
  go_loopw [3, 4] (fun v i wr => ∃ k : Nat, k ≤ 67 ∧ i = .int .i64 (k : Int) ∧ OwnD wr w2.heap.size v (wotsEndsL seed k) ∧ Below w2.heap.size w2 wr) (fun _ i _ => 67 - (intOf i).toNat)
  case atStart => exact ⟨0, Nat.zero_le _, rfl, OwnD.nil _ _, Below.refl _ _⟩
  case round =>
    obtain ⟨k, hk, rfl, hO, hB⟩ := hrel
    have hs2 := HS2.out
    by_cases hlt : k < 67
    · have HO : Hid (OwnD wr w2.heap.size u3 (wotsEndsL seed k)) := hO
      have HB : Hid (Below w2.heap.size w2 wr) := hB
      have HDr : Hid (DAt wr w.heap.size 0 seed) := HD2.out.below hB (by omega)
      have HSN : Hid (wotsEndsL seed k ++ [walkL (wotsSecL seed k) 15] = wotsEndsL seed (k + 1)) := wotsEndsL_succ seed k
      have HLN : Hid ((wotsEndsL seed k).length = k) := wotsEndsL_len seed k
      clear hO hB hs2
      go_wp2_with (refine wpList_load_mid (by rfl) 23 (.tmp 1) (by rfl) w.heap.size 0 (by rfl) (cellsB seed) _ HDr.out Tryz.underlying23 (by rfl) (by rw [cellsB_length, hs]; exact Tryz.sizeDg) ?_)
      refine (rwotsSecret_any seed k wr hs (by omega)).mono ?_
      rintro e w3 ⟨rfl, hb3⟩
      have hl3 := wotsSecL_length seed k
      generalize wotsSecL seed k = X at *
      go_wp2_with fail
      refine (rwalk_any X 15 w3 hl3 (by omega)).mono ?_
      rintro e w4 ⟨rfl, hb4⟩
      have hl4 := walkL_length hl3 15
      have b4 := below_trans hb3 hb4
      have HO4 : Hid (OwnD w4 w2.heap.size u3 (wotsEndsL seed k)) := OwnD.below HO.out b4
      have HB4 : Hid (Below w2.heap.size w2 w4) := HB.out.trans (b4.mono HB.out.size)
      clear hb3 hb4 b4 HO HB HDr
      generalize walkL X 15 = Y at *
      have hs4 := HB4.out.size
      go_wp2_with (first
        | (refine wpList_build1 (by rfl) (.tmp 13) 24 (by rfl) 23 (.agg zeros32) iD Y hl4 (by rfl) Tryz.underlying24 hiD hzD0 (by rfl) hzD1 ?_)
        | (at_builtin; refine wpList_append_digests (by rfl) (.tmp 9) (.tmp 14) (by rfl) w2.heap.size u3 (wotsEndsL seed k) (by rfl) (OwnD.alloc HO4.out _) ⟨w4.heap.size, 0, none⟩ 1 1 [Y] (by rfl) (DRow.lit1 w4 Y _ hl4) (by omega) (by rw [HLN.out]; omega) (by simp; omega) ?_; intro v5 w5 ho5 hg5 _))
      have B5 := OwnD.grown (OwnD.alloc HO4.out _) (Below.alloc HB4.out hs4 _) hg5 (Nat.le_refl _) (by simp; omega)
      rw [HSN.out] at ho5
      clear hg5 HO4 HB4 HSN HLN
      go_wp2
      go_roundw
      case rel => exact ⟨k + 1, by omega, by go_num, ho5, B5⟩
      case measure => simp [intOf]; omega
    · obtain rfl : k = 67 := by omega
      obtain ⟨a5, c5, rfl, R5, hc5⟩ := OwnD.form hO
      have hl5 := wotsEndsL_len seed 67
      rw [hl5] at R5
      rw [hl5]
      have HR5 : Hid (DRow wr a5 67 (wotsEndsL seed 67)) := R5
      have HB : Hid (Below w2.heap.size w2 wr) := hB
      have hE : shaL (7 :: (wotsEndsL seed 67).flatten) = wotsPubL seed := rfl
      have HE : Hid (shaL (7 :: (wotsEndsL seed 67).flatten) = wotsPubL seed) := hE
      clear hO hB R5 hl5 hE hc5
      generalize wotsEndsL seed 67 = L at *
      go_wp2_with fail
      refine (rof_any 7 a5 67 c5 L wr HR5.out (by omega)).mono ?_
      rintro e w6 ⟨rfl, hb6⟩
      rw [HE.out]
      have HB6 : Hid (Below w2.heap.size w2 w6) := HB.out.trans (hb6.mono HB.out.size)
      have HT6 : Hid (w6.there (w.heap.size + 1) 0 32) := there_below HT2.out HB6.out (by omega)
      have hlen : (wotsPubL seed).length = 32 := by rw [← HE.out]; exact shaL_length _
      clear hb6 HB HR5 HE
      generalize hD : wotsPubL seed = D at *
      have HD : Hid (wotsPubL seed = D) := hD
      clear hD
      go_wp2_with (refine wpList_store_mid (by rfl) 23 (.tmp 2) (.tmp 17) (by rfl) (w.heap.size + 1) 0 (cellsB D).toArray (by rfl) (by rfl) (by rw [cellsB_size, hlen]; exact HT6.out) (by rw [cellsB_size, hlen]; exact Tryz.sizeDg) (all_oneCell_toArray (cellsB_one _)) ?_)
      refine bodyPost_ret (v := digestV D) (run_results_row Tryz.results19 _ _ (w.heap.size + 1) 0 (by rfl) (cellsB D) (World.rangeAt_setCells_same _ _ _ _ (by rw [cellsB_length, hlen]; exact HT6.out)) _ Tryz.underlying23 (by rfl) (by rw [cellsB_length, hlen]; exact Tryz.sizeDg)) rfl ⟨by rw [HD.out], ?_⟩
      exact below_setCells _ (by omega) _ _ _ (HB2.out.trans (HB6.out.mono (by omega)))
end Go.Proofs.YtdgaimlccpmojaaGreatDoor
