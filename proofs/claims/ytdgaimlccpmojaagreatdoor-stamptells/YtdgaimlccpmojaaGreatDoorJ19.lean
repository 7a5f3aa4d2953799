/- Texts of this claim, joined: Wstampk, Wsplit, Wleaf, Wroot. -/
import Derived.Test.YtdgaimlccpmojaaGreatDoorJ08
import Derived.Test.YtdgaimlccpmojaaGreatDoorJ12
import Derived.Test.YtdgaimlccpmojaaGreatDoorJ16
import Derived.Test.YtdgaimlccpmojaaGreatDoorJ18
import Derived.OwnWalk
import Derived.Test.YtdgaimlccpmojaaGreatDoorJ01
import Derived.Test.YtdgaimlccpmojaaGreatDoorJ04
import Derived.Lib.BitFns
import Derived.Test.YtdgaimlccpmojaaGreatDoorJ10
import Derived.Test.YtdgaimlccpmojaaGreatDoorJ03
import Derived.Test.YtdgaimlccpmojaaGreatDoorJ05
import Derived.Test.YtdgaimlccpmojaaGreatDoorJ15
import Derived.Deep.RegionHeld3
/- The contracts of stamp.key, isHeight and leavesOf. -/
namespace Go.Proofs.YtdgaimlccpmojaaGreatDoor
open Go.RowKit
set_option linter.unusedVariables false
set_option linter.unusedSimpArgs false

set_option maxRecDepth 100000 in
set_option maxHeartbeats 1000000 in
theorem wkey_any (seed : List UInt8) (i : Nat) (w : World) (G : Env w) (hs : seed.length = 32) (hi : i < 256) :
    Calls Tryz.prog 32 #[digestV seed, .int .i64 (i : Int)] w fun e w' => e = .returned (digestV (stampKeyL seed i)) ∧ Below w.heap.size w w' := by
  obtain ⟨w2, hw2⟩ : ∃ w2, (w.alloc (.cells (cellsB seed).toArray 23)).alloc (.cells (cellsB zD).toArray 23) = w2 := ⟨_, rfl⟩
  have hs1 : (w.alloc (.cells (cellsB seed).toArray 23)).heap.size = w.heap.size + 1 := by simp
  have hs2 : w2.heap.size = w.heap.size + 1 + 1 := by rw [← hw2]; simp
  have hD2 : DAt w2 w.heap.size 0 seed := by rw [← hw2]; exact World.rangeAt_alloc (box_dat w seed _) _
  have hT2 : w2.there (w.heap.size + 1) 0 32 := by rw [← hw2]; exact alloc_thereAt _ _ _ 32 _ hs1 zD_size.symm
  have hB2 : Below w.heap.size w w2 := by rw [← hw2]; exact ((Below.refl _ _).alloc (Nat.le_refl _) _).alloc (by simp) _
  have hR3 : Row (w2.alloc (.cells #[.int .u8 11, .int .u8 (i : Int)] 5)) (some ⟨w2.heap.size, 0, none⟩) 2 [11, UInt8.ofNat i] := by
    refine Row.litL _ _ _ _ ?_ 2 rfl
    have e1 : (UInt8.ofNat i).toNat = i := by rw [UInt8.toNat_ofNat']; omega
    simp [cellsB, e1]
  have HR3 : Hid (Row (w2.alloc (.cells #[.int .u8 11, .int .u8 (i : Int)] 5)) (some ⟨w.heap.size + 1 + 1, 0, none⟩) 2 [11, UInt8.ofNat i]) := by rw [← hs2]; exact hR3
  have hb3 : Below w2.heap.size w2 (w2.alloc (.cells #[.int .u8 11, .int .u8 (i : Int)] 5)) := (Below.refl _ _).alloc (Nat.le_refl _) _
  have HB3 : Hid (Below w.heap.size w (w2.alloc (.cells #[.int .u8 11, .int .u8 (i : Int)] 5))) := below_trans hB2 hb3
  have HT3 : Hid ((w2.alloc (.cells #[.int .u8 11, .int .u8 (i : Int)] 5)).there (w.heap.size + 1) 0 32) := there_below hT2 hb3 (by omega)
  have HS3 : Hid (Row (w2.alloc (.cells #[.int .u8 11, .int .u8 (i : Int)] 5)) (some ⟨w.heap.size, 0, none⟩) 32 seed) := (hD2.below hb3 (by omega)).row hs
  have HN3 : Hid (w.heap.size + 1 < (w2.alloc (.cells #[.int .u8 11, .int .u8 (i : Int)] 5)).heap.size) := by unfold Hid; simp; omega
  clear hR3 hb3 hD2 hT2 hB2
  have i0 : (0 : Int) ≤ (i : Int) := by omega
  have i1 : (i : Int) < 256 := by omega
  go_enter Tryz.func32, Tryz.ntmps32
  go_wp2_with (refine wpList_allocE (by rfl) 23 (by rfl) (cellsB zD).toArray Tryz.zeroDg (w.heap.size + 1) hs1 w2 hw2 ?_)
  refine (wmac_any _ 32 32 seed _ 2 2 [11, UInt8.ofNat i] _ (G.below HB3.out) HS3.out HR3.out (by omega) (by omega) (by omega) (by omega)).mono ?_
  rintro e w4 ⟨rfl, hb4⟩
  have hE : macL seed [11, UInt8.ofNat i] = stampKeyL seed i := rfl
  rw [hE]
  have HB4 : Hid (Below w.heap.size w w4) := below_trans HB3.out hb4
  have HT4 : Hid (w4.there (w.heap.size + 1) 0 32) := there_below HT3.out hb4 HN3.out
  have hlen := stampKeyL_length seed i
  clear hb4 hw2 hs2 hs1 HR3 HB3 HT3 HS3 HN3 hE
  generalize hD : stampKeyL seed i = D at *
  have HD : Hid (stampKeyL seed i = D) := hD
  clear hD
  go_wp2_with (refine wpList_store_mid (by rfl) 23 (.tmp 4) (.tmp 9) (by rfl) (w.heap.size + 1) 0 (cellsB D).toArray (by rfl) (by rfl) (by rw [cellsB_size, hlen]; exact HT4.out) (by rw [cellsB_size, hlen]; exact Tryz.sizeDg) (all_oneCell_toArray (cellsB_one _)) ?_)
  refine bodyPost_ret (v := digestV D) (run_results_row Tryz.results32 _ _ (w.heap.size + 1) 0 (by rfl) (cellsB D) (World.rangeAt_setCells_same _ _ _ _ (by rw [cellsB_length, hlen]; exact HT4.out)) _ Tryz.underlying23 (by rfl) (by rw [cellsB_length, hlen]; exact Tryz.sizeDg)) rfl ⟨by rw [HD.out], ?_⟩
  exact below_setCells _ (by omega) _ _ _ HB4.out
set_option maxRecDepth 100000 in
set_option maxHeartbeats 1000000 in
theorem wheight_in (h : Nat) (w : World) (hh : h ≤ 4) :
    Calls Tryz.prog 35 #[.int .i64 (h : Int)] w fun e w' => e = .returned (.bool true) ∧ w' = w := by
  have g0 : (0 : Int) ≤ (h : Int) := by omega
  have g1 : (h : Int) ≤ 4 := by omega
  go_enter Tryz.func35, Tryz.ntmps35
  go_wp2_with fail
  go_ret
  exact ⟨rfl, rfl⟩
set_option maxRecDepth 100000 in
set_option maxHeartbeats 1000000 in
theorem wheight_out (h : Int) (w : World) (hh : h < 0 ∨ 4 < h) (h1 : -9223372036854775808 ≤ h) (h2 : h ≤ 9223372036854775807) :
    Calls Tryz.prog 35 #[.int .i64 h] w fun e w' => e = .returned (.bool false) ∧ w' = w := by
  by_cases g0 : 0 ≤ h
  · have g1 : ¬ h ≤ 4 := by omega
    clear hh
    go_enter Tryz.func35, Tryz.ntmps35
    go_wp2_with fail
    go_ret
    exact ⟨rfl, rfl⟩
  · clear hh
    go_enter Tryz.func35, Tryz.ntmps35
    go_wp2_with fail
    go_ret
    exact ⟨rfl, rfl⟩
theorem leaf_put {w : World} {g n : Nat} {ls : List (List UInt8)} {y : List UInt8} (h32 : ∀ l ∈ ls, l.length = 32) (hD : DAt w g 0 ls.flatten) (ht : w.there g 0 (n * 32)) (hj : ls.length < n) (hy : y.length = 32) : DAt (w.setCells g (ls.length * 32) (cellsB y)) g 0 (ls ++ [y]).flatten := by
  have hfl := flat_len h32
  have e : (ls ++ [y]).flatten = ls.flatten ++ y := by simp
  rw [e]
  refine DAt.mk fun i hi => ?_
  rw [List.length_append, hfl, hy] at hi
  by_cases c : i < ls.flatten.length
  · rw [World.cell?_setCells_out _ _ _ _ _ (fun _ _ => Or.inl (by show 0 + i < ls.length * 32; omega)), hD.cell i c]
    unfold nth
    simp only [List.getD_eq_getElem?_getD, List.getElem?_append_left c]
  · have h2 : ∀ j, j < (cellsB y).length → (w.cell? ⟨g, ls.length * 32 + j, none⟩).isSome = true := fun j hj' => by
      rw [cellsB_length, hy] at hj'
      have := (ht (ls.length * 32 + j) (by omega)).1
      rwa [Nat.zero_add] at this
    have hj2 : i - ls.length * 32 < y.length := by omega
    have := World.cell?_setCells_in g (cellsB y) (ls.length * 32) w h2 (i - ls.length * 32) (by rw [cellsB_length]; exact hj2)
    rw [show ls.length * 32 + (i - ls.length * 32) = 0 + i by omega] at this
    rw [this]
    have e2 := cellsB_at y (i - ls.length * 32) hj2
    rw [List.getElem?_eq_getElem (by rw [cellsB_length]; exact hj2)] at e2
    rw [e2]
    unfold nth
    simp only [List.getD_eq_getElem?_getD, List.getElem?_append_right (show ls.flatten.length ≤ i by omega)]
    rw [hfl, Nat.mul_comm 32]
set_option maxRecDepth 100000 in
set_option maxHeartbeats 1000000 in
theorem wleaves_out (seed : List UInt8) (h : Int) (w : World) (hs : seed.length = 32) (hh : h < 0 ∨ 4 < h) (h1 : -9223372036854775808 ≤ h) (h2 : h ≤ 9223372036854775807) :
    Calls Tryz.prog 23 #[digestV seed, .int .i64 h] w fun e w' => e = .returned (.tuple #[.slice none 0 0, .iface 27 (.int .i64 2)]) ∧ Below w.heap.size w w' := by
  obtain ⟨w2, hw2⟩ : ∃ w2, w.alloc (.cells (cellsB seed).toArray 23) = w2 := ⟨_, rfl⟩
  have HS2 : Hid (w2.heap.size = w.heap.size + 1) := by unfold Hid; rw [← hw2]; simp
  have HD2 : Hid (DAt w2 w.heap.size 0 seed) := by rw [← hw2]; exact box_dat w seed _
  have HB2 : Hid (Below w.heap.size w w2) := by rw [← hw2]; exact (Below.refl _ _).alloc (Nat.le_refl _) _
  go_enter Tryz.func23, Tryz.ntmps23
  go_wp2_with fail
  try rw [hw2]
  clear hw2
  refine (wheight_out h w2 hh h1 h2).mono ?_
  rintro e wq ⟨rfl, hq⟩
  have hq' : w2 = wq := hq.symm
  subst hq'
  clear hh
  go_wp2_with fail
  go_ret2
  exact ⟨rfl, HB2.out⟩
set_option maxRecDepth 100000 in
set_option maxHeartbeats 1000000 in
theorem wleaves_any (seed : List UInt8) (h : Nat) (w : World) (G : Env w) (hs : seed.length = 32) (hh : h ≤ 4) :
    Calls Tryz.prog 23 #[digestV seed, .int .i64 (h : Int)] w fun e w' => (∃ g c, e = .returned (.tuple #[.slice (some ⟨g, 0, none⟩) (2 ^ h) c, .nilIface]) ∧ w.heap.size ≤ g ∧ 2 ^ h ≤ c ∧ DRow w' (some ⟨g, 0, none⟩) (2 ^ h) (stampLeavesL seed (2 ^ h))) ∧ Below w.heap.size w w' := by
  obtain ⟨iD, hiD, hzD0, hzD1, hzD2⟩ := info_parts Tryz.infoDg
  obtain ⟨w2, hw2⟩ : ∃ w2, w.alloc (.cells (cellsB seed).toArray 23) = w2 := ⟨_, rfl⟩
  have HS2 : Hid (w2.heap.size = w.heap.size + 1) := by unfold Hid; rw [← hw2]; simp
  have HD2 : Hid (DAt w2 w.heap.size 0 seed) := by rw [← hw2]; exact box_dat w seed _
  have HB2 : Hid (Below w.heap.size w w2) := by rw [← hw2]; exact (Below.refl _ _).alloc (Nat.le_refl _) _
  have HG : Hid (Env w2) := G.below HB2.out
  obtain ⟨n, hn⟩ : ∃ n, 2 ^ h = n := ⟨_, rfl⟩
  have hn1 : 1 ≤ n := by rw [← hn]; exact (Stm.pow hh).1
  have hn16 : n ≤ 16 := by rw [← hn]; exact (Stm.pow hh).2
  have key : wrap64 ((2 : Int) ^ h) = (n : Int) := by
    have e : ((2 : Int) ^ h) = ((2 ^ h : Nat) : Int) := by simp
    rw [e, hn]
    simp only [wrap64]
    omega
  have HN : Hid (2 ^ h = n) := hn
  rw [hn]
  clear hn G
  go_enter Tryz.func23, Tryz.ntmps23
  go_wp2_with fail
  try rw [hw2]
  clear hw2
  refine (wheight_in h w2 hh).mono ?_
  rintro e wq ⟨rfl, hq⟩
  have hq' : w2 = wq := hq.symm
  subst hq'
  have n0 : (0 : Int) ≤ (n : Int) := by omega
  go_wp2_with (first
    | (at_make; (refine wpList_make_full _ rfl _ _ 24 rfl w2.heap.size 23 iD (.agg zeros32) 32 Tryz.underlying24 hiD hzD0 hzD1 _ _ _ _ n rfl rfl key key (by rw [hzD2]; omega) (by unfold maxLen; omega) (Nat.le_refl _) ?_); intro w4 hown hgrow; have HB4 : Hid (Below w2.heap.size w2 w4) := (Below.refl _ _).grown hgrow (Nat.le_refl _) (fun _ h => by cases h); have HT4 : Hid (w4.there w2.heap.size 0 (n * 32)) := own_there hown; clear hown hgrow))
  obtain ⟨g, hg⟩ : ∃ g, w2.heap.size = g := ⟨_, rfl⟩
  have HGG : Hid (w.heap.size < g) := by unfold Hid; rw [← hg, HS2.out]; omega
  have HBB : Hid (∀ wx, Below g w2 wx → wx.rangeAt w.heap.size 0 (cellsB seed) ∧ Env wx ∧ Below w.heap.size w wx) := fun wx hx => by
    have s := HGG.out
    exact ⟨HD2.out.below hx s, HG.out.below (by rw [hg]; exact hx), HB2.out.trans (hx.mono (by omega))⟩
  rw [hg] at HB4 HT4
  simp only [hg]
  clear HD2 HB2 HG HS2
  go_loopw [17] (fun iv wr => ∃ j : Nat, iv = .int .i64 (j : Int) ∧ j ≤ n ∧ Hid (DAt wr g 0 (stampLeavesL seed j).flatten ∧ wr.there g 0 (n * 32) ∧ Below g w2 wr ∧ g < wr.heap.size)) (fun iv _ => n - (intOf iv).toNat)
  case atStart =>
    refine ⟨0, rfl, Nat.zero_le _, ?_, HT4.out, HB4.out, there_block HT4.out (by omega)⟩
    exact DAt.mk fun i hi => absurd hi (by simp [stampLeavesL])
  case round =>
    obtain ⟨j, rfl, hj, HR⟩ := hrel
    by_cases hlt : j < n
    · have g1 : (j : Int) < (n : Int) := by omega
      have j0 : (0 : Int) ≤ (j : Int) := by omega
      have HX : Hid (wr.rangeAt w.heap.size 0 (cellsB seed)) := (HBB.out wr HR.out.2.2.1).1
      have HJ : Hid (j < n) := hlt
      clear hj hlt
      go_wp2_with (refine wpList_load_mid (by rfl) 23 (.tmp 2) (by rfl) w.heap.size 0 (by rfl) (cellsB seed) _ HX.out Tryz.underlying23 (by rfl) (by rw [cellsB_length, hs]; exact Tryz.sizeDg) ?_)
      refine (wkey_any seed j wr (HBB.out wr HR.out.2.2.1).2.1 hs (by have := HJ.out; omega)).mono ?_
      rintro e w5 ⟨rfl, hb5⟩
      have HB5 : Hid (Below g w2 w5 ∧ Below wr.heap.size wr w5) := ⟨HR.out.2.2.1.trans (hb5.mono (by have := HR.out.2.2.2; omega)), hb5⟩
      have hl5 := stampKeyL_length seed j
      obtain ⟨X, hX⟩ : ∃ X, stampKeyL seed j = X := ⟨_, rfl⟩
      have HXE : Hid (stampKeyL seed j = X) := hX
      simp only [hX] at hl5 ⊢
      clear hX HX hb5
      go_wp2_with fail
      refine (wwots_public X w5 (HBB.out w5 HB5.out.1).2.1 hl5).mono ?_
      rintro e w6 ⟨rfl, hb6⟩
      have hl6 := wotsPubL_length X
      have HB6 : Hid (Below wr.heap.size wr w6) := below_trans HB5.out.2 hb6
      have HT6 : Hid (w6.there g (j * 32) 32 ∧ Below g w2 w6 ∧ g < w6.heap.size) := ⟨fun k hk => by
          have := there_below HR.out.2.1 HB6.out HR.out.2.2.2 (j * 32 + k) (by have := HJ.out; omega)
          rwa [Nat.zero_add] at this, HR.out.2.2.1.trans (HB6.out.mono (by have := HR.out.2.2.2; omega)), Nat.lt_of_lt_of_le HR.out.2.2.2 HB6.out.size⟩
      have HP : Hid (stampLeavesL seed j ++ [wotsPubL X] = stampLeavesL seed (j + 1)) := by rw [← HXE.out]; exact stampLeavesL_succ seed j
      clear hb6
      generalize wotsPubL X = Y at *
      have HS6 : Hid (DAt (w6.setCells g (j * 32) (cellsB Y)) g 0 (stampLeavesL seed (j + 1)).flatten ∧ (w6.setCells g (j * 32) (cellsB Y)).there g 0 (n * 32) ∧ Below g w2 (w6.setCells g (j * 32) (cellsB Y)) ∧ g < (w6.setCells g (j * 32) (cellsB Y)).heap.size) := by
        rw [← HP.out]
        have h1 := there_below HR.out.2.1 HB6.out HR.out.2.2.2
        have h2 := leaf_put (w := w6) (g := g) (n := n) (ls := stampLeavesL seed j) (y := Y) (stampLeavesL_32 seed j) (HR.out.1.below HB6.out HR.out.2.2.2) h1 (by rw [stampLeavesL_len]; exact HJ.out) hl6
        rw [stampLeavesL_len] at h2
        refine ⟨h2, World.there_setCells h1 _ _ _, below_setCells _ (Nat.le_refl _) _ _ _ HT6.out.2.1, ?_⟩
        have := (gr_setCells g (cellsB Y) (j * 32) w6).size
        have := HT6.out.2.2
        omega
      clear HR HB5 HB6 HP HXE
      go_wp2_with (refine wpList_store_mid (by rfl) 23 (.tmp 26) (.tmp 25) (by rfl) g (j * 32) (cellsB Y).toArray (by rfl) (by rfl) (by rw [cellsB_size, hl6]; exact HT6.out.1) (by rw [cellsB_size, hl6]; exact Tryz.sizeDg) (all_oneCell_toArray (cellsB_one _)) ?_)
      go_roundw
      case rel => exact ⟨j + 1, by go_num, HJ.out, HS6⟩
      case measure => have := HJ.out; simp [intOf]; omega
    · obtain rfl : j = n := by omega
      have g1 : ¬ (j : Int) < (j : Int) := by omega
      have HR2 : Hid (DRow wr (some ⟨g, 0, none⟩) j (stampLeavesL seed j) ∧ Below w.heap.size w wr) := by
        have r := DRow.ofFlat (stampLeavesL_32 seed j) HR.out.1
        rw [stampLeavesL_len] at r
        exact ⟨r, (HBB.out wr HR.out.2.2.1).2.2⟩
      clear HR hlt
      go_wp2_with fail
      go_ret2
      have := HGG.out
      exact ⟨⟨g, _, rfl, by omega, Nat.le_refl _, HR2.out.1⟩, HR2.out.2⟩
end Go.Proofs.YtdgaimlccpmojaaGreatDoor
/- The contracts of math/bits.Len64 and Len (numbers below 256) and of tree.Split. -/
namespace Go.Proofs.YtdgaimlccpmojaaGreatDoor
open Go.RowKit
set_option linter.unusedVariables false
set_option linter.unusedSimpArgs false

theorem half_len : ∀ n, n < 257 → 2 ≤ n → halfT n = 2 ^ (Lib.bitLen (n - 1) - 1) ∧ 1 ≤ Lib.bitLen (n - 1) ∧ Lib.bitLen (n - 1) ≤ 8 := by decide +kernel
set_option maxRecDepth 100000 in
set_option maxHeartbeats 1000000 in
theorem wlen64_any (x : Int) (w : World) (h0 : 0 ≤ x) (h1 : x < 256) :
    Calls Tryz.prog 80 #[.int .u64 x] w fun e w' => e = .returned (.int .i64 (Lib.bitLen x.toNat : Int)) ∧ w' = w := by
  have l := Lib.bitLen_le8' x h0 (by omega)
  have HE : Hid (Lib.len8 x = (Lib.bitLen x.toNat : Int)) := Lib.len8_of x h0 (by omega)
  go_enter Tryz.func80, Tryz.ntmps80
  go_wp2
  go_ret
  refine ⟨ret_int ?_, rfl⟩
  have hE := HE.out
  unfold Lib.len8 at hE
  have hg : ∀ h, ((Lib.len8tab[x.toNat]'h).toNat : Int) = (Lib.bitLen x.toNat : Int) := fun h => by
    rw [getElem?_pos Lib.len8tab x.toNat h] at hE
    exact hE
  rw [hg]
  generalize Lib.bitLen x.toNat = L at *
  unfold wrap64
  omega
set_option maxRecDepth 100000 in
set_option maxHeartbeats 1000000 in
theorem wlen_any (x : Int) (w : World) (h0 : 0 ≤ x) (h1 : x < 256) :
    Calls Tryz.prog 70 #[.int .u64 x] w fun e w' => e = .returned (.int .i64 (Lib.bitLen x.toNat : Int)) ∧ w' = w := by
  go_enter Tryz.func70, Tryz.ntmps70
  go_wp2_with fail
  refine (wlen64_any x w h0 h1).mono ?_
  rintro e w' ⟨rfl, rfl⟩
  go_wp2
  go_ret
  exact ⟨rfl, rfl⟩
set_option maxRecDepth 100000 in
set_option maxHeartbeats 1000000 in
theorem wsplit_any (n : Nat) (w : World) (h2 : 2 ≤ n) (hn : n ≤ 256) :
    Calls Tryz.prog 58 #[.int .i64 (n : Int)] w fun e w' => e = .returned (.int .i64 (halfT n : Int)) ∧ w' = w := by
  obtain ⟨hE, hl1, hl8⟩ := half_len n (by omega) h2
  have HE : Hid (halfT n = 2 ^ (Lib.bitLen (n - 1) - 1)) := hE
  clear hE
  have g0 : ¬ (n : Int) < 2 := by omega
  have s1 : (n : Int) - 1 = ((n - 1 : Nat) : Int) := by omega
  have b1 : n - 1 < 256 := by omega
  generalize n - 1 = m at *
  have hm : ((m : Int)).toNat = m := by omega
  go_enter Tryz.func58, Tryz.ntmps58
  go_wp2_with fail
  refine (wlen_any (m : Int) w (by omega) (by omega)).mono ?_
  rintro e w' ⟨rfl, rfl⟩
  rw [hm]
  generalize Lib.bitLen m = L at *
  have : L = 1 ∨ L = 2 ∨ L = 3 ∨ L = 4 ∨ L = 5 ∨ L = 6 ∨ L = 7 ∨ L = 8 := by omega
  rcases this with rfl | rfl | rfl | rfl | rfl | rfl | rfl | rfl <;>
  · go_wp2_with fail
    go_ret
    refine ⟨ret_int ?_, rfl⟩
    rw [HE.out]
    rfl
end Go.Proofs.YtdgaimlccpmojaaGreatDoor
/- The contracts of tree.Leaf and tree.Node. -/
namespace Go.Proofs.YtdgaimlccpmojaaGreatDoor
open Go.RowKit
set_option linter.unusedVariables false
set_option linter.unusedSimpArgs false

set_option maxRecDepth 100000 in
set_option maxHeartbeats 1000000 in
theorem wtree_node (l r : List UInt8) (w : World) (G : Env w) (hl : l.length = 32) (hr : r.length = 32) :
    Calls Tryz.prog 59 #[digestV l, digestV r] w fun e w' => e = .returned (digestV (nodeT l r)) ∧ Below w.heap.size w w' := by
  obtain ⟨w2, hw2⟩ : ∃ w2, ((w.alloc (.cells (cellsB l).toArray 23)).alloc (.cells (cellsB r).toArray 23)).alloc (.cells (cellsB zD).toArray 23) = w2 := ⟨_, rfl⟩
  have hs0 : (w.alloc (.cells (cellsB l).toArray 23)).heap.size = w.heap.size + 1 := by simp
  have hs1 : ((w.alloc (.cells (cellsB l).toArray 23)).alloc (.cells (cellsB r).toArray 23)).heap.size = w.heap.size + 1 + 1 := by simp
  have HS2 : Hid (w2.heap.size = w.heap.size + 1 + 1 + 1) := by unfold Hid; rw [← hw2]; simp
  have HD2 : Hid (DAt w2 w.heap.size 0 l ∧ DAt w2 (w.heap.size + 1) 0 r) := by rw [← hw2]; exact ⟨World.rangeAt_alloc (World.rangeAt_alloc (box_dat w l _) _) _, World.rangeAt_alloc (box_rangeAt _ _ _ _ hs0) _⟩
  have HT2 : Hid (w2.there (w.heap.size + 1 + 1) 0 32) := by rw [← hw2]; exact alloc_thereAt _ _ _ 32 _ hs1 zD_size.symm
  have HB2 : Hid (Below w.heap.size w w2) := by rw [← hw2]; exact (((Below.refl _ _).alloc (Nat.le_refl _) _).alloc (by simp) _).alloc (by simp; omega) _
  have HKT : Hid (∀ wx, Below w2.heap.size w2 wx → Row wx (some ⟨w.heap.size, 0, none⟩) 32 l ∧ Row wx (some ⟨w.heap.size + 1, 0, none⟩) 32 r ∧ wx.there (w.heap.size + 1 + 1) 0 32 ∧ Below w.heap.size w wx ∧ Tab wx) := fun wx hx => by
    have s := HS2.out
    have b : Below w.heap.size w wx := HB2.out.trans (hx.mono (by omega))
    exact ⟨(HD2.out.1.below hx (by omega)).row hl, (HD2.out.2.below hx (by omega)).row hr, there_below HT2.out hx (by omega), b, Env.below G b⟩
  clear G HD2 HT2 HB2 HS2
  go_enter Tryz.func59, Tryz.ntmps59
  go_wp2_with (refine wpList_allocE (by rfl) 23 (by rfl) (cellsB zD).toArray Tryz.zeroDg (w.heap.size + 1 + 1) hs1 w2 hw2 ?_)
  clear hw2 hs0 hs1
  refine wp_region_noPanic ?_
  refine wp_region_held_drew (S := fun _ => True) (by kernel_rfl) True.intro (fun hHeld => ?_)
  try simp only [Act.put, List.setIfInBounds_toArray, List.set_cons_zero, List.set_cons_succ]
  have HBd : Hid (Below w2.heap.size w2 w2.drew) := below_drewN w2 1
  generalize w2.drew = wd at *
  refine wpAnyH_take (i := 1) (v := .slice (some ⟨w.heap.size, 0, none⟩) 32 32) (by simp only [List.getElem?_toArray, List.getElem?_cons_zero, List.getElem?_cons_succ]; rfl) (by kernel_rfl) (by kernel_rfl) (by kernel_rfl) (fun _ _ _ h => h) (Or.inl ⟨by rfl, ?_⟩) hHeld ?_
  · intro w hSw
    go_simp
  try simp only [Act.put, List.setIfInBounds_toArray, List.set_cons_zero, List.set_cons_succ]
  refine wpAnyH_take (i := 2) (v := .slice (some ⟨w.heap.size + 1, 0, none⟩) 32 32) (by simp only [List.getElem?_toArray, List.getElem?_cons_zero, List.getElem?_cons_succ]; rfl) (by kernel_rfl) (by kernel_rfl) (by kernel_rfl) (fun _ _ _ h => h) (Or.inl ⟨by rfl, ?_⟩) hHeld ?_
  · intro w hSw
    go_simp
  try simp only [Act.put, List.setIfInBounds_toArray, List.set_cons_zero, List.set_cons_succ]
  refine wpAnyH_ready (rs := [0]) (by kernel_rfl) (by simp) ?_
  refine AllReadyH.cons (by simp only [List.getElem?_toArray, List.getElem?_cons_zero, List.getElem?_cons_succ]; rfl) (fun K hK => ?_) AllReadyH.nil
  rw [if_pos (by rfl)]
  go_simp
  have hb3 : Below wd.heap.size wd (wd.alloc (.cells #[.int .u8 1] 5)) := (Below.refl _ _).alloc (Nat.le_refl _) _
  have HB3 : Hid (Below w2.heap.size w2 (wd.alloc (.cells #[.int .u8 1] 5))) := HBd.out.trans (hb3.mono HBd.out.size)
  have HR3 : Hid (Row (wd.alloc (.cells #[.int .u8 1] 5)) (some ⟨wd.heap.size, 0, none⟩) 1 [1]) := Row.lit1v wd 1 5 1 rfl
  clear hb3
  refine hK.out _ _ True.intro (fun hHeld => ?_)
  generalize wd.alloc (.cells #[.int .u8 1] 5) = w3 at *
  generalize wd.heap.size = g at *
  clear hK K
  try simp only [Act.put, List.setIfInBounds_toArray, List.set_cons_zero, List.set_cons_succ]
  refine wpAnyH_ready (rs := [3]) (by kernel_rfl) (by simp) ?_
  refine AllReadyH.cons (by simp only [List.getElem?_toArray, List.getElem?_cons_zero, List.getElem?_cons_succ]; rfl) (fun K hK => ?_) AllReadyH.nil
  rw [if_pos (by rfl)]
  go_simp
  have HB4 : Hid (Below w2.heap.size w2 (w3.alloc (.cells #[.slice (some ⟨g, 0, none⟩) 1 1, .slice (some ⟨w.heap.size, 0, none⟩) 32 32, .slice (some ⟨w.heap.size + 1, 0, none⟩) 32 32] 63))) := Below.alloc HB3.out HB3.out.size _
  have HR4 : Hid (BRows (w3.alloc (.cells #[.slice (some ⟨g, 0, none⟩) 1 1, .slice (some ⟨w.heap.size, 0, none⟩) 32 32, .slice (some ⟨w.heap.size + 1, 0, none⟩) 32 32] 63)) (some ⟨w3.heap.size, 0, none⟩) 3 [[1], l, r]) := BRows.lit3 (Nat.le_refl 1) HR3.out (Nat.le_refl 32) (HKT.out _ HB3.out).1 (Nat.le_refl 32) (HKT.out _ HB3.out).2.1
  refine hK.out _ _ True.intro (fun hHeld => ?_)
  generalize w3.alloc (.cells #[.slice (some ⟨g, 0, none⟩) 1 1, .slice (some ⟨w.heap.size, 0, none⟩) 32 32, .slice (some ⟨w.heap.size + 1, 0, none⟩) 32 32] 63) = w4 at *
  generalize w3.heap.size = g' at *
  clear HB3 HR3
  clear hK K
  try simp only [Act.put, List.setIfInBounds_toArray, List.set_cons_zero, List.set_cons_succ]
  refine wpAnyH_ready (rs := [4]) (by kernel_rfl) (by simp) ?_
  refine AllReadyH.cons (by simp only [List.getElem?_toArray, List.getElem?_cons_zero, List.getElem?_cons_succ]; rfl) (fun K hK => ?_) AllReadyH.nil
  rw [if_pos (by rfl)]
  go_simp
  refine (wsumof_any _ 3 3 [[1], l, r] w4 (HKT.out _ HB4.out).2.2.2.2 HR4.out (by simp; omega) (by omega)).mono ?_
  rintro e w5 ⟨rfl, hb5⟩
  have hE : shaL [[1], l, r].flatten = nodeT l r := by simp [nodeT]
  rw [hE]
  have HB5 : Hid (Below w2.heap.size w2 w5) := HB4.out.trans (hb5.mono HB4.out.size)
  have hlen := nodeT_length l r
  clear hb5 HB4 HR4 hE
  generalize hD : nodeT l r = D at *
  have HD : Hid (nodeT l r = D) := hD
  clear hD
  go_wp2_with fail
  refine hK.out _ _ True.intro (fun hHeld => ?_)
  clear hK K
  try simp only [Act.put, List.setIfInBounds_toArray, List.set_cons_zero, List.set_cons_succ]
  refine wpAnyH_ready (rs := [5]) (by kernel_rfl) (by simp) ?_
  refine AllReadyH.cons (by simp only [List.getElem?_toArray, List.getElem?_cons_zero, List.getElem?_cons_succ]; rfl) (fun K hK => ?_) AllReadyH.nil
  rw [if_pos (by rfl)]
  have HT5 : Hid (w5.there (w.heap.size + 1 + 1) 0 32) := (HKT.out _ HB5.out).2.2.1
  refine wp_store_mid _ _ _ rfl (w.heap.size + 1 + 1) 0 (cellsB D).toArray rfl rfl (by rw [cellsB_size, hlen]; exact HT5.out) (by rw [cellsB_size, hlen]; exact Tryz.sizeDg) (all_oneCell_toArray (cellsB_one _)) ?_
  refine hK.out _ _ True.intro (fun hHeld => ?_)
  clear hK K
  try simp only [Act.put, List.setIfInBounds_toArray, List.set_cons_zero, List.set_cons_succ]
  refine wpAnyH_done (by kernel_rfl) (NoPanic.normal ?_) _
  clear hHeld
  go_wp2_with fail
  refine bodyPost_ret (v := digestV D) (run_results_row Tryz.results59 _ _ (w.heap.size + 1 + 1) 0 (by rfl) (cellsB D) (World.rangeAt_setCells_same _ _ _ _ (by rw [cellsB_length, hlen]; exact HT5.out)) _ Tryz.underlying23 (by rfl) (by rw [cellsB_length, hlen]; exact Tryz.sizeDg)) rfl ⟨by rw [HD.out], ?_⟩
  exact below_setCells _ (by omega) _ _ _ (HKT.out _ HB5.out).2.2.2.1
end Go.Proofs.YtdgaimlccpmojaaGreatDoor
/- The contracts of tree.root and tree.Root. -/
namespace Go.Proofs.YtdgaimlccpmojaaGreatDoor
open Go.RowKit
set_option linter.unusedVariables false
set_option linter.unusedSimpArgs false

set_option maxRecDepth 100000 in
set_option maxHeartbeats 1000000 in
theorem wroot_any : ∀ (n : Nat) (a : Option Addr) (c : Nat) (ls : List (List UInt8)) (w : World), Env w → DRow w a n ls → n ≤ c → n ≤ 256 →
    Calls Tryz.prog 42 #[.slice a n c] w fun e w' => e = .returned (digestV (rootT ls)) ∧ Below w.heap.size w w' := by
  intro n
  induction n using Nat.strongRecOn with
  | ind n ih =>
    intro a c ls w G R hc hn
    have HI : Hid (∀ m, m < n → ∀ (a : Option Addr) (c : Nat) (ls : List (List UInt8)) (w : World), Env w → DRow w a m ls → m ≤ c → m ≤ 256 → Calls Tryz.prog 42 #[.slice a m c] w fun e w' => e = .returned (digestV (rootT ls)) ∧ Below w.heap.size w w') := ih
    clear ih
    obtain ⟨w2, hw2⟩ : ∃ w2, w.alloc (.cells (cellsB zD).toArray 23) = w2 := ⟨_, rfl⟩
    have HS2 : Hid (w2.heap.size = w.heap.size + 1) := by unfold Hid; rw [← hw2]; simp
    have HB2 : Hid (Below w.heap.size w w2) := by rw [← hw2]; exact (Below.refl _ _).alloc (Nat.le_refl _) _
    have HT2 : Hid (w2.there w.heap.size 0 32) := by rw [← hw2]; exact alloc_thereAt _ _ _ 32 _ rfl zD_size.symm
    have HR2 : Hid (DRow w2 a n ls) := R.below HB2.out
    have HLEN : Hid (ls.length = n) := R.1
    have HKT : Hid (∀ wx, Below w2.heap.size w2 wx → DRow wx a n ls ∧ wx.there w.heap.size 0 32 ∧ Below w.heap.size w wx) := fun wx hx => ⟨HR2.out.below hx, there_below HT2.out hx (by have := HS2.out; omega), HB2.out.trans (hx.mono (by have := HS2.out; omega))⟩
    have HGE : Hid (∀ wx, Below w2.heap.size w2 wx → Env wx) := fun wx hx => G.below (HKT.out wx hx).2.2
    clear R G
    have hlen := rootT_length HR2.out.2.1
    go_enter Tryz.func42, Tryz.ntmps42
    by_cases h2 : 2 ≤ n
    · have e0 : ((n : Int) == 0) = false := by simp; omega
      have e1 : ((n : Int) == 1) = false := by simp; omega
      go_wp2_with (refine wpList_allocE (by rfl) 23 (by rfl) (cellsB zD).toArray Tryz.zeroDg w.heap.size rfl w2 hw2 ?_)
      refine (wsplit_any n w2 h2 (by omega)).mono ?_
      rintro e w' ⟨rfl, rfl⟩
      clear hw2
      have hk1 := halfT_lt h2
      have hk2 := halfT_pos n
      have HE : Hid (rootT ls = nodeT (rootT (ls.take (halfT n))) (rootT (ls.drop (halfT n)))) := by
        have := rootT_two (ls := ls) (by rw [HLEN.out]; exact h2)
        rw [HLEN.out] at this
        exact this
      obtain ⟨b, o, rfl⟩ := HR2.out.addr (by omega)
      have HKL : Hid (∀ wx, Below w'.heap.size w' wx → DRow wx (some ⟨b, o, none⟩) (halfT n) (ls.take (halfT n)) ∧ DRow wx (some ⟨b, o + halfT n * 32, none⟩) (n - halfT n) (ls.drop (halfT n))) := fun wx hx => ⟨(HKT.out wx hx).1.take _ (by omega), (HKT.out wx hx).1.drop _ (by omega)⟩
      have HC1 : Hid (∀ wx, Env wx → DRow wx (some ⟨b, o, none⟩) (halfT n) (ls.take (halfT n)) → Calls Tryz.prog 42 #[.slice (some ⟨b, o, none⟩) (halfT n) c] wx fun e w' => e = .returned (digestV (rootT (ls.take (halfT n)))) ∧ Below wx.heap.size wx w') := fun wx hg hr => HI.out (halfT n) hk1 _ c _ wx hg hr (by omega) (by omega)
      have HC2 : Hid (∀ wx, Env wx → DRow wx (some ⟨b, o + halfT n * 32, none⟩) (n - halfT n) (ls.drop (halfT n)) → Calls Tryz.prog 42 #[.slice (some ⟨b, o + halfT n * 32, none⟩) (n - halfT n) (c - halfT n)] wx fun e w' => e = .returned (digestV (rootT (ls.drop (halfT n)))) ∧ Below wx.heap.size wx w') := fun wx hg hr => HI.out (n - halfT n) (by omega) _ (c - halfT n) _ wx hg hr (by omega) (by omega)
      have lA := rootT_length (HKL.out w' (Below.refl _ _)).1.2.1
      have lB := rootT_length (HKL.out w' (Below.refl _ _)).2.2.1
      rw [HE.out] at hlen
      generalize halfT n = k at *
      generalize rootT (ls.take k) = X at *
      generalize rootT (ls.drop k) = Y at *
      have k0 : (0 : Int) ≤ (k : Int) := by omega
      have k1 : (k : Int) ≤ (n : Int) := by omega
      have k2 : (k : Int) ≤ (c : Int) := by omega
      have n1 : (n : Int) ≤ (c : Int) := by omega
      go_wp2_with fail
      refine wp_region_noPanic ?_
      refine wp_region_held_drew (S := fun _ => True) (by kernel_rfl) True.intro (fun hHeld => ?_)
      try simp only [Act.put, List.setIfInBounds_toArray, List.set_cons_zero, List.set_cons_succ]
      have HBd : Hid (Below w'.heap.size w' w'.drew) := below_drewN w' 1
      generalize w'.drew = wd at *
      refine wpAnyH_take (i := 0) (v := ?_) (by simp only [List.getElem?_toArray, List.getElem?_cons_zero, List.getElem?_cons_succ]; rfl) (by kernel_rfl) (by kernel_rfl) (by kernel_rfl) (fun _ _ _ h => h) (Or.inl ⟨by rfl, ?_⟩) hHeld ?_
      rotate_left
      · intro w hSw
        go_simp
        try with_reducible rfl
      try simp only [Act.put, List.setIfInBounds_toArray, List.set_cons_zero, List.set_cons_succ]
      refine wpAnyH_take (i := 1) (v := ?_) (by simp only [List.getElem?_toArray, List.getElem?_cons_zero, List.getElem?_cons_succ]; rfl) (by kernel_rfl) (by kernel_rfl) (by kernel_rfl) (fun _ _ _ h => h) (Or.inl ⟨by rfl, ?_⟩) hHeld ?_
      rotate_left
      · intro w hSw
        go_simp
        try with_reducible rfl
      try simp only [Act.put, List.setIfInBounds_toArray, List.set_cons_zero, List.set_cons_succ]
      refine wpAnyH_take (i := 2) (v := .slice (some ⟨b, o, none⟩) k c) (by simp only [List.getElem?_toArray, List.getElem?_cons_zero, List.getElem?_cons_succ]; rfl) (by kernel_rfl) (by kernel_rfl) (by kernel_rfl) (fun _ _ _ h => h) (Or.inl ⟨by rfl, ?_⟩) hHeld ?_
      · intro w hSw
        go_simp
      try simp only [Act.put, List.setIfInBounds_toArray, List.set_cons_zero, List.set_cons_succ]
      refine wpAnyH_take (i := 4) (v := ?_) (by simp only [List.getElem?_toArray, List.getElem?_cons_zero, List.getElem?_cons_succ]; rfl) (by kernel_rfl) (by kernel_rfl) (by kernel_rfl) (fun _ _ _ h => h) (Or.inl ⟨by rfl, ?_⟩) hHeld ?_
      rotate_left
      · intro w hSw
        go_simp
        try with_reducible rfl
      try simp only [Act.put, List.setIfInBounds_toArray, List.set_cons_zero, List.set_cons_succ]
      refine wpAnyH_take (i := 5) (v := ?_) (by simp only [List.getElem?_toArray, List.getElem?_cons_zero, List.getElem?_cons_succ]; rfl) (by kernel_rfl) (by kernel_rfl) (by kernel_rfl) (fun _ _ _ h => h) (Or.inl ⟨by rfl, ?_⟩) hHeld ?_
      rotate_left
      · intro w hSw
        go_simp
        try with_reducible rfl
      try simp only [Act.put, List.setIfInBounds_toArray, List.set_cons_zero, List.set_cons_succ]
      refine wpAnyH_take (i := 6) (v := .slice (some ⟨b, o + k * 32, none⟩) (n - k) (c - k)) (by simp only [List.getElem?_toArray, List.getElem?_cons_zero, List.getElem?_cons_succ]; rfl) (by kernel_rfl) (by kernel_rfl) (by kernel_rfl) (fun _ _ _ h => h) (Or.inl ⟨by rfl, ?_⟩) hHeld ?_
      · intro w hSw
        go_simp
        omega
      try simp only [Act.put, List.setIfInBounds_toArray, List.set_cons_zero, List.set_cons_succ]
      refine wpAnyH_ready (rs := [3]) (by kernel_rfl) (by simp) ?_
      refine AllReadyH.cons (by simp only [List.getElem?_toArray, List.getElem?_cons_zero, List.getElem?_cons_succ]; rfl) (fun K hK => ?_) AllReadyH.nil
      rw [if_pos (by rfl)]
      go_simp
      refine (HC1.out wd (HGE.out _ HBd.out) (HKL.out _ HBd.out).1).mono ?_
      rintro e w3 ⟨rfl, hb3⟩
      have HB3 : Hid (Below w'.heap.size w' w3) := HBd.out.trans (hb3.mono HBd.out.size)
      clear hb3 HBd HC1
      go_wp2_with fail
      refine hK.out _ _ True.intro (fun hHeld => ?_)
      clear hK K
      try simp only [Act.put, List.setIfInBounds_toArray, List.set_cons_zero, List.set_cons_succ]
      refine wpAnyH_ready (rs := [7]) (by kernel_rfl) (by simp) ?_
      refine AllReadyH.cons (by simp only [List.getElem?_toArray, List.getElem?_cons_zero, List.getElem?_cons_succ]; rfl) (fun K hK => ?_) AllReadyH.nil
      rw [if_pos (by rfl)]
      go_simp
      refine (HC2.out w3 (HGE.out _ HB3.out) (HKL.out _ HB3.out).2).mono ?_
      rintro e w4 ⟨rfl, hb4⟩
      have HB4 : Hid (Below w'.heap.size w' w4) := HB3.out.trans (hb4.mono HB3.out.size)
      clear hb4 HB3 HC2
      go_wp2_with fail
      refine hK.out _ _ True.intro (fun hHeld => ?_)
      clear hK K
      try simp only [Act.put, List.setIfInBounds_toArray, List.set_cons_zero, List.set_cons_succ]
      refine wpAnyH_ready (rs := [8]) (by kernel_rfl) (by simp) ?_
      refine AllReadyH.cons (by simp only [List.getElem?_toArray, List.getElem?_cons_zero, List.getElem?_cons_succ]; rfl) (fun K hK => ?_) AllReadyH.nil
      rw [if_pos (by rfl)]
      go_simp
      refine (wtree_node X Y w4 (HGE.out _ HB4.out) lA lB).mono ?_
      rintro e w5 ⟨rfl, hb5⟩
      have HB5 : Hid (Below w'.heap.size w' w5) := HB4.out.trans (hb5.mono HB4.out.size)
      clear hb5 HB4
      generalize nodeT X Y = D at *
      go_wp2_with fail
      refine hK.out _ _ True.intro (fun hHeld => ?_)
      clear hK K
      try simp only [Act.put, List.setIfInBounds_toArray, List.set_cons_zero, List.set_cons_succ]
      refine wpAnyH_ready (rs := [9]) (by kernel_rfl) (by simp) ?_
      refine AllReadyH.cons (by simp only [List.getElem?_toArray, List.getElem?_cons_zero, List.getElem?_cons_succ]; rfl) (fun K hK => ?_) AllReadyH.nil
      rw [if_pos (by rfl)]
      refine wp_store_mid _ _ _ rfl w.heap.size 0 (cellsB D).toArray rfl rfl (by rw [cellsB_size, hlen]; exact (HKT.out _ HB5.out).2.1) (by rw [cellsB_size, hlen]; exact Tryz.sizeDg) (all_oneCell_toArray (cellsB_one _)) ?_
      refine hK.out _ _ True.intro (fun hHeld => ?_)
      clear hK K
      try simp only [Act.put, List.setIfInBounds_toArray, List.set_cons_zero, List.set_cons_succ]
      refine wpAnyH_done (by kernel_rfl) (NoPanic.normal ?_) _
      clear hHeld
      go_wp2_with fail
      refine bodyPost_ret (v := digestV D) (run_results_row Tryz.results42 _ _ w.heap.size 0 (by rfl) (cellsB D) (World.rangeAt_setCells_same _ _ _ _ (by rw [cellsB_length, hlen]; exact (HKT.out _ HB5.out).2.1)) _ Tryz.underlying23 (by rfl) (by rw [cellsB_length, hlen]; exact Tryz.sizeDg)) rfl ⟨by rw [HE.out], ?_⟩
      exact below_setCells _ (Nat.le_refl _) _ _ _ (HKT.out _ HB5.out).2.2
    · by_cases h0 : n = 0
      · subst h0
        have HE : Hid (rootT ls = shaL []) := rootT_none HLEN.out
        rw [HE.out] at hlen
        go_wp2_with (refine wpList_allocE (by rfl) 23 (by rfl) (cellsB zD).toArray Tryz.zeroDg w.heap.size rfl w2 hw2 ?_)
        refine (wsum_any none 0 0 [] w2 (HGE.out _ (Below.refl _ _)) (Row.nil _) (by omega) (by omega)).mono ?_
        rintro e w3 ⟨rfl, hb3⟩
        have HB3 : Hid (Below w2.heap.size w2 w3) := hb3
        clear hb3
        generalize shaL [] = D at *
        go_wp2_with (refine wpList_store_mid (by rfl) 23 (.tmp 2) (.tmp 8) (by rfl) w.heap.size 0 (cellsB D).toArray (by rfl) (by rfl) (by rw [cellsB_size, hlen]; exact (HKT.out _ HB3.out).2.1) (by rw [cellsB_size, hlen]; exact Tryz.sizeDg) (all_oneCell_toArray (cellsB_one _)) ?_)
        refine bodyPost_ret (v := digestV D) (run_results_row Tryz.results42 _ _ w.heap.size 0 (by rfl) (cellsB D) (World.rangeAt_setCells_same _ _ _ _ (by rw [cellsB_length, hlen]; exact (HKT.out _ HB3.out).2.1)) _ Tryz.underlying23 (by rfl) (by rw [cellsB_length, hlen]; exact Tryz.sizeDg)) rfl ⟨by rw [HE.out], ?_⟩
        exact below_setCells _ (Nat.le_refl _) _ _ _ (HKT.out _ HB3.out).2.2
      · obtain rfl : n = 1 := by omega
        have HE : Hid (rootT ls = ls.getD 0 []) := rootT_one HLEN.out
        rw [HE.out] at hlen
        obtain ⟨b, o, rfl⟩ := HR2.out.addr (by omega)
        have HX : Hid (DAt w2 b o (ls.getD 0 [])) := by have := HR2.out.at 0 (by omega); rwa [Nat.zero_mul, Nat.add_zero] at this
        generalize ls.getD 0 [] = D at *
        go_wp2_with (first
          | (refine wpList_allocE (by rfl) 23 (by rfl) (cellsB zD).toArray Tryz.zeroDg w.heap.size rfl w2 hw2 ?_)
          | (refine wpList_load_mid (by rfl) 23 (.tmp 12) (by rfl) b o (by rfl) (cellsB D) _ HX.out Tryz.underlying23 (by rfl) (by rw [cellsB_length, hlen]; exact Tryz.sizeDg) ?_)
          | (refine wpList_store_mid (by rfl) 23 (.tmp 2) (.tmp 13) (by rfl) w.heap.size 0 (cellsB D).toArray (by rfl) (by rfl) (by rw [cellsB_size, hlen]; exact HT2.out) (by rw [cellsB_size, hlen]; exact Tryz.sizeDg) (all_oneCell_toArray (cellsB_one _)) ?_))
        refine bodyPost_ret (v := digestV D) (run_results_row Tryz.results42 _ _ w.heap.size 0 (by rfl) (cellsB D) (World.rangeAt_setCells_same _ _ _ _ (by rw [cellsB_length, hlen]; exact HT2.out)) _ Tryz.underlying23 (by rfl) (by rw [cellsB_length, hlen]; exact Tryz.sizeDg)) rfl ⟨by rw [HE.out], ?_⟩
        exact below_setCells _ (Nat.le_refl _) _ _ _ HB2.out
set_option maxRecDepth 100000 in
set_option maxHeartbeats 1000000 in
theorem wtree_root (a : Option Addr) (n c : Nat) (ls : List (List UInt8)) (w : World) (G : Env w) (R : DRow w a n ls) (hc : n ≤ c) (hn : n ≤ 256) :
    Calls Tryz.prog 24 #[.slice a n c] w fun e w' => e = .returned (.tuple #[digestV (rootT ls), .nilIface]) ∧ Below w.heap.size w w' := by
  obtain ⟨w2, hw2⟩ : ∃ w2, w.alloc (.cells (cellsB zD).toArray 23) = w2 := ⟨_, rfl⟩
  have HS2 : Hid (w2.heap.size = w.heap.size + 1) := by unfold Hid; rw [← hw2]; simp
  have HB2 : Hid (Below w.heap.size w w2) := by rw [← hw2]; exact (Below.refl _ _).alloc (Nat.le_refl _) _
  have HT2 : Hid (w2.there w.heap.size 0 32) := by rw [← hw2]; exact alloc_thereAt _ _ _ 32 _ rfl zD_size.symm
  have HG : Hid (Env w2 ∧ DRow w2 a n ls) := ⟨G.below HB2.out, R.below HB2.out⟩
  have hlen := rootT_length R.2.1
  clear G R
  have g1 : ¬ (256 : Int) < (n : Int) := by omega
  go_enter Tryz.func24, Tryz.ntmps24
  go_wp2_with (refine wpList_allocE (by rfl) 23 (by rfl) (cellsB zD).toArray Tryz.zeroDg w.heap.size rfl w2 hw2 ?_)
  refine (wroot_any n a c ls w2 HG.out.1 HG.out.2 hc hn).mono ?_
  rintro e w3 ⟨rfl, hb3⟩
  have HB3 : Hid (Below w.heap.size w w3) := below_trans HB2.out hb3
  have HT3 : Hid (w3.there w.heap.size 0 32) := there_below HT2.out hb3 (by have := HS2.out; omega)
  clear hb3 hw2 HG
  generalize hD : rootT ls = D at *
  have HD : Hid (rootT ls = D) := hD
  clear hD
  go_wp2_with (refine wpList_store_mid (by rfl) 23 (.tmp 2) (.tmp 10) (by rfl) w.heap.size 0 (cellsB D).toArray (by rfl) (by rfl) (by rw [cellsB_size, hlen]; exact HT3.out) (by rw [cellsB_size, hlen]; exact Tryz.sizeDg) (all_oneCell_toArray (cellsB_one _)) ?_)
  refine bodyPost_ret (v := .tuple #[digestV D, .nilIface]) (run_results_row2 Tryz.results24 _ _ w.heap.size 0 (by rfl) _ (by rfl) (cellsB D) (World.rangeAt_setCells_same _ _ _ _ (by rw [cellsB_length, hlen]; exact HT3.out)) _ Tryz.underlying23 (by rfl) (by rw [cellsB_length, hlen]; exact Tryz.sizeDg)) rfl ⟨by rw [HD.out], ?_⟩
  exact below_setCells _ (Nat.le_refl _) _ _ _ HB3.out
set_option maxRecDepth 100000 in
set_option maxHeartbeats 1000000 in
theorem wtree_full (a : Option Addr) (n c : Nat) (ls : List (List UInt8)) (w : World) (G : Env w) (R : DRow w a n ls) (hc : n ≤ c) (hn : 256 < n) (hn2 : 32 * n ≤ 140737488351232) :
    Calls Tryz.prog 24 #[.slice a n c] w fun e w' => e = .returned (.tuple #[digestV zD, .iface 27 (.int .i64 4)]) ∧ Below w.heap.size w w' := by
  obtain ⟨w2, hw2⟩ : ∃ w2, w.alloc (.cells (cellsB zD).toArray 23) = w2 := ⟨_, rfl⟩
  have HS2 : Hid (w2.heap.size = w.heap.size + 1) := by unfold Hid; rw [← hw2]; simp
  have HB2 : Hid (Below w.heap.size w w2) := by rw [← hw2]; exact (Below.refl _ _).alloc (Nat.le_refl _) _
  have HT2 : Hid (w2.there w.heap.size 0 32) := by rw [← hw2]; exact alloc_thereAt _ _ _ 32 _ rfl zD_size.symm
  clear G R
  have g1 : (256 : Int) < (n : Int) := by omega
  go_enter Tryz.func24, Tryz.ntmps24
  go_wp2_with (first
    | (refine wpList_allocE (by rfl) 23 (by rfl) (cellsB zD).toArray Tryz.zeroDg w.heap.size rfl w2 hw2 ?_)
    | (refine wpList_buildC (by rfl) 23 _ (by rfl) (cellsB zD).toArray (by kernel_rfl) ?_)
    | (refine wpList_store_mid (by rfl) 23 (.tmp 2) (.tmp 7) (by rfl) w.heap.size 0 (cellsB zD).toArray (by rfl) (by rfl) (by rw [cellsB_size]; exact HT2.out) (by rw [cellsB_size]; exact Tryz.sizeDg) (all_oneCell_toArray (cellsB_one _)) ?_))
  refine bodyPost_ret (v := .tuple #[digestV zD, .iface 27 (.int .i64 4)]) (run_results_row2 Tryz.results24 _ _ w.heap.size 0 (by rfl) _ (by rfl) (cellsB zD) (World.rangeAt_setCells_same _ _ _ _ (by rw [cellsB_length]; exact HT2.out)) _ Tryz.underlying23 (by rfl) (by rw [cellsB_length]; exact Tryz.sizeDg)) rfl ⟨rfl, ?_⟩
  exact below_setCells _ (Nat.le_refl _) _ _ _ HB2.out
end Go.Proofs.YtdgaimlccpmojaaGreatDoor
