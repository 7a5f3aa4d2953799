/- Texts of this claim, joined: Rstamp, Sdigests, Ssig, Rnib. -/
import Derived.Test.YtdgaimlccpmojaaGreatDoorJ23
import Derived.Test.YtdgaimlccpmojaaGreatDoorJ18
import Derived.Test.YtdgaimlccpmojaaGreatDoorJ07
import Derived.Test.YtdgaimlccpmojaaGreatDoorJ04
import Derived.Deep.Onto
import Derived.Test.YtdgaimlccpmojaaGreatDoorJ15
import Derived.Deep.RegionHeld3
import Derived.Test.YtdgaimlccpmojaaGreatDoorJ05
import Derived.Test.YtdgaimlccpmojaaGreatDoorJ13
/- The contracts of oathbookref2.StampKey and StampLeaves. -/
namespace Go.Proofs.YtdgaimlccpmojaaGreatDoor
open Go.RowKit
set_option linter.unusedVariables false
set_option linter.unusedSimpArgs false

set_option maxRecDepth 100000 in
set_option maxHeartbeats 1000000 in
theorem rstampKey_any (seed : List UInt8) (i : Nat) (w : World) (hs : seed.length = 32) (hi : i < 256) :
    Calls Tryz.prog 10 #[digestV seed, .int .i64 (i : Int)] w fun e w' => e = .returned (digestV (stampKeyL seed i)) ∧ Below w.heap.size w w' := by
  obtain ⟨w2, hw2⟩ : ∃ w2, (w.alloc (.cells (cellsB seed).toArray 23)).alloc (.cells (cellsB zD).toArray 23) = w2 := ⟨_, rfl⟩
  have hs1 : (w.alloc (.cells (cellsB seed).toArray 23)).heap.size = w.heap.size + 1 := by simp
  have hs2 : w2.heap.size = w.heap.size + 1 + 1 := by rw [← hw2]; simp
  have hD2 : DAt w2 w.heap.size 0 seed := by rw [← hw2]; exact World.rangeAt_alloc (box_dat w seed _) _
  have hT2 : w2.there (w.heap.size + 1) 0 32 := by rw [← hw2]; exact alloc_thereAt _ _ _ 32 _ hs1 zD_size.symm
  have hB2 : Below w.heap.size w w2 := by rw [← hw2]; exact ((Below.refl _ _).alloc (Nat.le_refl _) _).alloc (by simp) _
  have hR3 : Row (w2.alloc (.cells #[.int .u8 11, .int .u8 (i : Int)] 5)) (some ⟨w2.heap.size, 0, none⟩) 2 [11, UInt8.ofNat i] := by
    refine Row.litL _ _ _ _ ?_ 2 rfl
    have e1 : (UInt8.ofNat i).toNat = i := by rw [UInt8.toNat_ofNat']; omega
    simp [cellsB, e1]
  have HR3 : Hid (Row (w2.alloc (.cells #[.int .u8 11, .int .u8 (i : Int)] 5)) (some ⟨w.heap.size + 1 + 1, 0, none⟩) 2 [11, UInt8.ofNat i]) := by rw [← hs2]; exact hR3
  have hb3 : Below w2.heap.size w2 (w2.alloc (.cells #[.int .u8 11, .int .u8 (i : Int)] 5)) := (Below.refl _ _).alloc (Nat.le_refl _) _
  have HB3 : Hid (Below w.heap.size w (w2.alloc (.cells #[.int .u8 11, .int .u8 (i : Int)] 5))) := below_trans hB2 hb3
  have HT3 : Hid ((w2.alloc (.cells #[.int .u8 11, .int .u8 (i : Int)] 5)).there (w.heap.size + 1) 0 32) := there_below hT2 hb3 (by omega)
  have HS3 : Hid (Row (w2.alloc (.cells #[.int .u8 11, .int .u8 (i : Int)] 5)) (some ⟨w.heap.size, 0, none⟩) 32 seed) := (hD2.below hb3 (by omega)).row hs
  have HN3 : Hid (w.heap.size + 1 < (w2.alloc (.cells #[.int .u8 11, .int .u8 (i : Int)] 5)).heap.size) := by unfold Hid; simp; omega
  clear hR3 hb3 hD2 hT2 hB2
  have i0 : (0 : Int) ≤ (i : Int) := by omega
  have i1 : (i : Int) < 256 := by omega
  go_enter Tryz.func10, Tryz.ntmps10
  go_wp2_with (refine wpList_allocE (by rfl) 23 (by rfl) (cellsB zD).toArray Tryz.zeroDg (w.heap.size + 1) hs1 w2 hw2 ?_)
  refine (rmac_any _ _ 32 2 32 2 seed [11, UInt8.ofNat i] _ HS3.out HR3.out (by omega) (by omega)).mono ?_
  rintro e w4 ⟨rfl, hb4⟩
  have hE : macL seed [11, UInt8.ofNat i] = stampKeyL seed i := rfl
  rw [hE]
  have HB4 : Hid (Below w.heap.size w w4) := below_trans HB3.out hb4
  have HT4 : Hid (w4.there (w.heap.size + 1) 0 32) := there_below HT3.out hb4 HN3.out
  have hlen := stampKeyL_length seed i
  clear hb4 hw2 hs2 hs1 HR3 HB3 HT3 HS3 HN3 hE
  generalize hD : stampKeyL seed i = D at *
  have HD : Hid (stampKeyL seed i = D) := hD
  clear hD
  go_wp2_with (refine wpList_store_mid (by rfl) 23 (.tmp 4) (.tmp 9) (by rfl) (w.heap.size + 1) 0 (cellsB D).toArray (by rfl) (by rfl) (by rw [cellsB_size, hlen]; exact HT4.out) (by rw [cellsB_size, hlen]; exact Tryz.sizeDg) (all_oneCell_toArray (cellsB_one _)) ?_)
  refine bodyPost_ret (v := digestV D) (run_results_row Tryz.results10 _ _ (w.heap.size + 1) 0 (by rfl) (cellsB D) (World.rangeAt_setCells_same _ _ _ _ (by rw [cellsB_length, hlen]; exact HT4.out)) _ Tryz.underlying23 (by rfl) (by rw [cellsB_length, hlen]; exact Tryz.sizeDg)) rfl ⟨by rw [HD.out], ?_⟩
  exact below_setCells _ (by omega) _ _ _ HB4.out
set_option maxRecDepth 100000 in
set_option maxHeartbeats 1000000 in
theorem rstampLeaves_own (seed : List UInt8) (h : Nat) (w : World) (hs : seed.length = 32) (hh : h ≤ 4) :
    Calls Tryz.prog 4 #[digestV seed, .int .i64 (h : Int)] w fun e w' => (∃ v, e = .returned v ∧ OwnD w' w.heap.size v (stampLeavesL seed (2 ^ h))) ∧ Below w.heap.size w w' := by
  obtain ⟨iD, hiD, hzD0, hzD1, hzD2⟩ := info_parts Tryz.infoDg
  obtain ⟨w2, hw2⟩ : ∃ w2, w.alloc (.cells (cellsB seed).toArray 23) = w2 := ⟨_, rfl⟩
  have HS2 : Hid (w2.heap.size = w.heap.size + 1) := by unfold Hid; rw [← hw2]; simp
  have HD2 : Hid (DAt w2 w.heap.size 0 seed) := by rw [← hw2]; exact box_dat w seed _
  have HB2 : Hid (Below w.heap.size w w2) := by rw [← hw2]; exact (Below.refl _ _).alloc (Nat.le_refl _) _
  have HM : Hid (2 ^ h ≤ 16) := Nat.pow_le_pow_right (n := 2) (by omega) hh
  go_enter Tryz.func4, Tryz.ntmps4
  go_wp2_with fail
  try rw [hw2]
  clear hw2
  go_loopw [5, 6] (fun nv iv wr => ∃ k n : Nat, k ≤ h ∧ iv = .int .i64 (k : Int) ∧ nv = .int .i64 (n : Int) ∧ n ≤ 16 ∧ Hid (n = 2 ^ k) ∧ Hid (wr = w2)) (fun _ iv _ => h - (intOf iv).toNat)
  case atStart => exact ⟨0, 1, Nat.zero_le _, rfl, rfl, by omega, rfl, rfl⟩
  case round =>
    obtain ⟨k, n, hk, rfl, rfl, hn, HN, HW⟩ := hrel
    have hw := HW.out
    subst hw
    by_cases hlt : k < h
    · have g1 : (k : Int) < (h : Int) := by omega
      have HN2 : Hid (2 * n = 2 ^ (k + 1)) := by unfold Hid; rw [HN.out, Nat.pow_succ, Nat.mul_comm]
      have hn2 : 2 * n ≤ 16 := by
        rw [HN2.out]
        have := Nat.pow_le_pow_right (n := 2) (by omega) (show k + 1 ≤ 4 by omega)
        omega
      go_wp2_with fail
      go_roundw
      case rel => exact ⟨k + 1, 2 * n, by omega, by go_num, by go_num, hn2, HN2, by first | exact True.intro | exact rfl⟩
      case measure => simp [intOf]; omega
    · obtain rfl : k = h := by omega
      have g1 : ¬ (k : Int) < (k : Int) := by omega
      go_wp2_with fail
      clear g1
      have HMW : Hid (Below wr.heap.size wr wr) := Below.refl _ _
      obtain ⟨BB, hBB⟩ : ∃ BB : World → Prop, BB = fun wx => Below wr.heap.size wr wx := ⟨_, rfl⟩
      have HBB : Hid (BB wr ∧ (∀ wx, BB wx → wr.heap.size ≤ wx.heap.size) ∧ (∀ wx wy, BB wx → Below wr.heap.size wx wy → BB wy) ∧ ∀ wx, BB wx → wx.rangeAt w.heap.size 0 (cellsB seed) ∧ Below w.heap.size w wx) := by
        subst hBB
        have s := HS2.out
        exact ⟨HMW.out, fun wx hx => hx.size, fun wx wy hx hy => hx.trans hy, fun wx hx => ⟨HD2.out.below hx (by omega), HB2.out.trans (hx.mono (by omega))⟩⟩
      obtain ⟨B0, hB0⟩ : ∃ B0, wr.heap.size = B0 := ⟨_, rfl⟩
      rw [hB0] at HBB HS2
      have HB0 : Hid (w.heap.size ≤ B0) := by have := HS2.out; unfold Hid; omega
      clear hBB HMW HD2 HB2 HS2 hB0
      go_loopw [7, 8] (fun v iv wq => ∃ j : Nat, j ≤ n ∧ iv = .int .i64 (j : Int) ∧ OwnD wq B0 v (stampLeavesL seed j) ∧ BB wq) (fun _ iv _ => n - (intOf iv).toNat)
      case atStart => exact ⟨0, Nat.zero_le _, rfl, OwnD.nil _ _, HBB.out.1⟩
      case round =>
        obtain ⟨j, hj, rfl, hO, hB⟩ := hrel
        by_cases hlt : j < n
        · have HO : Hid (OwnD wr B0 u7 (stampLeavesL seed j)) := hO
          have HB : Hid (BB wr) := hB
          have HX : Hid (wr.rangeAt w.heap.size 0 (cellsB seed)) := (HBB.out.2.2.2 _ hB).1
          have HSN : Hid (stampLeavesL seed j ++ [wotsPubL (stampKeyL seed j)] = stampLeavesL seed (j + 1)) := stampLeavesL_succ seed j
          have HLN : Hid ((stampLeavesL seed j).length = j) := stampLeavesL_len seed j
          have HSZ : Hid (B0 ≤ wr.heap.size) := HBB.out.2.1 _ hB
          clear hO hB
          have g2 : (j : Int) < (n : Int) := by omega
          go_wp2_with (refine wpList_load_mid (by rfl) 23 (.tmp 2) (by rfl) w.heap.size 0 (by rfl) (cellsB seed) _ HX.out Tryz.underlying23 (by rfl) (by rw [cellsB_length, hs]; exact Tryz.sizeDg) ?_)
          refine (rstampKey_any seed j wr hs (by omega)).mono ?_
          rintro e w3 ⟨rfl, hb3⟩
          have hl3 := stampKeyL_length seed j
          generalize stampKeyL seed j = X at *
          go_wp2_with fail
          refine (rwotsPublic_any X w3 hl3).mono ?_
          rintro e w4 ⟨rfl, hb4⟩
          have hl4 := wotsPubL_length X
          have b4 := below_trans hb3 hb4
          have HO4 : Hid (OwnD w4 B0 u7 (stampLeavesL seed j)) := OwnD.below HO.out b4
          have HB4 : Hid (Below B0 wr w4) := b4.mono HSZ.out
          have HS4 : Hid (B0 ≤ w4.heap.size) := by have := b4.size; have := HSZ.out; unfold Hid; omega
          clear hb3 hb4 b4 HO HX
          generalize wotsPubL X = Y at *
          have HS5 : Hid (B0 ≤ (w4.alloc (.cells (cellsB Y).toArray 23)).heap.size) := by have := HS4.out; unfold Hid; simp; omega
          go_wp2_with (first
            | (refine wpList_build1 (by rfl) (.tmp 25) 24 (by rfl) 23 (.agg zeros32) iD Y hl4 (by rfl) Tryz.underlying24 hiD hzD0 (by rfl) hzD1 ?_)
            | (at_builtin; refine wpList_append_digests (by rfl) (.tmp 21) (.tmp 26) (by rfl) B0 u7 (stampLeavesL seed j) (by rfl) (OwnD.alloc HO4.out _) ⟨w4.heap.size, 0, none⟩ 1 1 [Y] (by rfl) (DRow.lit1 w4 Y _ hl4) (by omega) (by rw [HLN.out]; omega) HS5.out ?_; intro v5 w5 ho5 hg5 _; have HO5 : Hid (OwnD w5 B0 v5 (stampLeavesL seed j ++ [Y])) := ho5; have HB5 : Hid (Below B0 wr w5) := OwnD.grown (OwnD.alloc HO4.out _) (Below.alloc HB4.out HS4.out _) hg5 (Nat.le_refl _) HS5.out; clear ho5 hg5))
          go_roundw
          case rel => exact ⟨j + 1, by omega, by go_num, by rw [← HSN.out]; exact HO5.out, HBB.out.2.2.1 _ _ HB.out HB5.out⟩
          case measure => simp [intOf]; omega
        · obtain rfl : j = n := by omega
          have HO : Hid (OwnD wr B0 u7 (stampLeavesL seed j) ∧ Below w.heap.size w wr) := ⟨hO, (HBB.out.2.2.2 _ hB).2⟩
          clear hO hB
          have g2 : ¬ (j : Int) < (j : Int) := by omega
          go_wp2_with fail
          go_ret
          rw [← HN.out]
          exact ⟨⟨u7, rfl, HO.out.1.1, World.ownsRow.mono HO.out.1.2 HB0.out⟩, HO.out.2⟩
theorem rstampLeaves_any (seed : List UInt8) (h : Nat) (w : World) (hs : seed.length = 32) (hh : h ≤ 4) :
    Calls Tryz.prog 4 #[digestV seed, .int .i64 (h : Int)] w fun e w' => (∃ a c, e = .returned (.slice a (2 ^ h) c) ∧ 2 ^ h ≤ c ∧ DRow w' a (2 ^ h) (stampLeavesL seed (2 ^ h))) ∧ Below w.heap.size w w' := by
  refine (rstampLeaves_own seed h w hs hh).mono ?_
  rintro e w' ⟨⟨v, rfl, hv⟩, hb⟩
  obtain ⟨a, c, rfl, R, hc⟩ := hv.form
  rw [stampLeavesL_len] at R hc ⊢
  exact ⟨⟨a, c, rfl, hc, R⟩, hb⟩
end Go.Proofs.YtdgaimlccpmojaaGreatDoor
/- The contract of oathbooksame.Digests: it tells whether two slices of digests read as one list. -/
namespace Go.Proofs.YtdgaimlccpmojaaGreatDoor
open Go.RowKit
set_option linter.unusedVariables false
set_option linter.unusedSimpArgs false

theorem Tryz.sizeDs : (Tryz.prog.info? 23).map (·.size) = some 32 := by kernel_rfl
theorem list_eq {l1 l2 : List (List UInt8)} {n : Nat} (h1 : l1.length = n) (h2 : l2.length = n) (h : ∀ j, j < n → l1.getD j [] = l2.getD j []) : l1 = l2 := by
  apply List.ext_getElem (by omega)
  intro i h3 h4
  have := h i (by omega)
  simpa [List.getD_eq_getElem?_getD, List.getElem?_eq_getElem h3, List.getElem?_eq_getElem h4] using this

set_option maxRecDepth 100000 in
set_option maxHeartbeats 1000000 in
theorem sdigests_any (a1 a2 : Option Addr) (n1 n2 c1 c2 : Nat) (l1 l2 : List (List UInt8)) (w : World) (R1 : DRow w a1 n1 l1) (R2 : DRow w a2 n2 l2) (hm : n1 ≤ 281474976710656) :
    Calls Tryz.prog 33 #[.slice a1 n1 c1, .slice a2 n2 c2] w fun e w' => e = .returned (.bool (decide (l1 = l2))) ∧ Below w.heap.size w w' := by
  have e1 := R1.1
  have e2 := R2.1
  by_cases hn : n1 = n2
  · subst hn
    have hne : ((n1 : Int) != (n1 : Int)) = false := by simp
    have HE : Hid (l1.length = n1 ∧ l2.length = n1) := ⟨e1, e2⟩
    have HL : Hid ((∀ i, i < n1 → (l1.getD i []).length = 32) ∧ ∀ i, i < n1 → (l2.getD i []).length = 32) := ⟨R1.len, R2.len⟩
    have HR1 : Hid (n1 = 0 ∨ ∃ b o, a1 = some ⟨b, o, none⟩ ∧ ∀ i, i < n1 → DAt w b (o + 32 * i) (l1.getD i [])) := R1.2.2
    have HR2 : Hid (n1 = 0 ∨ ∃ b o, a2 = some ⟨b, o, none⟩ ∧ ∀ i, i < n1 → DAt w b (o + 32 * i) (l2.getD i [])) := R2.2.2
    clear e1 e2 R1 R2
    go_enter Tryz.func33, Tryz.ntmps33
    go_wp2
    go_loopw [5] (fun i wr => ∃ k : Nat, k ≤ n1 ∧ i = .int .i64 k ∧ Below w.heap.size w wr ∧ ∀ j, j < k → l1.getD j [] = l2.getD j []) (fun i _ => n1 - (intOf i).toNat)
    case atStart => exact ⟨0, Nat.zero_le _, rfl, Below.refl _ _, fun j hj => by omega⟩
    case round =>
      obtain ⟨k, hk, rfl, hB, hall⟩ := hrel
      have HA : Hid (∀ j, j < k → l1.getD j [] = l2.getD j []) := hall
      have HB : Hid (Below w.heap.size w wr) := hB
      clear hall hB
      by_cases hlt : k < n1
      · obtain ⟨b1, o1, rfl, k1⟩ : ∃ b o, a1 = some ⟨b, o, none⟩ ∧ ∀ i, i < n1 → DAt w b (o + 32 * i) (l1.getD i []) := by
          rcases HR1.out with h | h
          · omega
          · exact h
        obtain ⟨b2, o2, rfl, k2⟩ : ∃ b o, a2 = some ⟨b, o, none⟩ ∧ ∀ i, i < n1 → DAt w b (o + 32 * i) (l2.getD i []) := by
          rcases HR2.out with h | h
          · omega
          · exact h
        have lX := HL.out.1 k hlt
        have lY := HL.out.2 k hlt
        have hS : wr.rangeAt b1 (o1 + k * 32) (cellsB (l1.getD k [])) ∧ wr.rangeAt b2 (o2 + k * 32) (cellsB (l2.getD k [])) := by
          rw [Nat.mul_comm]
          have g1 := k1 k hlt
          have g2 := k2 k hlt
          exact ⟨g1.below HB.out (cell_block (g1.cell 0 (by omega))), g2.below HB.out (cell_block (g2.cell 0 (by omega)))⟩
        have HS : Hid (wr.rangeAt b1 (o1 + k * 32) (cellsB (l1.getD k [])) ∧ wr.rangeAt b2 (o2 + k * 32) (cellsB (l2.getD k []))) := hS
        clear hS k1 k2
        have hi : (0 : Int) ≤ (k : Int) := by omega
        have hj : (k : Int) < (n1 : Int) := by omega
        have HQ : Hid (∀ j, j < k + 1 → j ≠ k → l1.getD j [] = l2.getD j []) := fun j hj hne => HA.out j (by omega)
        generalize hX : l1.getD k [] = X at *
        generalize hY : l2.getD k [] = Y at *
        have HXY : Hid (l1.getD k [] = X ∧ l2.getD k [] = Y) := ⟨hX, hY⟩
        clear hX hY
        go_wp2_with fail
        refine wp_region_noPanic ?_
        refine wp_region_held_drew (S := fun w' => w'.rangeAt b1 (o1 + k * 32) (cellsB X) ∧ w'.rangeAt b2 (o2 + k * 32) (cellsB Y)) (by kernel_rfl) HS.out (fun hHeld => ?_)
        try simp only [Act.put, List.setIfInBounds_toArray, List.set_cons_zero, List.set_cons_succ]
        refine wpAnyH_take (i := 0) (v := ?_) (by simp only [List.getElem?_toArray, List.getElem?_cons_zero, List.getElem?_cons_succ]; rfl) (by kernel_rfl) (by kernel_rfl) (by kernel_rfl) (fun _ _ _ h => h) (Or.inl ⟨by rfl, ?_⟩) hHeld ?_
        rotate_left
        · intro w hSw
          go_simp
          try with_reducible rfl
        try simp only [Act.put, List.setIfInBounds_toArray, List.set_cons_zero, List.set_cons_succ]
        refine wpAnyH_take (i := 1) (v := ?_) (by simp only [List.getElem?_toArray, List.getElem?_cons_zero, List.getElem?_cons_succ]; rfl) (by kernel_rfl) (by kernel_rfl) (by kernel_rfl) (fun _ _ _ h => h) (Or.inl ⟨by rfl, ?_⟩) hHeld ?_
        rotate_left
        · intro w hSw
          go_simp
          try with_reducible rfl
        try simp only [Act.put, List.setIfInBounds_toArray, List.set_cons_zero, List.set_cons_succ]
        refine wpAnyH_take (i := 2) (v := ?_) (by simp only [List.getElem?_toArray, List.getElem?_cons_zero, List.getElem?_cons_succ]; rfl) (by kernel_rfl) (by kernel_rfl) (by kernel_rfl) (fun _ _ _ h => h) (Or.inl ⟨by rfl, ?_⟩) hHeld ?_
        rotate_left
        · intro w hSw
          go_simp
          try with_reducible rfl
        try simp only [Act.put, List.setIfInBounds_toArray, List.set_cons_zero, List.set_cons_succ]
        refine wpAnyH_take (i := 3) (v := .agg (cellsB X).toArray) (by simp only [List.getElem?_toArray, List.getElem?_cons_zero, List.getElem?_cons_succ]; rfl) (by kernel_rfl) (by kernel_rfl) (by kernel_rfl) (fun _ _ _ h => h)
          (yieldsIf_load_mid (by rfl) _ _ rfl _ _ rfl _ _ (fun w hw => hw.1) Tryz.underlying23 rfl (by rw [cellsB_length, lX]; exact Tryz.sizeDs)) hHeld ?_
        try simp only [Act.put, List.setIfInBounds_toArray, List.set_cons_zero, List.set_cons_succ]
        refine wpAnyH_take (i := 4) (v := ?_) (by simp only [List.getElem?_toArray, List.getElem?_cons_zero, List.getElem?_cons_succ]; rfl) (by kernel_rfl) (by kernel_rfl) (by kernel_rfl) (fun _ _ _ h => h) (Or.inl ⟨by rfl, ?_⟩) hHeld ?_
        rotate_left
        · intro w hSw
          go_simp
          try with_reducible rfl
        try simp only [Act.put, List.setIfInBounds_toArray, List.set_cons_zero, List.set_cons_succ]
        refine wpAnyH_take (i := 5) (v := ?_) (by simp only [List.getElem?_toArray, List.getElem?_cons_zero, List.getElem?_cons_succ]; rfl) (by kernel_rfl) (by kernel_rfl) (by kernel_rfl) (fun _ _ _ h => h) (Or.inl ⟨by rfl, ?_⟩) hHeld ?_
        rotate_left
        · intro w hSw
          go_simp
          try with_reducible rfl
        try simp only [Act.put, List.setIfInBounds_toArray, List.set_cons_zero, List.set_cons_succ]
        refine wpAnyH_take (i := 6) (v := ?_) (by simp only [List.getElem?_toArray, List.getElem?_cons_zero, List.getElem?_cons_succ]; rfl) (by kernel_rfl) (by kernel_rfl) (by kernel_rfl) (fun _ _ _ h => h) (Or.inl ⟨by rfl, ?_⟩) hHeld ?_
        rotate_left
        · intro w hSw
          go_simp
          try with_reducible rfl
        try simp only [Act.put, List.setIfInBounds_toArray, List.set_cons_zero, List.set_cons_succ]
        refine wpAnyH_take (i := 7) (v := .agg (cellsB Y).toArray) (by simp only [List.getElem?_toArray, List.getElem?_cons_zero, List.getElem?_cons_succ]; rfl) (by kernel_rfl) (by kernel_rfl) (by kernel_rfl) (fun _ _ _ h => h)
          (yieldsIf_load_mid (by rfl) _ _ rfl _ _ rfl _ _ (fun w hw => hw.2) Tryz.underlying23 rfl (by rw [cellsB_length, lY]; exact Tryz.sizeDs)) hHeld ?_
        try simp only [Act.put, List.setIfInBounds_toArray, List.set_cons_zero, List.set_cons_succ]
        have hb : Below w.heap.size w wr.drew := HB.out.drew
        refine wpAnyH_take (i := 8) (v := .bool (!decide (X = Y))) (by simp only [List.getElem?_toArray, List.getElem?_cons_zero, List.getElem?_cons_succ]; rfl) (by kernel_rfl) (by kernel_rfl) (by kernel_rfl) (fun _ _ _ h => h)
          (yieldsIf_neqD (by rfl) _ _ rfl X Y lX lY rfl rfl _ rfl) hHeld ?_
        try simp only [Act.put, List.setIfInBounds_toArray, List.set_cons_zero, List.set_cons_succ]
        refine wpAnyH_done (by kernel_rfl) (NoPanic.normal ?_) _
        clear hHeld HS
        generalize wr.drew = wd at *
        by_cases hq : X = Y
        · have HE2 : Hid (X = Y) := hq
          rw [show (!decide (X = Y)) = false by simp [hq]]
          clear hq
          go_wp2
          go_roundw
          case rel => exact ⟨k + 1, by omega, by go_num, hb, fun j hj => by
            by_cases hjk : j = k
            · subst hjk; rw [HXY.out.1, HXY.out.2]; exact HE2.out
            · exact HQ.out j hj hjk⟩
          case measure => simp [intOf]; omega
        · have HE2 : Hid (¬ X = Y) := hq
          rw [show (!decide (X = Y)) = true by simp [hq]]
          clear hq
          go_wp2
          go_ret
          exact ⟨ret_bool (by symm; rw [decide_eq_false_iff_not]; intro h; subst h; exact HE2.out (HXY.out.1.symm.trans HXY.out.2)), hb⟩
      · go_wp2
        go_ret
        exact ⟨ret_bool (by
          symm
          rw [decide_eq_true_iff]
          exact list_eq HE.out.1 HE.out.2 fun j hj => HA.out j (by omega)), HB.out⟩
  · have hne : ((n1 : Int) != (n2 : Int)) = true := by simp; omega
    clear R1 R2
    go_enter Tryz.func33, Tryz.ntmps33
    go_wp2
    go_ret
    exact ⟨ret_bool (by symm; rw [decide_eq_false_iff_not]; intro h; subst h; omega), Below.refl _ _⟩
end Go.Proofs.YtdgaimlccpmojaaGreatDoor
/- The contract of oathbooksame.Signature, of two signatures that are the same. -/
namespace Go.Proofs.YtdgaimlccpmojaaGreatDoor
open Go.RowKit
set_option linter.unusedVariables false
set_option linter.unusedSimpArgs false

theorem cell_alloc3 (w : World) (x y z : Value) (t : TypeId) (g : Nat) (hg : w.heap.size = g) : (w.alloc (.cells #[x, y, z] t)).cell? ⟨g, 0, none⟩ = some x ∧ (w.alloc (.cells #[x, y, z] t)).cell? ⟨g, 1, none⟩ = some y ∧ (w.alloc (.cells #[x, y, z] t)).cell? ⟨g, 2, none⟩ = some z := by
  subst hg
  have h : (w.alloc (.cells #[x, y, z] t)).heap[w.heap.size]? = some (.cells #[x, y, z] t) := by
    show (w.heap.push _)[w.heap.size]? = _
    simp
  unfold World.cell?
  simp only [h]
  exact ⟨rfl, rfl, rfl⟩
set_option maxRecDepth 100000 in
set_option maxHeartbeats 1000000 in
theorem ssig_same (m : Int) (a1 a2 b1 b2 : Option Addr) (n1 n2 c1 c2 d1 d2 : Nat) (l1 l2 : List (List UInt8)) (w : World) (R1 : DRow w a1 n1 l1) (R2 : DRow w a2 n2 l2) (S1 : DRow w b1 n1 l1) (S2 : DRow w b2 n2 l2) (h1 : n1 ≤ 281474976710656) (h2 : n2 ≤ 281474976710656) :
    Calls Tryz.prog 14 #[sigV m a1 n1 c1 a2 n2 c2, sigV m b1 n1 d1 b2 n2 d2] w fun e w' => e = .returned (.bool true) ∧ Below w.heap.size w w' := by
  obtain ⟨w2, hw2⟩ : ∃ w2, (w.alloc (.cells #[.int .i64 m, .slice a1 n1 c1, .slice a2 n2 c2] 26)).alloc (.cells #[.int .i64 m, .slice b1 n1 d1, .slice b2 n2 d2] 26) = w2 := ⟨_, rfl⟩
  have hs1 : (w.alloc (.cells #[.int .i64 m, .slice a1 n1 c1, .slice a2 n2 c2] 26)).heap.size = w.heap.size + 1 := by simp
  have HS2 : Hid (w2.heap.size = w.heap.size + 1 + 1) := by unfold Hid; rw [← hw2]; simp
  have HB2 : Hid (Below w.heap.size w w2) := by rw [← hw2]; exact ((Below.refl _ _).alloc (Nat.le_refl _) _).alloc (by simp) _
  have f1 := cell_alloc3 w (.int .i64 m) (.slice a1 n1 c1) (.slice a2 n2 c2) 26 _ rfl
  have f2 := cell_alloc3 (w.alloc (.cells #[.int .i64 m, .slice a1 n1 c1, .slice a2 n2 c2] 26)) (.int .i64 m) (.slice b1 n1 d1) (.slice b2 n2 d2) 26 _ hs1
  have hb : Below (w.heap.size + 1) (w.alloc (.cells #[.int .i64 m, .slice a1 n1 c1, .slice a2 n2 c2] 26)) w2 := by rw [← hw2]; exact (Below.refl _ _).alloc (by simp) _
  rw [hw2] at f2
  have HK : Hid (∀ wx, Below w2.heap.size w2 wx → (wx.cell? ⟨w.heap.size, 0, none⟩ = some (.int .i64 m) ∧ wx.cell? ⟨w.heap.size, 1, none⟩ = some (.slice a1 n1 c1) ∧ wx.cell? ⟨w.heap.size, 2, none⟩ = some (.slice a2 n2 c2)) ∧ (wx.cell? ⟨w.heap.size + 1, 0, none⟩ = some (.int .i64 m) ∧ wx.cell? ⟨w.heap.size + 1, 1, none⟩ = some (.slice b1 n1 d1) ∧ wx.cell? ⟨w.heap.size + 1, 2, none⟩ = some (.slice b2 n2 d2)) ∧ DRow wx a1 n1 l1 ∧ DRow wx a2 n2 l2 ∧ DRow wx b1 n1 l1 ∧ DRow wx b2 n2 l2 ∧ Below w.heap.size w wx) := fun wx hx => by
    have s := HS2.out
    have b : Below w.heap.size w wx := HB2.out.trans (hx.mono (by omega))
    have q : ∀ j, wx.cell? ⟨w.heap.size, j, none⟩ = (w.alloc (.cells #[.int .i64 m, .slice a1 n1 c1, .slice a2 n2 c2] 26)).cell? ⟨w.heap.size, j, none⟩ := fun j => (hx.cell (p := ⟨w.heap.size, j, none⟩) (by show w.heap.size < _; omega)).trans (hb.cell (p := ⟨w.heap.size, j, none⟩) (by show w.heap.size < _; omega))
    have r : ∀ j, wx.cell? ⟨w.heap.size + 1, j, none⟩ = w2.cell? ⟨w.heap.size + 1, j, none⟩ := fun j => hx.cell (p := ⟨w.heap.size + 1, j, none⟩) (by show w.heap.size + 1 < _; omega)
    exact ⟨⟨(q 0).trans f1.1, (q 1).trans f1.2.1, (q 2).trans f1.2.2⟩, ⟨(r 0).trans f2.1, (r 1).trans f2.2.1, (r 2).trans f2.2.2⟩, R1.below b, R2.below b, S1.below b, S2.below b, b⟩
  have H0 : Hid (Below w2.heap.size w2 w2) := Below.refl _ _
  have k1 := (HK.out _ H0.out).1.2.1
  have k2 := (HK.out _ H0.out).2.1.2.1
  clear R1 R2 S1 S2 f1 f2 hb hs1
  unfold sigV
  go_enter Tryz.func14, Tryz.ntmps14
  go_wp2_with fail
  refine (sdigests_any a1 b1 n1 n1 c1 d1 l1 l1 w2 (HK.out _ H0.out).2.2.1 (HK.out _ H0.out).2.2.2.2.1 h1).mono ?_
  rintro e w3 ⟨rfl, hb3⟩
  rw [decide_eq_true (rfl : l1 = l1)]
  have HB3 : Hid (Below w2.heap.size w2 w3) := hb3
  have k3 := (HK.out _ hb3).1.2.2
  have k4 := (HK.out _ hb3).2.1.2.2
  clear hb3 hw2 k1 k2
  go_wp2_with fail
  refine (sdigests_any a2 b2 n2 n2 c2 d2 l2 l2 w3 (HK.out _ HB3.out).2.2.2.1 (HK.out _ HB3.out).2.2.2.2.2.1 h2).mono ?_
  rintro e w4 ⟨rfl, hb4⟩
  rw [decide_eq_true (rfl : l2 = l2)]
  have HB4 : Hid (Below w2.heap.size w2 w4) := HB3.out.trans (hb4.mono HB3.out.size)
  have k5 := (HK.out _ HB4.out).1.1
  have k6 := (HK.out _ HB4.out).2.1.1
  clear hb4 k3 k4 HB3
  go_wp2_with fail
  go_ret
  exact ⟨rfl, (HK.out _ HB4.out).2.2.2.2.2.2⟩
end Go.Proofs.YtdgaimlccpmojaaGreatDoor
/- The contract of oathbookref1.Nibbles. -/
namespace Go.Proofs.YtdgaimlccpmojaaGreatDoor
open Go.RowKit
set_option linter.unusedVariables false
set_option linter.unusedSimpArgs false

set_option maxRecDepth 100000 in
set_option maxHeartbeats 1000000 in
theorem rnib_any (m : List UInt8) (w : World) (hm : m.length = 32) :
    Calls Tryz.prog 26 #[digestV m] w fun e w' => (∃ a c, e = .returned (.slice a 67 c) ∧ 67 ≤ c ∧ IRow w' a 67 (digsL m 67)) ∧ Below w.heap.size w w' := by
  obtain ⟨w2, hw2⟩ : ∃ w2, w.alloc (.cells (cellsB m).toArray 23) = w2 := ⟨_, rfl⟩
  have HS2 : Hid (w2.heap.size = w.heap.size + 1) := by unfold Hid; rw [← hw2]; simp
  have HM2 : Hid (DAt w2 w.heap.size 0 m) := by rw [← hw2]; exact box_dat w m _
  have HB2 : Hid (Below w.heap.size w w2) := by rw [← hw2]; exact (Below.refl _ _).alloc (Nat.le_refl _) _
  go_enter Tryz.func26, Tryz.ntmps26
  go_wp2_with fail
  try rw [hw2]
  clear hw2
  go_loopw [3, 4, 5] (fun v s i wr => ∃ k : Nat, k ≤ 64 ∧ i = .int .i64 (k : Int) ∧ s = .int .i64 (lackL m k : Nat) ∧ OwnI wr w2.heap.size v (nibsL m k) ∧ Below w2.heap.size w2 wr) (fun _ _ i _ => 64 - (intOf i).toNat)
  case atStart => exact ⟨0, Nat.zero_le _, rfl, rfl, OwnI.nil _ _, Below.refl _ _⟩
  case round =>
    obtain ⟨k, hk, rfl, rfl, hO, hB⟩ := hrel
    have hs2 := HS2.out
    have hll := lackL_le m k
    by_cases hlt : k < 64
    · have HO : Hid (OwnI wr w2.heap.size u3 (nibsL m k)) := hO
      have HB : Hid (Below w2.heap.size w2 wr) := hB
      have HSN : Hid (nibsL m k ++ [(nibL m k : Int)] = nibsL m (k + 1)) := nibsL_succ m k
      have HLN : Hid ((nibsL m k).length = k) := nibsL_len m k
      have HLK : Hid (lackL m (k + 1) = lackL m k + (15 - nibL m k)) := rfl
      have HNB : Hid (nibL m k = if k % 2 = 1 then (m.getD (k / 2) 0).toNat % 16 else (m.getD (k / 2) 0).toNat / 16) := rfl
      have hnl := nibL_lt m k
      obtain ⟨e1, e2, e3, e4⟩ := half_int k
      have hc := (HM2.out.below hB (by omega)).cell (k / 2) (by omega)
      rw [Nat.zero_add] at hc
      unfold nth at hc
      have hx := (m.getD (k / 2) 0).toNat_lt
      have hq : k / 2 < 32 := by omega
      have hr : k % 2 < 2 := by omega
      have hsz := hB.size
      clear hO hB
      generalize (m.getD (k / 2) 0).toNat = x at *
      generalize k / 2 = q at *
      generalize k % 2 = r at *
      have q0 : (0 : Int) ≤ (q : Int) := by omega
      have q1 : (q : Int) < 32 := by omega
      have d1 : (x : Int).tdiv 16 = ((x / 16 : Nat) : Int) := by rw [Int.tdiv_eq_ediv_of_nonneg (by omega)]; omega
      have d2 : (x : Int) / 16 = ((x / 16 : Nat) : Int) := by omega
      have d3 : (x : Int).tmod 16 = ((x % 16 : Nat) : Int) := by rw [Int.tmod_eq_emod_of_nonneg (by omega)]; omega
      have d4 : (x : Int) % 16 = ((x % 16 : Nat) : Int) := by omega
      have hy : x / 16 < 16 := by omega
      have hz : x % 16 < 16 := by omega
      generalize x / 16 = y at *
      generalize x % 16 = z at *
      have y0 : (0 : Int) ≤ (y : Int) := by omega
      have y1 : (y : Int) < 16 := by omega
      have z0 : (0 : Int) ≤ (z : Int) := by omega
      have z1 : (z : Int) < 16 := by omega
      generalize lackL m k = t at *
      have t0 : (0 : Int) ≤ (t : Int) := by omega
      have t1 : (t : Int) ≤ 960 := by omega
      generalize hn : nibL m k = nb at *
      have HNN : Hid (nibL m k = nb) := hn
      clear hn
      by_cases hr1 : r = 1
      · have hbe : ((r : Int) == 1) = true := by simp [hr1]
        rw [if_pos hr1] at HNB
        have HZ : Hid (nb = z) := HNB.out
        clear hr1 HNB
        go_wp2_with (at_builtin; refine wpList_append_ints (by rfl) (.tmp 26) (.tmp 28) (by rfl) w2.heap.size u3 (nibsL m k) (by rfl) (OwnI.alloc HO.out _) ⟨wr.heap.size, 0, none⟩ 1 1 [(z : Int)] (by rfl) (IRow.lit wr _ _ [(z : Int)] rfl 1 rfl) (by omega) (by rw [HLN.out]; omega) (by simp; omega) ?_; intro v5 w5 ho5 hg5 _)
        have B5 := OwnI.grown (OwnI.alloc HO.out _) (Below.alloc HB.out hsz _) hg5 (Nat.le_refl _) (by simp; omega)
        rw [HZ.out] at HSN HLK
        rw [HSN.out] at ho5
        clear hg5 HO HB HSN HLN
        first
          | (go_wp2; go_roundw; case rel => exact ⟨k + 1, by omega, by go_num, by rw [HLK.out]; simp; omega, ho5, B5⟩; case measure => simp [intOf]; omega)
          | exact ⟨⟨k + 1, by omega, by go_num, by rw [HLK.out]; simp; omega, ho5, B5⟩, by simp [intOf]; omega⟩
      · have hbe : ((r : Int) == 1) = false := by simp; omega
        rw [if_neg hr1] at HNB
        have HZ : Hid (nb = y) := HNB.out
        clear hr1 HNB
        go_wp2_with (at_builtin; refine wpList_append_ints (by rfl) (.tmp 26) (.tmp 28) (by rfl) w2.heap.size u3 (nibsL m k) (by rfl) (OwnI.alloc HO.out _) ⟨wr.heap.size, 0, none⟩ 1 1 [(y : Int)] (by rfl) (IRow.lit wr _ _ [(y : Int)] rfl 1 rfl) (by omega) (by rw [HLN.out]; omega) (by simp; omega) ?_; intro v5 w5 ho5 hg5 _)
        have B5 := OwnI.grown (OwnI.alloc HO.out _) (Below.alloc HB.out hsz _) hg5 (Nat.le_refl _) (by simp; omega)
        rw [HZ.out] at HSN HLK
        rw [HSN.out] at ho5
        clear hg5 HO HB HSN HLN
        first
          | (go_wp2; go_roundw; case rel => exact ⟨k + 1, by omega, by go_num, by rw [HLK.out]; simp; omega, ho5, B5⟩; case measure => simp [intOf]; omega)
          | exact ⟨⟨k + 1, by omega, by go_num, by rw [HLK.out]; simp; omega, ho5, B5⟩, by simp [intOf]; omega⟩
    · obtain rfl : k = 64 := by omega
      have HO : Hid (OwnI wr w2.heap.size u3 (nibsL m 64)) := hO
      have HB : Hid (Below w2.heap.size w2 wr) := hB
      have HDN : Hid (nibsL m 64 ++ [((lackL m 64 / 256 : Nat) : Int), ((lackL m 64 / 16 % 16 : Nat) : Int), ((lackL m 64 % 16 : Nat) : Int)] = digsL m 67) := digs_nibs m
      have HLN : Hid ((nibsL m 64).length = 64) := nibsL_len m 64
      have hsz := hB.size
      clear hO hB
      generalize lackL m 64 = t at *
      have d1 : (t : Int).tdiv 256 = ((t / 256 : Nat) : Int) := by rw [Int.tdiv_eq_ediv_of_nonneg (by omega)]; omega
      have d2 : (t : Int) / 256 = ((t / 256 : Nat) : Int) := by omega
      have d3 : (t : Int).tdiv 16 = ((t / 16 : Nat) : Int) := by rw [Int.tdiv_eq_ediv_of_nonneg (by omega)]; omega
      have d4 : (t : Int) / 16 = ((t / 16 : Nat) : Int) := by omega
      have d5 : (t : Int).tmod 16 = ((t % 16 : Nat) : Int) := by rw [Int.tmod_eq_emod_of_nonneg (by omega)]; omega
      have d6 : (t : Int) % 16 = ((t % 16 : Nat) : Int) := by omega
      have d7 : ((t / 16 : Nat) : Int).tmod 16 = ((t / 16 % 16 : Nat) : Int) := by rw [Int.tmod_eq_emod_of_nonneg (by omega)]; omega
      have d8 : ((t / 16 : Nat) : Int) % 16 = ((t / 16 % 16 : Nat) : Int) := by omega
      have l1 : t / 256 ≤ 3 := by omega
      have l2 : t / 16 ≤ 60 := by omega
      have l3 : t % 16 < 16 := by omega
      have l4 : t / 16 % 16 < 16 := by omega
      generalize t / 16 % 16 = c2 at *
      generalize t / 256 = c1 at *
      generalize t / 16 = c4 at *
      generalize t % 16 = c3 at *
      have m1 : (0 : Int) ≤ (c1 : Int) := by omega
      have m2 : (c1 : Int) ≤ 3 := by omega
      have m3 : (0 : Int) ≤ (c2 : Int) := by omega
      have m4 : (c2 : Int) ≤ 15 := by omega
      have m5 : (0 : Int) ≤ (c3 : Int) := by omega
      have m6 : (c3 : Int) ≤ 15 := by omega
      have m7 : (0 : Int) ≤ (c4 : Int) := by omega
      have m8 : (c4 : Int) ≤ 60 := by omega
      generalize nibsL m 64 = N at *
      go_wp2_with (at_builtin; refine wpList_append_ints (by rfl) (.tmp 34) (.tmp 42) (by rfl) w2.heap.size u3 N (by rfl) (OwnI.alloc HO.out _) ⟨wr.heap.size, 0, none⟩ 3 3 [(c1 : Int), (c2 : Int), (c3 : Int)] (by rfl) (IRow.lit wr _ _ [(c1 : Int), (c2 : Int), (c3 : Int)] rfl 3 rfl) (by omega) (by rw [HLN.out]; omega) (by simp; omega) ?_; intro v5 w5 ho5 hg5 _)
      have B5 := OwnI.grown (OwnI.alloc HO.out _) (Below.alloc HB.out hsz _) hg5 (Nat.le_refl _) (by simp; omega)
      rw [HDN.out] at ho5
      obtain ⟨a5, c5, rfl, R5, hc5⟩ := OwnI.form ho5
      rw [digsL_len] at R5 hc5
      have hl5 := digsL_len m 67
      have HR5 : Hid (IRow w5 a5 67 (digsL m 67)) := R5
      have HB5 : Hid (Below w2.heap.size w2 w5) := B5
      clear ho5 hg5 HO HB HDN HLN R5 B5
      try rw [hl5]
      clear hl5
      first
        | (go_wp2; go_ret; exact ⟨⟨a5, c5, rfl, hc5, HR5.out⟩, HB2.out.trans (HB5.out.mono (by omega))⟩)
        | (go_ret; exact ⟨⟨a5, c5, rfl, hc5, HR5.out⟩, HB2.out.trans (HB5.out.mono (by omega))⟩)
end Go.Proofs.YtdgaimlccpmojaaGreatDoor
