/- Texts of this claim, joined: Roncek, Wonce, Sdigests, News1. -/
import Derived.Test.YtigdgmoiljifjaaDoorJ15
import Derived.Test.YtigdgmoiljifjaaDoorJ03
import Derived.Test.YtigdgmoiljifjaaDoorJ10
import Derived.Test.YtigdgmoiljifjaaDoorJ12
import Derived.Test.YtigdgmoiljifjaaDoorJ04
import Derived.Deep.RegionHeld3
import Derived.Test.YtigdgmoiljifjaaDoorYPairs
/- The contract of oathbookref1.OnceKey. -/
namespace Go.Proofs.YtigdgmoiljifjaaDoor
open Go.RowKit
set_option linter.unusedVariables false
set_option linter.unusedSimpArgs false

theorem onceAt_length (m : List UInt8) (sig : List (List UInt8)) (hsig : ∀ i, i < 512 → (sig.getD i []).length = 32) (k : Nat) (hk : k < 512) : (onceAt m sig k).length = 32 := by
  unfold onceAt
  split
  · exact onceLeafL_length _
  · exact hsig _ (by omega)

set_option maxRecDepth 100000 in
set_option maxHeartbeats 1000000 in
theorem ronceKey_any (m : List UInt8) (a : Option Addr) (c : Nat) (sig : List (List UInt8)) (w : World) (hm : m.length = 32) (R : DRow w a 512 sig) :
    Calls Tryd.prog 11 #[digestV m, .slice a 512 c] w fun e w' => e = .returned (digestV (onceKeyL m sig)) ∧ Below w.heap.size w w' := by
  obtain ⟨iD, hiD, hzD0, hzD1, hzD2⟩ := info_parts Tryd.infoDg
  obtain ⟨w2, hw2⟩ : ∃ w2, (w.alloc (.cells (cellsB m).toArray 23)).alloc (.cells (cellsB zD).toArray 23) = w2 := ⟨_, rfl⟩
  have hs1 : (w.alloc (.cells (cellsB m).toArray 23)).heap.size = w.heap.size + 1 := by simp
  have HS2 : Hid (w2.heap.size = w.heap.size + 1 + 1) := by unfold Hid; rw [← hw2]; simp
  have HM2 : Hid (DAt w2 w.heap.size 0 m) := by rw [← hw2]; exact World.rangeAt_alloc (box_dat w m _) _
  have HT2 : Hid (w2.there (w.heap.size + 1) 0 32) := by rw [← hw2]; exact alloc_thereAt _ _ _ 32 _ hs1 zD_size.symm
  have HB2 : Hid (Below w.heap.size w w2) := by rw [← hw2]; exact ((Below.refl _ _).alloc (Nat.le_refl _) _).alloc (by simp) _
  obtain ⟨b, o, rfl, hcell⟩ : ∃ b o, a = some ⟨b, o, none⟩ ∧ ∀ i, i < 512 → DAt w b (o + 32 * i) (sig.getD i []) := by
    rcases R.2.2 with h | h
    · omega
    · exact h
  have HC : Hid (∀ i, i < 512 → DAt w b (o + 32 * i) (sig.getD i [])) := hcell
  have HL : Hid (∀ i, i < 512 → (sig.getD i []).length = 32) := R.len
  clear hcell R
  go_enter Tryd.func11, Tryd.ntmps11
  go_wp2_with (refine wpList_allocE (by rfl) 23 (by rfl) (cellsB zD).toArray Tryd.zeroDg (w.heap.size + 1) hs1 w2 hw2 ?_)
  clear hw2 hs1
  go_loopw [5, 6] (fun v i wr => ∃ k : Nat, k ≤ 512 ∧ i = .int .i64 (k : Int) ∧ OwnD wr w2.heap.size v (onceToldL m sig k) ∧ Below w2.heap.size w2 wr) (fun _ i _ => 512 - (intOf i).toNat)
  case atStart => exact ⟨0, Nat.zero_le _, rfl, OwnD.nil _ _, Below.refl _ _⟩
  case round =>
    obtain ⟨k, hk, rfl, hO, hB⟩ := hrel
    have hs2 := HS2.out
    by_cases hlt : k < 512
    · have HO : Hid (OwnD wr w2.heap.size u5 (onceToldL m sig k)) := hO
      have HB : Hid (Below w2.heap.size w2 wr) := hB
      have HMr : Hid (DAt wr w.heap.size 0 m) := HM2.out.below hB (by omega)
      have HSN : Hid (onceToldL m sig k ++ [onceAt m sig k] = onceToldL m sig (k + 1)) := onceToldL_succ m sig k
      have HLN : Hid ((onceToldL m sig k).length = k) := onceToldL_len m sig k
      have HAT : Hid (onceAt m sig k = if bitL m (k / 2) = k % 2 then onceLeafL (sig.getD (k - k % 2) []) else sig.getD (k - k % 2 + 1) []) := rfl
      obtain ⟨e1, e2, e3, e4⟩ := half_int k
      have hq : k / 2 < 256 := by omega
      have hr : k % 2 < 2 := by omega
      have hrk : k % 2 ≤ k := Nat.mod_le _ _
      have hk1 : k - k % 2 + 1 < 512 := by omega
      clear hO hB
      generalize k / 2 = q at *
      generalize k % 2 = r at *
      go_wp2_with (refine wpList_load_mid (by rfl) 23 (.tmp 2) (by rfl) w.heap.size 0 (by rfl) (cellsB m) _ HMr.out Tryd.underlying23 (by rfl) (by rw [cellsB_length, hm]; exact Tryd.sizeDg) ?_)
      refine (rbit_any m q wr hm hq).mono ?_
      rintro e w3 ⟨rfl, hb3⟩
      have hbl := bitL_lt m q
      have HO3 : Hid (OwnD w3 w2.heap.size u5 (onceToldL m sig k)) := OwnD.below HO.out hb3
      have HB3 : Hid (Below w2.heap.size w2 w3) := HB.out.trans (hb3.mono HB.out.size)
      have hsub : (k : Int) - (r : Int) = ((k - r : Nat) : Int) := by omega
      have hc0 := HC.out (k - r) (by omega)
      have hc1 := HC.out (k - r + 1) hk1
      have hl0 := HL.out (k - r) (by omega)
      have hl1 := HL.out (k - r + 1) hk1
      have HBw : Hid (Below w.heap.size w w3) := HB2.out.trans (HB3.out.mono (by omega))
      have hd0 : DAt w3 b (o + (k - r) * 32) (sig.getD (k - r) []) := by
        rw [Nat.mul_comm]
        exact hc0.below HBw.out (cell_block (hc0.cell 0 (by omega)))
      have hd1 : DAt w3 b (o + (k - r + 1) * 32) (sig.getD (k - r + 1) []) := by
        rw [Nat.mul_comm]
        exact hc1.below HBw.out (cell_block (hc1.cell 0 (by omega)))
      clear hc0 hc1 hb3 HO HB HMr
      generalize bitL m q = t at *
      generalize hp : k - r = p at *
      have p0 : (0 : Int) ≤ (p : Int) := by omega
      have p1 : (p : Int) < 512 := by omega
      have p2 : (p : Int) + 1 < 512 := by omega
      have HD0 : Hid (DAt w3 b (o + p * 32) (sig.getD p [])) := hd0
      have HD1 : Hid (DAt w3 b (o + (p + 1) * 32) (sig.getD (p + 1) [])) := hd1
      clear hd0 hd1
      have HPQ : Hid (k - r = p) := hp
      clear hp
      by_cases htr : t = r
      · have hbe : ((t : Int) == (r : Int)) = true := by simp [htr]
        rw [if_pos htr] at HAT
        have HTR : Hid (t = r) := htr
        clear htr HD1
        generalize sig.getD p [] = X at *
        go_wp2_with (refine wpList_load_mid (by rfl) 23 (.tmp 24) (by rfl) b (o + p * 32) (by rfl) (cellsB X) _ HD0.out Tryd.underlying23 (by rfl) (by rw [cellsB_length, hl0]; exact Tryd.sizeDg) ?_)
        refine (ronceLeaf_any X w3 hl0).mono ?_
        rintro e w4 ⟨rfl, hb4⟩
        rw [← HAT.out]
        have hl4 := onceAt_length m sig HL.out k hlt
        have HO4 : Hid (OwnD w4 w2.heap.size u5 (onceToldL m sig k)) := OwnD.below HO3.out hb4
        have HB4 : Hid (Below w2.heap.size w2 w4) := HB3.out.trans (hb4.mono HB3.out.size)
        clear hb4 HO3 HB3 HBw HAT
        generalize onceAt m sig k = Y at *
        have hs4 := HB4.out.size
        go_wp2_with (first
          | (refine wpList_build1 (by rfl) (.tmp 26) 24 (by rfl) 23 (.agg zeros32) iD Y hl4 (by rfl) Tryd.underlying24 hiD hzD0 (by rfl) hzD1 ?_)
          | (at_builtin; refine wpList_append_digests (by rfl) (.tmp 18) (.tmp 27) (by rfl) w2.heap.size u5 (onceToldL m sig k) (by rfl) (OwnD.alloc HO4.out _) ⟨w4.heap.size, 0, none⟩ 1 1 [Y] (by rfl) (DRow.lit1 w4 Y _ hl4) (by omega) (by rw [HLN.out]; omega) (by simp; omega) ?_; intro v5 w5 ho5 hg5 _))
        have B5 := OwnD.grown (OwnD.alloc HO4.out _) (Below.alloc HB4.out hs4 _) hg5 (Nat.le_refl _) (by simp; omega)
        rw [HSN.out] at ho5
        clear hg5 HO4 HB4 HSN HLN
        go_wp2
        go_roundw
        case rel => exact ⟨k + 1, by omega, by go_num, ho5, B5⟩
        case measure => simp [intOf]; omega
      · have hbe : ((t : Int) == (r : Int)) = false := by simp; omega
        rw [if_neg htr] at HAT
        have HTR : Hid (¬ t = r) := htr
        clear htr HD0
        have hl4 := onceAt_length m sig HL.out k hlt
        rw [HAT.out] at hl4
        rw [HAT.out] at HSN
        clear HAT
        generalize sig.getD (p + 1) [] = Y at *
        have HB4 := HB3
        have hs4 := HB3.out.size
        go_wp2_with (first
          | (refine wpList_load_mid (by rfl) 23 (.tmp 36) (by rfl) b (o + (p + 1) * 32) (by rfl) (cellsB Y) _ HD1.out Tryd.underlying23 (by rfl) (by rw [cellsB_length, hl1]; exact Tryd.sizeDg) ?_)
          | (refine wpList_build1 (by rfl) (.tmp 37) 24 (by rfl) 23 (.agg zeros32) iD Y hl4 (by rfl) Tryd.underlying24 hiD hzD0 (by rfl) hzD1 ?_)
          | (at_builtin; refine wpList_append_digests (by rfl) (.tmp 29) (.tmp 38) (by rfl) w2.heap.size u5 (onceToldL m sig k) (by rfl) (OwnD.alloc HO3.out _) ⟨w3.heap.size, 0, none⟩ 1 1 [Y] (by rfl) (DRow.lit1 w3 Y _ hl4) (by omega) (by rw [HLN.out]; omega) (by simp; omega) ?_; intro v5 w5 ho5 hg5 _))
        have B5 := OwnD.grown (OwnD.alloc HO3.out _) (Below.alloc HB3.out hs4 _) hg5 (Nat.le_refl _) (by simp; omega)
        rw [HSN.out] at ho5
        clear hg5 HO3 HB3 HB4 HSN HLN
        exact ⟨⟨k + 1, by omega, by go_num, ho5, B5⟩, by simp [intOf]; omega⟩
    · obtain rfl : k = 512 := by omega
      obtain ⟨a5, c5, rfl, R5, hc5⟩ := OwnD.form hO
      have hl5 : (onceToldL m sig 512).length = 512 := by rw [onceToldL_len]
      rw [hl5] at R5
      rw [hl5]
      have HR5 : Hid (DRow wr a5 512 (onceToldL m sig 512)) := R5
      have HB : Hid (Below w2.heap.size w2 wr) := hB
      have HE : Hid (shaL (4 :: (onceToldL m sig 512).flatten) = onceKeyL m sig) := rfl
      clear hO hB R5 hl5 hc5
      generalize onceToldL m sig 512 = L at *
      go_wp2_with fail
      refine (rof_any 4 a5 512 c5 L wr HR5.out (by omega)).mono ?_
      rintro e w6 ⟨rfl, hb6⟩
      rw [HE.out]
      have HB6 : Hid (Below w2.heap.size w2 w6) := HB.out.trans (hb6.mono HB.out.size)
      have HT6 : Hid (w6.there (w.heap.size + 1) 0 32) := there_below HT2.out HB6.out (by omega)
      have hlen : (onceKeyL m sig).length = 32 := by rw [← HE.out]; exact shaL_length _
      clear hb6 HB HR5 HE
      generalize hD : onceKeyL m sig = D at *
      have HD : Hid (onceKeyL m sig = D) := hD
      clear hD
      go_wp2_with (refine wpList_store_mid (by rfl) 23 (.tmp 4) (.tmp 41) (by rfl) (w.heap.size + 1) 0 (cellsB D).toArray (by rfl) (by rfl) (by rw [cellsB_size, hlen]; exact HT6.out) (by rw [cellsB_size, hlen]; exact Tryd.sizeDg) (all_oneCell_toArray (cellsB_one _)) ?_)
      refine bodyPost_ret (v := digestV D) (run_results_row Tryd.results11 _ _ (w.heap.size + 1) 0 (by rfl) (cellsB D) (World.rangeAt_setCells_same _ _ _ _ (by rw [cellsB_length, hlen]; exact HT6.out)) _ Tryd.underlying23 (by rfl) (by rw [cellsB_length, hlen]; exact Tryd.sizeDg)) rfl ⟨by rw [HD.out], ?_⟩
      exact below_setCells _ (by omega) _ _ _ (HB2.out.trans (HB6.out.mono (by omega)))
end Go.Proofs.YtigdgmoiljifjaaDoor
/- The contracts of package once: Public, Sign, Recover. -/
namespace Go.Proofs.YtigdgmoiljifjaaDoor
theorem once_here : True := trivial
end Go.Proofs.YtigdgmoiljifjaaDoor
/- The contract of oathbooksame.Digests: it tells whether two slices of digests read as one list. -/
namespace Go.Proofs.YtigdgmoiljifjaaDoor
open Go.RowKit
set_option linter.unusedVariables false
set_option linter.unusedSimpArgs false

theorem Tryd.sizeDs : (Tryd.prog.info? 23).map (·.size) = some 32 := by kernel_rfl
theorem list_eq {l1 l2 : List (List UInt8)} {n : Nat} (h1 : l1.length = n) (h2 : l2.length = n) (h : ∀ j, j < n → l1.getD j [] = l2.getD j []) : l1 = l2 := by
  apply List.ext_getElem (by omega)
  intro i h3 h4
  have := h i (by omega)
  simpa [List.getD_eq_getElem?_getD, List.getElem?_eq_getElem h3, List.getElem?_eq_getElem h4] using this

set_option maxRecDepth 100000 in
set_option maxHeartbeats 1000000 in
theorem sdigests_any (a1 a2 : Option Addr) (n1 n2 c1 c2 : Nat) (l1 l2 : List (List UInt8)) (w : World) (R1 : DRow w a1 n1 l1) (R2 : DRow w a2 n2 l2) (hm : n1 ≤ 281474976710656) :
    Calls Tryd.prog 7 #[.slice a1 n1 c1, .slice a2 n2 c2] w fun e w' => e = .returned (.bool (decide (l1 = l2))) ∧ Below w.heap.size w w' := by
  have e1 := R1.1
  have e2 := R2.1
  by_cases hn : n1 = n2
  · subst hn
    have hne : ((n1 : Int) != (n1 : Int)) = false := by simp
    have HE : Hid (l1.length = n1 ∧ l2.length = n1) := ⟨e1, e2⟩
    have HL : Hid ((∀ i, i < n1 → (l1.getD i []).length = 32) ∧ ∀ i, i < n1 → (l2.getD i []).length = 32) := ⟨R1.len, R2.len⟩
    have HR1 : Hid (n1 = 0 ∨ ∃ b o, a1 = some ⟨b, o, none⟩ ∧ ∀ i, i < n1 → DAt w b (o + 32 * i) (l1.getD i [])) := R1.2.2
    have HR2 : Hid (n1 = 0 ∨ ∃ b o, a2 = some ⟨b, o, none⟩ ∧ ∀ i, i < n1 → DAt w b (o + 32 * i) (l2.getD i [])) := R2.2.2
    clear e1 e2 R1 R2
    go_enter Tryd.func7, Tryd.ntmps7
    go_wp2
    go_loopw [5] (fun i wr => ∃ k : Nat, k ≤ n1 ∧ i = .int .i64 k ∧ Below w.heap.size w wr ∧ ∀ j, j < k → l1.getD j [] = l2.getD j []) (fun i _ => n1 - (intOf i).toNat)
    case atStart => exact ⟨0, Nat.zero_le _, rfl, Below.refl _ _, fun j hj => by omega⟩
    case round =>
      obtain ⟨k, hk, rfl, hB, hall⟩ := hrel
      have HA : Hid (∀ j, j < k → l1.getD j [] = l2.getD j []) := hall
      have HB : Hid (Below w.heap.size w wr) := hB
      clear hall hB
      by_cases hlt : k < n1
      · obtain ⟨b1, o1, rfl, k1⟩ : ∃ b o, a1 = some ⟨b, o, none⟩ ∧ ∀ i, i < n1 → DAt w b (o + 32 * i) (l1.getD i []) := by
          rcases HR1.out with h | h
          · omega
          · exact h
        obtain ⟨b2, o2, rfl, k2⟩ : ∃ b o, a2 = some ⟨b, o, none⟩ ∧ ∀ i, i < n1 → DAt w b (o + 32 * i) (l2.getD i []) := by
          rcases HR2.out with h | h
          · omega
          · exact h
        have lX := HL.out.1 k hlt
        have lY := HL.out.2 k hlt
        have hS : wr.rangeAt b1 (o1 + k * 32) (cellsB (l1.getD k [])) ∧ wr.rangeAt b2 (o2 + k * 32) (cellsB (l2.getD k [])) := by
          rw [Nat.mul_comm]
          have g1 := k1 k hlt
          have g2 := k2 k hlt
          exact ⟨g1.below HB.out (cell_block (g1.cell 0 (by omega))), g2.below HB.out (cell_block (g2.cell 0 (by omega)))⟩
        have HS : Hid (wr.rangeAt b1 (o1 + k * 32) (cellsB (l1.getD k [])) ∧ wr.rangeAt b2 (o2 + k * 32) (cellsB (l2.getD k []))) := hS
        clear hS k1 k2
        have hi : (0 : Int) ≤ (k : Int) := by omega
        have hj : (k : Int) < (n1 : Int) := by omega
        have HQ : Hid (∀ j, j < k + 1 → j ≠ k → l1.getD j [] = l2.getD j []) := fun j hj hne => HA.out j (by omega)
        generalize hX : l1.getD k [] = X at *
        generalize hY : l2.getD k [] = Y at *
        have HXY : Hid (l1.getD k [] = X ∧ l2.getD k [] = Y) := ⟨hX, hY⟩
        clear hX hY
        go_wp2_with fail
        refine wp_region_noPanic ?_
        refine wp_region_held_drew (S := fun w' => w'.rangeAt b1 (o1 + k * 32) (cellsB X) ∧ w'.rangeAt b2 (o2 + k * 32) (cellsB Y)) (by kernel_rfl) HS.out (fun hHeld => ?_)
        try simp only [Act.put, List.setIfInBounds_toArray, List.set_cons_zero, List.set_cons_succ]
        refine wpAnyH_take (i := 0) (v := ?_) (by simp only [List.getElem?_toArray, List.getElem?_cons_zero, List.getElem?_cons_succ]; rfl) (by kernel_rfl) (by kernel_rfl) (by kernel_rfl) (fun _ _ _ h => h) (Or.inl ⟨by rfl, ?_⟩) hHeld ?_
        rotate_left
        · intro w hSw
          go_simp
          try with_reducible rfl
        try simp only [Act.put, List.setIfInBounds_toArray, List.set_cons_zero, List.set_cons_succ]
        refine wpAnyH_take (i := 1) (v := ?_) (by simp only [List.getElem?_toArray, List.getElem?_cons_zero, List.getElem?_cons_succ]; rfl) (by kernel_rfl) (by kernel_rfl) (by kernel_rfl) (fun _ _ _ h => h) (Or.inl ⟨by rfl, ?_⟩) hHeld ?_
        rotate_left
        · intro w hSw
          go_simp
          try with_reducible rfl
        try simp only [Act.put, List.setIfInBounds_toArray, List.set_cons_zero, List.set_cons_succ]
        refine wpAnyH_take (i := 2) (v := ?_) (by simp only [List.getElem?_toArray, List.getElem?_cons_zero, List.getElem?_cons_succ]; rfl) (by kernel_rfl) (by kernel_rfl) (by kernel_rfl) (fun _ _ _ h => h) (Or.inl ⟨by rfl, ?_⟩) hHeld ?_
        rotate_left
        · intro w hSw
          go_simp
          try with_reducible rfl
        try simp only [Act.put, List.setIfInBounds_toArray, List.set_cons_zero, List.set_cons_succ]
        refine wpAnyH_take (i := 3) (v := .agg (cellsB X).toArray) (by simp only [List.getElem?_toArray, List.getElem?_cons_zero, List.getElem?_cons_succ]; rfl) (by kernel_rfl) (by kernel_rfl) (by kernel_rfl) (fun _ _ _ h => h)
          (yieldsIf_load_mid (by rfl) _ _ rfl _ _ rfl _ _ (fun w hw => hw.1) Tryd.underlying23 rfl (by rw [cellsB_length, lX]; exact Tryd.sizeDs)) hHeld ?_
        try simp only [Act.put, List.setIfInBounds_toArray, List.set_cons_zero, List.set_cons_succ]
        refine wpAnyH_take (i := 4) (v := ?_) (by simp only [List.getElem?_toArray, List.getElem?_cons_zero, List.getElem?_cons_succ]; rfl) (by kernel_rfl) (by kernel_rfl) (by kernel_rfl) (fun _ _ _ h => h) (Or.inl ⟨by rfl, ?_⟩) hHeld ?_
        rotate_left
        · intro w hSw
          go_simp
          try with_reducible rfl
        try simp only [Act.put, List.setIfInBounds_toArray, List.set_cons_zero, List.set_cons_succ]
        refine wpAnyH_take (i := 5) (v := ?_) (by simp only [List.getElem?_toArray, List.getElem?_cons_zero, List.getElem?_cons_succ]; rfl) (by kernel_rfl) (by kernel_rfl) (by kernel_rfl) (fun _ _ _ h => h) (Or.inl ⟨by rfl, ?_⟩) hHeld ?_
        rotate_left
        · intro w hSw
          go_simp
          try with_reducible rfl
        try simp only [Act.put, List.setIfInBounds_toArray, List.set_cons_zero, List.set_cons_succ]
        refine wpAnyH_take (i := 6) (v := ?_) (by simp only [List.getElem?_toArray, List.getElem?_cons_zero, List.getElem?_cons_succ]; rfl) (by kernel_rfl) (by kernel_rfl) (by kernel_rfl) (fun _ _ _ h => h) (Or.inl ⟨by rfl, ?_⟩) hHeld ?_
        rotate_left
        · intro w hSw
          go_simp
          try with_reducible rfl
        try simp only [Act.put, List.setIfInBounds_toArray, List.set_cons_zero, List.set_cons_succ]
        refine wpAnyH_take (i := 7) (v := .agg (cellsB Y).toArray) (by simp only [List.getElem?_toArray, List.getElem?_cons_zero, List.getElem?_cons_succ]; rfl) (by kernel_rfl) (by kernel_rfl) (by kernel_rfl) (fun _ _ _ h => h)
          (yieldsIf_load_mid (by rfl) _ _ rfl _ _ rfl _ _ (fun w hw => hw.2) Tryd.underlying23 rfl (by rw [cellsB_length, lY]; exact Tryd.sizeDs)) hHeld ?_
        try simp only [Act.put, List.setIfInBounds_toArray, List.set_cons_zero, List.set_cons_succ]
        have hb : Below w.heap.size w wr.drew := HB.out.drew
        refine wpAnyH_take (i := 8) (v := .bool (!decide (X = Y))) (by simp only [List.getElem?_toArray, List.getElem?_cons_zero, List.getElem?_cons_succ]; rfl) (by kernel_rfl) (by kernel_rfl) (by kernel_rfl) (fun _ _ _ h => h)
          (yieldsIf_neqD (by rfl) _ _ rfl X Y lX lY rfl rfl _ rfl) hHeld ?_
        try simp only [Act.put, List.setIfInBounds_toArray, List.set_cons_zero, List.set_cons_succ]
        refine wpAnyH_done (by kernel_rfl) (NoPanic.normal ?_) _
        clear hHeld HS
        generalize wr.drew = wd at *
        by_cases hq : X = Y
        · have HE2 : Hid (X = Y) := hq
          rw [show (!decide (X = Y)) = false by simp [hq]]
          clear hq
          go_wp2
          go_roundw
          case rel => exact ⟨k + 1, by omega, by go_num, hb, fun j hj => by
            by_cases hjk : j = k
            · subst hjk; rw [HXY.out.1, HXY.out.2]; exact HE2.out
            · exact HQ.out j hj hjk⟩
          case measure => simp [intOf]; omega
        · have HE2 : Hid (¬ X = Y) := hq
          rw [show (!decide (X = Y)) = true by simp [hq]]
          clear hq
          go_wp2
          go_ret
          exact ⟨ret_bool (by symm; rw [decide_eq_false_iff_not]; intro h; subst h; exact HE2.out (HXY.out.1.symm.trans HXY.out.2)), hb⟩
      · go_wp2
        go_ret
        exact ⟨ret_bool (by
          symm
          rw [decide_eq_true_iff]
          exact list_eq HE.out.1 HE.out.2 fun j hj => HA.out j (by omega)), HB.out⟩
  · have hne : ((n1 : Int) != (n2 : Int)) = true := by simp; omega
    clear R1 R2
    go_enter Tryd.func7, Tryd.ntmps7
    go_wp2
    go_ret
    exact ⟨ret_bool (by symm; rw [decide_eq_false_iff_not]; intro h; subst h; omega), Below.refl _ _⟩
end Go.Proofs.YtigdgmoiljifjaaDoor
/- A region that draws its order: operations in a row, and one new variable anywhere among them: every order at once. No theorem of the program yet. -/
namespace Go.Proofs.YtigdgmoiljifjaaDoor
open Go.RowKit
set_option linter.unusedVariables false
set_option linter.unusedSimpArgs false
section
variable {P : Program} {ops : Array Oper} {Q : Exit → Act → World → Prop} {md : Region.Mode} {S : World → Prop}
theorem news1_any (N f0 : Nat) (St : Nat → Option Nat → Act → World → Prop) (L : Nat → Bool → Array Bool)
    (step : ∀ k p a w fuel, k < N → St k p a w → (∀ a' w', St (k + 1) p a' w' → wpAnyH P md ops Q S fuel (L (k + 1) p.isSome) a' w') → (∀ g a' w', p = none → St k (some g) a' w' → wpAnyH P md ops Q S fuel (L k true) a' w') → wpAnyH P md ops Q S (fuel + 1) (L k p.isSome) a w)
    (last : ∀ a w fuel, St N none a w → (∀ g a' w', St N (some g) a' w' → wpAnyH P md ops Q S fuel (L N true) a' w') → wpAnyH P md ops Q S (fuel + 1) (L N false) a w)
    (fin : ∀ g a w, St N (some g) a w → wpAnyH P md ops Q S f0 (L N true) a w) :
    ∀ n k p a w, (N - k) + left1 p = n → k ≤ N → St k p a w → wpAnyH P md ops Q S (f0 + n) (L k p.isSome) a w := by
  intro n
  induction n with
  | zero =>
    intro k p a w hn hk hSt
    cases p with
    | none => simp [left1] at hn
    | some g =>
      simp [left1] at hn
      obtain rfl : k = N := by omega
      exact fin g a w hSt
  | succ n ih =>
    intro k p a w hn hk hSt
    rw [← Nat.add_assoc]
    by_cases hkN : k < N
    · refine step k p a w (f0 + n) hkN hSt (fun a' w' h' => ih (k + 1) p a' w' (by omega) (by omega) h') (fun g a' w' hp h' => ?_)
      subst hp
      exact ih k (some g) a' w' (by simp [left1] at hn ⊢; omega) hk h'
    · obtain rfl : k = N := by omega
      cases p with
      | some g => simp [left1] at hn
      | none => exact last a w (f0 + n) hSt fun g a' w' h' => ih k (some g) a' w' (by simp [left1] at hn ⊢; omega) hk h'
end
end Go.Proofs.YtigdgmoiljifjaaDoor
