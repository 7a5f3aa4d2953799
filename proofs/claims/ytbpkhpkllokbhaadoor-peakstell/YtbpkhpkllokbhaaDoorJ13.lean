/- Texts of this claim, joined: Rtree, Rpeaks, Sdigests. -/
import Derived.Test.YtbpkhpkllokbhaaDoorJ12
import Derived.Test.YtbpkhpkllokbhaaDoorJ09
import Derived.Test.YtbpkhpkllokbhaaDoorJ07
import Derived.Test.YtbpkhpkllokbhaaDoorJ10
import Derived.Test.YtbpkhpkllokbhaaDoorYPeaks
import Derived.Deep.RegionHeld3
import Derived.Deep.Onto
import Derived.Test.YtbpkhpkllokbhaaDoorJ08
/- The contracts of oathbookref1.Leaf, Node, Half and Long. -/
namespace Go.Proofs.YtbpkhpkllokbhaaDoor
open Go.RowKit
set_option linter.unusedVariables false
set_option linter.unusedSimpArgs false

theorem Tryd.infoTu8 : (Tryd.prog.info? 5).map (fun i => (i.zero, i.size, i.bytes)) = some (some (.int .u8 0), 1, 1) := by kernel_rfl
set_option maxRecDepth 100000 in
set_option maxHeartbeats 1000000 in
theorem rnode_any (l r : List UInt8) (w : World) (hl : l.length = 32) (hr : r.length = 32) :
    Calls Tryd.prog 14 #[digestV l, digestV r] w fun e w' => e = .returned (digestV (nodeT l r)) ∧ Below w.heap.size w w' := by
  obtain ⟨iD, hiD, hzD0, hzD1, hzD2⟩ := info_parts Tryd.infoDg
  obtain ⟨w2, hw2⟩ : ∃ w2, ((w.alloc (.cells (cellsB l).toArray 24)).alloc (.cells (cellsB r).toArray 24)).alloc (.cells (cellsB zD).toArray 24) = w2 := ⟨_, rfl⟩
  have hs0 : (w.alloc (.cells (cellsB l).toArray 24)).heap.size = w.heap.size + 1 := by simp
  have hs1 : ((w.alloc (.cells (cellsB l).toArray 24)).alloc (.cells (cellsB r).toArray 24)).heap.size = w.heap.size + 1 + 1 := by simp
  have hs2 : w2.heap.size = w.heap.size + 1 + 1 + 1 := by rw [← hw2]; simp
  have HD2 : Hid (DAt w2 w.heap.size 0 l ∧ DAt w2 (w.heap.size + 1) 0 r) := by rw [← hw2]; exact ⟨World.rangeAt_alloc (World.rangeAt_alloc (box_dat w l _) _) _, World.rangeAt_alloc (box_rangeAt _ _ _ _ hs0) _⟩
  have HT2 : Hid (w2.there (w.heap.size + 1 + 1) 0 32) := by rw [← hw2]; exact alloc_thereAt _ _ _ 32 _ hs1 zD_size.symm
  have HB2 : Hid (Below w.heap.size w w2) := by rw [← hw2]; exact (((Below.refl _ _).alloc (Nat.le_refl _) _).alloc (by simp) _).alloc (by simp; omega) _
  have hb3 : Below w2.heap.size w2 (w2.alloc (.cells (cellsB (l ++ r)).toArray 24)) := (Below.refl _ _).alloc (Nat.le_refl _) _
  have HR3 : Hid (DRow (w2.alloc (.cells (cellsB (l ++ r)).toArray 24)) (some ⟨w.heap.size + 1 + 1 + 1, 0, none⟩) 2 [l, r]) := by rw [← hs2]; exact DRow.lit2 w2 l r _ hl hr
  have HB3 : Hid (Below w.heap.size w (w2.alloc (.cells (cellsB (l ++ r)).toArray 24))) := below_trans HB2.out hb3
  have HT3 : Hid ((w2.alloc (.cells (cellsB (l ++ r)).toArray 24)).there (w.heap.size + 1 + 1) 0 32) := there_below HT2.out hb3 (by omega)
  have HS3 : Hid ((w2.alloc (.cells (cellsB (l ++ r)).toArray 24)).heap.size = w.heap.size + 1 + 1 + 1 + 1) := by unfold Hid; simp [hs2]
  clear hb3
  go_enter Tryd.func14, Tryd.ntmps14
  go_wp2_with (first
    | (refine wpList_allocE (by rfl) 24 (by rfl) (cellsB zD).toArray Tryd.zeroDg (w.heap.size + 1 + 1) hs1 w2 hw2 ?_)
    | (refine wpList_load_mid (by rfl) 24 (.tmp 2) (by rfl) w.heap.size 0 (by rfl) (cellsB l) _ HD2.out.1 Tryd.underlying24 (by rfl) (by rw [cellsB_length, hl]; exact Tryd.sizeDg) ?_)
    | (refine wpList_load_mid (by rfl) 24 (.tmp 3) (by rfl) (w.heap.size + 1) 0 (by rfl) (cellsB r) _ HD2.out.2 Tryd.underlying24 (by rfl) (by rw [cellsB_length, hr]; exact Tryd.sizeDg) ?_)
    | (refine wpList_build2 (by rfl) (.tmp 5) (.tmp 6) 22 (by rfl) 24 (.agg zeros32) iD l r hl hr (by rfl) (by rfl) Tryd.underlying22 hiD hzD0 (by rfl) hzD1 ?_))
  try rw [hs2]
  refine (rof_any 1 _ 2 2 [l, r] _ HR3.out (by omega)).mono ?_
  rintro e w4 ⟨rfl, hb4⟩
  have hE : shaL (1 :: [l, r].flatten) = nodeT l r := by simp [nodeT]
  rw [hE]
  have HB4 : Hid (Below w.heap.size w w4) := below_trans HB3.out hb4
  have HT4 : Hid (w4.there (w.heap.size + 1 + 1) 0 32) := there_below HT3.out hb4 (by have := HS3.out; omega)
  have hlen := nodeT_length l r
  clear hb4 HB2 HT2 HD2 hw2 hs2 hs1 hs0 HR3 HB3 HT3 hE HS3
  generalize hD : nodeT l r = D at *
  have HD : Hid (nodeT l r = D) := hD
  clear hD
  go_wp2_with (refine wpList_store_mid (by rfl) 24 (.tmp 4) (.tmp 8) (by rfl) (w.heap.size + 1 + 1) 0 (cellsB D).toArray (by rfl) (by rfl) (by rw [cellsB_size, hlen]; exact HT4.out) (by rw [cellsB_size, hlen]; exact Tryd.sizeDg) (all_oneCell_toArray (cellsB_one _)) ?_)
  refine bodyPost_ret (v := digestV D) (run_results_row Tryd.results14 _ _ (w.heap.size + 1 + 1) 0 (by rfl) (cellsB D) (World.rangeAt_setCells_same _ _ _ _ (by rw [cellsB_length, hlen]; exact HT4.out)) _ Tryd.underlying24 (by rfl) (by rw [cellsB_length, hlen]; exact Tryd.sizeDg)) rfl ⟨by rw [HD.out], ?_⟩
  exact below_setCells _ (by omega) _ _ _ HB4.out

end Go.Proofs.YtbpkhpkllokbhaaDoor
/- The contracts of oathbookref1.Ones, Grown and Bagged. -/
namespace Go.Proofs.YtbpkhpkllokbhaaDoor
open Go.RowKit
set_option linter.unusedVariables false
set_option linter.unusedSimpArgs false

set_option maxRecDepth 100000 in
set_option maxHeartbeats 1000000 in
theorem rones_any (n : Nat) (w : World) (hn : n ≤ 1073741824) :
    Calls Tryd.prog 6 #[.int .i64 (n : Int)] w fun e w' => e = .returned (.int .i64 (onesT n : Int)) ∧ w' = w := by
  have h31 := onesT_30 hn
  go_enter Tryd.func6, Tryd.ntmps6
  go_wp2_with fail
  go_loopw [0, 3] (fun nv cv wr => ∃ m s : Nat, nv = .int .i64 (m : Int) ∧ cv = .int .i64 (s : Int) ∧ m ≤ n ∧ s ≤ 31 ∧ Hid (s + onesT m = onesT n) ∧ Hid (wr = w)) (fun nv _ _ => (intOf nv).toNat)
  case atStart => exact ⟨n, 0, rfl, rfl, Nat.le_refl _, by omega, by unfold Hid; omega, rfl⟩
  case round =>
    obtain ⟨m, s, rfl, rfl, hm, hs, HE, HW⟩ := hrel
    by_cases hlt : 0 < m
    · have g1 : (0 : Int) < (m : Int) := by omega
      have d1 : (m : Int).tdiv 2 = ((m / 2 : Nat) : Int) := by rw [Int.tdiv_eq_ediv_of_nonneg (by omega)]; omega
      have d2 : (m : Int) / 2 = ((m / 2 : Nat) : Int) := by omega
      have d3 : (m : Int).tmod 2 = ((m % 2 : Nat) : Int) := by rw [Int.tmod_eq_emod_of_nonneg (by omega)]; omega
      have d4 : (m : Int) % 2 = ((m % 2 : Nat) : Int) := by omega
      have HE2 : Hid (s + m % 2 + onesT (m / 2) = onesT n) := by
        have := HE.out
        rw [onesT_step (by omega)] at this
        unfold Hid
        omega
      have hs2 : s + m % 2 ≤ 31 := by have := HE2.out; omega
      have q1 : m / 2 < m := by omega
      have q2 : m % 2 < 2 := by omega
      generalize m / 2 = m' at *
      generalize m % 2 = r at *
      clear HE
      go_wp2_with fail
      go_roundw
      case rel => exact ⟨m', s + r, rfl, by go_num, by omega, hs2, HE2, HW⟩
      case measure => simp [intOf]; omega
    · obtain rfl : m = 0 := by omega
      have HS : Hid (onesT n = s) := by
        have := HE.out
        rw [onesT_zero] at this
        unfold Hid
        omega
      clear HE
      go_wp2_with fail
      go_ret
      exact ⟨by rw [HS.out]; rfl, HW.out⟩
set_option maxRecDepth 100000 in
set_option maxHeartbeats 1000000 in
theorem rgrown_any (n : Nat) (a : Option Addr) (p c : Nat) (ps : List (List UInt8)) (l : List UInt8) (w : World) (hn : n ≤ 1073741824) (R : DRow w a p ps) (hc : p ≤ c) (hp : p = onesT n) (hl : l.length = 32) :
    Calls Tryd.prog 7 #[.int .i64 (n : Int), .slice a p c, digestV l] w fun e w' => (∃ v, e = .returned v ∧ OwnD w' w.heap.size v (grownT n ps l)) ∧ Below w.heap.size w w' := by
  obtain ⟨iD, hiD, hzD0, hzD1, hzD2⟩ := info_parts Tryd.infoDg
  have h31 := onesT_30 hn
  obtain ⟨w2, hw2⟩ : ∃ w2, (w.alloc (.cells (cellsB l).toArray 24)) = w2 := ⟨_, rfl⟩
  have HS2 : Hid (w2.heap.size = w.heap.size + 1) := by unfold Hid; rw [← hw2]; simp
  have HB2 : Hid (Below w.heap.size w w2) := by rw [← hw2]; exact (Below.refl _ _).alloc (Nat.le_refl _) _
  have HL2 : Hid (DAt w2 w.heap.size 0 l) := by rw [← hw2]; exact box_dat w l _
  have HT2 : Hid (w2.there w.heap.size 0 32) := by rw [← hw2]; exact alloc_thereAt _ _ _ 32 _ rfl (by rw [cellsB_size, hl])
  have HB3 : Hid (Below w2.heap.size w2 (w2.alloc (.cells #[] 24))) := (Below.refl _ _).alloc (Nat.le_refl _) _
  have HR3 : Hid (DRow (w2.alloc (.cells #[] 24)) a p ps) := (R.below HB2.out).below HB3.out
  have HO3 : Hid (OwnD (w2.alloc (.cells #[] 24)) w2.heap.size (.slice (some ⟨w2.heap.size, 0, none⟩) 0 0) []) := OwnD.lit0 w2 _ (Nat.le_refl _)
  have HPL : Hid (ps.length = onesT n) := by rw [← hp]; exact R.1
  clear R
  go_enter Tryd.func7, Tryd.ntmps7
  go_wp2_with (at_builtin; refine wpList_append_digests_any (by rfl) (.tmp 8) (.tmp 9) (by rfl) w2.heap.size (.slice (some ⟨w2.heap.size, 0, none⟩) 0 0) [] (by rfl) HO3.out a p c ps (by rfl) HR3.out (by simp; omega) HB3.out.size ?_; intro v4 w4 ho4 hg4 _; have HO4 : Hid (OwnD w4 w2.heap.size v4 ps) := ho4; have HB4 : Hid (Below w2.heap.size w2 w4) := OwnD.grown HO3.out HB3.out hg4 (Nat.le_refl _) HB3.out.size; clear ho4 hg4)
  clear hw2 HB3 HR3 HO3
  go_loopw [0, 7] (fun nv ov wr => ∃ (m : Nat) (qs : List (List UInt8)) (x : List UInt8), nv = .int .i64 (m : Int) ∧ m ≤ n ∧ qs.length ≤ 31 ∧ x.length = 32 ∧ OwnD wr w2.heap.size ov qs ∧ wr.rangeAt w.heap.size 0 (cellsB x) ∧ wr.there w.heap.size 0 32 ∧ Below w.heap.size w wr ∧ w2.heap.size ≤ wr.heap.size ∧ Hid (grownT m qs x = grownT n ps l ∧ qs.length = onesT m)) (fun nv _ _ => (intOf nv).toNat)
  case atStart =>
    have s := HS2.out
    exact ⟨n, ps, l, rfl, Nat.le_refl _, by have := HPL.out; omega, hl, HO4.out, HL2.out.below HB4.out (by omega), there_below HT2.out HB4.out (by omega), HB2.out.trans (HB4.out.mono (by omega)), HB4.out.size, rfl, HPL.out⟩
  case round =>
    clear HO4 HB4 HL2 HT2 HPL
    obtain ⟨m, qs, x, rfl, hm, hq, hx, hO, hX, hT, hB, hS, HE⟩ := hrel
    have HO : Hid (OwnD wr w2.heap.size u7 qs) := hO
    have HX : Hid (wr.rangeAt w.heap.size 0 (cellsB x)) := hX
    have HT : Hid (wr.there w.heap.size 0 32) := hT
    have HB : Hid (Below w.heap.size w wr) := hB
    have HS : Hid (w2.heap.size ≤ wr.heap.size) := hS
    clear hO hX hT hB hS
    have d1 : (m : Int).tdiv 2 = ((m / 2 : Nat) : Int) := by rw [Int.tdiv_eq_ediv_of_nonneg (by omega)]; omega
    have d2 : (m : Int) / 2 = ((m / 2 : Nat) : Int) := by omega
    have d3 : (m : Int).tmod 2 = ((m % 2 : Nat) : Int) := by rw [Int.tmod_eq_emod_of_nonneg (by omega)]; omega
    have d4 : (m : Int) % 2 = ((m % 2 : Nat) : Int) := by omega
    by_cases hodd : m % 2 = 1
    · rw [hodd] at d3 d4
      have HLQ : Hid (qs.length = 1 + onesT (m / 2)) := by
        have := HE.out.2
        rw [onesT_step (by omega), hodd] at this
        exact this
      have hq0 : 0 < qs.length := by have := HLQ.out; omega
      obtain ⟨g, cap, hu7, hR, hcap, hg1, hg2, hmax⟩ := HO.out.formSome hq0
      subst hu7
      obtain ⟨j, hj⟩ : ∃ j, qs.length = j + 1 := ⟨qs.length - 1, by omega⟩
      have hD0 := hR.at j (by omega)
      have lD := hR.len j (by omega)
      have HE2 : Hid (grownT (m / 2) (qs.take j) (nodeT (qs.getD j []) x) = grownT n ps l ∧ (qs.take j).length = onesT (m / 2)) := by
        have := HE.out.1
        rw [grownT_odd hodd, hj, show j + 1 - 1 = j by omega] at this
        refine ⟨this, ?_⟩
        rw [List.length_take]
        have := HLQ.out
        omega
      have HO2 : Hid (∀ wx, Below wr.heap.size wr wx → OwnD wx w2.heap.size (.slice (some ⟨g, 0, none⟩) j cap) (qs.take j)) := fun wx hx => (HO.out.below hx).take rfl (by omega)
      have HGN : Hid (w.heap.size < g) := by have := HS2.out; unfold Hid; omega
      have HXD : Hid (∀ wx, Below wr.heap.size wr wx → wx.rangeAt g (j * 32) (cellsB (qs.getD j [])) ∧ wx.rangeAt w.heap.size 0 (cellsB x) ∧ wx.there w.heap.size 0 32 ∧ Below w.heap.size w wx) := fun wx hx => by
        have := HS.out
        have := HS2.out
        have hD1 : DAt wr g (j * 32) (qs.getD j []) := by simpa using hD0
        exact ⟨hD1.below hx hg2, range_below HX.out hx (by omega), there_below HT.out hx (by omega), HB.out.trans (hx.mono HB.out.size)⟩
      have hjl : (qs.take j).length = j := by rw [List.length_take]; omega
      have HJL : Hid ((qs.take j).length = j) := hjl
      have hj31 : j ≤ 30 := by omega
      have hjc : (j : Int) ≤ (cap : Int) := by omega
      have hmx : (cap : Int) ≤ 9223372036854775807 := by unfold maxLen at hmax; omega
      have q1 : m / 2 < m := by omega
      have q2 : m / 2 ≤ n := by omega
      have HQ1 : Hid (m / 2 < m) := q1
      have j0 : (0 : Int) ≤ (j : Int) := by omega
      have j1 : (j : Int) < (j : Int) + 1 := by omega
      have j2 : (j : Int) + 1 - 1 = (j : Int) := by omega
      have wj : IntKind.i64.wrap (j : Int) = (j : Int) := by rw [IntKind.wrap_i64]; omega
      rw [hj]
      clear hD0 hR hcap hg1 hg2 hmax HE HLQ HO HX HT HB hq0 hq hj hjl
      generalize qs.getD j [] = D at *
      generalize qs.take j = QT at *
      generalize m / 2 = m' at *
      go_wp2_with fail
      refine wp_region_noPanic ?_
      refine wp_region_till (S := fun wx => wx.rangeAt g (j * 32) (cellsB D) ∧ wx.rangeAt w.heap.size 0 (cellsB x)) 8 (by kernel_rfl) ⟨(HXD.out _ (below_drewN wr 1)).1, (HXD.out _ (below_drewN wr 1)).2.1⟩ (fun hHeld => ?_)
      try simp only [Act.put, List.setIfInBounds_toArray, List.set_cons_zero, List.set_cons_succ]
      have HBd : Hid (Below wr.heap.size wr wr.drew) := below_drewN wr 1
      generalize wr.drew = wd at *
      refine wpAnyT_take (i := 0) (v := ?_) (by simp only [List.getElem?_toArray, List.getElem?_cons_zero, List.getElem?_cons_succ]; rfl) (by kernel_rfl) (by kernel_rfl) (by kernel_rfl) (by kernel_rfl) (fun _ _ _ h => h) (Or.inl ⟨by rfl, ?_⟩) hHeld ?_
      rotate_left
      · intro w hSw
        obtain ⟨hSw0, hSw1⟩ := hSw
        go_simp
        try with_reducible rfl
      try simp only [Act.put, List.setIfInBounds_toArray, List.set_cons_zero, List.set_cons_succ]
      refine wpAnyT_take (i := 1) (v := ?_) (by simp only [List.getElem?_toArray, List.getElem?_cons_zero, List.getElem?_cons_succ]; rfl) (by kernel_rfl) (by kernel_rfl) (by kernel_rfl) (by kernel_rfl) (fun _ _ _ h => h) (Or.inl ⟨by rfl, ?_⟩) hHeld ?_
      rotate_left
      · intro w hSw
        obtain ⟨hSw0, hSw1⟩ := hSw
        go_simp
        try with_reducible rfl
      try simp only [Act.put, List.setIfInBounds_toArray, List.set_cons_zero, List.set_cons_succ]
      refine wpAnyT_take (i := 2) (v := ?_) (by simp only [List.getElem?_toArray, List.getElem?_cons_zero, List.getElem?_cons_succ]; rfl) (by kernel_rfl) (by kernel_rfl) (by kernel_rfl) (by kernel_rfl) (fun _ _ _ h => h) (Or.inl ⟨by rfl, ?_⟩) hHeld ?_
      rotate_left
      · intro w hSw
        obtain ⟨hSw0, hSw1⟩ := hSw
        go_simp
        try with_reducible rfl
      try simp only [Act.put, List.setIfInBounds_toArray, List.set_cons_zero, List.set_cons_succ]
      refine wpAnyT_take (i := 3) (v := ?_) (by simp only [List.getElem?_toArray, List.getElem?_cons_zero, List.getElem?_cons_succ]; rfl) (by kernel_rfl) (by kernel_rfl) (by kernel_rfl) (by kernel_rfl) (fun _ _ _ h => h) (Or.inl ⟨by rfl, ?_⟩) hHeld ?_
      rotate_left
      · intro w hSw
        obtain ⟨hSw0, hSw1⟩ := hSw
        go_simp
        try with_reducible rfl
      try simp only [Act.put, List.setIfInBounds_toArray, List.set_cons_zero, List.set_cons_succ]
      refine wpAnyT_take (i := 4) (v := .pointer (some ⟨g, j * 32, none⟩)) (by simp only [List.getElem?_toArray, List.getElem?_cons_zero, List.getElem?_cons_succ]; rfl) (by kernel_rfl) (by kernel_rfl) (by kernel_rfl) (by kernel_rfl) (fun _ _ _ h => h) (Or.inl ⟨by rfl, ?_⟩) hHeld ?_
      · intro w hSw
        obtain ⟨hSw0, hSw1⟩ := hSw
        go_simp
      try simp only [Act.put, List.setIfInBounds_toArray, List.set_cons_zero, List.set_cons_succ]
      refine wpAnyT_take (i := 5) (v := .agg (cellsB D).toArray) (by simp only [List.getElem?_toArray, List.getElem?_cons_zero, List.getElem?_cons_succ]; rfl) (by kernel_rfl) (by kernel_rfl) (by kernel_rfl) (by kernel_rfl) (fun _ _ _ h => h)
        (yieldsIf_load_mid (by rfl) _ _ rfl _ _ rfl _ _ (fun w hw => hw.1) Tryd.underlying24 rfl (by rw [cellsB_length, lD]; exact Tryd.sizeDg)) hHeld ?_
      try simp only [Act.put, List.setIfInBounds_toArray, List.set_cons_zero, List.set_cons_succ]
      refine wpAnyT_take (i := 6) (v := .agg (cellsB x).toArray) (by simp only [List.getElem?_toArray, List.getElem?_cons_zero, List.getElem?_cons_succ]; rfl) (by kernel_rfl) (by kernel_rfl) (by kernel_rfl) (by kernel_rfl) (fun _ _ _ h => h)
        (yieldsIf_load_mid (by rfl) _ _ rfl _ _ rfl _ _ (fun w hw => hw.2) Tryd.underlying24 rfl (by rw [cellsB_length, hx]; exact Tryd.sizeDg)) hHeld ?_
      try simp only [Act.put, List.setIfInBounds_toArray, List.set_cons_zero, List.set_cons_succ]
      refine wpAnyT_ready (rs := [7]) (by kernel_rfl) (by simp) ?_
      refine AllReadyT.cons (by simp only [List.getElem?_toArray, List.getElem?_cons_zero, List.getElem?_cons_succ]; rfl) (fun K hK => ?_) AllReadyT.nil
      rw [if_pos (by rfl)]
      go_simp
      refine (rnode_any D x wd lD hx).mono ?_
      rintro e wn ⟨rfl, hbn⟩
      have HBn : Hid (Below wr.heap.size wr wn) := HBd.out.trans (hbn.mono HBd.out.size)
      have lN := nodeT_length D x
      clear hbn HBd
      generalize nodeT D x = N at *
      go_wp2_with fail
      refine hK.out _ _ ⟨(HXD.out _ HBn.out).1, (HXD.out _ HBn.out).2.1⟩ (fun hHeld => ?_)
      clear hK K
      try simp only [Act.put, List.setIfInBounds_toArray, List.set_cons_zero, List.set_cons_succ]
      refine wpAnyT_ready (rs := [8]) (by kernel_rfl) (by simp) ?_
      refine AllReadyT.lastly (by simp only [List.getElem?_toArray, List.getElem?_cons_zero, List.getElem?_cons_succ]; rfl) rfl (fun K hK => ?_) AllReadyT.nil
      rw [if_pos (by rfl)]
      have HTn : Hid (wn.there w.heap.size 0 32) := (HXD.out _ HBn.out).2.2.1
      refine wp_store_mid _ _ _ rfl w.heap.size 0 (cellsB N).toArray rfl rfl (by rw [cellsB_size, lN]; exact HTn.out) (by rw [cellsB_size, lN]; exact Tryd.sizeDg) (all_oneCell_toArray (cellsB_one _)) ?_
      refine hK.out _ _ ?_
      clear hK K
      try simp only [Act.put, List.setIfInBounds_toArray, List.set_cons_zero, List.set_cons_succ]
      refine wpAnyT_done (by kernel_rfl) (NoPanic.normal ?_) _
      try clear hHeld
      go_wp2_with fail
      go_roundw
      case rel =>
        have := HS.out
        have := HS2.out
        have hgr := gro_setCells w.heap.size (cellsB N) 0 wn
        refine ⟨m', QT, N, rfl, by omega, by have := HJL.out; omega, lN, ⟨(HO2.out _ HBn.out).1, World.ownsRow.kept (HO2.out _ HBn.out).2 hgr (.inr (by intro e; have h : g = w.heap.size := Option.some.inj e; have := HGN.out; omega))⟩, World.rangeAt_setCells_same _ _ _ _ (by rw [cellsB_length, lN]; exact HTn.out), World.there_setCells HTn.out _ _ _, below_setCells _ (Nat.le_refl _) _ _ _ (HXD.out _ HBn.out).2.2.2, ?_, HE2⟩
        have h1 := hgr.size
        have h2 := HBn.out.size
        omega
      case measure => have := HQ1.out; simp [intOf]; omega
    · have hr0 : m % 2 = 0 := by omega
      rw [hr0] at d3 d4
      have HE2 : Hid (qs ++ [x] = grownT n ps l) := by
        have := HE.out.1
        rw [grownT_even hodd] at this
        exact this
      have HO5 : Hid (OwnD (wr.alloc (.cells (cellsB x).toArray 24)) w2.heap.size u7 qs) := OwnD.alloc HO.out _
      have HB5 : Hid (Below w.heap.size w (wr.alloc (.cells (cellsB x).toArray 24))) := Below.alloc HB.out HB.out.size _
      have HY5 : Hid (DRow (wr.alloc (.cells (cellsB x).toArray 24)) (some ⟨wr.heap.size, 0, none⟩) 1 [x]) := DRow.lit1 wr x _ hx
      have HS5 : Hid (w2.heap.size ≤ (wr.alloc (.cells (cellsB x).toArray 24)).heap.size) := by have := HS.out; unfold Hid; simp; omega
      clear HE
      go_wp2_with (first
        | (refine wpList_load_mid (by rfl) 24 (.tmp 5) (by rfl) w.heap.size 0 (by rfl) (cellsB x) _ HX.out Tryd.underlying24 (by rfl) (by rw [cellsB_length, hx]; exact Tryd.sizeDg) ?_)
        | (refine wpList_build1 (by rfl) (.tmp 30) 22 (by rfl) 24 (.agg zeros32) iD x hx (by rfl) Tryd.underlying22 hiD hzD0 (by rfl) hzD1 ?_)
        | (at_builtin; refine wpList_append_digests (by rfl) (.tmp 29) (.tmp 31) (by rfl) w2.heap.size u7 qs (by rfl) HO5.out ⟨wr.heap.size, 0, none⟩ 1 1 [x] (by rfl) HY5.out (by omega) (by omega) HS5.out ?_; intro v7 w7 ho7 hg7 _; have HO7 : Hid (OwnD w7 w2.heap.size v7 (qs ++ [x])) := ho7; have HB7 : Hid (Below w.heap.size w w7) := OwnD.grown HO5.out HB5.out hg7 (by have := HS2.out; omega) HB5.out.size; clear ho7 hg7))
      go_ret
      exact ⟨⟨_, rfl, by rw [← HE2.out]; exact ⟨HO7.out.1, World.ownsRow.mono HO7.out.2 (by have := HS2.out; omega)⟩⟩, HB7.out⟩
theorem bagT_two {ps : List (List UInt8)} (h : 2 ≤ ps.length) : bagT ps = nodeT (ps.getD 0 []) (bagT (ps.drop 1)) := by
  match ps, h with
  | p :: q :: r, _ => rfl
theorem bagT_one {ps : List (List UInt8)} (h : ps.length = 1) : bagT ps = ps.getD 0 [] := by
  match ps, h with
  | [p], _ => rfl
theorem bagT_none {ps : List (List UInt8)} (h : ps.length = 0) : bagT ps = shaL [] := by
  match ps, h with
  | [], _ => rfl
set_option maxRecDepth 100000 in
set_option maxHeartbeats 1000000 in
theorem rbag_any : ∀ (n : Nat), ∀ (a : Option Addr) (c : Nat) (ps : List (List UInt8)) (w : World), DRow w a n ps → n ≤ c → n ≤ 100000 →
    Calls Tryd.prog 8 #[.slice a n c] w fun e w' => e = .returned (digestV (bagT ps)) ∧ Below w.heap.size w w' := by
  intro n
  induction n using Nat.strongRecOn with
  | ind n ih =>
    intro a c ps w R hc hn
    have HI : Hid (∀ j, j < n → ∀ (a : Option Addr) (c : Nat) (ps : List (List UInt8)) (w : World), DRow w a j ps → j ≤ c → j ≤ 100000 → Calls Tryd.prog 8 #[.slice a j c] w fun e w' => e = .returned (digestV (bagT ps)) ∧ Below w.heap.size w w') := ih
    clear ih
    obtain ⟨w2, hw2⟩ : ∃ w2, w.alloc (.cells (cellsB zD).toArray 24) = w2 := ⟨_, rfl⟩
    have HS2 : Hid (w2.heap.size = w.heap.size + 1) := by unfold Hid; rw [← hw2]; simp
    have HB2 : Hid (Below w.heap.size w w2) := by rw [← hw2]; exact (Below.refl _ _).alloc (Nat.le_refl _) _
    have HT2 : Hid (w2.there w.heap.size 0 32) := by rw [← hw2]; exact alloc_thereAt _ _ _ 32 _ rfl zD_size.symm
    have HKT : Hid (∀ wx, Below w2.heap.size w2 wx → DRow wx a n ps ∧ wx.there w.heap.size 0 32 ∧ Below w.heap.size w wx) := fun wx hx => by
      have s := HS2.out
      have b : Below w.heap.size w wx := HB2.out.trans (hx.mono (by omega))
      exact ⟨R.below b, there_below HT2.out hx (by omega), b⟩
    have H0 : Hid (Below w2.heap.size w2 w2) := Below.refl _ _
    have HPL : Hid (ps.length = n) := R.1
    have HP32 : Hid (∀ j, j < n → (ps.getD j []).length = 32) := R.len
    have HPM : Hid (∀ q ∈ ps, q.length = 32) := R.2.1
    have HBN : Hid (∀ b o, a = some ⟨b, o, none⟩ → 0 < n → b ≠ w.heap.size) := fun b o e h => by
      subst e
      have := cell_block ((R.at 0 h).cell 0 (by rw [R.len 0 h]; omega))
      have : b < w.heap.size := this
      omega
    clear R
    go_enter Tryd.func8, Tryd.ntmps8
    by_cases h2 : 2 ≤ n
    · have e0 : ((n : Int) == 0) = false := by simp; omega
      have e1 : ((n : Int) == 1) = false := by simp; omega
      obtain ⟨b, o, rfl⟩ := (HKT.out _ H0.out).1.addr (by omega)
      have lP := HP32.out 0 (by omega)
      have HE : Hid (bagT ps = nodeT (ps.getD 0 []) (bagT (ps.drop 1))) := bagT_two (by rw [HPL.out]; exact h2)
      have lB : (bagT (ps.drop 1)).length = 32 := bagT_length (fun q hq => HPM.out q (List.mem_of_mem_drop hq))
      have HC : Hid (∀ wx, Below w2.heap.size w2 wx → Calls Tryd.prog 8 #[.slice (some ⟨b, o + 32, none⟩) (n - 1) (c - 1)] wx fun e w' => e = .returned (digestV (bagT (ps.drop 1))) ∧ Below wx.heap.size wx w') := fun wx hx => by
        have hr := (HKT.out _ hx).1.drop 1 (by omega)
        rw [Nat.one_mul] at hr
        exact HI.out (n - 1) (by omega) _ (c - 1) _ wx hr (by omega) (by omega)
      have HX : Hid (∀ wx, Below w2.heap.size w2 wx → wx.rangeAt b o (cellsB (ps.getD 0 []))) := fun wx hx => by
        have := (HKT.out _ hx).1.at 0 (by omega)
        rw [Nat.zero_mul, Nat.add_zero] at this
        exact this
      have HNB : Hid (b ≠ w.heap.size) := HBN.out _ _ rfl (by omega)
      generalize ps.getD 0 [] = P at *
      generalize bagT (ps.drop 1) = Y at *
      have n0 : (0 : Int) < (n : Int) := by omega
      have n1 : (1 : Int) ≤ (n : Int) := by omega
      have n2 : (n : Int) ≤ (c : Int) := by omega
      clear HI HP32 HPM HPL
      go_wp2_with (refine wpList_allocE (by rfl) 24 (by rfl) (cellsB zD).toArray Tryd.zeroDg w.heap.size rfl w2 hw2 ?_)
      clear hw2
      refine wp_region_noPanic ?_
      refine wp_region_held_drew (S := fun wx => wx.rangeAt b o (cellsB P)) (by kernel_rfl) (HX.out _ (below_drewN w2 1)) (fun hHeld => ?_)
      try simp only [Act.put, List.setIfInBounds_toArray, List.set_cons_zero, List.set_cons_succ]
      have HBd : Hid (Below w2.heap.size w2 w2.drew) := below_drewN w2 1
      generalize w2.drew = wd at *
      refine wpAnyH_take (i := 0) (v := ?_) (by simp only [List.getElem?_toArray, List.getElem?_cons_zero, List.getElem?_cons_succ]; rfl) (by kernel_rfl) (by kernel_rfl) (by kernel_rfl) (fun _ _ _ h => h) (Or.inl ⟨by rfl, ?_⟩) hHeld ?_
      rotate_left
      · intro w hSw
        go_simp
        try with_reducible rfl
      try simp only [Act.put, List.setIfInBounds_toArray, List.set_cons_zero, List.set_cons_succ]
      refine wpAnyH_take (i := 1) (v := .pointer (some ⟨b, o, none⟩)) (by simp only [List.getElem?_toArray, List.getElem?_cons_zero, List.getElem?_cons_succ]; rfl) (by kernel_rfl) (by kernel_rfl) (by kernel_rfl) (fun _ _ _ h => h) (Or.inl ⟨by rfl, ?_⟩) hHeld ?_
      · intro w hSw
        go_simp
        intro h0
        omega
      try simp only [Act.put, List.setIfInBounds_toArray, List.set_cons_zero, List.set_cons_succ]
      refine wpAnyH_take (i := 2) (v := .agg (cellsB P).toArray) (by simp only [List.getElem?_toArray, List.getElem?_cons_zero, List.getElem?_cons_succ]; rfl) (by kernel_rfl) (by kernel_rfl) (by kernel_rfl) (fun _ _ _ h => h)
        (yieldsIf_load_mid (by rfl) _ _ rfl _ _ rfl _ _ (fun w hw => hw) Tryd.underlying24 rfl (by rw [cellsB_length, lP]; exact Tryd.sizeDg)) hHeld ?_
      try simp only [Act.put, List.setIfInBounds_toArray, List.set_cons_zero, List.set_cons_succ]
      refine wpAnyH_take (i := 3) (v := ?_) (by simp only [List.getElem?_toArray, List.getElem?_cons_zero, List.getElem?_cons_succ]; rfl) (by kernel_rfl) (by kernel_rfl) (by kernel_rfl) (fun _ _ _ h => h) (Or.inl ⟨by rfl, ?_⟩) hHeld ?_
      rotate_left
      · intro w hSw
        go_simp
        try with_reducible rfl
      try simp only [Act.put, List.setIfInBounds_toArray, List.set_cons_zero, List.set_cons_succ]
      refine wpAnyH_take (i := 4) (v := .slice (some ⟨b, o + 32, none⟩) (n - 1) (c - 1)) (by simp only [List.getElem?_toArray, List.getElem?_cons_zero, List.getElem?_cons_succ]; rfl) (by kernel_rfl) (by kernel_rfl) (by kernel_rfl) (fun _ _ _ h => h) (Or.inl ⟨by rfl, ?_⟩) hHeld ?_
      · intro w hSw
        go_simp
        omega
      try simp only [Act.put, List.setIfInBounds_toArray, List.set_cons_zero, List.set_cons_succ]
      refine wpAnyH_ready (rs := [5]) (by kernel_rfl) (by simp) ?_
      refine AllReadyH.cons (by simp only [List.getElem?_toArray, List.getElem?_cons_zero, List.getElem?_cons_succ]; rfl) (fun K hK => ?_) AllReadyH.nil
      rw [if_pos (by rfl)]
      go_simp
      refine (HC.out wd HBd.out).mono ?_
      rintro e w3 ⟨rfl, hb3⟩
      have HB3 : Hid (Below w2.heap.size w2 w3) := HBd.out.trans (hb3.mono HBd.out.size)
      clear hb3 HBd HC
      go_wp2_with fail
      refine hK.out _ _ (HX.out _ HB3.out) (fun hHeld => ?_)
      clear hK K
      try simp only [Act.put, List.setIfInBounds_toArray, List.set_cons_zero, List.set_cons_succ]
      refine wpAnyH_ready (rs := [6]) (by kernel_rfl) (by simp) ?_
      refine AllReadyH.cons (by simp only [List.getElem?_toArray, List.getElem?_cons_zero, List.getElem?_cons_succ]; rfl) (fun K hK => ?_) AllReadyH.nil
      rw [if_pos (by rfl)]
      go_simp
      refine (rnode_any P Y w3 lP lB).mono ?_
      rintro e w4 ⟨rfl, hb4⟩
      have HB4 : Hid (Below w2.heap.size w2 w4) := HB3.out.trans (hb4.mono HB3.out.size)
      have lN := nodeT_length P Y
      clear hb4 HB3
      generalize nodeT P Y = N at *
      go_wp2_with fail
      refine hK.out _ _ (HX.out _ HB4.out) (fun hHeld => ?_)
      clear hK K
      try simp only [Act.put, List.setIfInBounds_toArray, List.set_cons_zero, List.set_cons_succ]
      refine wpAnyH_ready (rs := [7]) (by kernel_rfl) (by simp) ?_
      refine AllReadyH.cons (by simp only [List.getElem?_toArray, List.getElem?_cons_zero, List.getElem?_cons_succ]; rfl) (fun K hK => ?_) AllReadyH.nil
      rw [if_pos (by rfl)]
      have HT4 : Hid (w4.there w.heap.size 0 32) := (HKT.out _ HB4.out).2.1
      refine wp_store_mid _ _ _ rfl w.heap.size 0 (cellsB N).toArray rfl rfl (by rw [cellsB_size, lN]; exact HT4.out) (by rw [cellsB_size, lN]; exact Tryd.sizeDg) (all_oneCell_toArray (cellsB_one _)) ?_
      have hr : (w4.setCells w.heap.size 0 (cellsB N)).rangeAt b o (cellsB P) := World.rangeAt_setCells_apart (HX.out _ HB4.out) _ _ _ (.inl HNB.out)
      refine hK.out _ _ hr (fun hHeld => ?_)
      clear hr
      clear hK K
      try simp only [Act.put, List.setIfInBounds_toArray, List.set_cons_zero, List.set_cons_succ]
      refine wpAnyH_done (by kernel_rfl) (NoPanic.normal ?_) _
      clear hHeld
      go_wp2_with fail
      refine bodyPost_ret (v := digestV N) (run_results_row Tryd.results8 _ _ w.heap.size 0 (by rfl) (cellsB N) (World.rangeAt_setCells_same _ _ _ _ (by rw [cellsB_length, lN]; exact HT4.out)) _ Tryd.underlying24 (by rfl) (by rw [cellsB_length, lN]; exact Tryd.sizeDg)) rfl ⟨by rw [HE.out], ?_⟩
      exact below_setCells _ (Nat.le_refl _) _ _ _ (HKT.out _ HB4.out).2.2
    · by_cases h1 : n = 1
      · subst h1
        obtain ⟨b, o, rfl⟩ := (HKT.out _ H0.out).1.addr (by omega)
        have lP := HP32.out 0 (by omega)
        have HE : Hid (bagT ps = ps.getD 0 []) := bagT_one HPL.out
        have HX : Hid (w2.rangeAt b o (cellsB (ps.getD 0 []))) := by
          have := (HKT.out _ H0.out).1.at 0 (by omega)
          rw [Nat.zero_mul, Nat.add_zero] at this
          exact this
        generalize ps.getD 0 [] = P at *
        clear HI HP32 HPM HPL
        go_wp2_with (first
          | (refine wpList_allocE (by rfl) 24 (by rfl) (cellsB zD).toArray Tryd.zeroDg w.heap.size rfl w2 hw2 ?_)
          | (refine wpList_load_mid (by rfl) 24 (.tmp 11) (by rfl) b o (by rfl) (cellsB P) _ HX.out Tryd.underlying24 (by rfl) (by rw [cellsB_length, lP]; exact Tryd.sizeDg) ?_)
          | (refine wpList_store_mid (by rfl) 24 (.tmp 2) (.tmp 12) (by rfl) w.heap.size 0 (cellsB P).toArray (by rfl) (by rfl) (by rw [cellsB_size, lP]; exact HT2.out) (by rw [cellsB_size, lP]; exact Tryd.sizeDg) (all_oneCell_toArray (cellsB_one _)) ?_))
        refine bodyPost_ret (v := digestV P) (run_results_row Tryd.results8 _ _ w.heap.size 0 (by rfl) (cellsB P) (World.rangeAt_setCells_same _ _ _ _ (by rw [cellsB_length, lP]; exact HT2.out)) _ Tryd.underlying24 (by rfl) (by rw [cellsB_length, lP]; exact Tryd.sizeDg)) rfl ⟨by rw [HE.out], ?_⟩
        exact below_setCells _ (Nat.le_refl _) _ _ _ HB2.out
      · obtain rfl : n = 0 := by omega
        have HE : Hid (bagT ps = shaL []) := bagT_none HPL.out
        clear HI HP32 HPM HPL
        go_wp2_with (refine wpList_allocE (by rfl) 24 (by rfl) (cellsB zD).toArray Tryd.zeroDg w.heap.size rfl w2 hw2 ?_)
        refine (rsum_any none 0 0 [] w2 (Row.nil _) (by omega)).mono ?_
        rintro e w3 ⟨rfl, hb3⟩
        have HB3 : Hid (Below w2.heap.size w2 w3) := hb3
        have HT3 : Hid (w3.there w.heap.size 0 32) := (HKT.out _ hb3).2.1
        have lD := shaL_length []
        clear hb3 hw2
        generalize shaL [] = D at *
        go_wp2_with (refine wpList_store_mid (by rfl) 24 (.tmp 2) (.tmp 6) (by rfl) w.heap.size 0 (cellsB D).toArray (by rfl) (by rfl) (by rw [cellsB_size, lD]; exact HT3.out) (by rw [cellsB_size, lD]; exact Tryd.sizeDg) (all_oneCell_toArray (cellsB_one _)) ?_)
        refine bodyPost_ret (v := digestV D) (run_results_row Tryd.results8 _ _ w.heap.size 0 (by rfl) (cellsB D) (World.rangeAt_setCells_same _ _ _ _ (by rw [cellsB_length, lD]; exact HT3.out)) _ Tryd.underlying24 (by rfl) (by rw [cellsB_length, lD]; exact Tryd.sizeDg)) rfl ⟨by rw [HE.out], ?_⟩
        exact below_setCells _ (Nat.le_refl _) _ _ _ (HKT.out _ HB3.out).2.2
end Go.Proofs.YtbpkhpkllokbhaaDoor
/- The contract of oathbooksame.Digests: it tells whether two slices of digests read as one list. -/
namespace Go.Proofs.YtbpkhpkllokbhaaDoor
open Go.RowKit
set_option linter.unusedVariables false
set_option linter.unusedSimpArgs false

theorem Tryd.sizeDs : (Tryd.prog.info? 24).map (·.size) = some 32 := by kernel_rfl
theorem list_eq {l1 l2 : List (List UInt8)} {n : Nat} (h1 : l1.length = n) (h2 : l2.length = n) (h : ∀ j, j < n → l1.getD j [] = l2.getD j []) : l1 = l2 := by
  apply List.ext_getElem (by omega)
  intro i h3 h4
  have := h i (by omega)
  simpa [List.getD_eq_getElem?_getD, List.getElem?_eq_getElem h3, List.getElem?_eq_getElem h4] using this

set_option maxRecDepth 100000 in
set_option maxHeartbeats 1000000 in
theorem sdigests_any (a1 a2 : Option Addr) (n1 n2 c1 c2 : Nat) (l1 l2 : List (List UInt8)) (w : World) (R1 : DRow w a1 n1 l1) (R2 : DRow w a2 n2 l2) (hm : n1 ≤ 281474976710656) :
    Calls Tryd.prog 11 #[.slice a1 n1 c1, .slice a2 n2 c2] w fun e w' => e = .returned (.bool (decide (l1 = l2))) ∧ Below w.heap.size w w' := by
  have e1 := R1.1
  have e2 := R2.1
  by_cases hn : n1 = n2
  · subst hn
    have hne : ((n1 : Int) != (n1 : Int)) = false := by simp
    have HE : Hid (l1.length = n1 ∧ l2.length = n1) := ⟨e1, e2⟩
    have HL : Hid ((∀ i, i < n1 → (l1.getD i []).length = 32) ∧ ∀ i, i < n1 → (l2.getD i []).length = 32) := ⟨R1.len, R2.len⟩
    have HR1 : Hid (n1 = 0 ∨ ∃ b o, a1 = some ⟨b, o, none⟩ ∧ ∀ i, i < n1 → DAt w b (o + 32 * i) (l1.getD i [])) := R1.2.2
    have HR2 : Hid (n1 = 0 ∨ ∃ b o, a2 = some ⟨b, o, none⟩ ∧ ∀ i, i < n1 → DAt w b (o + 32 * i) (l2.getD i [])) := R2.2.2
    clear e1 e2 R1 R2
    go_enter Tryd.func11, Tryd.ntmps11
    go_wp2
    go_loopw [5] (fun i wr => ∃ k : Nat, k ≤ n1 ∧ i = .int .i64 k ∧ Below w.heap.size w wr ∧ ∀ j, j < k → l1.getD j [] = l2.getD j []) (fun i _ => n1 - (intOf i).toNat)
    case atStart => exact ⟨0, Nat.zero_le _, rfl, Below.refl _ _, fun j hj => by omega⟩
    case round =>
      obtain ⟨k, hk, rfl, hB, hall⟩ := hrel
      have HA : Hid (∀ j, j < k → l1.getD j [] = l2.getD j []) := hall
      have HB : Hid (Below w.heap.size w wr) := hB
      clear hall hB
      by_cases hlt : k < n1
      · obtain ⟨b1, o1, rfl, k1⟩ : ∃ b o, a1 = some ⟨b, o, none⟩ ∧ ∀ i, i < n1 → DAt w b (o + 32 * i) (l1.getD i []) := by
          rcases HR1.out with h | h
          · omega
          · exact h
        obtain ⟨b2, o2, rfl, k2⟩ : ∃ b o, a2 = some ⟨b, o, none⟩ ∧ ∀ i, i < n1 → DAt w b (o + 32 * i) (l2.getD i []) := by
          rcases HR2.out with h | h
          · omega
          · exact h
        have lX := HL.out.1 k hlt
        have lY := HL.out.2 k hlt
        have hS : wr.rangeAt b1 (o1 + k * 32) (cellsB (l1.getD k [])) ∧ wr.rangeAt b2 (o2 + k * 32) (cellsB (l2.getD k [])) := by
          rw [Nat.mul_comm]
          have g1 := k1 k hlt
          have g2 := k2 k hlt
          exact ⟨g1.below HB.out (cell_block (g1.cell 0 (by omega))), g2.below HB.out (cell_block (g2.cell 0 (by omega)))⟩
        have HS : Hid (wr.rangeAt b1 (o1 + k * 32) (cellsB (l1.getD k [])) ∧ wr.rangeAt b2 (o2 + k * 32) (cellsB (l2.getD k []))) := hS
        clear hS k1 k2
        have hi : (0 : Int) ≤ (k : Int) := by omega
        have hj : (k : Int) < (n1 : Int) := by omega
        have HQ : Hid (∀ j, j < k + 1 → j ≠ k → l1.getD j [] = l2.getD j []) := fun j hj hne => HA.out j (by omega)
        generalize hX : l1.getD k [] = X at *
        generalize hY : l2.getD k [] = Y at *
        have HXY : Hid (l1.getD k [] = X ∧ l2.getD k [] = Y) := ⟨hX, hY⟩
        clear hX hY
        go_wp2_with fail
        refine wp_region_noPanic ?_
        refine wp_region_held_drew (S := fun w' => w'.rangeAt b1 (o1 + k * 32) (cellsB X) ∧ w'.rangeAt b2 (o2 + k * 32) (cellsB Y)) (by kernel_rfl) HS.out (fun hHeld => ?_)
        try simp only [Act.put, List.setIfInBounds_toArray, List.set_cons_zero, List.set_cons_succ]
        refine wpAnyH_take (i := 0) (v := ?_) (by simp only [List.getElem?_toArray, List.getElem?_cons_zero, List.getElem?_cons_succ]; rfl) (by kernel_rfl) (by kernel_rfl) (by kernel_rfl) (fun _ _ _ h => h) (Or.inl ⟨by rfl, ?_⟩) hHeld ?_
        rotate_left
        · intro w hSw
          go_simp
          try with_reducible rfl
        try simp only [Act.put, List.setIfInBounds_toArray, List.set_cons_zero, List.set_cons_succ]
        refine wpAnyH_take (i := 1) (v := ?_) (by simp only [List.getElem?_toArray, List.getElem?_cons_zero, List.getElem?_cons_succ]; rfl) (by kernel_rfl) (by kernel_rfl) (by kernel_rfl) (fun _ _ _ h => h) (Or.inl ⟨by rfl, ?_⟩) hHeld ?_
        rotate_left
        · intro w hSw
          go_simp
          try with_reducible rfl
        try simp only [Act.put, List.setIfInBounds_toArray, List.set_cons_zero, List.set_cons_succ]
        refine wpAnyH_take (i := 2) (v := ?_) (by simp only [List.getElem?_toArray, List.getElem?_cons_zero, List.getElem?_cons_succ]; rfl) (by kernel_rfl) (by kernel_rfl) (by kernel_rfl) (fun _ _ _ h => h) (Or.inl ⟨by rfl, ?_⟩) hHeld ?_
        rotate_left
        · intro w hSw
          go_simp
          try with_reducible rfl
        try simp only [Act.put, List.setIfInBounds_toArray, List.set_cons_zero, List.set_cons_succ]
        refine wpAnyH_take (i := 3) (v := .agg (cellsB X).toArray) (by simp only [List.getElem?_toArray, List.getElem?_cons_zero, List.getElem?_cons_succ]; rfl) (by kernel_rfl) (by kernel_rfl) (by kernel_rfl) (fun _ _ _ h => h)
          (yieldsIf_load_mid (by rfl) _ _ rfl _ _ rfl _ _ (fun w hw => hw.1) Tryd.underlying24 rfl (by rw [cellsB_length, lX]; exact Tryd.sizeDs)) hHeld ?_
        try simp only [Act.put, List.setIfInBounds_toArray, List.set_cons_zero, List.set_cons_succ]
        refine wpAnyH_take (i := 4) (v := ?_) (by simp only [List.getElem?_toArray, List.getElem?_cons_zero, List.getElem?_cons_succ]; rfl) (by kernel_rfl) (by kernel_rfl) (by kernel_rfl) (fun _ _ _ h => h) (Or.inl ⟨by rfl, ?_⟩) hHeld ?_
        rotate_left
        · intro w hSw
          go_simp
          try with_reducible rfl
        try simp only [Act.put, List.setIfInBounds_toArray, List.set_cons_zero, List.set_cons_succ]
        refine wpAnyH_take (i := 5) (v := ?_) (by simp only [List.getElem?_toArray, List.getElem?_cons_zero, List.getElem?_cons_succ]; rfl) (by kernel_rfl) (by kernel_rfl) (by kernel_rfl) (fun _ _ _ h => h) (Or.inl ⟨by rfl, ?_⟩) hHeld ?_
        rotate_left
        · intro w hSw
          go_simp
          try with_reducible rfl
        try simp only [Act.put, List.setIfInBounds_toArray, List.set_cons_zero, List.set_cons_succ]
        refine wpAnyH_take (i := 6) (v := ?_) (by simp only [List.getElem?_toArray, List.getElem?_cons_zero, List.getElem?_cons_succ]; rfl) (by kernel_rfl) (by kernel_rfl) (by kernel_rfl) (fun _ _ _ h => h) (Or.inl ⟨by rfl, ?_⟩) hHeld ?_
        rotate_left
        · intro w hSw
          go_simp
          try with_reducible rfl
        try simp only [Act.put, List.setIfInBounds_toArray, List.set_cons_zero, List.set_cons_succ]
        refine wpAnyH_take (i := 7) (v := .agg (cellsB Y).toArray) (by simp only [List.getElem?_toArray, List.getElem?_cons_zero, List.getElem?_cons_succ]; rfl) (by kernel_rfl) (by kernel_rfl) (by kernel_rfl) (fun _ _ _ h => h)
          (yieldsIf_load_mid (by rfl) _ _ rfl _ _ rfl _ _ (fun w hw => hw.2) Tryd.underlying24 rfl (by rw [cellsB_length, lY]; exact Tryd.sizeDs)) hHeld ?_
        try simp only [Act.put, List.setIfInBounds_toArray, List.set_cons_zero, List.set_cons_succ]
        have hb : Below w.heap.size w wr.drew := HB.out.drew
        refine wpAnyH_take (i := 8) (v := .bool (!decide (X = Y))) (by simp only [List.getElem?_toArray, List.getElem?_cons_zero, List.getElem?_cons_succ]; rfl) (by kernel_rfl) (by kernel_rfl) (by kernel_rfl) (fun _ _ _ h => h)
          (yieldsIf_neqD (by rfl) _ _ rfl X Y lX lY rfl rfl _ rfl) hHeld ?_
        try simp only [Act.put, List.setIfInBounds_toArray, List.set_cons_zero, List.set_cons_succ]
        refine wpAnyH_done (by kernel_rfl) (NoPanic.normal ?_) _
        clear hHeld HS
        generalize wr.drew = wd at *
        by_cases hq : X = Y
        · have HE2 : Hid (X = Y) := hq
          rw [show (!decide (X = Y)) = false by simp [hq]]
          clear hq
          go_wp2
          go_roundw
          case rel => exact ⟨k + 1, by omega, by go_num, hb, fun j hj => by
            by_cases hjk : j = k
            · subst hjk; rw [HXY.out.1, HXY.out.2]; exact HE2.out
            · exact HQ.out j hj hjk⟩
          case measure => simp [intOf]; omega
        · have HE2 : Hid (¬ X = Y) := hq
          rw [show (!decide (X = Y)) = true by simp [hq]]
          clear hq
          go_wp2
          go_ret
          exact ⟨ret_bool (by symm; rw [decide_eq_false_iff_not]; intro h; subst h; exact HE2.out (HXY.out.1.symm.trans HXY.out.2)), hb⟩
      · go_wp2
        go_ret
        exact ⟨ret_bool (by
          symm
          rw [decide_eq_true_iff]
          exact list_eq HE.out.1 HE.out.2 fun j hj => HA.out j (by omega)), HB.out⟩
  · have hne : ((n1 : Int) != (n2 : Int)) = true := by simp; omega
    clear R1 R2
    go_enter Tryd.func11, Tryd.ntmps11
    go_wp2
    go_ret
    exact ⟨ret_bool (by symm; rw [decide_eq_false_iff_not]; intro h; subst h; omega), Below.refl _ _⟩
end Go.Proofs.YtbpkhpkllokbhaaDoor
