/- Texts of this claim, joined: StepD, Rtrie1, Rtrie4, Layerm. -/
import Derived.Test.YtbhoijnhpmkglaaDoorJ10
import Derived.Test.YtbhoijnhpmkglaaDoorJ08
import Derived.Test.YtbhoijnhpmkglaaDoorJ09
import Derived.Test.YtbhoijnhpmkglaaDoorJ06
import Derived.Deep.RegionHeld3
import Derived.Deep.Onto
import Derived.Deep.DeepCutAuto
/- A literal of a digest, and digests appended, as steps of a region that draws its order. -/
namespace Go.Proofs.YtbhoijnhpmkglaaDoor
open Go.RowKit
set_option linter.unusedVariables false
set_option linter.unusedSimpArgs false

theorem wp_buildD1 {w : World} {o : Oper} {a : Act} {K : Act → World → Prop} {Q : Exit → Act → World → Prop} (x : Operand) (ho : o.op = .buildSlice 36 1 #[(0, x)])
    (l : List UInt8) (hl : l.length = 32) (hx : a.eval x = digestV l)
    (h : K (a.put o.dst (.slice (some ⟨w.heap.size, 0, none⟩) 1 1)) (w.alloc (.cells (cellsB l).toArray 24))) : o.wp Tryd.prog a w K Q := by
  obtain ⟨i0, hi, hz0, hz1, hz2⟩ := info_parts Tryd.infoDg
  have hrun := run_buildD (P := Tryd.prog) w 36 24 (.agg zeros32) i0 [l] (by intro q hq; rw [List.mem_singleton] at hq; rw [hq]; exact hl) (by simp) (by simp) Tryd.underlying36 hi hz0 (by rfl) hz1
  simp only [List.length_singleton, List.zipIdx_cons, List.zipIdx_nil, List.map_cons, List.map_nil, List.flatten_cons, List.flatten_nil, List.append_nil] at hrun
  unfold Oper.wp
  simp [execOp, ho, hx, hrun, Result.andThen]
  exact h
theorem wp_appendD {w : World} {o : Oper} {a : Act} {K : Act → World → Prop} {Q : Exit → Act → World → Prop} (s x : Operand)
    (ho : o.op = .call { callee := .builtin .append, args := #[s, x], argTypes := #[36, 36] })
    (base : Nat) (v : Value) (ls : List (List UInt8)) (hs : a.eval s = v) (hown : OwnD w base v ls)
    (ad : Addr) (n c : Nat) (ds : List (List UInt8)) (hx : a.eval x = .slice (some ad) n c) (hr : DRow w (some ad) n ds) (hn0 : 0 < n) (h47 : (ls.length + n) * 32 ≤ 140737488355328) (hbase : base ≤ w.heap.size)
    (h : ∀ v' w', OwnD w' base v' (ls ++ ds) → w.grownBy w' v.ownBlock → (v'.ownBlock = v.ownBlock ∨ v'.ownBlock = some w.heap.size) → K (a.put o.dst v') w') : o.wp Tryd.prog a w K Q := by
  obtain ⟨i0, hi, hz0, hz1, hz2⟩ := info_parts Tryd.infoDg
  have hlen := hr.len
  obtain ⟨hl, h32, h1 | ⟨b, off, e1, hc⟩⟩ := hr
  · omega
  cases e1
  have hf := flat_len h32
  have hnews : ∀ j u, (cellsB ds.flatten)[j]? = some u → w.cell? ((⟨b, off, none⟩ : Addr).add j) = some u := by
    intro j u hj
    have hj' : j < ds.flatten.length := by have := (List.getElem?_eq_some_iff.1 hj).1; rwa [cellsB_length] at this
    have hq : j / 32 < n := by omega
    have hm : j % 32 < 32 := Nat.mod_lt _ (by omega)
    have e : j = 32 * (j / 32) + j % 32 := by omega
    rw [Go.WideShapes.add_plain, ← hj, cellsB_at _ j hj']
    have := (hc (j / 32) hq).cell (j % 32) (by rw [hlen _ hq]; exact hm)
    rw [show off + 32 * (j / 32) + j % 32 = off + j by omega] at this
    rw [this]
    have hn := nth_flat h32 (j / 32) (j % 32) (by omega) hm
    rw [← e] at hn
    rw [hn]
  obtain ⟨v', w', hrun, h2, h3, h4, h5⟩ := run_append_own_at (P := Tryd.prog) w base 36 o.type 24 i0 (.agg zeros32) 32 32 Tryd.underlying36 hi hz0 hz1 hz2 rfl (by decide) v ls.length (cellsB ls.flatten) hown.2 ⟨b, off, none⟩ n c (cellsB ds.flatten) (by rw [cellsB_length, hf, hl]; omega) hnews (cellsB_one _) (by unfold maxLen; omega) h47 hbase
  unfold Oper.wp execOp
  simp only [ho, resolve, invoke, builtin, Sem.run_bind, Sem.run_pure, Result.andThen_ok, List.map_toArray, List.map_cons, List.map_nil, hs, hx, hrun]
  refine h v' w' ⟨?_, ?_⟩ h3 h5
  · intro l hl'
    rcases List.mem_append.1 hl' with h' | h'
    · exact hown.1 l h'
    · exact h32 l h'
  · rw [List.length_append, List.flatten_append, cellsB_append, hl]
    exact h2
end Go.Proofs.YtbhoijnhpmkglaaDoor
/- The contracts of oathbookref2.IsKey, Nothing, EntryLeaf and MapNode. -/
namespace Go.Proofs.YtbhoijnhpmkglaaDoor
open Go.RowKit
set_option linter.unusedVariables false
set_option linter.unusedSimpArgs false

set_option maxRecDepth 100000 in
set_option maxHeartbeats 1000000 in
theorem riskey_any (k : Int) (w : World) (h1 : -9223372036854775808 ≤ k) (h2 : k ≤ 9223372036854775807) :
    Calls Tryd.prog 13 #[.int .i64 k] w fun e w' => e = .returned (.bool (isKey k)) ∧ w' = w := by
  by_cases c : 0 ≤ k
  · by_cases d : k ≤ 4294967295
    · have HE : Hid (isKey k = true) := decide_eq_true ⟨c, d⟩
      go_enter Tryd.func13, Tryd.ntmps13
      go_wp2_with fail
      go_ret
      exact ⟨by rw [HE.out]; rfl, rfl⟩
    · have HE : Hid (isKey k = false) := decide_eq_false (fun q => d q.2)
      go_enter Tryd.func13, Tryd.ntmps13
      go_wp2_with fail
      go_ret
      exact ⟨by rw [HE.out]; rfl, rfl⟩
  · have HE : Hid (isKey k = false) := decide_eq_false (fun q => c q.1)
    go_enter Tryd.func13, Tryd.ntmps13
    go_wp2_with fail
    go_ret
    exact ⟨by rw [HE.out]; rfl, rfl⟩
set_option maxRecDepth 100000 in
set_option maxHeartbeats 1000000 in
theorem rnothing_any (w : World) :
    Calls Tryd.prog 23 #[] w fun e w' => e = .returned (digestV zT) ∧ Below w.heap.size w w' := by
  obtain ⟨w2, hw2⟩ : ∃ w2, w.alloc (.cells (cellsB zD).toArray 24) = w2 := ⟨_, rfl⟩
  have HB2 : Hid (Below w.heap.size w w2) := by rw [← hw2]; exact (Below.refl _ _).alloc (Nat.le_refl _) _
  have HT2 : Hid (w2.there w.heap.size 0 32) := by rw [← hw2]; exact alloc_thereAt _ _ _ 32 _ rfl zD_size.symm
  have lZ : zT.length = 32 := rfl
  have hbu : Tryd.prog.built 24 [] = some (cellsB zT).toArray := by kernel_rfl
  generalize zT = Z at *
  have HBU : Hid (Tryd.prog.built 24 [] = some (cellsB Z).toArray) := hbu
  clear hbu
  go_enter Tryd.func23, Tryd.ntmps23
  go_wp2_with (first
    | (refine wpList_allocE (by rfl) 24 (by rfl) (cellsB zD).toArray Tryd.zeroDg w.heap.size rfl w2 hw2 ?_)
    | (refine wpList_buildC (by rfl) 24 #[] (by rfl) (cellsB Z).toArray (by simpa using HBU.out) ?_)
    | (refine wpList_store_mid (by rfl) 24 (.tmp 0) (.tmp 1) (by rfl) w.heap.size 0 (cellsB Z).toArray (by rfl) (by rfl) (by rw [cellsB_size, lZ]; exact HT2.out) (by rw [cellsB_size, lZ]; exact Tryd.sizeDg) (all_oneCell_toArray (cellsB_one _)) ?_))
  refine bodyPost_ret (v := digestV Z) (run_results_row Tryd.results23 _ _ w.heap.size 0 (by rfl) (cellsB Z) (World.rangeAt_setCells_same _ _ _ _ (by rw [cellsB_length, lZ]; exact HT2.out)) _ Tryd.underlying24 (by rfl) (by rw [cellsB_length, lZ]; exact Tryd.sizeDg)) rfl ⟨rfl, ?_⟩
  exact below_setCells _ (Nat.le_refl _) _ _ _ HB2.out
set_option maxRecDepth 100000 in
set_option maxHeartbeats 1000000 in
theorem rmapnode_any (l r : List UInt8) (w : World) (hl : l.length = 32) (hr : r.length = 32) :
    Calls Tryd.prog 20 #[digestV l, digestV r] w fun e w' => e = .returned (digestV (mnode l r)) ∧ Below w.heap.size w w' := by
  obtain ⟨iD, hiD, hzD0, hzD1, hzD2⟩ := info_parts Tryd.infoDg
  obtain ⟨w2, hw2⟩ : ∃ w2, ((w.alloc (.cells (cellsB l).toArray 24)).alloc (.cells (cellsB r).toArray 24)).alloc (.cells (cellsB zD).toArray 24) = w2 := ⟨_, rfl⟩
  have hs0 : (w.alloc (.cells (cellsB l).toArray 24)).heap.size = w.heap.size + 1 := by simp
  have hs1 : ((w.alloc (.cells (cellsB l).toArray 24)).alloc (.cells (cellsB r).toArray 24)).heap.size = w.heap.size + 1 + 1 := by simp
  have HS2 : Hid (w2.heap.size = w.heap.size + 1 + 1 + 1) := by unfold Hid; rw [← hw2]; simp
  have hd2 : DAt w2 w.heap.size 0 l ∧ DAt w2 (w.heap.size + 1) 0 r := by rw [← hw2]; exact ⟨World.rangeAt_alloc (World.rangeAt_alloc (box_dat w l _) _) _, World.rangeAt_alloc (box_rangeAt _ _ _ _ hs0) _⟩
  have ht2 : w2.there (w.heap.size + 1 + 1) 0 32 := by rw [← hw2]; exact alloc_thereAt _ _ _ 32 _ hs1 zD_size.symm
  have HB2 : Hid (Below w.heap.size w w2) := by rw [← hw2]; exact (((Below.refl _ _).alloc (Nat.le_refl _) _).alloc (by simp) _).alloc (by simp; omega) _
  have HK : Hid (∀ wx, Below w2.heap.size w2 wx → wx.rangeAt w.heap.size 0 (cellsB l) ∧ wx.rangeAt (w.heap.size + 1) 0 (cellsB r) ∧ wx.there (w.heap.size + 1 + 1) 0 32 ∧ Below w.heap.size w wx) := fun wx hx => by
    have s := HS2.out
    exact ⟨range_below hd2.1 hx (by omega), range_below hd2.2 hx (by omega), there_below ht2 hx (by omega), HB2.out.trans (hx.mono (by omega))⟩
  have H0 : Hid (Below w2.heap.size w2 w2) := Below.refl _ _
  have HNO : Hid (∀ wx, Calls Tryd.prog 23 #[] wx fun e w' => e = .returned (digestV zT) ∧ Below wx.heap.size wx w') := rnothing_any
  have lZ : zT.length = 32 := rfl
  clear hd2 ht2 hs0
  by_cases cl : l = zT
  · by_cases cr : r = zT
    · have HE : Hid (mnode l r = zT) := if_pos ⟨cl, cr⟩
      have HL : Hid (decide (l = zT) = true) := decide_eq_true cl
      have HR : Hid (decide (r = zT) = true) := decide_eq_true cr
      clear cl cr
      generalize zT = Z at *
      go_enter Tryd.func20, Tryd.ntmps20
      go_upto_region 1 with (refine wpList_allocE (by rfl) 24 (by rfl) (cellsB zD).toArray Tryd.zeroDg (w.heap.size + 1 + 1) hs1 w2 hw2 ?_)
      clear hw2 hs1
      try simp only [Act.put, List.setIfInBounds_toArray, List.set_cons_zero, List.set_cons_succ]
      refine wp_region_noPanic ?_
      refine wp_region_held_drew (S := fun wx => wx.rangeAt w.heap.size 0 (cellsB l) ∧ wx.rangeAt (w.heap.size + 1) 0 (cellsB r)) (by kernel_rfl) ⟨(HK.out _ (below_drewN w2 1)).1, (HK.out _ (below_drewN w2 1)).2.1⟩ (fun hHeld => ?_)
      try simp only [Act.put, List.setIfInBounds_toArray, List.set_cons_zero, List.set_cons_succ]
      have HBd : Hid (Below w2.heap.size w2 w2.drew) := below_drewN w2 1
      generalize w2.drew = wd at *
      refine wpAnyH_take (i := 0) (v := .agg (cellsB l).toArray) (by simp only [List.getElem?_toArray, List.getElem?_cons_zero, List.getElem?_cons_succ]; rfl) (by kernel_rfl) (by kernel_rfl) (by kernel_rfl) (fun _ _ _ h => h)
        (yieldsIf_load_mid (by rfl) _ _ rfl _ _ rfl _ _ (fun w hw => hw.1) Tryd.underlying24 rfl (by rw [cellsB_length, hl]; exact Tryd.sizeDg)) hHeld ?_
      try simp only [Act.put, List.setIfInBounds_toArray, List.set_cons_zero, List.set_cons_succ]
      refine wpAnyH_ready (rs := [1]) (by kernel_rfl) (by simp) ?_
      refine AllReadyH.cons (by simp only [List.getElem?_toArray, List.getElem?_cons_zero, List.getElem?_cons_succ]; rfl) (fun K hK => ?_) AllReadyH.nil
      rw [if_pos (by rfl)]
      go_simp
      refine (HNO.out wd).mono ?_
      rintro e w3 ⟨rfl, hb3⟩
      have HB3 : Hid (Below w2.heap.size w2 w3) := HBd.out.trans (hb3.mono HBd.out.size)
      clear hb3 HBd
      go_wp2_with fail
      refine hK.out _ _ ⟨(HK.out _ HB3.out).1, (HK.out _ HB3.out).2.1⟩ (fun hHeld => ?_)
      clear hK K
      try simp only [Act.put, List.setIfInBounds_toArray, List.set_cons_zero, List.set_cons_succ]
      refine wpAnyH_take (i := 2) (v := .bool true) (by simp only [List.getElem?_toArray, List.getElem?_cons_zero, List.getElem?_cons_succ]; rfl) (by kernel_rfl) (by kernel_rfl) (by kernel_rfl) (fun _ _ _ h => h)
        (yieldsIf_eqD (by rfl) _ _ rfl l Z hl lZ rfl rfl true HL.out) hHeld ?_
      try simp only [Act.put, List.setIfInBounds_toArray, List.set_cons_zero, List.set_cons_succ]
      refine wpAnyH_take (i := 3) (v := ?_) (by simp only [List.getElem?_toArray, List.getElem?_cons_zero, List.getElem?_cons_succ]; rfl) (by kernel_rfl) (by kernel_rfl) (by kernel_rfl) (fun _ _ _ h => h) (Or.inl ⟨by rfl, ?_⟩) hHeld ?_
      rotate_left
      · intro w hSw
        obtain ⟨hSw0, hSw1⟩ := hSw
        go_simp
        try with_reducible rfl
      try simp only [Act.put, List.setIfInBounds_toArray, List.set_cons_zero, List.set_cons_succ]
      refine wpAnyH_take (i := 4) (v := .agg (cellsB r).toArray) (by simp only [List.getElem?_toArray, List.getElem?_cons_zero, List.getElem?_cons_succ]; rfl) (by kernel_rfl) (by kernel_rfl) (by kernel_rfl) (fun _ _ _ h => h)
        (yieldsIf_load_mid (by rfl) _ _ rfl _ _ rfl _ _ (fun w hw => hw.2) Tryd.underlying24 rfl (by rw [cellsB_length, hr]; exact Tryd.sizeDg)) hHeld ?_
      try simp only [Act.put, List.setIfInBounds_toArray, List.set_cons_zero, List.set_cons_succ]
      refine wpAnyH_ready (rs := [5]) (by kernel_rfl) (by simp) ?_
      refine AllReadyH.cons (by simp only [List.getElem?_toArray, List.getElem?_cons_zero, List.getElem?_cons_succ]; rfl) (fun K hK => ?_) AllReadyH.nil
      rw [if_pos (by rfl)]
      go_simp
      refine (HNO.out w3).mono ?_
      rintro e w4 ⟨rfl, hb4⟩
      have HB4 : Hid (Below w2.heap.size w2 w4) := HB3.out.trans (hb4.mono HB3.out.size)
      clear hb4 HB3
      go_wp2_with fail
      refine hK.out _ _ ⟨(HK.out _ HB4.out).1, (HK.out _ HB4.out).2.1⟩ (fun hHeld => ?_)
      clear hK K
      try simp only [Act.put, List.setIfInBounds_toArray, List.set_cons_zero, List.set_cons_succ]
      refine wpAnyH_take (i := 6) (v := .bool true) (by simp only [List.getElem?_toArray, List.getElem?_cons_zero, List.getElem?_cons_succ]; rfl) (by kernel_rfl) (by kernel_rfl) (by kernel_rfl) (fun _ _ _ h => h)
        (yieldsIf_eqD (by rfl) _ _ rfl r Z hr lZ rfl rfl true HR.out) hHeld ?_
      try simp only [Act.put, List.setIfInBounds_toArray, List.set_cons_zero, List.set_cons_succ]
      refine wpAnyH_take (i := 7) (v := ?_) (by simp only [List.getElem?_toArray, List.getElem?_cons_zero, List.getElem?_cons_succ]; rfl) (by kernel_rfl) (by kernel_rfl) (by kernel_rfl) (fun _ _ _ h => h) (Or.inl ⟨by rfl, ?_⟩) hHeld ?_
      rotate_left
      · intro w hSw
        obtain ⟨hSw0, hSw1⟩ := hSw
        go_simp
        try with_reducible rfl
      try simp only [Act.put, List.setIfInBounds_toArray, List.set_cons_zero, List.set_cons_succ]
      refine wpAnyH_done (by kernel_rfl) (NoPanic.normal ?_) _
      clear hHeld
      have HBn : Hid (Below w2.heap.size w2 w4) := HB4.out
      generalize w4 = wn at *
      go_wp2_with fail
      refine (HNO.out wn).mono ?_
      rintro e w5 ⟨rfl, hb5⟩
      have HB5 : Hid (Below w2.heap.size w2 w5) := HBn.out.trans (hb5.mono HBn.out.size)
      have HT5 : Hid (w5.there (w.heap.size + 1 + 1) 0 32) := (HK.out _ HB5.out).2.2.1
      clear hb5
      go_wp2_with (refine wpList_store_mid (by rfl) 24 (.tmp 4) (.tmp 13) (by rfl) (w.heap.size + 1 + 1) 0 (cellsB Z).toArray (by rfl) (by rfl) (by rw [cellsB_size, lZ]; exact HT5.out) (by rw [cellsB_size, lZ]; exact Tryd.sizeDg) (all_oneCell_toArray (cellsB_one _)) ?_)
      refine bodyPost_ret (v := digestV Z) (run_results_row Tryd.results20 _ _ (w.heap.size + 1 + 1) 0 (by rfl) (cellsB Z) (World.rangeAt_setCells_same _ _ _ _ (by rw [cellsB_length, lZ]; exact HT5.out)) _ Tryd.underlying24 (by rfl) (by rw [cellsB_length, lZ]; exact Tryd.sizeDg)) rfl ⟨by rw [HE.out], ?_⟩
      exact below_setCells _ (by omega) _ _ _ (HK.out _ HB5.out).2.2.2
    · have HE : Hid (mnode l r = shaL (10 :: (l ++ r))) := if_neg (fun q => cr q.2)
      have HL : Hid (decide (l = zT) = true) := decide_eq_true cl
      have HR : Hid (decide (r = zT) = false) := decide_eq_false cr
      clear cl cr
      generalize zT = Z at *
      go_enter Tryd.func20, Tryd.ntmps20
      go_upto_region 1 with (refine wpList_allocE (by rfl) 24 (by rfl) (cellsB zD).toArray Tryd.zeroDg (w.heap.size + 1 + 1) hs1 w2 hw2 ?_)
      clear hw2 hs1
      try simp only [Act.put, List.setIfInBounds_toArray, List.set_cons_zero, List.set_cons_succ]
      refine wp_region_noPanic ?_
      refine wp_region_held_drew (S := fun wx => wx.rangeAt w.heap.size 0 (cellsB l) ∧ wx.rangeAt (w.heap.size + 1) 0 (cellsB r)) (by kernel_rfl) ⟨(HK.out _ (below_drewN w2 1)).1, (HK.out _ (below_drewN w2 1)).2.1⟩ (fun hHeld => ?_)
      try simp only [Act.put, List.setIfInBounds_toArray, List.set_cons_zero, List.set_cons_succ]
      have HBd : Hid (Below w2.heap.size w2 w2.drew) := below_drewN w2 1
      generalize w2.drew = wd at *
      refine wpAnyH_take (i := 0) (v := .agg (cellsB l).toArray) (by simp only [List.getElem?_toArray, List.getElem?_cons_zero, List.getElem?_cons_succ]; rfl) (by kernel_rfl) (by kernel_rfl) (by kernel_rfl) (fun _ _ _ h => h)
        (yieldsIf_load_mid (by rfl) _ _ rfl _ _ rfl _ _ (fun w hw => hw.1) Tryd.underlying24 rfl (by rw [cellsB_length, hl]; exact Tryd.sizeDg)) hHeld ?_
      try simp only [Act.put, List.setIfInBounds_toArray, List.set_cons_zero, List.set_cons_succ]
      refine wpAnyH_ready (rs := [1]) (by kernel_rfl) (by simp) ?_
      refine AllReadyH.cons (by simp only [List.getElem?_toArray, List.getElem?_cons_zero, List.getElem?_cons_succ]; rfl) (fun K hK => ?_) AllReadyH.nil
      rw [if_pos (by rfl)]
      go_simp
      refine (HNO.out wd).mono ?_
      rintro e w3 ⟨rfl, hb3⟩
      have HB3 : Hid (Below w2.heap.size w2 w3) := HBd.out.trans (hb3.mono HBd.out.size)
      clear hb3 HBd
      go_wp2_with fail
      refine hK.out _ _ ⟨(HK.out _ HB3.out).1, (HK.out _ HB3.out).2.1⟩ (fun hHeld => ?_)
      clear hK K
      try simp only [Act.put, List.setIfInBounds_toArray, List.set_cons_zero, List.set_cons_succ]
      refine wpAnyH_take (i := 2) (v := .bool true) (by simp only [List.getElem?_toArray, List.getElem?_cons_zero, List.getElem?_cons_succ]; rfl) (by kernel_rfl) (by kernel_rfl) (by kernel_rfl) (fun _ _ _ h => h)
        (yieldsIf_eqD (by rfl) _ _ rfl l Z hl lZ rfl rfl true HL.out) hHeld ?_
      try simp only [Act.put, List.setIfInBounds_toArray, List.set_cons_zero, List.set_cons_succ]
      refine wpAnyH_take (i := 3) (v := ?_) (by simp only [List.getElem?_toArray, List.getElem?_cons_zero, List.getElem?_cons_succ]; rfl) (by kernel_rfl) (by kernel_rfl) (by kernel_rfl) (fun _ _ _ h => h) (Or.inl ⟨by rfl, ?_⟩) hHeld ?_
      rotate_left
      · intro w hSw
        obtain ⟨hSw0, hSw1⟩ := hSw
        go_simp
        try with_reducible rfl
      try simp only [Act.put, List.setIfInBounds_toArray, List.set_cons_zero, List.set_cons_succ]
      refine wpAnyH_take (i := 4) (v := .agg (cellsB r).toArray) (by simp only [List.getElem?_toArray, List.getElem?_cons_zero, List.getElem?_cons_succ]; rfl) (by kernel_rfl) (by kernel_rfl) (by kernel_rfl) (fun _ _ _ h => h)
        (yieldsIf_load_mid (by rfl) _ _ rfl _ _ rfl _ _ (fun w hw => hw.2) Tryd.underlying24 rfl (by rw [cellsB_length, hr]; exact Tryd.sizeDg)) hHeld ?_
      try simp only [Act.put, List.setIfInBounds_toArray, List.set_cons_zero, List.set_cons_succ]
      refine wpAnyH_ready (rs := [5]) (by kernel_rfl) (by simp) ?_
      refine AllReadyH.cons (by simp only [List.getElem?_toArray, List.getElem?_cons_zero, List.getElem?_cons_succ]; rfl) (fun K hK => ?_) AllReadyH.nil
      rw [if_pos (by rfl)]
      go_simp
      refine (HNO.out w3).mono ?_
      rintro e w4 ⟨rfl, hb4⟩
      have HB4 : Hid (Below w2.heap.size w2 w4) := HB3.out.trans (hb4.mono HB3.out.size)
      clear hb4 HB3
      go_wp2_with fail
      refine hK.out _ _ ⟨(HK.out _ HB4.out).1, (HK.out _ HB4.out).2.1⟩ (fun hHeld => ?_)
      clear hK K
      try simp only [Act.put, List.setIfInBounds_toArray, List.set_cons_zero, List.set_cons_succ]
      refine wpAnyH_take (i := 6) (v := .bool false) (by simp only [List.getElem?_toArray, List.getElem?_cons_zero, List.getElem?_cons_succ]; rfl) (by kernel_rfl) (by kernel_rfl) (by kernel_rfl) (fun _ _ _ h => h)
        (yieldsIf_eqD (by rfl) _ _ rfl r Z hr lZ rfl rfl false HR.out) hHeld ?_
      try simp only [Act.put, List.setIfInBounds_toArray, List.set_cons_zero, List.set_cons_succ]
      refine wpAnyH_take (i := 7) (v := ?_) (by simp only [List.getElem?_toArray, List.getElem?_cons_zero, List.getElem?_cons_succ]; rfl) (by kernel_rfl) (by kernel_rfl) (by kernel_rfl) (fun _ _ _ h => h) (Or.inl ⟨by rfl, ?_⟩) hHeld ?_
      rotate_left
      · intro w hSw
        obtain ⟨hSw0, hSw1⟩ := hSw
        go_simp
        try with_reducible rfl
      try simp only [Act.put, List.setIfInBounds_toArray, List.set_cons_zero, List.set_cons_succ]
      refine wpAnyH_done (by kernel_rfl) (NoPanic.normal ?_) _
      clear hHeld
      have HBn : Hid (Below w2.heap.size w2 w4) := HB4.out
      generalize w4 = wn at *
      have HL4 : Hid (wn.rangeAt w.heap.size 0 (cellsB l)) := (HK.out _ HBn.out).1
      have HR4 : Hid (wn.rangeAt (w.heap.size + 1) 0 (cellsB r)) := (HK.out _ HBn.out).2.1
      have HB5 : Hid (Below w2.heap.size w2 (wn.alloc (.cells (cellsB (l ++ r)).toArray 24))) := HBn.out.alloc HBn.out.size _
      have HR5 : Hid (DRow (wn.alloc (.cells (cellsB (l ++ r)).toArray 24)) (some ⟨wn.heap.size, 0, none⟩) 2 [l, r]) := DRow.lit2 wn l r _ hl hr
      go_wp2_with (first
        | (refine wpList_load_mid (by rfl) 24 (.tmp 2) (by rfl) w.heap.size 0 (by rfl) (cellsB l) _ HL4.out Tryd.underlying24 (by rfl) (by rw [cellsB_length, hl]; exact Tryd.sizeDg) ?_)
        | (refine wpList_load_mid (by rfl) 24 (.tmp 3) (by rfl) (w.heap.size + 1) 0 (by rfl) (cellsB r) _ HR4.out Tryd.underlying24 (by rfl) (by rw [cellsB_length, hr]; exact Tryd.sizeDg) ?_)
        | (refine wpList_build2 (by rfl) (.tmp 14) (.tmp 15) 36 (by rfl) 24 (.agg zeros32) iD l r hl hr (by rfl) (by rfl) Tryd.underlying36 hiD hzD0 (by rfl) hzD1 ?_))
      refine (rof_any 10 _ 2 2 [l, r] _ HR5.out (by omega)).mono ?_
      rintro e w6 ⟨rfl, hb6⟩
      have hE : shaL (10 :: [l, r].flatten) = mnode l r := by rw [HE.out]; simp
      rw [hE]
      have HB6 : Hid (Below w2.heap.size w2 w6) := HB5.out.trans (hb6.mono HB5.out.size)
      have HT6 : Hid (w6.there (w.heap.size + 1 + 1) 0 32) := (HK.out _ HB6.out).2.2.1
      have hlen := mnode_length l r
      clear hb6 hE HE
      generalize hD : mnode l r = D at *
      have HD : Hid (mnode l r = D) := hD
      clear hD
      go_wp2_with (refine wpList_store_mid (by rfl) 24 (.tmp 4) (.tmp 17) (by rfl) (w.heap.size + 1 + 1) 0 (cellsB D).toArray (by rfl) (by rfl) (by rw [cellsB_size, hlen]; exact HT6.out) (by rw [cellsB_size, hlen]; exact Tryd.sizeDg) (all_oneCell_toArray (cellsB_one _)) ?_)
      refine bodyPost_ret (v := digestV D) (run_results_row Tryd.results20 _ _ (w.heap.size + 1 + 1) 0 (by rfl) (cellsB D) (World.rangeAt_setCells_same _ _ _ _ (by rw [cellsB_length, hlen]; exact HT6.out)) _ Tryd.underlying24 (by rfl) (by rw [cellsB_length, hlen]; exact Tryd.sizeDg)) rfl ⟨by rw [HD.out], ?_⟩
      exact below_setCells _ (by omega) _ _ _ (HK.out _ HB6.out).2.2.2
  · have HE : Hid (mnode l r = shaL (10 :: (l ++ r))) := if_neg (fun q => cl q.1)
    have HL : Hid (decide (l = zT) = false) := decide_eq_false cl
    clear cl
    generalize zT = Z at *
    go_enter Tryd.func20, Tryd.ntmps20
    go_upto_region 1 with (refine wpList_allocE (by rfl) 24 (by rfl) (cellsB zD).toArray Tryd.zeroDg (w.heap.size + 1 + 1) hs1 w2 hw2 ?_)
    clear hw2 hs1
    try simp only [Act.put, List.setIfInBounds_toArray, List.set_cons_zero, List.set_cons_succ]
    refine wp_region_noPanic ?_
    refine wp_region_held_drew (S := fun wx => wx.rangeAt w.heap.size 0 (cellsB l) ∧ wx.rangeAt (w.heap.size + 1) 0 (cellsB r)) (by kernel_rfl) ⟨(HK.out _ (below_drewN w2 1)).1, (HK.out _ (below_drewN w2 1)).2.1⟩ (fun hHeld => ?_)
    try simp only [Act.put, List.setIfInBounds_toArray, List.set_cons_zero, List.set_cons_succ]
    have HBd : Hid (Below w2.heap.size w2 w2.drew) := below_drewN w2 1
    generalize w2.drew = wd at *
    refine wpAnyH_take (i := 0) (v := .agg (cellsB l).toArray) (by simp only [List.getElem?_toArray, List.getElem?_cons_zero, List.getElem?_cons_succ]; rfl) (by kernel_rfl) (by kernel_rfl) (by kernel_rfl) (fun _ _ _ h => h)
      (yieldsIf_load_mid (by rfl) _ _ rfl _ _ rfl _ _ (fun w hw => hw.1) Tryd.underlying24 rfl (by rw [cellsB_length, hl]; exact Tryd.sizeDg)) hHeld ?_
    try simp only [Act.put, List.setIfInBounds_toArray, List.set_cons_zero, List.set_cons_succ]
    refine wpAnyH_ready (rs := [1]) (by kernel_rfl) (by simp) ?_
    refine AllReadyH.cons (by simp only [List.getElem?_toArray, List.getElem?_cons_zero, List.getElem?_cons_succ]; rfl) (fun K hK => ?_) AllReadyH.nil
    rw [if_pos (by rfl)]
    go_simp
    refine (HNO.out wd).mono ?_
    rintro e w3 ⟨rfl, hb3⟩
    have HB3 : Hid (Below w2.heap.size w2 w3) := HBd.out.trans (hb3.mono HBd.out.size)
    clear hb3 HBd
    go_wp2_with fail
    refine hK.out _ _ ⟨(HK.out _ HB3.out).1, (HK.out _ HB3.out).2.1⟩ (fun hHeld => ?_)
    clear hK K
    try simp only [Act.put, List.setIfInBounds_toArray, List.set_cons_zero, List.set_cons_succ]
    refine wpAnyH_take (i := 2) (v := .bool false) (by simp only [List.getElem?_toArray, List.getElem?_cons_zero, List.getElem?_cons_succ]; rfl) (by kernel_rfl) (by kernel_rfl) (by kernel_rfl) (fun _ _ _ h => h)
      (yieldsIf_eqD (by rfl) _ _ rfl l Z hl lZ rfl rfl false HL.out) hHeld ?_
    try simp only [Act.put, List.setIfInBounds_toArray, List.set_cons_zero, List.set_cons_succ]
    refine wpAnyH_take (i := 3) (v := ?_) (by simp only [List.getElem?_toArray, List.getElem?_cons_zero, List.getElem?_cons_succ]; rfl) (by kernel_rfl) (by kernel_rfl) (by kernel_rfl) (fun _ _ _ h => h) (Or.inl ⟨by rfl, ?_⟩) hHeld ?_
    rotate_left
    · intro w hSw
      obtain ⟨hSw0, hSw1⟩ := hSw
      go_simp
      try with_reducible rfl
    try simp only [Act.put, List.setIfInBounds_toArray, List.set_cons_zero, List.set_cons_succ]
    refine wpAnyH_take (i := 4) (v := undef) (by simp only [List.getElem?_toArray, List.getElem?_cons_zero, List.getElem?_cons_succ]; rfl) (by kernel_rfl) (by kernel_rfl) (by kernel_rfl) (fun _ _ _ h => h) (Or.inr ⟨by rfl, rfl⟩) hHeld ?_
    try simp only [Act.put, List.setIfInBounds_toArray, List.set_cons_zero, List.set_cons_succ]
    refine wpAnyH_take (i := 5) (v := undef) (by simp only [List.getElem?_toArray, List.getElem?_cons_zero, List.getElem?_cons_succ]; rfl) (by kernel_rfl) (by kernel_rfl) (by kernel_rfl) (fun _ _ _ h => h) (Or.inr ⟨by rfl, rfl⟩) hHeld ?_
    try simp only [Act.put, List.setIfInBounds_toArray, List.set_cons_zero, List.set_cons_succ]
    refine wpAnyH_take (i := 6) (v := undef) (by simp only [List.getElem?_toArray, List.getElem?_cons_zero, List.getElem?_cons_succ]; rfl) (by kernel_rfl) (by kernel_rfl) (by kernel_rfl) (fun _ _ _ h => h) (Or.inr ⟨by rfl, rfl⟩) hHeld ?_
    try simp only [Act.put, List.setIfInBounds_toArray, List.set_cons_zero, List.set_cons_succ]
    refine wpAnyH_take (i := 7) (v := ?_) (by simp only [List.getElem?_toArray, List.getElem?_cons_zero, List.getElem?_cons_succ]; rfl) (by kernel_rfl) (by kernel_rfl) (by kernel_rfl) (fun _ _ _ h => h) (Or.inl ⟨by rfl, ?_⟩) hHeld ?_
    rotate_left
    · intro w hSw
      obtain ⟨hSw0, hSw1⟩ := hSw
      go_simp
      try with_reducible rfl
    try simp only [Act.put, List.setIfInBounds_toArray, List.set_cons_zero, List.set_cons_succ]
    refine wpAnyH_done (by kernel_rfl) (NoPanic.normal ?_) _
    clear hHeld
    have HBn : Hid (Below w2.heap.size w2 w3) := HB3.out
    generalize w3 = wn at *
    have HL4 : Hid (wn.rangeAt w.heap.size 0 (cellsB l)) := (HK.out _ HBn.out).1
    have HR4 : Hid (wn.rangeAt (w.heap.size + 1) 0 (cellsB r)) := (HK.out _ HBn.out).2.1
    have HB5 : Hid (Below w2.heap.size w2 (wn.alloc (.cells (cellsB (l ++ r)).toArray 24))) := HBn.out.alloc HBn.out.size _
    have HR5 : Hid (DRow (wn.alloc (.cells (cellsB (l ++ r)).toArray 24)) (some ⟨wn.heap.size, 0, none⟩) 2 [l, r]) := DRow.lit2 wn l r _ hl hr
    go_wp2_with (first
      | (refine wpList_load_mid (by rfl) 24 (.tmp 2) (by rfl) w.heap.size 0 (by rfl) (cellsB l) _ HL4.out Tryd.underlying24 (by rfl) (by rw [cellsB_length, hl]; exact Tryd.sizeDg) ?_)
      | (refine wpList_load_mid (by rfl) 24 (.tmp 3) (by rfl) (w.heap.size + 1) 0 (by rfl) (cellsB r) _ HR4.out Tryd.underlying24 (by rfl) (by rw [cellsB_length, hr]; exact Tryd.sizeDg) ?_)
      | (refine wpList_build2 (by rfl) (.tmp 14) (.tmp 15) 36 (by rfl) 24 (.agg zeros32) iD l r hl hr (by rfl) (by rfl) Tryd.underlying36 hiD hzD0 (by rfl) hzD1 ?_))
    refine (rof_any 10 _ 2 2 [l, r] _ HR5.out (by omega)).mono ?_
    rintro e w6 ⟨rfl, hb6⟩
    have hE : shaL (10 :: [l, r].flatten) = mnode l r := by rw [HE.out]; simp
    rw [hE]
    have HB6 : Hid (Below w2.heap.size w2 w6) := HB5.out.trans (hb6.mono HB5.out.size)
    have HT6 : Hid (w6.there (w.heap.size + 1 + 1) 0 32) := (HK.out _ HB6.out).2.2.1
    have hlen := mnode_length l r
    clear hb6 hE HE
    generalize hD : mnode l r = D at *
    have HD : Hid (mnode l r = D) := hD
    clear hD
    go_wp2_with (refine wpList_store_mid (by rfl) 24 (.tmp 4) (.tmp 17) (by rfl) (w.heap.size + 1 + 1) 0 (cellsB D).toArray (by rfl) (by rfl) (by rw [cellsB_size, hlen]; exact HT6.out) (by rw [cellsB_size, hlen]; exact Tryd.sizeDg) (all_oneCell_toArray (cellsB_one _)) ?_)
    refine bodyPost_ret (v := digestV D) (run_results_row Tryd.results20 _ _ (w.heap.size + 1 + 1) 0 (by rfl) (cellsB D) (World.rangeAt_setCells_same _ _ _ _ (by rw [cellsB_length, hlen]; exact HT6.out)) _ Tryd.underlying24 (by rfl) (by rw [cellsB_length, hlen]; exact Tryd.sizeDg)) rfl ⟨by rw [HD.out], ?_⟩
    exact below_setCells _ (by omega) _ _ _ (HK.out _ HB6.out).2.2.2
theorem Tryd.infoE8 : (Tryd.prog.info? 5).map (fun i => (i.zero, i.size, i.bytes)) = some (some (.int .u8 0), 1, 1) := by kernel_rfl
theorem wp_appendB {w : World} {o : Oper} {a : Act} {K : Act → World → Prop} {Q : Exit → Act → World → Prop} (s x : Operand)
    (ho : o.op = .call { callee := .builtin .append, args := #[s, x], argTypes := #[65, 65] })
    (base : Nat) (v : Value) (l : List UInt8) (hs : a.eval s = v) (hown : OwnL w base v l)
    (b off : Nat) (n c : Nat) (r : List UInt8) (hx : a.eval x = .slice (some ⟨b, off, none⟩) n c) (hr : Row w (some ⟨b, off, none⟩) n r) (hn : 0 < n) (h47 : l.length + n ≤ 140737488355328) (hbase : base ≤ w.heap.size)
    (h : ∀ v' w', OwnL w' base v' (l ++ r) → w.grownBy w' v.ownBlock → K (a.put o.dst v') w') : o.wp Tryd.prog a w K Q := by
  obtain ⟨i0, hi, hz0, hz1, hz2⟩ := info_parts Tryd.infoE8
  obtain ⟨hl, hr⟩ := hr
  have hnews : ∀ j u, (cellsB r)[j]? = some u → w.cell? ((⟨b, off, none⟩ : Addr).add j) = some u := by
    intro j u hj
    have hj' : j < r.length := by have := (List.getElem?_eq_some_iff.1 hj).1; rwa [cellsB_length] at this
    rcases hr with h0 | ⟨b', off', h1, hc⟩
    · omega
    · cases h1
      rw [Go.WideShapes.add_plain, hc j (by omega), ← cellsB_at r j hj', hj]
  obtain ⟨v', w', hrun, h2, h3, h4, h5⟩ := run_append_own_at (P := Tryd.prog) w base 65 o.type 5 i0 (.int .u8 0) 1 1 Tryd.underlying65 hi hz0 hz1 hz2 rfl (by decide) v l.length (cellsB l) hown ⟨b, off, none⟩ n c (cellsB r) (by rw [cellsB_length, hl, Nat.mul_one]) hnews (cellsB_one _) (by unfold maxLen; omega) (by omega) hbase
  unfold Oper.wp execOp
  simp only [ho, resolve, invoke, builtin, Sem.run_bind, Sem.run_pure, Result.andThen_ok, List.map_toArray, List.map_cons, List.map_nil, hs, hx, hrun]
  refine h v' w' ?_ h3
  unfold OwnL
  rw [List.length_append, cellsB_append, hl]
  exact h2
theorem ent_val {w : World} {b o : Nat} {e : Ent} (h : w.rangeAt b o (entC e)) : w.rangeAt b (o + 1) (cellsB e.2) := fun j v hj => by
  have := h (j + 1) v hj
  rwa [show o + (j + 1) = o + 1 + j by omega] at this
set_option maxRecDepth 100000 in
set_option maxHeartbeats 1000000 in
theorem rentryleaf_any (e : Ent) (w : World) (he : okE e) (h0 : 0 ≤ e.1) (h1 : e.1 ≤ 4294967295) :
    Calls Tryd.prog 17 #[entV e] w fun r w' => r = .returned (digestV (leafE e)) ∧ Below w.heap.size w w' := by
  obtain ⟨w2, hw2⟩ : ∃ w2, (w.alloc (.cells (entC e).toArray 26)).alloc (.cells (cellsB zD).toArray 24) = w2 := ⟨_, rfl⟩
  have hs1 : (w.alloc (.cells (entC e).toArray 26)).heap.size = w.heap.size + 1 := by simp
  have HS2 : Hid (w2.heap.size = w.heap.size + 1 + 1) := by unfold Hid; rw [← hw2]; simp
  have hr2 : w2.rangeAt w.heap.size 0 (entC e) := by
    rw [← hw2]
    refine World.rangeAt_alloc (fun j v hj => ?_) _
    rw [Nat.zero_add, cells_new]
    exact hj
  have ht2 : w2.there (w.heap.size + 1) 0 32 := by rw [← hw2]; exact alloc_thereAt _ _ _ 32 _ hs1 zD_size.symm
  have HB2 : Hid (Below w.heap.size w w2) := by rw [← hw2]; exact ((Below.refl _ _).alloc (Nat.le_refl _) _).alloc (by simp) _
  have HK : Hid (∀ wx, Below w2.heap.size w2 wx → wx.rangeAt w.heap.size 0 (entC e) ∧ wx.there (w.heap.size + 1) 0 32 ∧ Below w.heap.size w wx) := fun wx hx => by
    have s := HS2.out
    exact ⟨range_below hr2 hx (by omega), there_below ht2 hx (by omega), HB2.out.trans (hx.mono (by omega))⟩
  have H0 : Hid (Below w2.heap.size w2 w2) := Below.refl _ _
  have lV := he.1
  have HPK : Hid (putOk e.1 (4 : Nat) = true) := decide_eq_true ⟨by omega, by omega, h0, by show e.1 < 4294967296; omega⟩
  have HLP : Hid ((putL e.1 4).length = 4) := putL_length _ _
  have HE : Hid (leafE e = shaL (9 :: (putL e.1 4 ++ e.2))) := rfl
  have k0 : w2.cell? ⟨w.heap.size, 0, none⟩ = some (.int .i64 e.1) := hr2 0 _ rfl
  have k1 := he.2.1
  have k2 := he.2.2
  clear hr2 ht2 he
  obtain ⟨k, V⟩ := e
  have HV : Hid (∀ wx, Below w2.heap.size w2 wx → wx.rangeAt w.heap.size 1 (cellsB V)) := fun wx hx => ent_val (HK.out wx hx).1
  generalize hPL : putL k 4 = PL at *
  have HPL : Hid (putL k 4 = PL) := hPL
  clear hPL
  simp only at lV k0 k1 k2 h0 h1
  go_enter Tryd.func17, Tryd.ntmps17
  go_wp2_with (refine wpList_allocE (by rfl) 24 (by rfl) (cellsB zD).toArray Tryd.zeroDg (w.heap.size + 1) hs1 w2 hw2 ?_)
  refine (rput_some k 4 w2 k2 HPK.out).mono ?_
  rintro r w3 ⟨⟨g3, rfl, hg3, r3⟩, hb3⟩
  have HB3 : Hid (Below w2.heap.size w2 w3) := hb3
  have HR3 : Hid (Row w3 (some ⟨g3, 0, none⟩) 4 PL) := by rw [← HPL.out]; exact r3
  clear hw2 hs1 k0 hb3 r3 hg3
  obtain ⟨g5, hg5⟩ : ∃ g5, w3.heap.size = g5 := ⟨_, rfl⟩
  obtain ⟨w4, hw4⟩ : ∃ w4, w3.alloc (.cells (cellsB zD).toArray 24) = w4 := ⟨_, rfl⟩
  have HT4 : Hid (w4.there g5 0 32) := by rw [← hw4]; exact alloc_thereAt _ _ _ 32 _ hg5 zD_size.symm
  have HB45 : Hid (Below w3.heap.size w3 (w4.setCells g5 0 (cellsB V))) := below_setCells _ (by rw [hg5]; exact Nat.le_refl _) _ _ _ (by rw [← hw4]; exact (Below.refl _ _).alloc (Nat.le_refl _) _)
  have HD5 : Hid (DAt (w4.setCells g5 0 (cellsB V)) g5 0 V) := dat_stored HT4.out lV
  have HV3 : Hid (w3.rangeAt w.heap.size 1 (cellsB V)) := HV.out w3 HB3.out
  have HV4 : Hid (w4.rangeAt w.heap.size 1 (cellsB V)) := by rw [← hw4]; exact World.rangeAt_alloc HV3.out _
  go_upto_region 3 with (first
    | (refine wpList_load_mid (by rfl) 24 (.tmp 12) (by rfl) w.heap.size 1 (by rfl) (cellsB V) _ HV3.out Tryd.underlying24 (by rfl) (by rw [cellsB_length, lV]; exact Tryd.sizeDg) ?_)
    | (refine wpList_load_mid (by rfl) 24 (.tmp 12) (by rfl) w.heap.size 1 (by rfl) (cellsB V) _ HV4.out Tryd.underlying24 (by rfl) (by rw [cellsB_length, lV]; exact Tryd.sizeDg) ?_)
    | (refine wpList_allocE (by rfl) 24 (by rfl) (cellsB zD).toArray Tryd.zeroDg g5 hg5 w4 hw4 ?_)
    | (refine wpList_store_mid (by rfl) 24 (.tmp 5) (.tmp 13) (by rfl) g5 0 (cellsB V).toArray (by rfl) (by rfl) (by rw [cellsB_size, lV]; exact HT4.out) (by rw [cellsB_size, lV]; exact Tryd.sizeDg) (all_oneCell_toArray (cellsB_one _)) ?_))
  generalize w4.setCells g5 0 (cellsB V) = w5 at *
  clear hw4 HT4 hg5 HV3 HV4
  try simp only [Act.put, List.setIfInBounds_toArray, List.set_cons_zero, List.set_cons_succ]
  have HB5 : Hid (Below w2.heap.size w2 w5) := HB3.out.trans (HB45.out.mono HB3.out.size)
  have HR5 : Hid (∀ wx, Below w5.heap.size w5 wx → Row wx (some ⟨g3, 0, none⟩) 4 PL ∧ Row wx (some ⟨g5, 0, none⟩) 32 V) := fun wx hx => ⟨(HR3.out.below HB45.out).below hx, (HD5.out.row lV).below hx⟩
  clear HR3 HB45 HD5 HV
  refine wp_region_noPanic ?_
  refine wp_region_held_drew (S := fun _ => True) (by kernel_rfl) True.intro (fun hHeld => ?_)
  try simp only [Act.put, List.setIfInBounds_toArray, List.set_cons_zero, List.set_cons_succ]
  have HBd : Hid (Below w5.heap.size w5 w5.drew) := below_drewN w5 1
  generalize w5.drew = wd at *
  refine wpAnyH_take (i := 1) (v := ?_) (by simp only [List.getElem?_toArray, List.getElem?_cons_zero, List.getElem?_cons_succ]; rfl) (by kernel_rfl) (by kernel_rfl) (by kernel_rfl) (fun _ _ _ h => h) (Or.inl ⟨by rfl, ?_⟩) hHeld ?_
  rotate_left
  · intro w hSw
    go_simp
    try with_reducible rfl
  try simp only [Act.put, List.setIfInBounds_toArray, List.set_cons_zero, List.set_cons_succ]
  refine wpAnyH_take (i := 3) (v := .slice (some ⟨g5, 0, none⟩) 32 32) (by simp only [List.getElem?_toArray, List.getElem?_cons_zero, List.getElem?_cons_succ]; rfl) (by kernel_rfl) (by kernel_rfl) (by kernel_rfl) (fun _ _ _ h => h) (Or.inl ⟨by rfl, ?_⟩) hHeld ?_
  · intro w hSw
    go_simp
  try simp only [Act.put, List.setIfInBounds_toArray, List.set_cons_zero, List.set_cons_succ]
  refine wpAnyH_ready (rs := [0]) (by kernel_rfl) (by simp) ?_
  refine AllReadyH.cons (by simp only [List.getElem?_toArray, List.getElem?_cons_zero, List.getElem?_cons_succ]; rfl) (fun K hK => ?_) AllReadyH.nil
  rw [if_pos (by rfl)]
  go_simp
  have HBa : Hid (Below w5.heap.size w5 (wd.alloc (.cells #[.int .u8 9] 5))) := Below.alloc HBd.out HBd.out.size _
  have HOa : Hid (OwnL (wd.alloc (.cells #[.int .u8 9] 5)) w5.heap.size (.slice (some ⟨wd.heap.size, 0, none⟩) 1 1) [9]) := World.ownsRow.mono (World.ownsRow_lit (e := 5) (size := 1) wd #[.int .u8 9] 1 (Nat.le_refl _) (by unfold maxLen; omega) (by simp)) HBd.out.size
  refine hK.out _ _ True.intro (fun hHeld => ?_)
  generalize wd.alloc (.cells #[.int .u8 9] 5) = wa at *
  generalize Value.slice (some ⟨wd.heap.size, 0, none⟩) 1 1 = va at *
  clear hK K
  try simp only [Act.put, List.setIfInBounds_toArray, List.set_cons_zero, List.set_cons_succ]
  refine wpAnyH_ready (rs := [2]) (by kernel_rfl) (by simp) ?_
  refine AllReadyH.cons (by simp only [List.getElem?_toArray, List.getElem?_cons_zero, List.getElem?_cons_succ]; rfl) (fun K hK => ?_) AllReadyH.nil
  rw [if_pos (by rfl)]
  refine wp_appendB (.tmp 14) (.tmp 15) (by rfl) w5.heap.size va [9] (by rfl) HOa.out g3 0 4 4 PL (by rfl) (HR5.out _ HBa.out).1 (by omega) (by simp) HBa.out.size ?_
  intro vb wb hob hgb
  have HBb : Hid (Below w5.heap.size w5 wb) := OwnL.grown HOa.out HBa.out hgb (Nat.le_refl _) HBa.out.size
  have HOb : Hid (OwnL wb w5.heap.size vb ([9] ++ PL)) := hob
  clear hob hgb
  refine hK.out _ _ True.intro (fun hHeld => ?_)
  clear hK K
  try simp only [Act.put, List.setIfInBounds_toArray, List.set_cons_zero, List.set_cons_succ]
  refine wpAnyH_ready (rs := [4]) (by kernel_rfl) (by simp) ?_
  refine AllReadyH.cons (by simp only [List.getElem?_toArray, List.getElem?_cons_zero, List.getElem?_cons_succ]; rfl) (fun K hK => ?_) AllReadyH.nil
  rw [if_pos (by rfl)]
  refine wp_appendB (.tmp 16) (.tmp 17) (by rfl) w5.heap.size vb ([9] ++ PL) (by rfl) HOb.out g5 0 32 32 V (by rfl) (HR5.out _ HBb.out).2 (by omega) (by rw [List.length_append, HLP.out]; simp) HBb.out.size ?_
  intro vc wc hoc hgc
  have HBc : Hid (Below w5.heap.size w5 wc) := OwnL.grown HOb.out HBb.out hgc (Nat.le_refl _) HBb.out.size
  obtain ⟨ac, cc, hvc, rc, hcc⟩ := hoc.form
  subst hvc
  have hlc : ([9] ++ PL ++ V : List UInt8).length = 37 := by rw [List.length_append, List.length_append, HLP.out, lV]; rfl
  rw [hlc] at rc hcc
  have HRc : Hid (Row wc ac 37 ([9] ++ PL ++ V)) := rc
  rw [hlc]
  clear hoc hgc rc hlc
  refine hK.out _ _ True.intro (fun hHeld => ?_)
  clear hK K
  try simp only [Act.put, List.setIfInBounds_toArray, List.set_cons_zero, List.set_cons_succ]
  refine wpAnyH_ready (rs := [5]) (by kernel_rfl) (by simp) ?_
  refine AllReadyH.cons (by simp only [List.getElem?_toArray, List.getElem?_cons_zero, List.getElem?_cons_succ]; rfl) (fun K hK => ?_) AllReadyH.nil
  rw [if_pos (by rfl)]
  go_simp
  refine (rsum_any ac 37 cc _ wc HRc.out (by omega)).mono ?_
  rintro r w6 ⟨rfl, hb6⟩
  have HB6 : Hid (Below w2.heap.size w2 w6) := HB5.out.trans ((HBc.out.trans (hb6.mono HBc.out.size)).mono HB5.out.size)
  have hEE : shaL ([9] ++ PL ++ V) = leafE (k, V) := by rw [HE.out]; simp
  rw [hEE]
  have lD := leafE_length (k, V)
  clear hb6 hEE HE
  generalize hD : leafE (k, V) = D at *
  have HD : Hid (leafE (k, V) = D) := hD
  clear hD
  go_wp2_with fail
  refine hK.out _ _ True.intro (fun hHeld => ?_)
  clear hK K
  try simp only [Act.put, List.setIfInBounds_toArray, List.set_cons_zero, List.set_cons_succ]
  refine wpAnyH_ready (rs := [6]) (by kernel_rfl) (by simp) ?_
  refine AllReadyH.cons (by simp only [List.getElem?_toArray, List.getElem?_cons_zero, List.getElem?_cons_succ]; rfl) (fun K hK => ?_) AllReadyH.nil
  rw [if_pos (by rfl)]
  have HT6 : Hid (w6.there (w.heap.size + 1) 0 32) := (HK.out _ HB6.out).2.1
  refine wp_store_mid _ _ _ rfl (w.heap.size + 1) 0 (cellsB D).toArray rfl rfl (by rw [cellsB_size, lD]; exact HT6.out) (by rw [cellsB_size, lD]; exact Tryd.sizeDg) (all_oneCell_toArray (cellsB_one _)) ?_
  refine hK.out _ _ True.intro (fun hHeld => ?_)
  clear hK K
  try simp only [Act.put, List.setIfInBounds_toArray, List.set_cons_zero, List.set_cons_succ]
  refine wpAnyH_done (by kernel_rfl) (NoPanic.normal ?_) _
  clear hHeld
  go_wp2_with fail
  refine bodyPost_ret (v := digestV D) (run_results_row Tryd.results17 _ _ (w.heap.size + 1) 0 (by rfl) (cellsB D) (World.rangeAt_setCells_same _ _ _ _ (by rw [cellsB_length, lD]; exact HT6.out)) _ Tryd.underlying24 (by rfl) (by rw [cellsB_length, lD]; exact Tryd.sizeDg)) rfl ⟨by rw [HD.out], ?_⟩
  exact below_setCells _ (by omega) _ _ _ (HK.out _ HB6.out).2.2
end Go.Proofs.YtbhoijnhpmkglaaDoor
/- The contract of oathbookref2.MapFault. -/
namespace Go.Proofs.YtbhoijnhpmkglaaDoor
open Go.RowKit
set_option linter.unusedVariables false
set_option linter.unusedSimpArgs false

theorem fault_step {es : List Ent} {i : Nat} (h : i < es.length) : faultG (es.take i) (es.drop i) = if isKey (es.getD i noE).1 = false then 2 else if (es.take i).any (fun x => x.1 == (es.getD i noE).1) = true then 7 else faultG (es.take (i + 1)) (es.drop (i + 1)) := by
  have hd : es.drop i = es.getD i noE :: es.drop (i + 1) := by
    rw [List.drop_eq_getElem_cons h, List.getD_eq_getElem?_getD, List.getElem?_eq_getElem h]
    rfl
  have ht : es.take (i + 1) = es.take i ++ [es.getD i noE] := by
    rw [List.take_succ_eq_append_getElem h, List.getD_eq_getElem?_getD, List.getElem?_eq_getElem h]
    rfl
  rw [hd, ht]
  conv => lhs; unfold faultG
theorem any_yes {es : List Ent} {i j : Nat} {k : Int} (hj : j < i) (hi : i ≤ es.length) (h : (es.getD j noE).1 = k) : (es.take i).any (fun x => x.1 == k) = true := by
  refine List.any_eq_true.2 ⟨es.getD j noE, ?_, beq_iff_eq.2 h⟩
  rw [List.getD_eq_getElem?_getD, List.getElem?_eq_getElem (by omega)]
  exact List.mem_take_iff_getElem.2 ⟨j, by omega, rfl⟩
theorem any_no {es : List Ent} {i : Nat} {k : Int} (hi : i ≤ es.length) (h : ∀ j, j < i → (es.getD j noE).1 ≠ k) : (es.take i).any (fun x => x.1 == k) = false := by
  refine List.any_eq_false.2 fun e he => ?_
  obtain ⟨j, hj, rfl⟩ := List.mem_take_iff_getElem.1 he
  have := h j (by omega)
  rw [List.getD_eq_getElem?_getD, List.getElem?_eq_getElem (by omega)] at this
  have h2 : es[j].1 ≠ k := this
  simp [h2]
set_option maxRecDepth 100000 in
set_option maxHeartbeats 2000000 in
theorem rmapfault_any (a : Option Addr) (n c : Nat) (es : List Ent) (w : World) (R : ERow w a n es) (hc : n ≤ c) (hn : n ≤ 9223372036854775807) :
    Calls Tryd.prog 9 #[.slice a n c] w fun r w' => r = .returned (.int .i64 (faultE es)) ∧ Below w.heap.size w w' := by
  have HR : Hid (∀ wx, Below w.heap.size w wx → ERow wx a n es) := fun wx hx => R.below hx
  have HL : Hid (es.length = n) := R.1
  have HOKS : Hid (∀ i, i < n → okE (es.getD i noE)) := R.ok
  clear R
  go_enter Tryd.func9, Tryd.ntmps9
  by_cases hbig : 64 < n
  · have g1 : (64 : Int) < (n : Int) := by omega
    have HE : Hid (faultE es = 4) := by unfold Hid; unfold faultE; rw [if_pos (by rw [HL.out]; exact hbig)]
    go_wp2_with fail
    go_ret
    exact ⟨by rw [HE.out]; rfl, Below.refl _ _⟩
  have g1 : ¬ (64 : Int) < (n : Int) := by omega
  have HE : Hid (faultE es = faultG [] es) := by unfold Hid; unfold faultE; rw [if_neg (by rw [HL.out]; exact hbig)]
  have hn64 : n ≤ 64 := by omega
  go_wp2_with fail
  clear g1
  go_loopw [3] (fun iv wr => ∃ i : Nat, i ≤ n ∧ iv = .int .i64 (i : Int) ∧ Below w.heap.size w wr ∧ Hid (faultE es = faultG (es.take i) (es.drop i))) (fun iv _ => n - (intOf iv).toNat)
  case atStart => exact ⟨0, Nat.zero_le _, rfl, Below.refl _ _, HE.out⟩
  case round =>
    clear HE
    obtain ⟨i, hi, rfl, hB, HF⟩ := hrel
    have HB : Hid (Below w.heap.size w wr) := hB
    clear hB
    by_cases hlt : i < n
    · obtain ⟨b, o, ha⟩ := (HR.out _ HB.out).addr (by omega)
      subst ha
      have HOK := HOKS.out i hlt
      have HFS : Hid (faultE es = if isKey (es.getD i noE).1 = false then 2 else if (es.take i).any (fun x => x.1 == (es.getD i noE).1) = true then 7 else faultG (es.take (i + 1)) (es.drop (i + 1))) := by
        have h := HF.out
        rw [fault_step (by rw [HL.out]; exact hlt)] at h
        exact h
      have HCI : Hid (∀ wx, Below w.heap.size w wx → wx.cell? ⟨b, o + i * 33, none⟩ = some (.int .i64 (es.getD i noE).1)) := fun wx hx => (HR.out _ hx).at i hlt 0 _ rfl
      have b1 := HOK.2.1
      have b2 := HOK.2.2
      obtain ⟨ki, hki⟩ : ∃ ki, (es.getD i noE).1 = ki := ⟨_, rfl⟩
      rw [hki] at HFS HCI b1 b2
      have k0 : wr.cell? ⟨b, o + i * 33, none⟩ = some (.int .i64 ki) := HCI.out _ HB.out
      have i0 : (0 : Int) ≤ (i : Int) := by omega
      have i1 : (i : Int) < (n : Int) := by omega
      clear HF HOK
      have HKI : Hid ((es.getD i noE).1 = ki) := hki
      clear hki
      go_wp2_with fail
      refine (riskey_any ki wr b1 b2).mono ?_
      rintro r wq ⟨rfl, hq⟩
      have hq' : wr = wq := hq.symm
      subst hq'
      clear k0
      by_cases hkey : isKey ki = false
      · have HE : Hid (faultE es = 2) := by have h := HFS.out; rw [if_pos hkey] at h; exact h
        rw [hkey]
        clear hkey
        go_wp2_with fail
        go_ret
        exact ⟨by rw [HE.out]; rfl, HB.out⟩
      · have hkey' : isKey ki = true := by simpa using hkey
        have HFS2 : Hid (faultE es = if (es.take i).any (fun x => x.1 == ki) = true then 7 else faultG (es.take (i + 1)) (es.drop (i + 1))) := by have h := HFS.out; rw [if_neg hkey] at h; exact h
        rw [hkey']
        clear hkey hkey' HFS
        go_wp2_with fail
        go_loopw [4] (fun jv wq => ∃ j : Nat, j ≤ i ∧ jv = .int .i64 (j : Int) ∧ Below w.heap.size w wq ∧ Hid (∀ j', j' < j → (es.getD j' noE).1 ≠ ki)) (fun jv _ => i - (intOf jv).toNat)
        case atStart => exact ⟨0, Nat.zero_le _, rfl, HB.out, fun j' h => by omega⟩
        case round =>
          clear HB
          obtain ⟨j, hj, rfl, hBj, HNJ⟩ := hrel
          have HBj : Hid (Below w.heap.size w wr) := hBj
          clear hBj
          by_cases hjl : j < i
          · have HCJ : Hid (∀ wx, Below w.heap.size w wx → wx.cell? ⟨b, o + j * 33, none⟩ = some (.int .i64 (es.getD j noE).1)) := fun wx hx => (HR.out _ hx).at j (by omega) 0 _ rfl
            obtain ⟨kj, hkj⟩ : ∃ kj, (es.getD j noE).1 = kj := ⟨_, rfl⟩
            rw [hkj] at HCJ
            have HKJ : Hid ((es.getD j noE).1 = kj) := hkj
            clear hkj
            have HCC : Hid (∀ wx, Below w.heap.size w wx → wx.cell? ⟨b, o + j * 33, none⟩ = some (.int .i64 kj) ∧ wx.cell? ⟨b, o + i * 33, none⟩ = some (.int .i64 ki)) := fun wx hx => ⟨HCJ.out _ hx, HCI.out _ hx⟩
            have j0 : (0 : Int) ≤ (j : Int) := by omega
            have j1 : (j : Int) < (n : Int) := by omega
            have j2 : (j : Int) < (i : Int) := by omega
            by_cases hs : kj = ki
            · have HE : Hid (faultE es = 7) := by
                have h := HFS2.out
                rw [if_pos (any_yes (j := j) hjl (by rw [HL.out]; omega) (by rw [HKJ.out]; exact hs))] at h
                exact h
              have q1 : (kj == ki) = true := beq_iff_eq.2 hs
              clear hs
              go_upto_region 11 with fail
              refine wp_region_noPanic ?_
              refine wp_region_held_drew (S := fun wx => wx.cell? ⟨b, o + j * 33, none⟩ = some (.int .i64 kj) ∧ wx.cell? ⟨b, o + i * 33, none⟩ = some (.int .i64 ki)) (by kernel_rfl) (HCC.out _ ((HBj.out).trans ((below_drewN wr 1).mono HBj.out.size))) (fun hHeld => ?_)
              try simp only [Act.put, List.setIfInBounds_toArray, List.set_cons_zero, List.set_cons_succ]
              have HBd : Hid (Below w.heap.size w wr.drew) := HBj.out.trans ((below_drewN wr 1).mono HBj.out.size)
              generalize wr.drew = wd at *
              refine wpAnyH_take (i := 0) (v := ?_) (by simp only [List.getElem?_toArray, List.getElem?_cons_zero, List.getElem?_cons_succ]; rfl) (by kernel_rfl) (by kernel_rfl) (by kernel_rfl) (fun _ _ _ h => h) (Or.inl ⟨by rfl, ?_⟩) hHeld ?_
              rotate_left
              · intro w hSw
                obtain ⟨hSw0, hSw1⟩ := hSw
                go_simp
                try with_reducible rfl
              try simp only [Act.put, List.setIfInBounds_toArray, List.set_cons_zero, List.set_cons_succ]
              refine wpAnyH_take (i := 1) (v := ?_) (by simp only [List.getElem?_toArray, List.getElem?_cons_zero, List.getElem?_cons_succ]; rfl) (by kernel_rfl) (by kernel_rfl) (by kernel_rfl) (fun _ _ _ h => h) (Or.inl ⟨by rfl, ?_⟩) hHeld ?_
              rotate_left
              · intro w hSw
                obtain ⟨hSw0, hSw1⟩ := hSw
                go_simp
                try with_reducible rfl
              try simp only [Act.put, List.setIfInBounds_toArray, List.set_cons_zero, List.set_cons_succ]
              refine wpAnyH_take (i := 2) (v := .pointer (some ⟨b, o + j * 33, none⟩)) (by simp only [List.getElem?_toArray, List.getElem?_cons_zero, List.getElem?_cons_succ]; rfl) (by kernel_rfl) (by kernel_rfl) (by kernel_rfl) (fun _ _ _ h => h) (Or.inl ⟨by rfl, ?_⟩) hHeld ?_
              · intro w hSw
                obtain ⟨hSw0, hSw1⟩ := hSw
                go_simp
              try simp only [Act.put, List.setIfInBounds_toArray, List.set_cons_zero, List.set_cons_succ]
              refine wpAnyH_take (i := 3) (v := ?_) (by simp only [List.getElem?_toArray, List.getElem?_cons_zero, List.getElem?_cons_succ]; rfl) (by kernel_rfl) (by kernel_rfl) (by kernel_rfl) (fun _ _ _ h => h) (Or.inl ⟨by rfl, ?_⟩) hHeld ?_
              rotate_left
              · intro w hSw
                obtain ⟨hSw0, hSw1⟩ := hSw
                go_simp
                try with_reducible rfl
              try simp only [Act.put, List.setIfInBounds_toArray, List.set_cons_zero, List.set_cons_succ]
              refine wpAnyH_take (i := 4) (v := .int .i64 kj) (by simp only [List.getElem?_toArray, List.getElem?_cons_zero, List.getElem?_cons_succ]; rfl) (by kernel_rfl) (by kernel_rfl) (by kernel_rfl) (fun _ _ _ h => h) (Or.inl ⟨by rfl, ?_⟩) hHeld ?_
              · intro w hSw
                obtain ⟨hSw0, hSw1⟩ := hSw
                go_simp
              try simp only [Act.put, List.setIfInBounds_toArray, List.set_cons_zero, List.set_cons_succ]
              refine wpAnyH_take (i := 5) (v := ?_) (by simp only [List.getElem?_toArray, List.getElem?_cons_zero, List.getElem?_cons_succ]; rfl) (by kernel_rfl) (by kernel_rfl) (by kernel_rfl) (fun _ _ _ h => h) (Or.inl ⟨by rfl, ?_⟩) hHeld ?_
              rotate_left
              · intro w hSw
                obtain ⟨hSw0, hSw1⟩ := hSw
                go_simp
                try with_reducible rfl
              try simp only [Act.put, List.setIfInBounds_toArray, List.set_cons_zero, List.set_cons_succ]
              refine wpAnyH_take (i := 6) (v := ?_) (by simp only [List.getElem?_toArray, List.getElem?_cons_zero, List.getElem?_cons_succ]; rfl) (by kernel_rfl) (by kernel_rfl) (by kernel_rfl) (fun _ _ _ h => h) (Or.inl ⟨by rfl, ?_⟩) hHeld ?_
              rotate_left
              · intro w hSw
                obtain ⟨hSw0, hSw1⟩ := hSw
                go_simp
                try with_reducible rfl
              try simp only [Act.put, List.setIfInBounds_toArray, List.set_cons_zero, List.set_cons_succ]
              refine wpAnyH_take (i := 7) (v := .pointer (some ⟨b, o + i * 33, none⟩)) (by simp only [List.getElem?_toArray, List.getElem?_cons_zero, List.getElem?_cons_succ]; rfl) (by kernel_rfl) (by kernel_rfl) (by kernel_rfl) (fun _ _ _ h => h) (Or.inl ⟨by rfl, ?_⟩) hHeld ?_
              · intro w hSw
                obtain ⟨hSw0, hSw1⟩ := hSw
                go_simp
              try simp only [Act.put, List.setIfInBounds_toArray, List.set_cons_zero, List.set_cons_succ]
              refine wpAnyH_take (i := 8) (v := ?_) (by simp only [List.getElem?_toArray, List.getElem?_cons_zero, List.getElem?_cons_succ]; rfl) (by kernel_rfl) (by kernel_rfl) (by kernel_rfl) (fun _ _ _ h => h) (Or.inl ⟨by rfl, ?_⟩) hHeld ?_
              rotate_left
              · intro w hSw
                obtain ⟨hSw0, hSw1⟩ := hSw
                go_simp
                try with_reducible rfl
              try simp only [Act.put, List.setIfInBounds_toArray, List.set_cons_zero, List.set_cons_succ]
              refine wpAnyH_take (i := 9) (v := .int .i64 ki) (by simp only [List.getElem?_toArray, List.getElem?_cons_zero, List.getElem?_cons_succ]; rfl) (by kernel_rfl) (by kernel_rfl) (by kernel_rfl) (fun _ _ _ h => h) (Or.inl ⟨by rfl, ?_⟩) hHeld ?_
              · intro w hSw
                obtain ⟨hSw0, hSw1⟩ := hSw
                go_simp
              try simp only [Act.put, List.setIfInBounds_toArray, List.set_cons_zero, List.set_cons_succ]
              refine wpAnyH_take (i := 10) (v := .bool true) (by simp only [List.getElem?_toArray, List.getElem?_cons_zero, List.getElem?_cons_succ]; rfl) (by kernel_rfl) (by kernel_rfl) (by kernel_rfl) (fun _ _ _ h => h) (Or.inl ⟨by rfl, ?_⟩) hHeld ?_
              · intro w hSw
                obtain ⟨hSw0, hSw1⟩ := hSw
                go_simp
              try simp only [Act.put, List.setIfInBounds_toArray, List.set_cons_zero, List.set_cons_succ]
              refine wpAnyH_done (by kernel_rfl) (NoPanic.normal ?_) _
              clear hHeld
              go_wp2_with fail
              go_ret
              exact ⟨by rw [HE.out]; rfl, HBd.out⟩
            · have q1 : (kj == ki) = false := beq_eq_false_iff_ne.2 hs
              have HNJ2 : Hid (∀ j', j' < j + 1 → (es.getD j' noE).1 ≠ ki) := fun j' h => by
                by_cases q : j' = j
                · subst q; rw [HKJ.out]; exact hs
                · exact HNJ.out j' (by omega)
              clear hs
              go_upto_region 11 with fail
              refine wp_region_noPanic ?_
              refine wp_region_held_drew (S := fun wx => wx.cell? ⟨b, o + j * 33, none⟩ = some (.int .i64 kj) ∧ wx.cell? ⟨b, o + i * 33, none⟩ = some (.int .i64 ki)) (by kernel_rfl) (HCC.out _ ((HBj.out).trans ((below_drewN wr 1).mono HBj.out.size))) (fun hHeld => ?_)
              try simp only [Act.put, List.setIfInBounds_toArray, List.set_cons_zero, List.set_cons_succ]
              have HBd : Hid (Below w.heap.size w wr.drew) := HBj.out.trans ((below_drewN wr 1).mono HBj.out.size)
              generalize wr.drew = wd at *
              refine wpAnyH_take (i := 0) (v := ?_) (by simp only [List.getElem?_toArray, List.getElem?_cons_zero, List.getElem?_cons_succ]; rfl) (by kernel_rfl) (by kernel_rfl) (by kernel_rfl) (fun _ _ _ h => h) (Or.inl ⟨by rfl, ?_⟩) hHeld ?_
              rotate_left
              · intro w hSw
                obtain ⟨hSw0, hSw1⟩ := hSw
                go_simp
                try with_reducible rfl
              try simp only [Act.put, List.setIfInBounds_toArray, List.set_cons_zero, List.set_cons_succ]
              refine wpAnyH_take (i := 1) (v := ?_) (by simp only [List.getElem?_toArray, List.getElem?_cons_zero, List.getElem?_cons_succ]; rfl) (by kernel_rfl) (by kernel_rfl) (by kernel_rfl) (fun _ _ _ h => h) (Or.inl ⟨by rfl, ?_⟩) hHeld ?_
              rotate_left
              · intro w hSw
                obtain ⟨hSw0, hSw1⟩ := hSw
                go_simp
                try with_reducible rfl
              try simp only [Act.put, List.setIfInBounds_toArray, List.set_cons_zero, List.set_cons_succ]
              refine wpAnyH_take (i := 2) (v := .pointer (some ⟨b, o + j * 33, none⟩)) (by simp only [List.getElem?_toArray, List.getElem?_cons_zero, List.getElem?_cons_succ]; rfl) (by kernel_rfl) (by kernel_rfl) (by kernel_rfl) (fun _ _ _ h => h) (Or.inl ⟨by rfl, ?_⟩) hHeld ?_
              · intro w hSw
                obtain ⟨hSw0, hSw1⟩ := hSw
                go_simp
              try simp only [Act.put, List.setIfInBounds_toArray, List.set_cons_zero, List.set_cons_succ]
              refine wpAnyH_take (i := 3) (v := ?_) (by simp only [List.getElem?_toArray, List.getElem?_cons_zero, List.getElem?_cons_succ]; rfl) (by kernel_rfl) (by kernel_rfl) (by kernel_rfl) (fun _ _ _ h => h) (Or.inl ⟨by rfl, ?_⟩) hHeld ?_
              rotate_left
              · intro w hSw
                obtain ⟨hSw0, hSw1⟩ := hSw
                go_simp
                try with_reducible rfl
              try simp only [Act.put, List.setIfInBounds_toArray, List.set_cons_zero, List.set_cons_succ]
              refine wpAnyH_take (i := 4) (v := .int .i64 kj) (by simp only [List.getElem?_toArray, List.getElem?_cons_zero, List.getElem?_cons_succ]; rfl) (by kernel_rfl) (by kernel_rfl) (by kernel_rfl) (fun _ _ _ h => h) (Or.inl ⟨by rfl, ?_⟩) hHeld ?_
              · intro w hSw
                obtain ⟨hSw0, hSw1⟩ := hSw
                go_simp
              try simp only [Act.put, List.setIfInBounds_toArray, List.set_cons_zero, List.set_cons_succ]
              refine wpAnyH_take (i := 5) (v := ?_) (by simp only [List.getElem?_toArray, List.getElem?_cons_zero, List.getElem?_cons_succ]; rfl) (by kernel_rfl) (by kernel_rfl) (by kernel_rfl) (fun _ _ _ h => h) (Or.inl ⟨by rfl, ?_⟩) hHeld ?_
              rotate_left
              · intro w hSw
                obtain ⟨hSw0, hSw1⟩ := hSw
                go_simp
                try with_reducible rfl
              try simp only [Act.put, List.setIfInBounds_toArray, List.set_cons_zero, List.set_cons_succ]
              refine wpAnyH_take (i := 6) (v := ?_) (by simp only [List.getElem?_toArray, List.getElem?_cons_zero, List.getElem?_cons_succ]; rfl) (by kernel_rfl) (by kernel_rfl) (by kernel_rfl) (fun _ _ _ h => h) (Or.inl ⟨by rfl, ?_⟩) hHeld ?_
              rotate_left
              · intro w hSw
                obtain ⟨hSw0, hSw1⟩ := hSw
                go_simp
                try with_reducible rfl
              try simp only [Act.put, List.setIfInBounds_toArray, List.set_cons_zero, List.set_cons_succ]
              refine wpAnyH_take (i := 7) (v := .pointer (some ⟨b, o + i * 33, none⟩)) (by simp only [List.getElem?_toArray, List.getElem?_cons_zero, List.getElem?_cons_succ]; rfl) (by kernel_rfl) (by kernel_rfl) (by kernel_rfl) (fun _ _ _ h => h) (Or.inl ⟨by rfl, ?_⟩) hHeld ?_
              · intro w hSw
                obtain ⟨hSw0, hSw1⟩ := hSw
                go_simp
              try simp only [Act.put, List.setIfInBounds_toArray, List.set_cons_zero, List.set_cons_succ]
              refine wpAnyH_take (i := 8) (v := ?_) (by simp only [List.getElem?_toArray, List.getElem?_cons_zero, List.getElem?_cons_succ]; rfl) (by kernel_rfl) (by kernel_rfl) (by kernel_rfl) (fun _ _ _ h => h) (Or.inl ⟨by rfl, ?_⟩) hHeld ?_
              rotate_left
              · intro w hSw
                obtain ⟨hSw0, hSw1⟩ := hSw
                go_simp
                try with_reducible rfl
              try simp only [Act.put, List.setIfInBounds_toArray, List.set_cons_zero, List.set_cons_succ]
              refine wpAnyH_take (i := 9) (v := .int .i64 ki) (by simp only [List.getElem?_toArray, List.getElem?_cons_zero, List.getElem?_cons_succ]; rfl) (by kernel_rfl) (by kernel_rfl) (by kernel_rfl) (fun _ _ _ h => h) (Or.inl ⟨by rfl, ?_⟩) hHeld ?_
              · intro w hSw
                obtain ⟨hSw0, hSw1⟩ := hSw
                go_simp
              try simp only [Act.put, List.setIfInBounds_toArray, List.set_cons_zero, List.set_cons_succ]
              refine wpAnyH_take (i := 10) (v := .bool false) (by simp only [List.getElem?_toArray, List.getElem?_cons_zero, List.getElem?_cons_succ]; rfl) (by kernel_rfl) (by kernel_rfl) (by kernel_rfl) (fun _ _ _ h => h) (Or.inl ⟨by rfl, ?_⟩) hHeld ?_
              · intro w hSw
                obtain ⟨hSw0, hSw1⟩ := hSw
                go_simp
              try simp only [Act.put, List.setIfInBounds_toArray, List.set_cons_zero, List.set_cons_succ]
              refine wpAnyH_done (by kernel_rfl) (NoPanic.normal ?_) _
              clear hHeld
              go_wp2_with fail
              go_roundw
              case rel => exact ⟨j + 1, by omega, by go_num, HBd.out, HNJ2.out⟩
              case measure => simp [intOf]; omega
          · obtain rfl : j = i := by omega
            have j2 : ¬ (j : Int) < (j : Int) := by omega
            have HE : Hid (faultE es = faultG (es.take (j + 1)) (es.drop (j + 1))) := by
              have h := HFS2.out
              rw [if_neg (by rw [any_no (by rw [HL.out]; omega) HNJ.out]; simp)] at h
              exact h
            go_wp2_with fail
            go_roundw
            case rel => exact ⟨j + 1, by omega, by go_num, HBj.out, HE.out⟩
            case measure => simp [intOf]; omega
    · obtain rfl : i = n := by omega
      have g2 : ¬ (i : Int) < (i : Int) := by omega
      have HE : Hid (faultE es = 0) := by
        have h := HF.out
        rw [List.drop_of_length_le (by rw [HL.out]; exact Nat.le_refl _)] at h
        exact h
      go_wp2_with fail
      go_ret
      exact ⟨by rw [HE.out]; rfl, HB.out⟩
end Go.Proofs.YtbhoijnhpmkglaaDoor
/- Plain facts of layers: a layer above another one, the layer of the entries; a number's last bit. -/
namespace Go.Proofs.YtbhoijnhpmkglaaDoor
open Go.RowKit Go.Maps
set_option linter.unusedVariables false
set_option linter.unusedSimpArgs false

/-! a number's last bit -/
theorem and_even (x : Nat) (hx : x < 9223372036854775808) : x &&& 18446744073709551614 = 2 * (x / 2) := by
  have h1 : (x &&& 18446744073709551614) / 2 = x / 2 := by
    rw [Nat.and_div_two, show 18446744073709551614 / 2 = 2 ^ 63 - 1 by decide, Nat.and_two_pow_sub_one_eq_mod, Nat.mod_eq_of_lt (by omega)]
  have h2 : (x &&& 18446744073709551614) % 2 = 0 := by
    have : ¬ (x &&& 18446744073709551614) % 2 = 1 := fun h => by
      have := (Nat.and_mod_two_eq_one.1 h).2
      omega
    omega
  omega
theorem or_odd (x : Nat) : x ||| 1 = 2 * (x / 2) + 1 := by
  have h1 : (x ||| 1) / 2 = x / 2 := by rw [Nat.or_div_two, show 1 / 2 = 0 by decide, Nat.or_zero]
  have h2 : (x ||| 1) % 2 = 1 := Nat.or_mod_two_eq_one.2 (Or.inr rfl)
  omega
theorem xor_one (x : Nat) : x ^^^ 1 = if x % 2 = 1 then x - 1 else x + 1 := by
  have h1 : (x ^^^ 1) / 2 = x / 2 := by rw [Nat.xor_div_two, show 1 / 2 = 0 by decide, Nat.xor_zero]
  have h2 : (x ^^^ 1) % 2 = (x + 1) % 2 := by
    have := @Nat.xor_mod_two_eq_one x 1
    have e : (1 : Nat) % 2 = 1 := rfl
    rw [e] at this
    by_cases c : x % 2 = 1
    · have : ¬ (x ^^^ 1) % 2 = 1 := fun q => (this.1 q) ⟨fun _ => rfl, fun _ => c⟩
      omega
    · have : (x ^^^ 1) % 2 = 1 := this.2 fun q => c (q.2 rfl)
      omega
  split <;> omega
theorem and_one (x : Nat) : x &&& 1 = x % 2 := Nat.and_two_pow_sub_one_eq_mod x 1
theorem i64_andNot_one (a : Nat) (ha : a < 9223372036854775808) : bits .andNot .i64 (a : Int) 1 = ((2 * (a / 2) : Nat) : Int) := by
  show IntKind.i64.wrap ((BitVec.ofInt 64 (a : Int) &&& ~~~ BitVec.ofInt 64 (1 : Int)).toNat : Int) = _
  rw [BitVec.toNat_and, ofInt_u64 a (by omega), show (~~~ BitVec.ofInt 64 (1 : Int)).toNat = 18446744073709551614 by decide, and_even a ha, wrap_i64_in _ (by omega)]
theorem i64_or_one (a : Nat) (ha : a < 9223372036854775808) : bits .or .i64 (a : Int) 1 = ((2 * (a / 2) + 1 : Nat) : Int) := by
  rw [show (1 : Int) = ((1 : Nat) : Int) by rfl, i64_or_nat a 1 ha (by omega), or_odd]
theorem i64_xor_one (a : Nat) (ha : a < 9223372036854775808) : bits .xor .i64 (a : Int) 1 = ((a ^^^ 1 : Nat) : Int) := by
  rw [show (1 : Int) = ((1 : Nat) : Int) by rfl, i64_xor_nat a 1 ha (by omega)]
theorem i64_and_one (a : Nat) (ha : a < 9223372036854775808) : bits .and .i64 (a : Int) 1 = ((a % 2 : Nat) : Int) := by
  rw [show (1 : Int) = ((1 : Nat) : Int) by rfl, i64_and_nat a 1 ha (by omega), and_one]

/-! the layer above -/
def upF (f : Nat → List UInt8) (j : Nat) : List UInt8 := mnode (f (2 * j)) (f (2 * j + 1))
/-- What the new map holds while some entries of the old one are still to come. -/
def Upped (D D0 : DataW (List UInt8)) (f : Nat → List UInt8) (left : Lit → Bool) : Prop :=
  (∀ j : Nat, Maps.has D (kI j) = true → ∀ zd, D.atKey (kI j) zd = .held (upF f j)) ∧
  (∀ k : Nat, Maps.has D0 (kI k) = true → left (kI k) = false → Maps.has D (kI (k / 2 : Nat)) = true) ∧
  (∀ kl, Maps.has D kl = true → ∃ j : Nat, j < 4294967296 ∧ kl = kI j)
theorem upped_start (D0 : DataW (List UInt8)) (f : Nat → List UInt8) : Upped (.map []) D0 f (Maps.has D0) :=
  ⟨fun j h => (by cases h), fun k h1 h2 => (by rw [h1] at h2; cases h2), fun kl h => (by cases h)⟩
theorem upped_step {D D0 : DataW (List UInt8)} {f : Nat → List UInt8} {left : Lit → Bool} (h : Upped D D0 f left) (hD : IsMap D) (x : Nat) (hx : x < 4294967296) : Upped (D.put (kI (x / 2 : Nat)) (.held (upF f (x / 2)))) D0 f (fun z => left z && !z.sameKey (kI x)) := by
  have hk : WideAt.IsKeyLit (kI (x / 2 : Nat)) := kI_key (by omega) (by omega)
  refine ⟨fun j hj zd => ?_, fun k h0 hl => ?_, fun kl hkl => ?_⟩
  · by_cases e : kI (j : Int) = kI (x / 2 : Nat)
    · have ej : j = x / 2 := by have := kI_inj e; omega
      subst ej
      rw [atKey_put_same hD hk]
    · rw [atKey_put_other e]
      rw [has_put_other e] at hj
      exact h.1 j hj zd
  · by_cases e : kI (k / 2 : Nat) = kI (x / 2 : Nat)
    · rw [e, has_put_same hD hk]
    · rw [has_put_other e]
      refine h.2.1 k h0 ?_
      have hne : kI (k : Int) ≠ kI (x : Int) := fun q => e (by have := kI_inj q; rw [show k = x by omega])
      have := hl
      simp only [sameKey_ne hne, Bool.not_false, Bool.and_true] at this
      exact this
  · by_cases e : kl = kI (x / 2 : Nat)
    · exact ⟨x / 2, by omega, e⟩
    · rw [has_put_other e] at hkl
      exact h.2.2 kl hkl
theorem upped_end {D D0 : DataW (List UInt8)} {f : Nat → List UInt8} {left : Lit → Bool} (h : Upped D D0 f left) (hl : ∀ kl, left kl = false) (hf : ∀ k : Nat, D0.atKey (kI k) (.held zT) = .held (f k)) (j : Nat) : D.atKey (kI j) (.held zT) = .held (upF f j) := by
  cases hh : Maps.has D (kI j)
  · rw [atKey_of_not_has hh]
    have none : ∀ k : Nat, k / 2 = j → f k = zT := fun k hk => by
      have h0 : Maps.has D0 (kI k) = false := by
        cases h1 : Maps.has D0 (kI k)
        · rfl
        · have := h.2.1 k h1 (hl _)
          rw [hk, hh] at this
          cases this
      have := hf k
      rw [atKey_of_not_has h0] at this
      injection this with this
      exact this.symm
    unfold upF
    rw [none (2 * j) (by omega), none (2 * j + 1) (by omega), mnode_z]
  · exact h.1 j hh _
/-- The layer so many bits up. -/
def fL (g : Nat → List UInt8) (i k : Nat) : List UInt8 := mapL g (k * 2 ^ i) i
theorem fL_zero (g : Nat → List UInt8) : fL g 0 = g := by
  funext k
  show g (k * 2 ^ 0) = g k
  rw [Nat.pow_zero, Nat.mul_one]
theorem fL_succ (g : Nat → List UInt8) (i : Nat) : upF (fL g i) = fL g (i + 1) := by
  funext k
  unfold upF fL
  rw [mapL, show 2 * k * 2 ^ i = k * 2 ^ (i + 1) by rw [Nat.pow_succ]; ac_rfl, show (2 * k + 1) * 2 ^ i = k * 2 ^ (i + 1) + 2 ^ i by rw [Nat.add_mul, Nat.pow_succ]; simp; ac_rfl]
theorem fL_root (g : Nat → List UInt8) : fL g 32 0 = mapL g 0 32 := by unfold fL; rw [Nat.zero_mul]
theorem fL_sib (g : Nat → List UInt8) (k i : Nat) : fL g i (k / 2 ^ i ^^^ 1) = mapL g (sibM k i) i := by
  unfold fL
  congr 1
  rw [xor_one]
  have hb := bit_base k i
  have hp : 0 < 2 ^ i := Nat.pow_pos (by omega)
  have h3 := Nat.div_add_mod k (2 ^ i)
  have h4 : 2 ^ i * (k / 2 ^ i) = k / 2 ^ i * 2 ^ i := Nat.mul_comm _ _
  by_cases c : k / 2 ^ i % 2 = 1
  · rw [if_pos c, Nat.sub_mul, Nat.one_mul]
    have e := base_hi c
    rw [e.2]
    have e1 : baseM k i = k - k % 2 ^ i := rfl
    omega
  · rw [if_neg c, Nat.add_mul, Nat.one_mul]
    have e := base_lo c
    rw [e.2, ← e.1]
    have e1 : baseM k i = k - k % 2 ^ i := rfl
    omega
/-! the layer of the entries -/
theorem gE_take {es : List Ent} {i k : Nat} (hi : i < es.length) (hk : (es.getD i noE).1 = (k : Int)) (hn : (es.take i).any (fun x => x.1 == (k : Int)) = false) (j : Nat) : gE (es.take (i + 1)) j = if j = k then leafE (es.getD i noE) else gE (es.take i) j := by
  have ht : es.take (i + 1) = es.take i ++ [es.getD i noE] := by
    rw [List.take_succ_eq_append_getElem hi, List.getD_eq_getElem?_getD, List.getElem?_eq_getElem hi]
    rfl
  by_cases c : j = k
  · subst c
    rw [if_pos rfl]
    refine gE_of ?_
    rw [ht, List.find?_append]
    have : (es.take i).find? (fun e => e.1 == (j : Int)) = none := by
      rw [List.find?_eq_none]
      intro x hx
      have := (List.any_eq_false.1 hn) x hx
      simpa using this
    rw [this]
    simp [hk]
    exact hk
  · rw [if_neg c]
    unfold gE
    rw [ht, List.find?_append]
    have : ([es.getD i noE] : List Ent).find? (fun e => e.1 == (j : Int)) = none := by
      rw [List.find?_eq_none]
      intro x hx
      rw [List.mem_singleton] at hx
      subst hx
      rw [hk]
      simp
      omega
    rw [this]
    cases (es.take i).find? (fun e => e.1 == (j : Int)) <;> rfl
/-- What the map holds behind the first i entries. -/
def Leaved (D : DataW (List UInt8)) (es : List Ent) (i : Nat) : Prop :=
  (∀ k : Nat, D.atKey (kI k) (.held zT) = .held (gE (es.take i) k)) ∧ (∀ k : Nat, Maps.has D (kI k) = (es.take i).any (fun x => x.1 == (k : Int))) ∧ (∀ kl, Maps.has D kl = true → ∃ j : Nat, j < 4294967296 ∧ kl = kI j)
theorem leaved_start (es : List Ent) : Leaved (.map []) es 0 := ⟨fun k => rfl, fun k => rfl, fun kl h => by cases h⟩
theorem leaved_step {D : DataW (List UInt8)} {es : List Ent} {i k : Nat} (h : Leaved D es i) (hD : IsMap D) (hi : i < es.length) (hk : (es.getD i noE).1 = (k : Int)) (hn : (es.take i).any (fun x => x.1 == (k : Int)) = false) (hk2 : k < 4294967296) :
    Leaved (D.put (kI k) (.held (leafE (es.getD i noE)))) es (i + 1) := by
  have hkl : WideAt.IsKeyLit (kI k) := kI_key (by omega) (by omega)
  have ht : es.take (i + 1) = es.take i ++ [es.getD i noE] := by
    rw [List.take_succ_eq_append_getElem hi, List.getD_eq_getElem?_getD, List.getElem?_eq_getElem hi]
    rfl
  refine ⟨fun j => ?_, fun j => ?_, fun kl hkl' => ?_⟩
  · rw [gE_take hi hk hn j]
    by_cases c : j = k
    · subst c
      rw [if_pos rfl, atKey_put_same hD hkl]
    · rw [if_neg c, atKey_put_other (fun q => c (by have := kI_inj q; omega))]
      exact h.1 j
  · rw [ht, List.any_append]
    by_cases c : j = k
    · subst c
      rw [has_put_same hD hkl]
      simp [hk]
      exact Or.inr hk
    · rw [has_put_other (fun q => c (by have := kI_inj q; omega)), h.2.1 j]
      have : ([es.getD i noE] : List Ent).any (fun x => x.1 == (j : Int)) = false := by
        simp only [List.any_cons, List.any_nil, Bool.or_false, hk]
        simp
        omega
      rw [this, Bool.or_false]
  · by_cases e : kl = kI k
    · exact ⟨k, hk2, e⟩
    · rw [has_put_other e] at hkl'
      exact h.2.2 kl hkl'
end Go.Proofs.YtbhoijnhpmkglaaDoor
