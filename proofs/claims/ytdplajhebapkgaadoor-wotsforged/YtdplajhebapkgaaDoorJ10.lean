/- Texts of this claim, joined: StepD, Rwotss, Rwotsk, Wdigest. -/
import Derived.Test.YtdplajhebapkgaaDoorJ07
import Derived.Test.YtdplajhebapkgaaDoorJ09
import Derived.Deep.RegionHeld3
import Derived.Test.YtdplajhebapkgaaDoorJ03
/- A literal of a digest, and digests appended, as steps of a region that draws its order. -/
namespace Go.Proofs.YtdplajhebapkgaaDoor
open Go.RowKit
set_option linter.unusedVariables false
set_option linter.unusedSimpArgs false

theorem wp_buildD1 {w : World} {o : Oper} {a : Act} {K : Act → World → Prop} {Q : Exit → Act → World → Prop} (x : Operand) (ho : o.op = .buildSlice 24 1 #[(0, x)])
    (l : List UInt8) (hl : l.length = 32) (hx : a.eval x = digestV l)
    (h : K (a.put o.dst (.slice (some ⟨w.heap.size, 0, none⟩) 1 1)) (w.alloc (.cells (cellsB l).toArray 23))) : o.wp Tryd.prog a w K Q := by
  obtain ⟨i0, hi, hz0, hz1, hz2⟩ := info_parts Tryd.infoDg
  have hrun := run_buildD (P := Tryd.prog) w 24 23 (.agg zeros32) i0 [l] (by intro q hq; rw [List.mem_singleton] at hq; rw [hq]; exact hl) (by simp) (by simp) Tryd.underlying24 hi hz0 (by rfl) hz1
  simp only [List.length_singleton, List.zipIdx_cons, List.zipIdx_nil, List.map_cons, List.map_nil, List.flatten_cons, List.flatten_nil, List.append_nil] at hrun
  unfold Oper.wp
  simp [execOp, ho, hx, hrun, Result.andThen]
  exact h
theorem wp_appendD {w : World} {o : Oper} {a : Act} {K : Act → World → Prop} {Q : Exit → Act → World → Prop} (s x : Operand)
    (ho : o.op = .call { callee := .builtin .append, args := #[s, x], argTypes := #[24, 24] })
    (base : Nat) (v : Value) (ls : List (List UInt8)) (hs : a.eval s = v) (hown : OwnD w base v ls)
    (ad : Addr) (n c : Nat) (ds : List (List UInt8)) (hx : a.eval x = .slice (some ad) n c) (hr : DRow w (some ad) n ds) (hn0 : 0 < n) (h47 : (ls.length + n) * 32 ≤ 140737488355328) (hbase : base ≤ w.heap.size)
    (h : ∀ v' w', OwnD w' base v' (ls ++ ds) → w.grownBy w' v.ownBlock → (v'.ownBlock = v.ownBlock ∨ v'.ownBlock = some w.heap.size) → K (a.put o.dst v') w') : o.wp Tryd.prog a w K Q := by
  obtain ⟨i0, hi, hz0, hz1, hz2⟩ := info_parts Tryd.infoDg
  have hlen := hr.len
  obtain ⟨hl, h32, h1 | ⟨b, off, e1, hc⟩⟩ := hr
  · omega
  cases e1
  have hf := flat_len h32
  have hnews : ∀ j u, (cellsB ds.flatten)[j]? = some u → w.cell? ((⟨b, off, none⟩ : Addr).add j) = some u := by
    intro j u hj
    have hj' : j < ds.flatten.length := by have := (List.getElem?_eq_some_iff.1 hj).1; rwa [cellsB_length] at this
    have hq : j / 32 < n := by omega
    have hm : j % 32 < 32 := Nat.mod_lt _ (by omega)
    have e : j = 32 * (j / 32) + j % 32 := by omega
    rw [Go.WideShapes.add_plain, ← hj, cellsB_at _ j hj']
    have := (hc (j / 32) hq).cell (j % 32) (by rw [hlen _ hq]; exact hm)
    rw [show off + 32 * (j / 32) + j % 32 = off + j by omega] at this
    rw [this]
    have hn := nth_flat h32 (j / 32) (j % 32) (by omega) hm
    rw [← e] at hn
    rw [hn]
  obtain ⟨v', w', hrun, h2, h3, h4, h5⟩ := run_append_own_at (P := Tryd.prog) w base 24 o.type 23 i0 (.agg zeros32) 32 32 Tryd.underlying24 hi hz0 hz1 hz2 rfl (by decide) v ls.length (cellsB ls.flatten) hown.2 ⟨b, off, none⟩ n c (cellsB ds.flatten) (by rw [cellsB_length, hf, hl]; omega) hnews (cellsB_one _) (by unfold maxLen; omega) h47 hbase
  unfold Oper.wp execOp
  simp only [ho, resolve, invoke, builtin, Sem.run_bind, Sem.run_pure, Result.andThen_ok, List.map_toArray, List.map_cons, List.map_nil, hs, hx, hrun]
  refine h v' w' ⟨?_, ?_⟩ h3 h5
  · intro l hl'
    rcases List.mem_append.1 hl' with h' | h'
    · exact hown.1 l h'
    · exact h32 l h'
  · rw [List.length_append, List.flatten_append, cellsB_append, hl]
    exact h2
end Go.Proofs.YtdplajhebapkgaaDoor
/- The contract of oathbookref1.WotsSigned. -/
namespace Go.Proofs.YtdplajhebapkgaaDoor
open Go.RowKit
set_option linter.unusedVariables false
set_option linter.unusedSimpArgs false

theorem wotsSigL_len (seed m : List UInt8) (n : Nat) : (wotsSigL seed m n).length = n := by simp [wotsSigL]
theorem wotsSigL_succ (seed m : List UInt8) (n : Nat) : wotsSigL seed m n ++ [walkL (wotsSecL seed n) (digL m n)] = wotsSigL seed m (n + 1) := by
  unfold wotsSigL; rw [List.range_succ, List.map_append]; rfl

set_option maxRecDepth 100000 in
set_option maxHeartbeats 1000000 in
theorem rwotsSigned_any (seed m : List UInt8) (w : World) (hs : seed.length = 32) (hm : m.length = 32) :
    Calls Tryd.prog 11 #[digestV seed, digestV m] w fun e w' => (∃ a c, e = .returned (.slice a 67 c) ∧ 67 ≤ c ∧ DRow w' a 67 (wotsSigL seed m 67)) ∧ Below w.heap.size w w' := by
  obtain ⟨w2, hw2⟩ : ∃ w2, (w.alloc (.cells (cellsB seed).toArray 23)).alloc (.cells (cellsB m).toArray 23) = w2 := ⟨_, rfl⟩
  have hs1 : (w.alloc (.cells (cellsB seed).toArray 23)).heap.size = w.heap.size + 1 := by simp
  have HS2 : Hid (w2.heap.size = w.heap.size + 1 + 1) := by unfold Hid; rw [← hw2]; simp
  have HD2 : Hid (DAt w2 w.heap.size 0 seed) := by rw [← hw2]; exact World.rangeAt_alloc (box_dat w seed _) _
  have HM2 : Hid (DAt w2 (w.heap.size + 1) 0 m) := by rw [← hw2]; exact box_rangeAt _ _ _ _ hs1
  have HB2 : Hid (Below w.heap.size w w2) := by rw [← hw2]; exact ((Below.refl _ _).alloc (Nat.le_refl _) _).alloc (by simp) _
  go_enter Tryd.func11, Tryd.ntmps11
  go_wp2_with (refine wpList_load_mid (by rfl) 23 (.tmp 3) (by rfl) (w.heap.size + 1) 0 (by rfl) (cellsB m) _ (by first | exact HM2.out | (rw [hw2]; exact HM2.out)) Tryd.underlying23 (by rfl) (by rw [cellsB_length, hm]; exact Tryd.sizeDg) ?_)
  try rw [hw2]
  clear hw2 hs1
  refine (rnib_any m w2 hm).mono ?_
  rintro e w3 ⟨⟨an, cn, rfl, hcn, hrn⟩, hb3⟩
  obtain ⟨bn, on, rfl, hcell⟩ : ∃ b o, an = some ⟨b, o, none⟩ ∧ ∀ i, i < 67 → w3.cell? ⟨b, o + i, none⟩ = some (.int .i64 ((digsL m 67).getD i 0)) := by
    rcases hrn.2 with h | h
    · omega
    · exact h
  have HC : Hid (∀ i, i < 67 → w3.cell? ⟨bn, on + i, none⟩ = some (.int .i64 (digL m i : Int))) := fun i hi => by rw [hcell i hi, digsL_at m 67 i hi]
  have HD3 : Hid (DAt w3 w.heap.size 0 seed ∧ w.heap.size < w3.heap.size ∧ Below w.heap.size w w3) := by
    have := HS2.out
    have h3 := hb3.size
    exact ⟨HD2.out.below hb3 (by omega), by omega, HB2.out.trans (hb3.mono (by omega))⟩
  clear hcell hrn hb3 HD2 HM2 HB2 HS2
  go_wp2_with fail
  go_loopw [6, 7] (fun v i wr => ∃ k : Nat, k ≤ 67 ∧ i = .int .i64 (k : Int) ∧ OwnD wr w3.heap.size v (wotsSigL seed m k) ∧ Below w3.heap.size w3 wr) (fun _ i _ => 67 - (intOf i).toNat)
  case atStart => exact ⟨0, Nat.zero_le _, rfl, OwnD.nil _ _, Below.refl _ _⟩
  case round =>
    obtain ⟨k, hk, rfl, hO, hB⟩ := hrel
    by_cases hlt : k < 67
    · have HO : Hid (OwnD wr w3.heap.size u6 (wotsSigL seed m k)) := hO
      have HB : Hid (Below w3.heap.size w3 wr) := hB
      have HSN : Hid (wotsSigL seed m k ++ [walkL (wotsSecL seed k) (digL m k)] = wotsSigL seed m (k + 1)) := wotsSigL_succ seed m k
      have HLN : Hid ((wotsSigL seed m k).length = k) := wotsSigL_len seed m k
      have hc := HC.out k hlt
      have hdl := digL_lt m k
      have HKEEP : Hid (∀ wx, Below w3.heap.size w3 wx → wx.rangeAt w.heap.size 0 (cellsB seed) ∧ wx.cell? ⟨bn, on + k, none⟩ = some (.int .i64 (digL m k : Int))) := fun wx hx =>
        ⟨HD3.out.1.below hx HD3.out.2.1, (hx.cell (p := ⟨bn, on + k, none⟩) (cell_block hc)).trans hc⟩
      clear hO hB hc
      generalize digL m k = d at *
      have k0 : (0 : Int) ≤ (k : Int) := by omega
      have k1 : (k : Int) < 67 := by omega
      go_wp2_with fail
      refine wp_region_noPanic ?_
      refine wp_region_held_drew (S := fun w' => w'.rangeAt w.heap.size 0 (cellsB seed) ∧ w'.cell? ⟨bn, on + k, none⟩ = some (.int .i64 (d : Int))) (by kernel_rfl) (HKEEP.out _ HB.out.drew) (fun hHeld => ?_)
      try simp only [Act.put, List.setIfInBounds_toArray, List.set_cons_zero, List.set_cons_succ]
      have HOd : Hid (OwnD wr.drew w3.heap.size u6 (wotsSigL seed m k)) := OwnD.below HO.out (below_drewN wr 1)
      have HBd : Hid (Below w3.heap.size w3 wr.drew) := HB.out.drew
      clear HO HB
      generalize wr.drew = wd at *
      refine wpAnyH_take (i := 0) (v := ?_) (by simp only [List.getElem?_toArray, List.getElem?_cons_zero, List.getElem?_cons_succ]; rfl) (by kernel_rfl) (by kernel_rfl) (by kernel_rfl) (fun _ _ _ h => h) (Or.inl ⟨by rfl, ?_⟩) hHeld ?_
      rotate_left
      · intro w hSw
        obtain ⟨hSw1, hSw2⟩ := hSw
        go_simp
        try with_reducible rfl
      try simp only [Act.put, List.setIfInBounds_toArray, List.set_cons_zero, List.set_cons_succ]
      refine wpAnyH_take (i := 1) (v := .agg (cellsB seed).toArray) (by simp only [List.getElem?_toArray, List.getElem?_cons_zero, List.getElem?_cons_succ]; rfl) (by kernel_rfl) (by kernel_rfl) (by kernel_rfl) (fun _ _ _ h => h)
        (yieldsIf_load_mid (by rfl) _ _ rfl _ _ rfl _ _ (fun w hw => hw.1) Tryd.underlying23 rfl (by rw [cellsB_length, hs]; exact Tryd.sizeDg)) hHeld ?_
      try simp only [Act.put, List.setIfInBounds_toArray, List.set_cons_zero, List.set_cons_succ]
      refine wpAnyH_take (i := 2) (v := ?_) (by simp only [List.getElem?_toArray, List.getElem?_cons_zero, List.getElem?_cons_succ]; rfl) (by kernel_rfl) (by kernel_rfl) (by kernel_rfl) (fun _ _ _ h => h) (Or.inl ⟨by rfl, ?_⟩) hHeld ?_
      rotate_left
      · intro w hSw
        obtain ⟨hSw1, hSw2⟩ := hSw
        go_simp
        try with_reducible rfl
      try simp only [Act.put, List.setIfInBounds_toArray, List.set_cons_zero, List.set_cons_succ]
      refine wpAnyH_take (i := 4) (v := ?_) (by simp only [List.getElem?_toArray, List.getElem?_cons_zero, List.getElem?_cons_succ]; rfl) (by kernel_rfl) (by kernel_rfl) (by kernel_rfl) (fun _ _ _ h => h) (Or.inl ⟨by rfl, ?_⟩) hHeld ?_
      rotate_left
      · intro w hSw
        obtain ⟨hSw1, hSw2⟩ := hSw
        go_simp
        try with_reducible rfl
      try simp only [Act.put, List.setIfInBounds_toArray, List.set_cons_zero, List.set_cons_succ]
      refine wpAnyH_take (i := 5) (v := ?_) (by simp only [List.getElem?_toArray, List.getElem?_cons_zero, List.getElem?_cons_succ]; rfl) (by kernel_rfl) (by kernel_rfl) (by kernel_rfl) (fun _ _ _ h => h) (Or.inl ⟨by rfl, ?_⟩) hHeld ?_
      rotate_left
      · intro w hSw
        obtain ⟨hSw1, hSw2⟩ := hSw
        go_simp
        try with_reducible rfl
      try simp only [Act.put, List.setIfInBounds_toArray, List.set_cons_zero, List.set_cons_succ]
      refine wpAnyH_take (i := 6) (v := ?_) (by simp only [List.getElem?_toArray, List.getElem?_cons_zero, List.getElem?_cons_succ]; rfl) (by kernel_rfl) (by kernel_rfl) (by kernel_rfl) (fun _ _ _ h => h) (Or.inl ⟨by rfl, ?_⟩) hHeld ?_
      rotate_left
      · intro w hSw
        obtain ⟨hSw1, hSw2⟩ := hSw
        go_simp
        try with_reducible rfl
      try simp only [Act.put, List.setIfInBounds_toArray, List.set_cons_zero, List.set_cons_succ]
      refine wpAnyH_take (i := 7) (v := ?_) (by simp only [List.getElem?_toArray, List.getElem?_cons_zero, List.getElem?_cons_succ]; rfl) (by kernel_rfl) (by kernel_rfl) (by kernel_rfl) (fun _ _ _ h => h) (Or.inl ⟨by rfl, ?_⟩) hHeld ?_
      rotate_left
      · intro w hSw
        obtain ⟨hSw1, hSw2⟩ := hSw
        go_simp
        try with_reducible rfl
      try simp only [Act.put, List.setIfInBounds_toArray, List.set_cons_zero, List.set_cons_succ]
      refine wpAnyH_ready (rs := [3]) (by kernel_rfl) (by simp) ?_
      refine AllReadyH.cons (by simp only [List.getElem?_toArray, List.getElem?_cons_zero, List.getElem?_cons_succ]; rfl) (fun K hK => ?_) AllReadyH.nil
      rw [if_pos (by rfl)]
      go_simp
      refine (rwotsSecret_any seed k wd hs (by omega)).mono ?_
      rintro e w4 ⟨rfl, hb4⟩
      have hl4 := wotsSecL_length seed k
      have HO4 : Hid (OwnD w4 w3.heap.size u6 (wotsSigL seed m k)) := OwnD.below HOd.out hb4
      have HB4 : Hid (Below w3.heap.size w3 w4) := HBd.out.trans (hb4.mono HBd.out.size)
      clear hb4 HOd HBd
      generalize wotsSecL seed k = X at *
      go_wp2_with fail
      refine hK.out _ _ (HKEEP.out _ HB4.out) (fun hHeld => ?_)
      clear hK K
      try simp only [Act.put, List.setIfInBounds_toArray, List.set_cons_zero, List.set_cons_succ]
      refine wpAnyH_ready (rs := [8]) (by kernel_rfl) (by simp) ?_
      refine AllReadyH.cons (by simp only [List.getElem?_toArray, List.getElem?_cons_zero, List.getElem?_cons_succ]; rfl) (fun K hK => ?_) AllReadyH.nil
      rw [if_pos (by rfl)]
      go_simp
      refine (rwalk_any X d w4 hl4 (by omega)).mono ?_
      rintro e w5 ⟨rfl, hb5⟩
      have hl5 := walkL_length hl4 d
      have HO5 : Hid (OwnD w5 w3.heap.size u6 (wotsSigL seed m k)) := OwnD.below HO4.out hb5
      have HB5 : Hid (Below w3.heap.size w3 w5) := HB4.out.trans (hb5.mono HB4.out.size)
      clear hb5 HO4 HB4
      generalize walkL X d = Y at *
      go_wp2_with fail
      refine hK.out _ _ (HKEEP.out _ HB5.out) (fun hHeld => ?_)
      clear hK K
      try simp only [Act.put, List.setIfInBounds_toArray, List.set_cons_zero, List.set_cons_succ]
      refine wpAnyH_ready (rs := [9]) (by kernel_rfl) (by simp) ?_
      refine AllReadyH.cons (by simp only [List.getElem?_toArray, List.getElem?_cons_zero, List.getElem?_cons_succ]; rfl) (fun K hK => ?_) AllReadyH.nil
      rw [if_pos (by rfl)]
      refine wp_buildD1 _ rfl Y hl5 rfl ?_
      have hs5 := HB5.out.size
      have HO6 : Hid (OwnD (w5.alloc (.cells (cellsB Y).toArray 23)) w3.heap.size u6 (wotsSigL seed m k)) := OwnD.alloc HO5.out _
      have HB6 : Hid (Below w3.heap.size w3 (w5.alloc (.cells (cellsB Y).toArray 23))) := Below.alloc HB5.out hs5 _
      have HY6 : Hid (DRow (w5.alloc (.cells (cellsB Y).toArray 23)) (some ⟨w5.heap.size, 0, none⟩) 1 [Y]) := DRow.lit1 w5 Y _ hl5
      refine hK.out _ _ (HKEEP.out _ HB6.out) (fun hHeld => ?_)
      clear HO5 HB5 hs5
      generalize w5.alloc (.cells (cellsB Y).toArray 23) = w6 at *
      clear hK K
      try simp only [Act.put, List.setIfInBounds_toArray, List.set_cons_zero, List.set_cons_succ]
      refine wpAnyH_ready (rs := [10]) (by kernel_rfl) (by simp) ?_
      refine AllReadyH.cons (by simp only [List.getElem?_toArray, List.getElem?_cons_zero, List.getElem?_cons_succ]; rfl) (fun K hK => ?_) AllReadyH.nil
      rw [if_pos (by rfl)]
      refine wp_appendD _ _ rfl w3.heap.size u6 (wotsSigL seed m k) rfl HO6.out ⟨w5.heap.size, 0, none⟩ 1 1 [Y] rfl HY6.out (by omega) (by rw [HLN.out]; omega) HB6.out.size ?_
      intro v7 w7 ho7 hg7 _
      have HB7 : Hid (Below w3.heap.size w3 w7) := OwnD.grown HO6.out HB6.out hg7 (Nat.le_refl _) HB6.out.size
      rw [HSN.out] at ho7
      refine hK.out _ _ (HKEEP.out _ HB7.out) (fun hHeld => ?_)
      clear HO6 HB6 HY6 hg7 HSN HLN
      clear hK K
      try simp only [Act.put, List.setIfInBounds_toArray, List.set_cons_zero, List.set_cons_succ]
      refine wpAnyH_take (i := 11) (v := ?_) (by simp only [List.getElem?_toArray, List.getElem?_cons_zero, List.getElem?_cons_succ]; rfl) (by kernel_rfl) (by kernel_rfl) (by kernel_rfl) (fun _ _ _ h => h) (Or.inl ⟨by rfl, ?_⟩) hHeld ?_
      rotate_left
      · intro w hSw
        obtain ⟨hSw1, hSw2⟩ := hSw
        go_simp
        try with_reducible rfl
      try simp only [Act.put, List.setIfInBounds_toArray, List.set_cons_zero, List.set_cons_succ]
      refine wpAnyH_done (by kernel_rfl) (NoPanic.normal ?_) _
      clear hHeld HKEEP
      go_wp2
      go_roundw
      case rel => exact ⟨k + 1, by omega, by go_num, ho7, HB7.out⟩
      case measure => simp [intOf]; omega
    · obtain rfl : k = 67 := by omega
      obtain ⟨a5, c5, rfl, R5, hc5⟩ := OwnD.form hO
      have hl5 : (wotsSigL seed m 67).length = 67 := by rw [wotsSigL_len]
      rw [hl5] at R5 hc5
      rw [hl5]
      have HR5 : Hid (DRow wr a5 67 (wotsSigL seed m 67)) := R5
      have HB : Hid (Below w3.heap.size w3 wr) := hB
      clear hO hB R5 hl5
      generalize hL : wotsSigL seed m 67 = L at *
      have HL : Hid (wotsSigL seed m 67 = L) := hL
      clear hL
      go_wp2
      go_ret
      exact ⟨⟨a5, c5, rfl, hc5, by rw [HL.out]; exact HR5.out⟩, HD3.out.2.2.trans (HB.out.mono (by have := HD3.out.2.1; omega))⟩
end Go.Proofs.YtdplajhebapkgaaDoor
/- The contract of oathbookref1.WotsKey. -/
namespace Go.Proofs.YtdplajhebapkgaaDoor
open Go.RowKit
set_option linter.unusedVariables false
set_option linter.unusedSimpArgs false

theorem wotsToldL_len (m : List UInt8) (sig : List (List UInt8)) (n : Nat) : (wotsToldL m sig n).length = n := by simp [wotsToldL]
theorem wotsToldL_succ (m : List UInt8) (sig : List (List UInt8)) (n : Nat) : wotsToldL m sig n ++ [walkL (sig.getD n []) (15 - digL m n)] = wotsToldL m sig (n + 1) := by
  unfold wotsToldL; rw [List.range_succ, List.map_append]; rfl

set_option maxRecDepth 100000 in
set_option maxHeartbeats 1000000 in
theorem rwotsKey_any (m : List UInt8) (a : Option Addr) (c : Nat) (sig : List (List UInt8)) (w : World) (hm : m.length = 32) (R : DRow w a 67 sig) :
    Calls Tryd.prog 14 #[digestV m, .slice a 67 c] w fun e w' => e = .returned (digestV (wotsKeyL m sig)) ∧ Below w.heap.size w w' := by
  obtain ⟨w2, hw2⟩ : ∃ w2, (w.alloc (.cells (cellsB m).toArray 23)).alloc (.cells (cellsB zD).toArray 23) = w2 := ⟨_, rfl⟩
  have hs1 : (w.alloc (.cells (cellsB m).toArray 23)).heap.size = w.heap.size + 1 := by simp
  have HS2 : Hid (w2.heap.size = w.heap.size + 1 + 1) := by unfold Hid; rw [← hw2]; simp
  have HM2 : Hid (DAt w2 w.heap.size 0 m) := by rw [← hw2]; exact World.rangeAt_alloc (box_dat w m _) _
  have HT2 : Hid (w2.there (w.heap.size + 1) 0 32) := by rw [← hw2]; exact alloc_thereAt _ _ _ 32 _ hs1 zD_size.symm
  have HB2 : Hid (Below w.heap.size w w2) := by rw [← hw2]; exact ((Below.refl _ _).alloc (Nat.le_refl _) _).alloc (by simp) _
  obtain ⟨bs, os, rfl, hsc⟩ : ∃ b o, a = some ⟨b, o, none⟩ ∧ ∀ i, i < 67 → DAt w b (o + 32 * i) (sig.getD i []) := by
    rcases R.2.2 with h | h
    · omega
    · exact h
  have HSC : Hid (∀ i, i < 67 → DAt w bs (os + 32 * i) (sig.getD i [])) := hsc
  have HLL : Hid (∀ i, i < 67 → (sig.getD i []).length = 32) := R.len
  clear hsc R
  go_enter Tryd.func14, Tryd.ntmps14
  go_wp2_with (first
    | (refine wpList_allocE (by rfl) 23 (by rfl) (cellsB zD).toArray Tryd.zeroDg (w.heap.size + 1) hs1 w2 hw2 ?_)
    | (refine wpList_load_mid (by rfl) 23 (.tmp 2) (by rfl) w.heap.size 0 (by rfl) (cellsB m) _ HM2.out Tryd.underlying23 (by rfl) (by rw [cellsB_length, hm]; exact Tryd.sizeDg) ?_))
  clear hw2 hs1
  refine (rnib_any m w2 hm).mono ?_
  rintro e w3 ⟨⟨an, cn, rfl, hcn, hrn⟩, hb3⟩
  obtain ⟨bn, on, rfl, hcell⟩ : ∃ b o, an = some ⟨b, o, none⟩ ∧ ∀ i, i < 67 → w3.cell? ⟨b, o + i, none⟩ = some (.int .i64 ((digsL m 67).getD i 0)) := by
    rcases hrn.2 with h | h
    · omega
    · exact h
  have HC : Hid (∀ i, i < 67 → w3.cell? ⟨bn, on + i, none⟩ = some (.int .i64 (digL m i : Int))) := fun i hi => by rw [hcell i hi, digsL_at m 67 i hi]
  have HD3 : Hid (w3.there (w.heap.size + 1) 0 32 ∧ w.heap.size + 1 < w3.heap.size ∧ Below w.heap.size w w3) := by
    have := HS2.out
    have h3 := hb3.size
    exact ⟨there_below HT2.out hb3 (by omega), by omega, HB2.out.trans (hb3.mono (by omega))⟩
  clear hcell hrn hb3 HT2 HM2 HB2 HS2
  go_wp2_with fail
  go_loopw [6, 7] (fun v i wr => ∃ k : Nat, k ≤ 67 ∧ i = .int .i64 (k : Int) ∧ OwnD wr w3.heap.size v (wotsToldL m sig k) ∧ Below w3.heap.size w3 wr) (fun _ i _ => 67 - (intOf i).toNat)
  case atStart => exact ⟨0, Nat.zero_le _, rfl, OwnD.nil _ _, Below.refl _ _⟩
  case round =>
    obtain ⟨k, hk, rfl, hO, hB⟩ := hrel
    by_cases hlt : k < 67
    · have HO : Hid (OwnD wr w3.heap.size u6 (wotsToldL m sig k)) := hO
      have HB : Hid (Below w3.heap.size w3 wr) := hB
      have HSN : Hid (wotsToldL m sig k ++ [walkL (sig.getD k []) (15 - digL m k)] = wotsToldL m sig (k + 1)) := wotsToldL_succ m sig k
      have HLN : Hid ((wotsToldL m sig k).length = k) := wotsToldL_len m sig k
      have hc := HC.out k hlt
      have hdl := digL_lt m k
      have hl4 := HLL.out k hlt
      have hsk := HSC.out k hlt
      have HKEEP : Hid (∀ wx, Below w3.heap.size w3 wx → wx.rangeAt bs (os + k * 32) (cellsB (sig.getD k [])) ∧ wx.cell? ⟨bn, on + k, none⟩ = some (.int .i64 (digL m k : Int))) := fun wx hx => by
        refine ⟨?_, (hx.cell (p := ⟨bn, on + k, none⟩) (cell_block hc)).trans hc⟩
        rw [Nat.mul_comm]
        have h3 : DAt w3 bs (os + 32 * k) (sig.getD k []) := hsk.below HD3.out.2.2 (cell_block (hsk.cell 0 (by omega)))
        exact h3.below hx (cell_block (h3.cell 0 (by omega)))
      clear hO hB hc hsk
      generalize sig.getD k [] = X at *
      generalize digL m k = d at *
      have k0 : (0 : Int) ≤ (k : Int) := by omega
      have k1 : (k : Int) < 67 := by omega
      have d0 : (0 : Int) ≤ (d : Int) := by omega
      have d1 : (d : Int) < 16 := by omega
      go_wp2_with fail
      refine wp_region_noPanic ?_
      refine wp_region_held_drew (S := fun w' => w'.rangeAt bs (os + k * 32) (cellsB X) ∧ w'.cell? ⟨bn, on + k, none⟩ = some (.int .i64 (d : Int))) (by kernel_rfl) (HKEEP.out _ HB.out.drew) (fun hHeld => ?_)
      try simp only [Act.put, List.setIfInBounds_toArray, List.set_cons_zero, List.set_cons_succ]
      have HOd : Hid (OwnD wr.drew w3.heap.size u6 (wotsToldL m sig k)) := OwnD.below HO.out (below_drewN wr 1)
      have HBd : Hid (Below w3.heap.size w3 wr.drew) := HB.out.drew
      clear HO HB
      generalize wr.drew = wd at *
      refine wpAnyH_take (i := 0) (v := ?_) (by simp only [List.getElem?_toArray, List.getElem?_cons_zero, List.getElem?_cons_succ]; rfl) (by kernel_rfl) (by kernel_rfl) (by kernel_rfl) (fun _ _ _ h => h) (Or.inl ⟨by rfl, ?_⟩) hHeld ?_
      rotate_left
      · intro w hSw
        obtain ⟨hSw1, hSw2⟩ := hSw
        go_simp
        try with_reducible rfl
      try simp only [Act.put, List.setIfInBounds_toArray, List.set_cons_zero, List.set_cons_succ]
      refine wpAnyH_take (i := 1) (v := ?_) (by simp only [List.getElem?_toArray, List.getElem?_cons_zero, List.getElem?_cons_succ]; rfl) (by kernel_rfl) (by kernel_rfl) (by kernel_rfl) (fun _ _ _ h => h) (Or.inl ⟨by rfl, ?_⟩) hHeld ?_
      rotate_left
      · intro w hSw
        obtain ⟨hSw1, hSw2⟩ := hSw
        go_simp
        try with_reducible rfl
      try simp only [Act.put, List.setIfInBounds_toArray, List.set_cons_zero, List.set_cons_succ]
      refine wpAnyH_take (i := 2) (v := ?_) (by simp only [List.getElem?_toArray, List.getElem?_cons_zero, List.getElem?_cons_succ]; rfl) (by kernel_rfl) (by kernel_rfl) (by kernel_rfl) (fun _ _ _ h => h) (Or.inl ⟨by rfl, ?_⟩) hHeld ?_
      rotate_left
      · intro w hSw
        obtain ⟨hSw1, hSw2⟩ := hSw
        go_simp
        try with_reducible rfl
      try simp only [Act.put, List.setIfInBounds_toArray, List.set_cons_zero, List.set_cons_succ]
      refine wpAnyH_take (i := 3) (v := ?_) (by simp only [List.getElem?_toArray, List.getElem?_cons_zero, List.getElem?_cons_succ]; rfl) (by kernel_rfl) (by kernel_rfl) (by kernel_rfl) (fun _ _ _ h => h) (Or.inl ⟨by rfl, ?_⟩) hHeld ?_
      rotate_left
      · intro w hSw
        obtain ⟨hSw1, hSw2⟩ := hSw
        go_simp
        try with_reducible rfl
      try simp only [Act.put, List.setIfInBounds_toArray, List.set_cons_zero, List.set_cons_succ]
      refine wpAnyH_take (i := 4) (v := .agg (cellsB X).toArray) (by simp only [List.getElem?_toArray, List.getElem?_cons_zero, List.getElem?_cons_succ]; rfl) (by kernel_rfl) (by kernel_rfl) (by kernel_rfl) (fun _ _ _ h => h)
        (yieldsIf_load_mid (by rfl) _ _ rfl _ _ rfl _ _ (fun w hw => hw.1) Tryd.underlying23 rfl (by rw [cellsB_length, hl4]; exact Tryd.sizeDg)) hHeld ?_
      try simp only [Act.put, List.setIfInBounds_toArray, List.set_cons_zero, List.set_cons_succ]
      refine wpAnyH_take (i := 5) (v := ?_) (by simp only [List.getElem?_toArray, List.getElem?_cons_zero, List.getElem?_cons_succ]; rfl) (by kernel_rfl) (by kernel_rfl) (by kernel_rfl) (fun _ _ _ h => h) (Or.inl ⟨by rfl, ?_⟩) hHeld ?_
      rotate_left
      · intro w hSw
        obtain ⟨hSw1, hSw2⟩ := hSw
        go_simp
        try with_reducible rfl
      try simp only [Act.put, List.setIfInBounds_toArray, List.set_cons_zero, List.set_cons_succ]
      refine wpAnyH_take (i := 6) (v := ?_) (by simp only [List.getElem?_toArray, List.getElem?_cons_zero, List.getElem?_cons_succ]; rfl) (by kernel_rfl) (by kernel_rfl) (by kernel_rfl) (fun _ _ _ h => h) (Or.inl ⟨by rfl, ?_⟩) hHeld ?_
      rotate_left
      · intro w hSw
        obtain ⟨hSw1, hSw2⟩ := hSw
        go_simp
        try with_reducible rfl
      try simp only [Act.put, List.setIfInBounds_toArray, List.set_cons_zero, List.set_cons_succ]
      refine wpAnyH_take (i := 7) (v := ?_) (by simp only [List.getElem?_toArray, List.getElem?_cons_zero, List.getElem?_cons_succ]; rfl) (by kernel_rfl) (by kernel_rfl) (by kernel_rfl) (fun _ _ _ h => h) (Or.inl ⟨by rfl, ?_⟩) hHeld ?_
      rotate_left
      · intro w hSw
        obtain ⟨hSw1, hSw2⟩ := hSw
        go_simp
        try with_reducible rfl
      try simp only [Act.put, List.setIfInBounds_toArray, List.set_cons_zero, List.set_cons_succ]
      refine wpAnyH_take (i := 8) (v := ?_) (by simp only [List.getElem?_toArray, List.getElem?_cons_zero, List.getElem?_cons_succ]; rfl) (by kernel_rfl) (by kernel_rfl) (by kernel_rfl) (fun _ _ _ h => h) (Or.inl ⟨by rfl, ?_⟩) hHeld ?_
      rotate_left
      · intro w hSw
        obtain ⟨hSw1, hSw2⟩ := hSw
        go_simp
        try with_reducible rfl
      try simp only [Act.put, List.setIfInBounds_toArray, List.set_cons_zero, List.set_cons_succ]
      refine wpAnyH_take (i := 9) (v := ?_) (by simp only [List.getElem?_toArray, List.getElem?_cons_zero, List.getElem?_cons_succ]; rfl) (by kernel_rfl) (by kernel_rfl) (by kernel_rfl) (fun _ _ _ h => h) (Or.inl ⟨by rfl, ?_⟩) hHeld ?_
      rotate_left
      · intro w hSw
        obtain ⟨hSw1, hSw2⟩ := hSw
        go_simp
        try with_reducible rfl
      try simp only [Act.put, List.setIfInBounds_toArray, List.set_cons_zero, List.set_cons_succ]
      refine wpAnyH_ready (rs := [10]) (by kernel_rfl) (by simp) ?_
      refine AllReadyH.cons (by simp only [List.getElem?_toArray, List.getElem?_cons_zero, List.getElem?_cons_succ]; rfl) (fun K hK => ?_) AllReadyH.nil
      rw [if_pos (by rfl)]
      go_simp
      have hdd : (15 : Int) - (d : Int) = ((15 - d : Nat) : Int) := by omega
      rw [hdd, wrap_i64_in _ (by omega)]
      clear hdd
      refine (rwalk_any X (15 - d) wd hl4 (by omega)).mono ?_
      rintro e w5 ⟨rfl, hb5⟩
      have hl5 := walkL_length hl4 (15 - d)
      have HO5 : Hid (OwnD w5 w3.heap.size u6 (wotsToldL m sig k)) := OwnD.below HOd.out hb5
      have HB5 : Hid (Below w3.heap.size w3 w5) := HBd.out.trans (hb5.mono HBd.out.size)
      clear hb5 HOd HBd
      generalize walkL X (15 - d) = Y at *
      go_wp2_with fail
      refine hK.out _ _ (HKEEP.out _ HB5.out) (fun hHeld => ?_)
      clear hK K
      try simp only [Act.put, List.setIfInBounds_toArray, List.set_cons_zero, List.set_cons_succ]
      refine wpAnyH_ready (rs := [11]) (by kernel_rfl) (by simp) ?_
      refine AllReadyH.cons (by simp only [List.getElem?_toArray, List.getElem?_cons_zero, List.getElem?_cons_succ]; rfl) (fun K hK => ?_) AllReadyH.nil
      rw [if_pos (by rfl)]
      refine wp_buildD1 _ rfl Y hl5 rfl ?_
      have hs5 := HB5.out.size
      have HO6 : Hid (OwnD (w5.alloc (.cells (cellsB Y).toArray 23)) w3.heap.size u6 (wotsToldL m sig k)) := OwnD.alloc HO5.out _
      have HB6 : Hid (Below w3.heap.size w3 (w5.alloc (.cells (cellsB Y).toArray 23))) := Below.alloc HB5.out hs5 _
      have HY6 : Hid (DRow (w5.alloc (.cells (cellsB Y).toArray 23)) (some ⟨w5.heap.size, 0, none⟩) 1 [Y]) := DRow.lit1 w5 Y _ hl5
      refine hK.out _ _ (HKEEP.out _ HB6.out) (fun hHeld => ?_)
      clear HO5 HB5 hs5
      generalize w5.alloc (.cells (cellsB Y).toArray 23) = w6 at *
      clear hK K
      try simp only [Act.put, List.setIfInBounds_toArray, List.set_cons_zero, List.set_cons_succ]
      refine wpAnyH_ready (rs := [12]) (by kernel_rfl) (by simp) ?_
      refine AllReadyH.cons (by simp only [List.getElem?_toArray, List.getElem?_cons_zero, List.getElem?_cons_succ]; rfl) (fun K hK => ?_) AllReadyH.nil
      rw [if_pos (by rfl)]
      refine wp_appendD _ _ rfl w3.heap.size u6 (wotsToldL m sig k) rfl HO6.out ⟨w5.heap.size, 0, none⟩ 1 1 [Y] rfl HY6.out (by omega) (by rw [HLN.out]; omega) HB6.out.size ?_
      intro v7 w7 ho7 hg7 _
      have HB7 : Hid (Below w3.heap.size w3 w7) := OwnD.grown HO6.out HB6.out hg7 (Nat.le_refl _) HB6.out.size
      rw [HSN.out] at ho7
      refine hK.out _ _ (HKEEP.out _ HB7.out) (fun hHeld => ?_)
      clear HO6 HB6 HY6 hg7 HSN HLN
      clear hK K
      try simp only [Act.put, List.setIfInBounds_toArray, List.set_cons_zero, List.set_cons_succ]
      refine wpAnyH_take (i := 13) (v := ?_) (by simp only [List.getElem?_toArray, List.getElem?_cons_zero, List.getElem?_cons_succ]; rfl) (by kernel_rfl) (by kernel_rfl) (by kernel_rfl) (fun _ _ _ h => h) (Or.inl ⟨by rfl, ?_⟩) hHeld ?_
      rotate_left
      · intro w hSw
        obtain ⟨hSw1, hSw2⟩ := hSw
        go_simp
        try with_reducible rfl
      try simp only [Act.put, List.setIfInBounds_toArray, List.set_cons_zero, List.set_cons_succ]
      refine wpAnyH_done (by kernel_rfl) (NoPanic.normal ?_) _
      clear hHeld HKEEP
      go_wp2
      go_roundw
      case rel => exact ⟨k + 1, by omega, by go_num, ho7, HB7.out⟩
      case measure => simp [intOf]; omega
    · obtain rfl : k = 67 := by omega
      obtain ⟨a5, c5, rfl, R5, hc5⟩ := OwnD.form hO
      have hl5 : (wotsToldL m sig 67).length = 67 := by rw [wotsToldL_len]
      rw [hl5] at R5
      rw [hl5]
      have HR5 : Hid (DRow wr a5 67 (wotsToldL m sig 67)) := R5
      have HB : Hid (Below w3.heap.size w3 wr) := hB
      have HE : Hid (shaL (7 :: (wotsToldL m sig 67).flatten) = wotsKeyL m sig) := rfl
      clear hO hB R5 hl5 hc5
      generalize wotsToldL m sig 67 = L at *
      go_wp2_with fail
      refine (rof_any 7 a5 67 c5 L wr HR5.out (by omega)).mono ?_
      rintro e w6 ⟨rfl, hb6⟩
      rw [HE.out]
      have HB6 : Hid (Below w3.heap.size w3 w6) := HB.out.trans (hb6.mono HB.out.size)
      have HT6 : Hid (w6.there (w.heap.size + 1) 0 32) := there_below HD3.out.1 HB6.out HD3.out.2.1
      have hlen : (wotsKeyL m sig).length = 32 := by rw [← HE.out]; exact shaL_length _
      clear hb6 HB HR5 HE
      generalize hD : wotsKeyL m sig = D at *
      have HD : Hid (wotsKeyL m sig = D) := hD
      clear hD
      go_wp2_with (refine wpList_store_mid (by rfl) 23 (.tmp 4) (.tmp 28) (by rfl) (w.heap.size + 1) 0 (cellsB D).toArray (by rfl) (by rfl) (by rw [cellsB_size, hlen]; exact HT6.out) (by rw [cellsB_size, hlen]; exact Tryd.sizeDg) (all_oneCell_toArray (cellsB_one _)) ?_)
      refine bodyPost_ret (v := digestV D) (run_results_row Tryd.results14 _ _ (w.heap.size + 1) 0 (by rfl) (cellsB D) (World.rangeAt_setCells_same _ _ _ _ (by rw [cellsB_length, hlen]; exact HT6.out)) _ Tryd.underlying23 (by rfl) (by rw [cellsB_length, hlen]; exact Tryd.sizeDg)) rfl ⟨by rw [HD.out], ?_⟩
      exact below_setCells _ (by omega) _ _ _ (HD3.out.2.2.trans (HB6.out.mono (by have := HD3.out.2.1; omega)))
end Go.Proofs.YtdplajhebapkgaaDoor
/- The contract of state.digest: the words as bytes. -/
namespace Go.Proofs.YtdplajhebapkgaaDoor
open Go.RowKit
set_option linter.unusedVariables false
set_option linter.unusedSimpArgs false

theorem out_eq (x k : Nat) (e : Nat) (h : e = 24 - k % 4 * 8) : (x : Int) / 2 ^ e % 256 = ((x >>> (24 - k % 4 * 8) % 256 : Nat) : Int) := by
  rw [← h, Nat.shiftRight_eq_div_pow, Int.natCast_emod, Int.natCast_ediv, Int.natCast_pow]
  rfl

set_option maxRecDepth 100000 in
set_option maxHeartbeats 1000000 in
theorem wdigest_any (h : List Nat) (w : World) (h8 : h.length = 8) (hf : Fit h) :
    Calls Tryd.prog 56 #[.agg (cellsW h).toArray] w fun e w' => e = .returned (digestV (outL h)) ∧ Below w.heap.size w w' := by
  go_enter Tryd.func56, Tryd.ntmps56
  go_wp2_with fail
  go_loopw [5] (fun i wr => ∃ t : Nat, t ≤ 32 ∧ i = .int .i64 (t : Int) ∧ OwnK .u8 23 wr (w.heap.size + 1 + 1) (w.heap.size + 1 + 1) 32 32 (fun q => if q < t then nth (outL h) q else 0) ∧ WAt wr w.heap.size 0 h ∧ wr.there (w.heap.size + 1) 0 32 ∧ Below w.heap.size w wr) (fun i _ => 32 - (intOf i).toNat)
  case atStart =>
    refine ⟨0, Nat.zero_le _, rfl, ?_, ?_, ?_, ?_⟩
    · refine OwnK.congr (f := fun _ => 0) ?_ (fun i hi => by rw [if_neg (by omega)])
      refine OwnK.newAt _ _ 23 32 (by omega) (fun _ => 0) _ (by simp) ?_
      kernel_rfl
    · exact World.rangeAt_alloc (World.rangeAt_alloc (box_range w (cellsW h) _) _) _
    · refine World.there_alloc (alloc_thereAt _ _ _ 32 _ (by simp) ?_) _
      kernel_rfl
    · exact (((Below.refl _ _).alloc (Nat.le_refl _) _).alloc (by simp) _).alloc (by simp; omega) _
  case round =>
    obtain ⟨t, ht, rfl, hO, hh, hT, hB⟩ := hrel
    by_cases hlt : t < 32
    · have c0 := hO.cell t hlt
      rw [if_neg (by omega)] at c0
      have z0 := hO.frozen t
      have ch := hh.cell (t / 4) (by omega)
      rw [Nat.zero_add] at ch
      have fx := hf (t / 4)
      have HN : Hid (nth (outL h) t = ((at' h (t / 4) >>> (24 - t % 4 * 8) % 256 : Nat) : Int)) := nth_outL _ _ hlt
      have HO : Hid (OwnK .u8 23 wr (w.heap.size + 1 + 1) (w.heap.size + 1 + 1) 32 32 (fun q => if q < t then nth (outL h) q else 0)) := hO
      have HH : Hid (WAt wr w.heap.size 0 h ∧ wr.there (w.heap.size + 1) 0 32) := ⟨hh, hT⟩
      clear hO hh hT
      generalize hx : at' h (t / 4) = x at *
      clear hx
      go_wp2
      go_roundw
      case rel =>
        refine ⟨t + 1, by omega, by go_num, (OwnK.store HO.out t _).congr fun q hq => ?_, range_set HH.out.1 _ _ _ (by omega), there_set HH.out.2 _ _ _, hB.setCell (by show w.heap.size ≤ w.heap.size + 1 + 1; omega) _⟩
        by_cases hqt : q = t
        · subst hqt
          rw [if_pos rfl, if_pos (by omega), HN.out]
          exact out_eq x q _ (by omega)
        · rw [if_neg hqt]
          by_cases hlt2 : q < t
          · rw [if_pos hlt2, if_pos (by omega)]
          · rw [if_neg hlt2, if_neg (by omega)]
      case measure => simp [intOf]; omega
    · obtain rfl : t = 32 := by omega
      have HD : Hid (DAt wr (w.heap.size + 1 + 1) 0 (outL h)) := hO.dat (outL_length _) fun i hi => by rw [if_pos hi]
      have HT : Hid (wr.there (w.heap.size + 1) 0 32) := hT
      have hlen := outL_length h
      clear hO hT hh
      generalize hD : outL h = D at *
      have HE : Hid (outL h = D) := hD
      clear hD
      go_wp2_with (first
        | (refine wpList_load_mid (by rfl) 23 (.tmp 3) (by rfl) (w.heap.size + 1 + 1) 0 (by rfl) (cellsB D) _ HD.out Tryd.underlying23 (by rfl) (by rw [cellsB_length, hlen]; kernel_rfl) ?_)
        | (refine wpList_store_mid (by rfl) 23 (.tmp 2) (.tmp 21) (by rfl) (w.heap.size + 1) 0 (cellsB D).toArray (by rfl) (by rfl) (by rw [cellsB_size, hlen]; exact HT.out) (by rw [cellsB_size, hlen]; kernel_rfl) (all_oneCell_toArray (cellsB_one _)) ?_))
      refine bodyPost_ret (v := digestV D) (run_results_row Tryd.results56 _ _ (w.heap.size + 1) 0 (by rfl) (cellsB D) (World.rangeAt_setCells_same _ _ _ _ (by rw [cellsB_length, hlen]; exact HT.out)) _ Tryd.underlying23 (by rfl) (by rw [cellsB_length, hlen]; kernel_rfl)) rfl ⟨by rw [HE.out], ?_⟩
      exact below_setCells _ (by omega) _ _ _ hB
end Go.Proofs.YtdplajhebapkgaaDoor
