/- Texts of this claim, joined: Srows, StepSh, OwnI. -/
import Derived.Test.YtnffmegicgbinabJ14
import Derived.Test.YtnffmegicgbinabJ06
import Derived.Deep.RegionHeld3
import Derived.Deep.DeepCutAuto
import Derived.Test.YtnffmegicgbinabJ08
import Derived.Test.YtnffmegicgbinabJ04
/- The contract of oathbooksame.Rows: it tells whether two slices of slices of bytes read as one list. -/
namespace Go.Proofs.Ytnffmegicgbinab
open Go.RowKit
set_option linter.unusedVariables false
set_option linter.unusedSimpArgs false

/-- Where a row's slice lies, and what it reads as. -/
theorem BRowsB.hrow {w : World} {b o n : Nat} {ls : List (List UInt8)} (R : BRowsB w (some ⟨b, o, none⟩) n ls) (i : Nat) (hi : i < n) : ∃ (ai : Option Addr) (ni ci : Nat), ni ≤ ci ∧ ni ≤ 140737488351232 ∧ ni = (ls.getD i []).length ∧ ∀ wx, Below w.heap.size w wx → wx.cell? ⟨b, o + i, none⟩ = some (.slice ai ni ci) ∧ Row wx ai ni (ls.getD i []) := by
  rcases R.1.2 with h0 | ⟨b', o', e, hc⟩
  · omega
  · cases e
    obtain ⟨ai, ni, ci, c1, h4, hR⟩ := hc i hi
    have hl := R.2 i hi
    refine ⟨ai, ni, ci, h4, by rw [← hR.1]; exact hl, hR.1.symm, fun wx hb => ⟨(hb.cell (p := ⟨b, o + i, none⟩) (cell_block c1)).trans c1, hR.below hb⟩⟩
theorem BRowsB.adr {w : World} {a : Option Addr} {n : Nat} {ls : List (List UInt8)} (R : BRowsB w a n ls) (hn : 0 < n) : ∃ b o, a = some ⟨b, o, none⟩ := by
  rcases R.1.2 with h0 | ⟨b, o, e, _⟩
  · omega
  · exact ⟨b, o, e⟩
set_option maxRecDepth 100000 in
set_option maxHeartbeats 2000000 in
theorem rows_same (a1 : Option Addr) (n1 c1 : Nat) (us : List (List UInt8)) (a2 : Option Addr) (n2 c2 : Nat) (vs : List (List UInt8)) (w : World) (R1 : BRowsB w a1 n1 us) (R2 : BRowsB w a2 n2 vs) (h1 : n1 ≤ c1) (h2 : n2 ≤ c2) (h3 : n1 ≤ 140737488351232) :
    Calls Try.prog 7 #[.slice a1 n1 c1, .slice a2 n2 c2] w fun e w' => e = .returned (.bool (decide (us = vs))) ∧ Below w.heap.size w w' := by
  have HL1 : Hid (us.length = n1) := R1.1.1
  have HL2 : Hid (vs.length = n2) := R2.1.1
  by_cases hn : n1 = n2
  · subst hn
    generalize n1 = n at *
    have hne : ((n : Int) != (n : Int)) = false := by simp
    have HR1 : Hid (∀ wx, Below w.heap.size w wx → BRowsB wx a1 n us) := fun wx hx => R1.below hx
    have HR2 : Hid (∀ wx, Below w.heap.size w wx → BRowsB wx a2 n vs) := fun wx hx => R2.below hx
    clear R1 R2
    go_enter Try.func7, Try.ntmps7
    go_wp2_with fail
    go_loopw [5] (fun iv wr => ∃ i : Nat, iv = .int .i64 (i : Int) ∧ i ≤ n ∧ Hid (∀ j, j < i → us.getD j [] = vs.getD j []) ∧ Hid (Below w.heap.size w wr)) (fun iv _ => n - (intOf iv).toNat)
    case atStart => exact ⟨0, rfl, Nat.zero_le _, (fun j h => by omega), Below.refl _ _⟩
    case round =>
      obtain ⟨i, rfl, hi, HJ, HB⟩ := hrel
      by_cases hlt : i < n
      · obtain ⟨b1, o1, ha1⟩ := (HR1.out _ HB.out).adr (by omega)
        obtain ⟨b2, o2, ha2⟩ := (HR2.out _ HB.out).adr (by omega)
        subst ha1
        subst ha2
        obtain ⟨x1, m1, d1, hd1, hm1', e1, HC1⟩ := (HR1.out _ HB.out).hrow i hlt
        clear e1
        obtain ⟨x2, m2, d2, hd2, hm2, e2, HC2⟩ := (HR2.out _ HB.out).hrow i hlt
        clear e2
        have i0 : (0 : Int) ≤ (i : Int) := by omega
        have i1 : (i : Int) < (n : Int) := by omega
        have HIN : Hid (i < n) := hlt
        have HNE : Hid (us.getD i [] ≠ vs.getD i [] → decide (us = vs) = false) := fun q => decide_eq_false (fun e => q (by rw [e]))
        have HCI : Hid (∀ wx, Below wr.heap.size wr wx → wx.cell? ⟨b1, o1 + i, none⟩ = some (.slice x1 m1 d1) ∧ wx.cell? ⟨b2, o2 + i, none⟩ = some (.slice x2 m2 d2) ∧ Row wx x1 m1 (us.getD i []) ∧ Row wx x2 m2 (vs.getD i [])) := fun wx hx => ⟨(HC1 wx hx).1, (HC2 wx hx).1, (HC1 wx hx).2, (HC2 wx hx).2⟩
        obtain ⟨l1, hl1⟩ : ∃ p, us.getD i [] = p := ⟨_, rfl⟩
        obtain ⟨l2, hl2⟩ : ∃ p, vs.getD i [] = p := ⟨_, rfl⟩
        have HEL : Hid (l1 = l2 → us.getD i [] = vs.getD i []) := fun q => by rw [hl1, hl2, q]
        rw [hl1, hl2] at HCI HNE
        clear HC1 HC2 hl1 hl2 hlt hi hm2
        have hm1 : m1 ≤ 281474976710656 := by omega
        clear hm1'
        by_cases cd : l1 = l2
        · have HSD : Hid (decide (l1 = l2) = true) := decide_eq_true cd
          have HEQ : Hid (us.getD i [] = vs.getD i []) := HEL.out cd
          clear cd
          go_upto_region 6 with fail
          try simp only [Act.put, List.setIfInBounds_toArray, List.set_cons_zero, List.set_cons_succ]
          refine wp_region_noPanic ?_
          refine wp_region_held_drew (S := fun wx => wx.cell? ⟨b1, o1 + i, none⟩ = some (.slice x1 m1 d1) ∧ wx.cell? ⟨b2, o2 + i, none⟩ = some (.slice x2 m2 d2)) (by kernel_rfl) ⟨(HCI.out _ (below_drewN wr 1)).1, (HCI.out _ (below_drewN wr 1)).2.1⟩ (fun hHeld => ?_)
          try simp only [Act.put, List.setIfInBounds_toArray, List.set_cons_zero, List.set_cons_succ]
          have HBd : Hid (Below wr.heap.size wr wr.drew) := below_drewN wr 1
          generalize wr.drew = wd at *
          refine wpAnyH_take (i := 0) (v := .slice (some ⟨b1, o1, none⟩) n c1) (by simp only [List.getElem?_toArray, List.getElem?_cons_zero, List.getElem?_cons_succ]; rfl) (by kernel_rfl) (by kernel_rfl) (by kernel_rfl) (fun _ _ _ h => h) (Or.inl ⟨by rfl, ?_⟩) hHeld ?_
          · intro w hSw
            obtain ⟨hSw0, hSw1⟩ := hSw
            go_simp
          try simp only [Act.put, List.setIfInBounds_toArray, List.set_cons_zero, List.set_cons_succ]
          refine wpAnyH_take (i := 1) (v := .int .i64 (i : Int)) (by simp only [List.getElem?_toArray, List.getElem?_cons_zero, List.getElem?_cons_succ]; rfl) (by kernel_rfl) (by kernel_rfl) (by kernel_rfl) (fun _ _ _ h => h) (Or.inl ⟨by rfl, ?_⟩) hHeld ?_
          · intro w hSw
            obtain ⟨hSw0, hSw1⟩ := hSw
            go_simp
          try simp only [Act.put, List.setIfInBounds_toArray, List.set_cons_zero, List.set_cons_succ]
          refine wpAnyH_take (i := 2) (v := .pointer (some ⟨b1, o1 + i, none⟩)) (by simp only [List.getElem?_toArray, List.getElem?_cons_zero, List.getElem?_cons_succ]; rfl) (by kernel_rfl) (by kernel_rfl) (by kernel_rfl) (fun _ _ _ h => h) (Or.inl ⟨by rfl, ?_⟩) hHeld ?_
          · intro w hSw
            obtain ⟨hSw0, hSw1⟩ := hSw
            go_simp
          try simp only [Act.put, List.setIfInBounds_toArray, List.set_cons_zero, List.set_cons_succ]
          refine wpAnyH_take (i := 3) (v := .slice x1 m1 d1) (by simp only [List.getElem?_toArray, List.getElem?_cons_zero, List.getElem?_cons_succ]; rfl) (by kernel_rfl) (by kernel_rfl) (by kernel_rfl) (fun _ _ _ h => h) (Or.inl ⟨by rfl, ?_⟩) hHeld ?_
          · intro w hSw
            obtain ⟨hSw0, hSw1⟩ := hSw
            go_simp
          try simp only [Act.put, List.setIfInBounds_toArray, List.set_cons_zero, List.set_cons_succ]
          refine wpAnyH_take (i := 4) (v := .slice (some ⟨b2, o2, none⟩) n c2) (by simp only [List.getElem?_toArray, List.getElem?_cons_zero, List.getElem?_cons_succ]; rfl) (by kernel_rfl) (by kernel_rfl) (by kernel_rfl) (fun _ _ _ h => h) (Or.inl ⟨by rfl, ?_⟩) hHeld ?_
          · intro w hSw
            obtain ⟨hSw0, hSw1⟩ := hSw
            go_simp
          try simp only [Act.put, List.setIfInBounds_toArray, List.set_cons_zero, List.set_cons_succ]
          refine wpAnyH_take (i := 5) (v := .int .i64 (i : Int)) (by simp only [List.getElem?_toArray, List.getElem?_cons_zero, List.getElem?_cons_succ]; rfl) (by kernel_rfl) (by kernel_rfl) (by kernel_rfl) (fun _ _ _ h => h) (Or.inl ⟨by rfl, ?_⟩) hHeld ?_
          · intro w hSw
            obtain ⟨hSw0, hSw1⟩ := hSw
            go_simp
          try simp only [Act.put, List.setIfInBounds_toArray, List.set_cons_zero, List.set_cons_succ]
          refine wpAnyH_take (i := 6) (v := .pointer (some ⟨b2, o2 + i, none⟩)) (by simp only [List.getElem?_toArray, List.getElem?_cons_zero, List.getElem?_cons_succ]; rfl) (by kernel_rfl) (by kernel_rfl) (by kernel_rfl) (fun _ _ _ h => h) (Or.inl ⟨by rfl, ?_⟩) hHeld ?_
          · intro w hSw
            obtain ⟨hSw0, hSw1⟩ := hSw
            go_simp
          try simp only [Act.put, List.setIfInBounds_toArray, List.set_cons_zero, List.set_cons_succ]
          refine wpAnyH_take (i := 7) (v := .slice x2 m2 d2) (by simp only [List.getElem?_toArray, List.getElem?_cons_zero, List.getElem?_cons_succ]; rfl) (by kernel_rfl) (by kernel_rfl) (by kernel_rfl) (fun _ _ _ h => h) (Or.inl ⟨by rfl, ?_⟩) hHeld ?_
          · intro w hSw
            obtain ⟨hSw0, hSw1⟩ := hSw
            go_simp
          try simp only [Act.put, List.setIfInBounds_toArray, List.set_cons_zero, List.set_cons_succ]
          refine wpAnyH_ready (rs := [8]) (by kernel_rfl) (by simp) ?_
          refine AllReadyH.cons (by simp only [List.getElem?_toArray, List.getElem?_cons_zero, List.getElem?_cons_succ]; rfl) (fun K hK => ?_) AllReadyH.nil
          rw [if_pos (by rfl)]
          go_simp
          refine (bytes_any x1 x2 m1 m2 d1 d2 l1 l2 wd (HCI.out _ HBd.out).2.2.1 (HCI.out _ HBd.out).2.2.2 hm1).mono ?_
          rintro e wq ⟨rfl, q, hq⟩
          have HBq : Hid (Below wr.heap.size wr wq) := by rw [hq]; exact HBd.out.trans ((below_drewN wd q).mono HBd.out.size)
          rw [HSD.out]
          clear hq
          go_wp2_with fail
          refine hK.out _ _ ⟨(HCI.out _ HBq.out).1, (HCI.out _ HBq.out).2.1⟩ (fun hHeld => ?_)
          clear hK K
          try simp only [Act.put, List.setIfInBounds_toArray, List.set_cons_zero, List.set_cons_succ]
          refine wpAnyH_take (i := 9) (v := .bool true) (by simp only [List.getElem?_toArray, List.getElem?_cons_zero, List.getElem?_cons_succ]; rfl) (by kernel_rfl) (by kernel_rfl) (by kernel_rfl) (fun _ _ _ h => h) (Or.inl ⟨by rfl, ?_⟩) hHeld ?_
          · intro w hSw
            obtain ⟨hSw0, hSw1⟩ := hSw
            go_simp
          try simp only [Act.put, List.setIfInBounds_toArray, List.set_cons_zero, List.set_cons_succ]
          refine wpAnyH_done (by kernel_rfl) (NoPanic.normal ?_) _
          clear hHeld
          go_wp2_with fail
          go_roundw
          case rel => exact ⟨i + 1, by go_num, HIN.out, (fun j h => by
            by_cases e : j = i
            · rw [e]; exact HEQ.out
            · exact HJ.out j (by omega)), HB.out.trans (HBq.out.mono HB.out.size)⟩
          case measure => have := HIN.out; simp [intOf]; omega
        · have HSD : Hid (decide (l1 = l2) = false) := decide_eq_false cd
          have HV : Hid (decide (us = vs) = false) := HNE.out cd
          clear cd
          go_upto_region 6 with fail
          try simp only [Act.put, List.setIfInBounds_toArray, List.set_cons_zero, List.set_cons_succ]
          refine wp_region_noPanic ?_
          refine wp_region_held_drew (S := fun wx => wx.cell? ⟨b1, o1 + i, none⟩ = some (.slice x1 m1 d1) ∧ wx.cell? ⟨b2, o2 + i, none⟩ = some (.slice x2 m2 d2)) (by kernel_rfl) ⟨(HCI.out _ (below_drewN wr 1)).1, (HCI.out _ (below_drewN wr 1)).2.1⟩ (fun hHeld => ?_)
          try simp only [Act.put, List.setIfInBounds_toArray, List.set_cons_zero, List.set_cons_succ]
          have HBd : Hid (Below wr.heap.size wr wr.drew) := below_drewN wr 1
          generalize wr.drew = wd at *
          refine wpAnyH_take (i := 0) (v := .slice (some ⟨b1, o1, none⟩) n c1) (by simp only [List.getElem?_toArray, List.getElem?_cons_zero, List.getElem?_cons_succ]; rfl) (by kernel_rfl) (by kernel_rfl) (by kernel_rfl) (fun _ _ _ h => h) (Or.inl ⟨by rfl, ?_⟩) hHeld ?_
          · intro w hSw
            obtain ⟨hSw0, hSw1⟩ := hSw
            go_simp
          try simp only [Act.put, List.setIfInBounds_toArray, List.set_cons_zero, List.set_cons_succ]
          refine wpAnyH_take (i := 1) (v := .int .i64 (i : Int)) (by simp only [List.getElem?_toArray, List.getElem?_cons_zero, List.getElem?_cons_succ]; rfl) (by kernel_rfl) (by kernel_rfl) (by kernel_rfl) (fun _ _ _ h => h) (Or.inl ⟨by rfl, ?_⟩) hHeld ?_
          · intro w hSw
            obtain ⟨hSw0, hSw1⟩ := hSw
            go_simp
          try simp only [Act.put, List.setIfInBounds_toArray, List.set_cons_zero, List.set_cons_succ]
          refine wpAnyH_take (i := 2) (v := .pointer (some ⟨b1, o1 + i, none⟩)) (by simp only [List.getElem?_toArray, List.getElem?_cons_zero, List.getElem?_cons_succ]; rfl) (by kernel_rfl) (by kernel_rfl) (by kernel_rfl) (fun _ _ _ h => h) (Or.inl ⟨by rfl, ?_⟩) hHeld ?_
          · intro w hSw
            obtain ⟨hSw0, hSw1⟩ := hSw
            go_simp
          try simp only [Act.put, List.setIfInBounds_toArray, List.set_cons_zero, List.set_cons_succ]
          refine wpAnyH_take (i := 3) (v := .slice x1 m1 d1) (by simp only [List.getElem?_toArray, List.getElem?_cons_zero, List.getElem?_cons_succ]; rfl) (by kernel_rfl) (by kernel_rfl) (by kernel_rfl) (fun _ _ _ h => h) (Or.inl ⟨by rfl, ?_⟩) hHeld ?_
          · intro w hSw
            obtain ⟨hSw0, hSw1⟩ := hSw
            go_simp
          try simp only [Act.put, List.setIfInBounds_toArray, List.set_cons_zero, List.set_cons_succ]
          refine wpAnyH_take (i := 4) (v := .slice (some ⟨b2, o2, none⟩) n c2) (by simp only [List.getElem?_toArray, List.getElem?_cons_zero, List.getElem?_cons_succ]; rfl) (by kernel_rfl) (by kernel_rfl) (by kernel_rfl) (fun _ _ _ h => h) (Or.inl ⟨by rfl, ?_⟩) hHeld ?_
          · intro w hSw
            obtain ⟨hSw0, hSw1⟩ := hSw
            go_simp
          try simp only [Act.put, List.setIfInBounds_toArray, List.set_cons_zero, List.set_cons_succ]
          refine wpAnyH_take (i := 5) (v := .int .i64 (i : Int)) (by simp only [List.getElem?_toArray, List.getElem?_cons_zero, List.getElem?_cons_succ]; rfl) (by kernel_rfl) (by kernel_rfl) (by kernel_rfl) (fun _ _ _ h => h) (Or.inl ⟨by rfl, ?_⟩) hHeld ?_
          · intro w hSw
            obtain ⟨hSw0, hSw1⟩ := hSw
            go_simp
          try simp only [Act.put, List.setIfInBounds_toArray, List.set_cons_zero, List.set_cons_succ]
          refine wpAnyH_take (i := 6) (v := .pointer (some ⟨b2, o2 + i, none⟩)) (by simp only [List.getElem?_toArray, List.getElem?_cons_zero, List.getElem?_cons_succ]; rfl) (by kernel_rfl) (by kernel_rfl) (by kernel_rfl) (fun _ _ _ h => h) (Or.inl ⟨by rfl, ?_⟩) hHeld ?_
          · intro w hSw
            obtain ⟨hSw0, hSw1⟩ := hSw
            go_simp
          try simp only [Act.put, List.setIfInBounds_toArray, List.set_cons_zero, List.set_cons_succ]
          refine wpAnyH_take (i := 7) (v := .slice x2 m2 d2) (by simp only [List.getElem?_toArray, List.getElem?_cons_zero, List.getElem?_cons_succ]; rfl) (by kernel_rfl) (by kernel_rfl) (by kernel_rfl) (fun _ _ _ h => h) (Or.inl ⟨by rfl, ?_⟩) hHeld ?_
          · intro w hSw
            obtain ⟨hSw0, hSw1⟩ := hSw
            go_simp
          try simp only [Act.put, List.setIfInBounds_toArray, List.set_cons_zero, List.set_cons_succ]
          refine wpAnyH_ready (rs := [8]) (by kernel_rfl) (by simp) ?_
          refine AllReadyH.cons (by simp only [List.getElem?_toArray, List.getElem?_cons_zero, List.getElem?_cons_succ]; rfl) (fun K hK => ?_) AllReadyH.nil
          rw [if_pos (by rfl)]
          go_simp
          refine (bytes_any x1 x2 m1 m2 d1 d2 l1 l2 wd (HCI.out _ HBd.out).2.2.1 (HCI.out _ HBd.out).2.2.2 hm1).mono ?_
          rintro e wq ⟨rfl, q, hq⟩
          have HBq : Hid (Below wr.heap.size wr wq) := by rw [hq]; exact HBd.out.trans ((below_drewN wd q).mono HBd.out.size)
          rw [HSD.out]
          clear hq
          go_wp2_with fail
          refine hK.out _ _ ⟨(HCI.out _ HBq.out).1, (HCI.out _ HBq.out).2.1⟩ (fun hHeld => ?_)
          clear hK K
          try simp only [Act.put, List.setIfInBounds_toArray, List.set_cons_zero, List.set_cons_succ]
          refine wpAnyH_take (i := 9) (v := .bool false) (by simp only [List.getElem?_toArray, List.getElem?_cons_zero, List.getElem?_cons_succ]; rfl) (by kernel_rfl) (by kernel_rfl) (by kernel_rfl) (fun _ _ _ h => h) (Or.inl ⟨by rfl, ?_⟩) hHeld ?_
          · intro w hSw
            obtain ⟨hSw0, hSw1⟩ := hSw
            go_simp
          try simp only [Act.put, List.setIfInBounds_toArray, List.set_cons_zero, List.set_cons_succ]
          refine wpAnyH_done (by kernel_rfl) (NoPanic.normal ?_) _
          clear hHeld
          go_wp2_with fail
          go_ret
          exact ⟨ret_bool HV.out.symm, HB.out.trans (HBq.out.mono HB.out.size)⟩
      · have hin : i = n := by omega
        subst hin
        have g2 : ¬ (i : Int) < (i : Int) := by omega
        have HV : Hid (decide (us = vs) = true) := decide_eq_true (rows_ext HL1.out HL2.out HJ.out)
        clear hlt
        go_wp2_with fail
        go_ret
        exact ⟨ret_bool HV.out.symm, HB.out⟩
  · have hne : ((n1 : Int) != (n2 : Int)) = true := by simp; omega
    have HV : Hid (decide (us = vs) = false) := decide_eq_false fun e => hn (by rw [← HL1.out, ← HL2.out, e])
    clear R1 R2
    go_enter Try.func7, Try.ntmps7
    go_wp2_with fail
    go_ret
    exact ⟨ret_bool HV.out.symm, Below.refl _ _⟩
end Go.Proofs.Ytnffmegicgbinab
/- A literal of a share, and shares appended, as steps of a region that draws its order. -/
namespace Go.Proofs.Ytnffmegicgbinab
open Go.RowKit
set_option linter.unusedVariables false
set_option linter.unusedSimpArgs false

theorem wp_buildSh1 {w : World} {o : Oper} {a : Act} {K : Act → World → Prop} {Q : Exit → Act → World → Prop} (x : Operand) (ho : o.op = .buildSlice 29 1 #[(0, x)])
    (hd : Hdr) (hx : a.eval x = hdV hd)
    (h : K (a.put o.dst (.slice (some ⟨w.heap.size, 0, none⟩) 1 1)) (w.alloc (.cells (hdC hd).toArray 31))) : o.wp Try.prog a w K Q := by
  obtain ⟨i, hi, hz, hsize, hz2⟩ := info_parts Try.infoSh
  have hr := fill_oneS (hdC hd) ((Array.range (1 * 2)).map ((Value.agg #[.int .u8 0, .slice none 0 0]).cells[· % (Value.agg #[.int .u8 0, .slice none 0 0]).cells.size]!)) 2 (by simp) (hdC_length hd)
  have hrun : (Instr.buildSlice 29 1 #[(0, hdV hd)]).run Try.prog w = .ok (.slice (some ⟨w.heap.size, 0, none⟩) 1 1) (w.alloc (.cells (hdC hd).toArray 31)) := by
    simp [Instr.buildSlice, run_underlying Try.underlying29, sizeOf, typeInfo, hi, hsize, zeroValue, hz, newRow]
    have e : hdV hd = .agg (hdC hd).toArray := rfl
    rw [e, hr]
    simp
  unfold Oper.wp
  simp [execOp, ho, hx, hrun, Result.andThen]
  exact h
theorem wp_appendSh {w : World} {o : Oper} {a : Act} {K : Act → World → Prop} {Q : Exit → Act → World → Prop} (s x : Operand)
    (ho : o.op = .call { callee := .builtin .append, args := #[s, x], argTypes := #[29, 29] })
    (base : Nat) (v : Value) (ss : List Shr) (hs : a.eval s = v) (hown : OwnS w base v ss)
    (b off c : Nat) (hd : Hdr) (t : Shr) (hx : a.eval x = .slice (some ⟨b, off, none⟩) 1 c) (hr : ∀ j u, (hdC hd)[j]? = some u → w.cell? ⟨b, off + j, none⟩ = some u) (hdat : DatH w hd t) (hap : ApartH hd v.ownBlock) (h47 : (ss.length + 1) * 32 ≤ 140737488355328) (hbase : base ≤ w.heap.size)
    (h : ∀ v' w', OwnS w' base v' (ss ++ [t]) → w.grownBy w' v.ownBlock → (v'.ownBlock = v.ownBlock ∨ v'.ownBlock = some w.heap.size) → K (a.put o.dst v') w') : o.wp Try.prog a w K Q := by
  obtain ⟨i0, hi, hz0, hz1, hz2⟩ := info_parts Try.infoSh
  obtain ⟨hs', hl, hrow, hd'⟩ := hown
  have hnews : ∀ j u, (hdC hd)[j]? = some u → w.cell? ((⟨b, off, none⟩ : Addr).add j) = some u := fun j u hj => by
    rw [Go.WideShapes.add_plain]
    exact hr j u hj
  obtain ⟨v', w', hrun, hown', hgrow, _, hat⟩ := run_append_own_at (P := Try.prog) w base 29 o.type 31 i0 (.agg #[.int .u8 0, .slice none 0 0]) 2 32 Try.underlying29 hi hz0 hz1 hz2 rfl (by decide) v ss.length (flatH hs') hrow ⟨b, off, none⟩ 1 c (hdC hd) rfl hnews (hdC_one hd) (by unfold maxLen; omega) h47 hbase
  unfold Oper.wp execOp
  simp only [ho, resolve, invoke, builtin, Sem.run_bind, Sem.run_pure, Result.andThen_ok, List.map_toArray, List.map_cons, List.map_nil, hs, hx, hrun]
  refine h v' w' ⟨hs' ++ [hd], by simp [hl], ?_, ?_⟩ hgrow hat
  · rw [List.length_append, flatH_append]
    have e : flatH [hd] = hdC hd := by simp [flatH]
    rw [e]
    exact hown'
  · intro i hi2
    have key : ∀ (k : Hdr) (u : Shr), DatH w k u → ApartH k v.ownBlock → DatH w' k u ∧ ApartH k v'.ownBlock := fun k u d ap => by
      refine ⟨d.grown hgrow ap, ?_⟩
      rcases hat with e | e
      · rw [e]; exact ap
      · rw [e]; exact d.next
    rw [List.length_append, List.length_singleton] at hi2
    by_cases c1 : i < ss.length
    · have g1 : (hs' ++ [hd]).getD i noH = hs'.getD i noH := by simp only [List.getD_eq_getElem?_getD, List.getElem?_append_left (show i < hs'.length by omega)]
      have g2 : (ss ++ [t]).getD i noS = ss.getD i noS := by simp only [List.getD_eq_getElem?_getD, List.getElem?_append_left c1]
      rw [g1, g2]
      exact key _ _ (hd' i c1).1 (hd' i c1).2
    · have ei : i = ss.length := by omega
      have g1 : (hs' ++ [hd]).getD i noH = hd := by simp only [List.getD_eq_getElem?_getD]; rw [ei, ← hl]; simp
      have g2 : (ss ++ [t]).getD i noS = t := by simp only [List.getD_eq_getElem?_getD]; rw [ei]; simp
      rw [g1, g2]
      exact key _ _ hdat hap
end Go.Proofs.Ytnffmegicgbinab
/- Slices of ints: read, and rows that a call itself made and appends to. -/
namespace Go.Proofs.Ytnffmegicgbinab
open Go.RowKit
set_option linter.unusedVariables false
set_option linter.unusedSimpArgs false

def cellsI (l : List Int) : List Value := l.map fun x => Value.int .i64 x
theorem cellsI_length (l : List Int) : (cellsI l).length = l.length := by simp [cellsI]
theorem cellsI_append (l r : List Int) : cellsI (l ++ r) = cellsI l ++ cellsI r := by simp [cellsI]
theorem cellsI_at (l : List Int) (i : Nat) (h : i < l.length) : (cellsI l)[i]? = some (.int .i64 (l.getD i 0)) := by
  unfold cellsI
  simp [List.getElem?_eq_getElem h, List.getD_eq_getElem?_getD]
theorem cellsI_one (l : List Int) : ∀ u ∈ cellsI l, u.oneCell' = true := by
  intro u hu
  obtain ⟨i, _, rfl⟩ := List.mem_map.1 hu
  rfl
/-- A slice of n ints at a reads as the list l. -/
def IRow (w : World) (a : Option Addr) (n : Nat) (l : List Int) : Prop :=
  l.length = n ∧ (n = 0 ∨ ∃ b o, a = some ⟨b, o, none⟩ ∧ ∀ i, i < n → w.cell? ⟨b, o + i, none⟩ = some (.int .i64 (l.getD i 0)))
theorem IRow.nil (w : World) : IRow w none 0 [] := ⟨rfl, .inl rfl⟩
theorem IRow.below {w w' : World} {a : Option Addr} {n : Nat} {l : List Int} (h : IRow w a n l) (hb : Below w.heap.size w w') : IRow w' a n l := by
  obtain ⟨h1, h2⟩ := h
  refine ⟨h1, ?_⟩
  rcases h2 with h2 | ⟨b, o, ha, hc⟩
  · exact .inl h2
  · exact .inr ⟨b, o, ha, fun i hi => (hb.cell (p := ⟨b, o + i, none⟩) (cell_block (hc i hi))).trans (hc i hi)⟩
theorem IRow.lit (w : World) (cs : Array Value) (t : TypeId) (l : List Int) (h : cs.toList = cellsI l) (n : Nat) (hn : l.length = n) : IRow (w.alloc (.cells cs t)) (some ⟨w.heap.size, 0, none⟩) n l := by
  refine ⟨hn, .inr ⟨w.heap.size, 0, rfl, fun i hi => ?_⟩⟩
  have hb : (w.alloc (.cells cs t)).heap[w.heap.size]? = some (.cells cs t) := by
    show (w.heap.push _)[w.heap.size]? = _
    simp
  have := cellsI_at l i (by omega)
  rw [← h] at this
  unfold World.cell?
  rw [hb, Nat.zero_add]
  simpa using this
/-- The call's own slice of ints v reads as l. -/
def OwnI (w : World) (B : Nat) (v : Value) (l : List Int) : Prop := w.ownsRow B 3 1 v l.length (cellsI l)
theorem OwnI.nil (w : World) (B : Nat) : OwnI w B (.slice none 0 0) [] := World.ownsRow_nil _ _ _ _
theorem OwnI.form {w : World} {B : Nat} {v : Value} {l : List Int} (h : OwnI w B v l) : ∃ a cap, v = .slice a l.length cap ∧ IRow w a l.length l ∧ l.length ≤ cap := by
  rcases h.2 with ⟨rfl, h0⟩ | ⟨g, cap, cur, rfl, h1, h2, h3, _⟩
  · exact ⟨none, 0, by rw [h0], ⟨rfl, .inl h0⟩, by omega⟩
  · refine ⟨_, cap, rfl, ⟨rfl, .inr ⟨g, 0, rfl, fun i hi => ?_⟩⟩, h3⟩
    rw [Nat.zero_add, World.ownsRow.cellAt h i (by omega), cellsI_at l i hi]
theorem OwnI.below {w w' : World} {B : Nat} {v : Value} {l : List Int} (h : OwnI w B v l) (hb : Below w.heap.size w w') : OwnI w' B v l := by
  rcases h.2 with ⟨h1, h0⟩ | ⟨g, cap, cur, e1, e2, e3, e4⟩
  · exact ⟨h.1, .inl ⟨h1, h0⟩⟩
  · have hg : g < w.heap.size := (World.ownsRow.lt h g (by rw [e1]; rfl)).2
    exact ⟨h.1, .inr ⟨g, cap, cur, e1, e2, (hb.block g hg).trans e3, e4⟩⟩
theorem OwnI.grown {w w0 w' : World} {B B0 : Nat} {v : Value} {l : List Int} (h : OwnI w B v l) (hb : Below B0 w0 w) (hg : w.grownBy w' v.ownBlock) (h0 : B0 ≤ B) (hs : B0 ≤ w.heap.size) : Below B0 w0 w' :=
  hb.grown hg hs (fun k hk => Nat.le_trans h0 (World.ownsRow.lt h k hk).1)
theorem OwnI.alloc {w : World} {B : Nat} {v : Value} {l : List Int} (h : OwnI w B v l) (o : Obj) : OwnI (w.alloc o) B v l := h.below ((Below.refl _ _).alloc (Nat.le_refl _) _)
theorem Try.infoIntO : (Try.prog.info? 3).map (fun i => (i.zero, i.size, i.bytes)) = some (some (.int .i64 0), 1, 8) := by kernel_rfl
/-- 'append(v, x...)', v the call's own row of ints, x a slice of some. -/
theorem wpList_append_ints {w : World} {ops : Array Oper} {rest : List Oper} {o : Oper} {a : Act} {Q : Exit → Act → World → Prop} (hgd : o.guard = none) (s x : Operand)
    (ho : o.op = .call { callee := .builtin .append, args := #[s, x], argTypes := #[23, 23] })
    (base : Nat) (v : Value) (l : List Int) (hs : a.eval s = v) (hown : OwnI w base v l)
    (ad : Addr) (n c : Nat) (r : List Int) (hx : a.eval x = .slice (some ad) n c) (hr : IRow w (some ad) n r) (hn0 : 0 < n) (h47 : (l.length + n) * 8 ≤ 140737488355328) (hbase : base ≤ w.heap.size)
    (h : ∀ v' w', OwnI w' base v' (l ++ r) → w.grownBy w' v.ownBlock → (v'.ownBlock = v.ownBlock ∨ v'.ownBlock = some w.heap.size) → wpList Try.prog ops Q rest (a.put o.dst v') w') : wpList Try.prog ops Q (o :: rest) a w := by
  obtain ⟨i0, hi, hz0, hz1, hz2⟩ := info_parts Try.infoIntO
  obtain ⟨hl, h1 | ⟨b, off, e1, hc⟩⟩ := hr
  · omega
  cases e1
  refine wpList_append_own_at w hgd s x 23 ho base 3 i0 (.int .i64 0) 1 8 Try.underlying23 hi hz0 hz1 hz2 rfl (by decide) v l.length (cellsI l) hs hown ⟨b, off, none⟩ n c (cellsI r) hx (by rw [cellsI_length, hl]; omega) ?_ (cellsI_one _) (by unfold maxLen; omega) h47 hbase ?_
  · intro j u hj
    have hj' : j < r.length := by have := (List.getElem?_eq_some_iff.1 hj).1; rwa [cellsI_length] at this
    rw [Go.WideShapes.add_plain, hc j (by omega), ← hj, cellsI_at r j hj']
  · intro v' w' hown' hgrow _ hat
    refine h v' w' ?_ hgrow hat
    unfold OwnI
    rw [List.length_append, cellsI_append, hl]
    exact hown'
end Go.Proofs.Ytnffmegicgbinab
