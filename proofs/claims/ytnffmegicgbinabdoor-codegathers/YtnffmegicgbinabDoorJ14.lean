/- Texts of this claim, joined: Codeq, Wbytes, Srows, Rplaced. -/
import Derived.Test.YtnffmegicgbinabDoorJ06
import Derived.Test.YtnffmegicgbinabDoorJ07
import Derived.Test.YtnffmegicgbinabDoorJ01
import Derived.Deep.QuietTactic
import Derived.BigQuiet
import Derived.Deep.RegionHeld3
import Derived.Deep.DeepCutAuto
import Derived.Test.YtnffmegicgbinabDoorJ08
/- More plain facts for package code: what the laws' own rows are. -/
namespace Go.Proofs.YtnffmegicgbinabDoor
open Go.RowKit
set_option linter.unusedVariables false
set_option linter.unusedSimpArgs false

theorem SRow.take {w : World} {a : Option Addr} {n k : Nat} {ss : List Shr} (R : SRow w a n ss) (hk : k ≤ n) : SRow w a k (ss.take k) := by
  refine ⟨by rw [List.length_take, R.1]; omega, ?_⟩
  rcases R.2 with h0 | ⟨b, o, e, hc⟩
  · exact .inl (by omega)
  · refine .inr ⟨b, o, e, fun i hi => ?_⟩
    have := hc i (by omega)
    have e2 : (ss.take k).getD i noS = ss.getD i noS := by
      rw [List.getD_eq_getElem?_getD, List.getElem?_take_of_lt hi, List.getD_eq_getElem?_getD]
    rw [e2]
    exact this
/-- What the law of Gather wants. -/
def wantG (ss : List Shr) (F i : Nat) : List (List UInt8) := (List.range i).map fun j => joinedL ss j F
theorem wantG_length (ss : List Shr) (F i : Nat) : (wantG ss F i).length = i := by simp [wantG]
theorem wantG_succ (ss : List Shr) (F i : Nat) : wantG ss F i ++ [joinedL ss i F] = wantG ss F (i + 1) := by
  unfold wantG
  rw [List.range_succ, List.map_append]
  rfl
theorem wantG_at {ss : List Shr} {F i j : Nat} (h : j < i) : (wantG ss F i).getD j [] = joinedL ss j F := by
  unfold wantG
  rw [List.getD_eq_getElem?_getD, List.getElem?_map, List.getElem?_range h]
  rfl
theorem gather_want {ss : List Shr} {k F : Nat} {rows : List (List UInt8)} (hk : 1 ≤ k) (hk2 : k ≤ ss.length) (hb : k ≤ 256) (hp : ∀ s ∈ ss.take k, s.1 < 256) (hd : ((ss.take k).map (·.1)).Nodup) (hF : ((ss.take k).getD 0 noS).2.length = F) (h : gatherP ss k rows) : rows = wantG (ss.take k) F k := by
  refine rows_ext h.1 (wantG_length _ _ _) fun j hj => ?_
  rw [wantG_at hj]
  have q := joinedL_is (ss := ss.take k) (x := j) (by rw [List.length_take]; omega) hp hd (by omega)
  rw [hF] at q
  exact joinedP_unique hp hd (by omega) (h.2 j hj) q
/-- What the law of Spread wants. -/
def wantS (ls : List (List UInt8)) (F i : Nat) : List (List UInt8) := (List.range i).map fun j => if j < ls.length then ls.getD j [] else joinedL (placedL ls) j F
theorem wantS_length (ls : List (List UInt8)) (F i : Nat) : (wantS ls F i).length = i := by simp [wantS]
theorem wantS_succ1 {ls : List (List UInt8)} {F i : Nat} (h : i < ls.length) : wantS ls F i ++ [ls.getD i []] = wantS ls F (i + 1) := by
  unfold wantS
  rw [List.range_succ, List.map_append]
  simp only [List.map_cons, List.map_nil, if_pos h]
theorem wantS_succ2 {ls : List (List UInt8)} {F i : Nat} (h : ls.length ≤ i) : wantS ls F i ++ [joinedL (placedL ls) i F] = wantS ls F (i + 1) := by
  unfold wantS
  rw [List.range_succ, List.map_append]
  simp only [List.map_cons, List.map_nil, if_neg (Nat.not_lt.2 h)]
theorem wantS_at {ls : List (List UInt8)} {F i j : Nat} (h : j < i) : (wantS ls F i).getD j [] = if j < ls.length then ls.getD j [] else joinedL (placedL ls) j F := by
  unfold wantS
  rw [List.getD_eq_getElem?_getD, List.getElem?_map, List.getElem?_range h]
  rfl
theorem placedL_lt {ls : List (List UInt8)} (h : ls.length ≤ 256) : ∀ s ∈ placedL ls, s.1 < 256 := fun s hs => by
  have : s.1 ∈ (placedL ls).map (·.1) := List.mem_map.2 ⟨s, hs, rfl⟩
  rw [placedL_places] at this
  have := List.mem_range.1 this
  omega
theorem placedL_nodup (ls : List (List UInt8)) : ((placedL ls).map (·.1)).Nodup := by rw [placedL_places]; exact List.nodup_range
theorem placedL_len {ls : List (List UInt8)} {F : Nat} (h : ∀ l ∈ ls, l.length = F) : ∀ s ∈ placedL ls, s.2.length = F := fun s hs => by
  unfold placedL at hs
  obtain ⟨i, hi, rfl⟩ := List.mem_map.1 hs
  have hi := List.mem_range.1 hi
  refine h _ ?_
  show ls.getD i [] ∈ ls
  rw [List.getD_eq_getElem?_getD, List.getElem?_eq_getElem hi]
  exact List.getElem_mem hi
theorem spread_want {ls rows : List (List UInt8)} {N : Nat} (hk : 1 ≤ ls.length) (hN : N ≤ 20) (hK : ls.length ≤ N) (h : spreadP ls N rows) : rows = wantS ls (ls.getD 0 []).length N := by
  refine rows_ext h.1 (wantS_length _ _ _) fun j hj => ?_
  rw [wantS_at hj]
  by_cases c : j < ls.length
  · rw [if_pos c, h.2.1 j c]
  · rw [if_neg c]
    have hp := placedL_lt (ls := ls) (by omega)
    have q := joinedL_is (ss := placedL ls) (x := j) (by rw [placedL_length]; omega) hp (placedL_nodup ls) (by omega)
    rw [placedL_at (by omega)] at q
    exact joinedP_unique hp (placedL_nodup ls) (by omega) (h.2.2 j (by omega) hj) q
theorem spreadE_seven : spreadE [[7]] 2 = 0 := by decide
/-- What one byte is, spread to two. -/
theorem spread_seven {rows : List (List UInt8)} (h : spreadP [[7]] 2 rows) : rows = [[7], [7]] := by
  refine rows_ext (n := 2) h.1 rfl fun j hj => ?_
  match j, hj with
  | 0, _ => exact h.2.1 0 (by decide)
  | 1, _ => exact joinedP_one (p := 0) (v := 7) (by omega) (h.2.2 1 (by decide) (by omega))
/-- A literal of one slice of bytes. -/
theorem rowsB_one {w : World} {t : TypeId} {a : Option Addr} {n c : Nat} {l : List UInt8} (hc : n ≤ c) (hn : n ≤ 140737488351232) (R : Row w a n l) : BRowsB (w.alloc (.cells #[.slice a n c] t)) (some ⟨w.heap.size, 0, none⟩) 1 [l] := by
  refine ⟨⟨rfl, .inr ⟨_, 0, rfl, fun i hi => ?_⟩⟩, fun i hi => ?_⟩
  · have : i = 0 := by omega
    subst this
    refine ⟨a, n, c, ?_, hc, R.below ((Below.refl _ _).alloc (Nat.le_refl _) _)⟩
    have := cells_new w [.slice a n c] t 0
    exact this
  · have : i = 0 := by omega
    subst this
    show l.length ≤ _
    rw [R.1]
    exact hn
theorem litT_seven (w : World) (t1 t2 : TypeId) : BRowsB ((w.alloc (.cells #[.int .u8 7] t1)).alloc (.cells #[.slice (some ⟨w.heap.size, 0, none⟩) 1 1] t2)) (some ⟨w.heap.size + 1, 0, none⟩) 1 [[7]] := by
  have hs : (w.alloc (.cells #[.int .u8 7] t1)).heap.size = w.heap.size + 1 := by simp
  have r : Row (w.alloc (.cells #[.int .u8 7] t1)) (some ⟨w.heap.size, 0, none⟩) 1 [7] := Row.lit1v w 7 _ 7 rfl
  rw [← hs]
  exact rowsB_one (Nat.le_refl _) (by omega) r
/-- The two rows of one byte, as they lie. -/
theorem two_sevens {w : World} {a : Option Addr} (R : BRowsB w a 2 [[7], [7]]) : ∃ (b o b1 o1 c1 : Nat), a = some ⟨b, o, none⟩ ∧ w.cell? ⟨b, o + 1, none⟩ = some (.slice (some ⟨b1, o1, none⟩) 1 c1) ∧ w.cell? ⟨b1, o1, none⟩ = some (.int .u8 7) := by
  rcases R.1.2 with h0 | ⟨b, o, e, hc⟩
  · omega
  · obtain ⟨ai, ni, ci, k1, _, hR⟩ := hc 1 (by omega)
    have hn : ni = 1 := hR.1.symm
    subst hn
    rcases hR.2 with h0 | ⟨b1, o1, e1, hcc⟩
    · omega
    · subst e1
      exact ⟨b, o, b1, o1, ci, e, k1, hcc 0 (by omega)⟩
end Go.Proofs.YtnffmegicgbinabDoor
/- The contract of oathbooksame.Bytes: it tells whether two slices read as one list. -/
namespace Go.Proofs.YtnffmegicgbinabDoor
open Go.RowKit
set_option linter.unusedVariables false
set_option linter.unusedSimpArgs false

set_option maxHeartbeats 400000 in
theorem bytes_any (a1 a2 : Option Addr) (n1 n2 c1 c2 : Nat) (l1 l2 : List UInt8) (w : World) (h1 : Row w a1 n1 l1) (h2 : Row w a2 n2 l2) (hm : n1 ≤ 281474976710656) :
    Calls Tryd.prog 13 #[.slice a1 n1 c1, .slice a2 n2 c2] w fun e w' => e = .returned (.bool (decide (l1 = l2))) ∧ ∃ n, w' = w.drewN n := by
  obtain ⟨e1, k1⟩ := h1
  obtain ⟨e2, k2⟩ := h2
  by_cases hn : n1 = n2
  · subst hn
    have hne : ((n1 : Int) != (n1 : Int)) = false := by simp
    have HE : Hid (l1.length = n1 ∧ l2.length = n1) := ⟨e1, e2⟩
    clear e1 e2
    go_enter Tryd.func13, Tryd.ntmps13
    go_wp2
    go_loopw [5] (fun i wr => ∃ k nn : Nat, k ≤ n1 ∧ i = .int .i64 k ∧ wr = w.drewN nn ∧ ∀ j, j < k → nth l1 j = nth l2 j) (fun i _ => n1 - (intOf i).toNat)
    case atStart => exact ⟨0, 0, Nat.zero_le _, rfl, rfl, fun j hj => by omega⟩
    case round =>
      obtain ⟨k, nn, hk, rfl, rfl, hall⟩ := hrel
      have HA : Hid (∀ j, j < k → nth l1 j = nth l2 j) := hall
      clear hall
      by_cases hlt : k < n1
      · rcases k1 with k1 | ⟨b1, o1, rfl, k1⟩
        · omega
        rcases k2 with k2 | ⟨b2, o2, rfl, k2⟩
        · omega
        have g1 := k1 k hlt
        have g2 := k2 k hlt
        have hi : (0 : Int) ≤ (k : Int) := by omega
        have hj : (k : Int) < (n1 : Int) := by omega
        clear k1 k2
        by_cases hq : nth l1 k = nth l2 k
        · have HQ : Hid (nth l1 k = nth l2 k) := hq
          have hb : (nth l1 k != nth l2 k) = false := by simp [hq]
          clear hq
          go_wp2
          go_quiet (fail)
          go_wp2
          go_roundw
          case rel => exact ⟨k + 1, nn + nq, by omega, by go_num, rfl, fun j hj => by
            by_cases hjk : j = k
            · subst hjk; exact HQ.out
            · exact HA.out j (by omega)⟩
          case measure => simp [intOf]; omega
        · have HQ : Hid (¬ nth l1 k = nth l2 k) := hq
          have hb : (nth l1 k != nth l2 k) = true := by simp [hq]
          clear hq
          go_wp2
          go_quiet (fail)
          go_wp2
          go_ret
          exact ⟨ret_bool (by symm; rw [decide_eq_false_iff_not]; intro h; subst h; exact HQ.out rfl), nn + nq, by rw [drewN_add]⟩
      · go_wp2
        go_ret
        exact ⟨ret_bool (by
          have hE := HE.out
          symm
          rw [decide_eq_true_iff]
          exact nth_inj (by omega) fun j hj => HA.out j (by omega)), nn, rfl⟩
  · have hne : ((n1 : Int) != (n2 : Int)) = true := by simp; omega
    go_enter Tryd.func13, Tryd.ntmps13
    go_wp2
    go_ret
    exact ⟨ret_bool (by symm; rw [decide_eq_false_iff_not]; intro h; subst h; omega), 0, rfl⟩
end Go.Proofs.YtnffmegicgbinabDoor
/- The contract of oathbooksame.Rows: it tells whether two slices of slices of bytes read as one list. -/
namespace Go.Proofs.YtnffmegicgbinabDoor
open Go.RowKit
set_option linter.unusedVariables false
set_option linter.unusedSimpArgs false

/-- Where a row's slice lies, and what it reads as. -/
theorem BRowsB.hrow {w : World} {b o n : Nat} {ls : List (List UInt8)} (R : BRowsB w (some ⟨b, o, none⟩) n ls) (i : Nat) (hi : i < n) : ∃ (ai : Option Addr) (ni ci : Nat), ni ≤ ci ∧ ni ≤ 140737488351232 ∧ ni = (ls.getD i []).length ∧ ∀ wx, Below w.heap.size w wx → wx.cell? ⟨b, o + i, none⟩ = some (.slice ai ni ci) ∧ Row wx ai ni (ls.getD i []) := by
  rcases R.1.2 with h0 | ⟨b', o', e, hc⟩
  · omega
  · cases e
    obtain ⟨ai, ni, ci, c1, h4, hR⟩ := hc i hi
    have hl := R.2 i hi
    refine ⟨ai, ni, ci, h4, by rw [← hR.1]; exact hl, hR.1.symm, fun wx hb => ⟨(hb.cell (p := ⟨b, o + i, none⟩) (cell_block c1)).trans c1, hR.below hb⟩⟩
theorem BRowsB.adr {w : World} {a : Option Addr} {n : Nat} {ls : List (List UInt8)} (R : BRowsB w a n ls) (hn : 0 < n) : ∃ b o, a = some ⟨b, o, none⟩ := by
  rcases R.1.2 with h0 | ⟨b, o, e, _⟩
  · omega
  · exact ⟨b, o, e⟩
set_option maxRecDepth 100000 in
set_option maxHeartbeats 2000000 in
theorem rows_same (a1 : Option Addr) (n1 c1 : Nat) (us : List (List UInt8)) (a2 : Option Addr) (n2 c2 : Nat) (vs : List (List UInt8)) (w : World) (R1 : BRowsB w a1 n1 us) (R2 : BRowsB w a2 n2 vs) (h1 : n1 ≤ c1) (h2 : n2 ≤ c2) (h3 : n1 ≤ 140737488351232) :
    Calls Tryd.prog 8 #[.slice a1 n1 c1, .slice a2 n2 c2] w fun e w' => e = .returned (.bool (decide (us = vs))) ∧ Below w.heap.size w w' := by
  have HL1 : Hid (us.length = n1) := R1.1.1
  have HL2 : Hid (vs.length = n2) := R2.1.1
  by_cases hn : n1 = n2
  · subst hn
    generalize n1 = n at *
    have hne : ((n : Int) != (n : Int)) = false := by simp
    have HR1 : Hid (∀ wx, Below w.heap.size w wx → BRowsB wx a1 n us) := fun wx hx => R1.below hx
    have HR2 : Hid (∀ wx, Below w.heap.size w wx → BRowsB wx a2 n vs) := fun wx hx => R2.below hx
    clear R1 R2
    go_enter Tryd.func8, Tryd.ntmps8
    go_wp2_with fail
    go_loopw [5] (fun iv wr => ∃ i : Nat, iv = .int .i64 (i : Int) ∧ i ≤ n ∧ Hid (∀ j, j < i → us.getD j [] = vs.getD j []) ∧ Hid (Below w.heap.size w wr)) (fun iv _ => n - (intOf iv).toNat)
    case atStart => exact ⟨0, rfl, Nat.zero_le _, (fun j h => by omega), Below.refl _ _⟩
    case round =>
      obtain ⟨i, rfl, hi, HJ, HB⟩ := hrel
      by_cases hlt : i < n
      · obtain ⟨b1, o1, ha1⟩ := (HR1.out _ HB.out).adr (by omega)
        obtain ⟨b2, o2, ha2⟩ := (HR2.out _ HB.out).adr (by omega)
        subst ha1
        subst ha2
        obtain ⟨x1, m1, d1, hd1, hm1', e1, HC1⟩ := (HR1.out _ HB.out).hrow i hlt
        clear e1
        obtain ⟨x2, m2, d2, hd2, hm2, e2, HC2⟩ := (HR2.out _ HB.out).hrow i hlt
        clear e2
        have i0 : (0 : Int) ≤ (i : Int) := by omega
        have i1 : (i : Int) < (n : Int) := by omega
        have HIN : Hid (i < n) := hlt
        have HNE : Hid (us.getD i [] ≠ vs.getD i [] → decide (us = vs) = false) := fun q => decide_eq_false (fun e => q (by rw [e]))
        have HCI : Hid (∀ wx, Below wr.heap.size wr wx → wx.cell? ⟨b1, o1 + i, none⟩ = some (.slice x1 m1 d1) ∧ wx.cell? ⟨b2, o2 + i, none⟩ = some (.slice x2 m2 d2) ∧ Row wx x1 m1 (us.getD i []) ∧ Row wx x2 m2 (vs.getD i [])) := fun wx hx => ⟨(HC1 wx hx).1, (HC2 wx hx).1, (HC1 wx hx).2, (HC2 wx hx).2⟩
        obtain ⟨l1, hl1⟩ : ∃ p, us.getD i [] = p := ⟨_, rfl⟩
        obtain ⟨l2, hl2⟩ : ∃ p, vs.getD i [] = p := ⟨_, rfl⟩
        have HEL : Hid (l1 = l2 → us.getD i [] = vs.getD i []) := fun q => by rw [hl1, hl2, q]
        rw [hl1, hl2] at HCI HNE
        clear HC1 HC2 hl1 hl2 hlt hi hm2
        have hm1 : m1 ≤ 281474976710656 := by omega
        clear hm1'
        by_cases cd : l1 = l2
        · have HSD : Hid (decide (l1 = l2) = true) := decide_eq_true cd
          have HEQ : Hid (us.getD i [] = vs.getD i []) := HEL.out cd
          clear cd
          go_upto_region 6 with fail
          try simp only [Act.put, List.setIfInBounds_toArray, List.set_cons_zero, List.set_cons_succ]
          refine wp_region_noPanic ?_
          refine wp_region_held_drew (S := fun wx => wx.cell? ⟨b1, o1 + i, none⟩ = some (.slice x1 m1 d1) ∧ wx.cell? ⟨b2, o2 + i, none⟩ = some (.slice x2 m2 d2)) (by kernel_rfl) ⟨(HCI.out _ (below_drewN wr 1)).1, (HCI.out _ (below_drewN wr 1)).2.1⟩ (fun hHeld => ?_)
          try simp only [Act.put, List.setIfInBounds_toArray, List.set_cons_zero, List.set_cons_succ]
          have HBd : Hid (Below wr.heap.size wr wr.drew) := below_drewN wr 1
          generalize wr.drew = wd at *
          refine wpAnyH_take (i := 0) (v := .slice (some ⟨b1, o1, none⟩) n c1) (by simp only [List.getElem?_toArray, List.getElem?_cons_zero, List.getElem?_cons_succ]; rfl) (by kernel_rfl) (by kernel_rfl) (by kernel_rfl) (fun _ _ _ h => h) (Or.inl ⟨by rfl, ?_⟩) hHeld ?_
          · intro w hSw
            obtain ⟨hSw0, hSw1⟩ := hSw
            go_simp
          try simp only [Act.put, List.setIfInBounds_toArray, List.set_cons_zero, List.set_cons_succ]
          refine wpAnyH_take (i := 1) (v := .int .i64 (i : Int)) (by simp only [List.getElem?_toArray, List.getElem?_cons_zero, List.getElem?_cons_succ]; rfl) (by kernel_rfl) (by kernel_rfl) (by kernel_rfl) (fun _ _ _ h => h) (Or.inl ⟨by rfl, ?_⟩) hHeld ?_
          · intro w hSw
            obtain ⟨hSw0, hSw1⟩ := hSw
            go_simp
          try simp only [Act.put, List.setIfInBounds_toArray, List.set_cons_zero, List.set_cons_succ]
          refine wpAnyH_take (i := 2) (v := .pointer (some ⟨b1, o1 + i, none⟩)) (by simp only [List.getElem?_toArray, List.getElem?_cons_zero, List.getElem?_cons_succ]; rfl) (by kernel_rfl) (by kernel_rfl) (by kernel_rfl) (fun _ _ _ h => h) (Or.inl ⟨by rfl, ?_⟩) hHeld ?_
          · intro w hSw
            obtain ⟨hSw0, hSw1⟩ := hSw
            go_simp
          try simp only [Act.put, List.setIfInBounds_toArray, List.set_cons_zero, List.set_cons_succ]
          refine wpAnyH_take (i := 3) (v := .slice x1 m1 d1) (by simp only [List.getElem?_toArray, List.getElem?_cons_zero, List.getElem?_cons_succ]; rfl) (by kernel_rfl) (by kernel_rfl) (by kernel_rfl) (fun _ _ _ h => h) (Or.inl ⟨by rfl, ?_⟩) hHeld ?_
          · intro w hSw
            obtain ⟨hSw0, hSw1⟩ := hSw
            go_simp
          try simp only [Act.put, List.setIfInBounds_toArray, List.set_cons_zero, List.set_cons_succ]
          refine wpAnyH_take (i := 4) (v := .slice (some ⟨b2, o2, none⟩) n c2) (by simp only [List.getElem?_toArray, List.getElem?_cons_zero, List.getElem?_cons_succ]; rfl) (by kernel_rfl) (by kernel_rfl) (by kernel_rfl) (fun _ _ _ h => h) (Or.inl ⟨by rfl, ?_⟩) hHeld ?_
          · intro w hSw
            obtain ⟨hSw0, hSw1⟩ := hSw
            go_simp
          try simp only [Act.put, List.setIfInBounds_toArray, List.set_cons_zero, List.set_cons_succ]
          refine wpAnyH_take (i := 5) (v := .int .i64 (i : Int)) (by simp only [List.getElem?_toArray, List.getElem?_cons_zero, List.getElem?_cons_succ]; rfl) (by kernel_rfl) (by kernel_rfl) (by kernel_rfl) (fun _ _ _ h => h) (Or.inl ⟨by rfl, ?_⟩) hHeld ?_
          · intro w hSw
            obtain ⟨hSw0, hSw1⟩ := hSw
            go_simp
          try simp only [Act.put, List.setIfInBounds_toArray, List.set_cons_zero, List.set_cons_succ]
          refine wpAnyH_take (i := 6) (v := .pointer (some ⟨b2, o2 + i, none⟩)) (by simp only [List.getElem?_toArray, List.getElem?_cons_zero, List.getElem?_cons_succ]; rfl) (by kernel_rfl) (by kernel_rfl) (by kernel_rfl) (fun _ _ _ h => h) (Or.inl ⟨by rfl, ?_⟩) hHeld ?_
          · intro w hSw
            obtain ⟨hSw0, hSw1⟩ := hSw
            go_simp
          try simp only [Act.put, List.setIfInBounds_toArray, List.set_cons_zero, List.set_cons_succ]
          refine wpAnyH_take (i := 7) (v := .slice x2 m2 d2) (by simp only [List.getElem?_toArray, List.getElem?_cons_zero, List.getElem?_cons_succ]; rfl) (by kernel_rfl) (by kernel_rfl) (by kernel_rfl) (fun _ _ _ h => h) (Or.inl ⟨by rfl, ?_⟩) hHeld ?_
          · intro w hSw
            obtain ⟨hSw0, hSw1⟩ := hSw
            go_simp
          try simp only [Act.put, List.setIfInBounds_toArray, List.set_cons_zero, List.set_cons_succ]
          refine wpAnyH_ready (rs := [8]) (by kernel_rfl) (by simp) ?_
          refine AllReadyH.cons (by simp only [List.getElem?_toArray, List.getElem?_cons_zero, List.getElem?_cons_succ]; rfl) (fun K hK => ?_) AllReadyH.nil
          rw [if_pos (by rfl)]
          go_simp
          refine (bytes_any x1 x2 m1 m2 d1 d2 l1 l2 wd (HCI.out _ HBd.out).2.2.1 (HCI.out _ HBd.out).2.2.2 hm1).mono ?_
          rintro e wq ⟨rfl, q, hq⟩
          have HBq : Hid (Below wr.heap.size wr wq) := by rw [hq]; exact HBd.out.trans ((below_drewN wd q).mono HBd.out.size)
          rw [HSD.out]
          clear hq
          go_wp2_with fail
          refine hK.out _ _ ⟨(HCI.out _ HBq.out).1, (HCI.out _ HBq.out).2.1⟩ (fun hHeld => ?_)
          clear hK K
          try simp only [Act.put, List.setIfInBounds_toArray, List.set_cons_zero, List.set_cons_succ]
          refine wpAnyH_take (i := 9) (v := .bool true) (by simp only [List.getElem?_toArray, List.getElem?_cons_zero, List.getElem?_cons_succ]; rfl) (by kernel_rfl) (by kernel_rfl) (by kernel_rfl) (fun _ _ _ h => h) (Or.inl ⟨by rfl, ?_⟩) hHeld ?_
          · intro w hSw
            obtain ⟨hSw0, hSw1⟩ := hSw
            go_simp
          try simp only [Act.put, List.setIfInBounds_toArray, List.set_cons_zero, List.set_cons_succ]
          refine wpAnyH_done (by kernel_rfl) (NoPanic.normal ?_) _
          clear hHeld
          go_wp2_with fail
          go_roundw
          case rel => exact ⟨i + 1, by go_num, HIN.out, (fun j h => by
            by_cases e : j = i
            · rw [e]; exact HEQ.out
            · exact HJ.out j (by omega)), HB.out.trans (HBq.out.mono HB.out.size)⟩
          case measure => have := HIN.out; simp [intOf]; omega
        · have HSD : Hid (decide (l1 = l2) = false) := decide_eq_false cd
          have HV : Hid (decide (us = vs) = false) := HNE.out cd
          clear cd
          go_upto_region 6 with fail
          try simp only [Act.put, List.setIfInBounds_toArray, List.set_cons_zero, List.set_cons_succ]
          refine wp_region_noPanic ?_
          refine wp_region_held_drew (S := fun wx => wx.cell? ⟨b1, o1 + i, none⟩ = some (.slice x1 m1 d1) ∧ wx.cell? ⟨b2, o2 + i, none⟩ = some (.slice x2 m2 d2)) (by kernel_rfl) ⟨(HCI.out _ (below_drewN wr 1)).1, (HCI.out _ (below_drewN wr 1)).2.1⟩ (fun hHeld => ?_)
          try simp only [Act.put, List.setIfInBounds_toArray, List.set_cons_zero, List.set_cons_succ]
          have HBd : Hid (Below wr.heap.size wr wr.drew) := below_drewN wr 1
          generalize wr.drew = wd at *
          refine wpAnyH_take (i := 0) (v := .slice (some ⟨b1, o1, none⟩) n c1) (by simp only [List.getElem?_toArray, List.getElem?_cons_zero, List.getElem?_cons_succ]; rfl) (by kernel_rfl) (by kernel_rfl) (by kernel_rfl) (fun _ _ _ h => h) (Or.inl ⟨by rfl, ?_⟩) hHeld ?_
          · intro w hSw
            obtain ⟨hSw0, hSw1⟩ := hSw
            go_simp
          try simp only [Act.put, List.setIfInBounds_toArray, List.set_cons_zero, List.set_cons_succ]
          refine wpAnyH_take (i := 1) (v := .int .i64 (i : Int)) (by simp only [List.getElem?_toArray, List.getElem?_cons_zero, List.getElem?_cons_succ]; rfl) (by kernel_rfl) (by kernel_rfl) (by kernel_rfl) (fun _ _ _ h => h) (Or.inl ⟨by rfl, ?_⟩) hHeld ?_
          · intro w hSw
            obtain ⟨hSw0, hSw1⟩ := hSw
            go_simp
          try simp only [Act.put, List.setIfInBounds_toArray, List.set_cons_zero, List.set_cons_succ]
          refine wpAnyH_take (i := 2) (v := .pointer (some ⟨b1, o1 + i, none⟩)) (by simp only [List.getElem?_toArray, List.getElem?_cons_zero, List.getElem?_cons_succ]; rfl) (by kernel_rfl) (by kernel_rfl) (by kernel_rfl) (fun _ _ _ h => h) (Or.inl ⟨by rfl, ?_⟩) hHeld ?_
          · intro w hSw
            obtain ⟨hSw0, hSw1⟩ := hSw
            go_simp
          try simp only [Act.put, List.setIfInBounds_toArray, List.set_cons_zero, List.set_cons_succ]
          refine wpAnyH_take (i := 3) (v := .slice x1 m1 d1) (by simp only [List.getElem?_toArray, List.getElem?_cons_zero, List.getElem?_cons_succ]; rfl) (by kernel_rfl) (by kernel_rfl) (by kernel_rfl) (fun _ _ _ h => h) (Or.inl ⟨by rfl, ?_⟩) hHeld ?_
          · intro w hSw
            obtain ⟨hSw0, hSw1⟩ := hSw
            go_simp
          try simp only [Act.put, List.setIfInBounds_toArray, List.set_cons_zero, List.set_cons_succ]
          refine wpAnyH_take (i := 4) (v := .slice (some ⟨b2, o2, none⟩) n c2) (by simp only [List.getElem?_toArray, List.getElem?_cons_zero, List.getElem?_cons_succ]; rfl) (by kernel_rfl) (by kernel_rfl) (by kernel_rfl) (fun _ _ _ h => h) (Or.inl ⟨by rfl, ?_⟩) hHeld ?_
          · intro w hSw
            obtain ⟨hSw0, hSw1⟩ := hSw
            go_simp
          try simp only [Act.put, List.setIfInBounds_toArray, List.set_cons_zero, List.set_cons_succ]
          refine wpAnyH_take (i := 5) (v := .int .i64 (i : Int)) (by simp only [List.getElem?_toArray, List.getElem?_cons_zero, List.getElem?_cons_succ]; rfl) (by kernel_rfl) (by kernel_rfl) (by kernel_rfl) (fun _ _ _ h => h) (Or.inl ⟨by rfl, ?_⟩) hHeld ?_
          · intro w hSw
            obtain ⟨hSw0, hSw1⟩ := hSw
            go_simp
          try simp only [Act.put, List.setIfInBounds_toArray, List.set_cons_zero, List.set_cons_succ]
          refine wpAnyH_take (i := 6) (v := .pointer (some ⟨b2, o2 + i, none⟩)) (by simp only [List.getElem?_toArray, List.getElem?_cons_zero, List.getElem?_cons_succ]; rfl) (by kernel_rfl) (by kernel_rfl) (by kernel_rfl) (fun _ _ _ h => h) (Or.inl ⟨by rfl, ?_⟩) hHeld ?_
          · intro w hSw
            obtain ⟨hSw0, hSw1⟩ := hSw
            go_simp
          try simp only [Act.put, List.setIfInBounds_toArray, List.set_cons_zero, List.set_cons_succ]
          refine wpAnyH_take (i := 7) (v := .slice x2 m2 d2) (by simp only [List.getElem?_toArray, List.getElem?_cons_zero, List.getElem?_cons_succ]; rfl) (by kernel_rfl) (by kernel_rfl) (by kernel_rfl) (fun _ _ _ h => h) (Or.inl ⟨by rfl, ?_⟩) hHeld ?_
          · intro w hSw
            obtain ⟨hSw0, hSw1⟩ := hSw
            go_simp
          try simp only [Act.put, List.setIfInBounds_toArray, List.set_cons_zero, List.set_cons_succ]
          refine wpAnyH_ready (rs := [8]) (by kernel_rfl) (by simp) ?_
          refine AllReadyH.cons (by simp only [List.getElem?_toArray, List.getElem?_cons_zero, List.getElem?_cons_succ]; rfl) (fun K hK => ?_) AllReadyH.nil
          rw [if_pos (by rfl)]
          go_simp
          refine (bytes_any x1 x2 m1 m2 d1 d2 l1 l2 wd (HCI.out _ HBd.out).2.2.1 (HCI.out _ HBd.out).2.2.2 hm1).mono ?_
          rintro e wq ⟨rfl, q, hq⟩
          have HBq : Hid (Below wr.heap.size wr wq) := by rw [hq]; exact HBd.out.trans ((below_drewN wd q).mono HBd.out.size)
          rw [HSD.out]
          clear hq
          go_wp2_with fail
          refine hK.out _ _ ⟨(HCI.out _ HBq.out).1, (HCI.out _ HBq.out).2.1⟩ (fun hHeld => ?_)
          clear hK K
          try simp only [Act.put, List.setIfInBounds_toArray, List.set_cons_zero, List.set_cons_succ]
          refine wpAnyH_take (i := 9) (v := .bool false) (by simp only [List.getElem?_toArray, List.getElem?_cons_zero, List.getElem?_cons_succ]; rfl) (by kernel_rfl) (by kernel_rfl) (by kernel_rfl) (fun _ _ _ h => h) (Or.inl ⟨by rfl, ?_⟩) hHeld ?_
          · intro w hSw
            obtain ⟨hSw0, hSw1⟩ := hSw
            go_simp
          try simp only [Act.put, List.setIfInBounds_toArray, List.set_cons_zero, List.set_cons_succ]
          refine wpAnyH_done (by kernel_rfl) (NoPanic.normal ?_) _
          clear hHeld
          go_wp2_with fail
          go_ret
          exact ⟨ret_bool HV.out.symm, HB.out.trans (HBq.out.mono HB.out.size)⟩
      · have hin : i = n := by omega
        subst hin
        have g2 : ¬ (i : Int) < (i : Int) := by omega
        have HV : Hid (decide (us = vs) = true) := decide_eq_true (rows_ext HL1.out HL2.out HJ.out)
        clear hlt
        go_wp2_with fail
        go_ret
        exact ⟨ret_bool HV.out.symm, HB.out⟩
  · have hne : ((n1 : Int) != (n2 : Int)) = true := by simp; omega
    have HV : Hid (decide (us = vs) = false) := decide_eq_false fun e => hn (by rw [← HL1.out, ← HL2.out, e])
    clear R1 R2
    go_enter Tryd.func8, Tryd.ntmps8
    go_wp2_with fail
    go_ret
    exact ⟨ret_bool HV.out.symm, Below.refl _ _⟩
end Go.Proofs.YtnffmegicgbinabDoor
/- The contract of oathbookref2.Placed: rows with their places. -/
namespace Go.Proofs.YtnffmegicgbinabDoor
open Go.RowKit
set_option linter.unusedVariables false
set_option linter.unusedSimpArgs false

theorem placedT_succ {ls : List (List UInt8)} {i : Nat} (h : i < ls.length) : (placedL ls).take i ++ [(i, ls.getD i [])] = (placedL ls).take (i + 1) := by
  rw [List.take_succ_eq_append_getElem (by rw [placedL_length]; exact h)]
  have := placedL_at h
  rw [List.getD_eq_getElem?_getD, List.getElem?_eq_getElem (by rw [placedL_length]; exact h)] at this
  rw [← this]
  rfl
end Go.Proofs.YtnffmegicgbinabDoor
