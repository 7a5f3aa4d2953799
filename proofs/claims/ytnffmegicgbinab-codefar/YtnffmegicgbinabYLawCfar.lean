/- The law CodeFar: two that differ differ in as many rows as were added, and one. -/
import Derived.Test.YtnffmegicgbinabJ13
import Derived.Test.YtnffmegicgbinabJ14
import Derived.Test.YtnffmegicgbinabJ15
import Derived.Deep.DeepCutAuto
import Derived.Deep.RegionHeld3
namespace Go.Proofs.Ytnffmegicgbinab
open Go.RowKit
set_option linter.unusedVariables false
set_option linter.unusedSimpArgs false

set_option maxRecDepth 100000 in
set_option maxHeartbeats 4000000 in
theorem cfar_walk (a : Option Addr) (n c : Nat) (ls : List (List UInt8)) (a2 : Option Addr) (n2 c2 : Nat) (ms : List (List UInt8)) (N : Int) (w : World) (G : Env w)
    (R : BRowsB w a n ls) (hc : n ≤ c) (hn : 24 * n ≤ 140737488351232) (R2 : BRowsB w a2 n2 ms) (h2 : n2 ≤ c2) (hn2 : 24 * n2 ≤ 140737488351232) (k1 : -9223372036854775808 ≤ N) (k2 : N ≤ 9223372036854775807) :
    Calls Try.prog 4 #[.slice a n c, .slice a2 n2 c2, .int .i64 N] w fun r w' => r = .returned (.bool true) ∧ Below w.heap.size w w' := by
  have HALL : Hid (∀ wx, Below w.heap.size w wx → Env wx ∧ BRowsB wx a n ls ∧ BRowsB wx a2 n2 ms) := fun wx hx => ⟨G.below hx, R.below hx, R2.below hx⟩
  have HB0 : Hid (Below w.heap.size w w) := Below.refl _ _
  have HLS : Hid (ls.length = n) := R.1.1
  have HMS : Hid (ms.length = n2) := R2.1.1
  clear G R R2
  go_enter Try.func4, Try.ntmps4
  go_wp2_with fail
  have HR3 : Hid (BRowsB ((w.alloc (.cells #[.int .u8 7] 5)).alloc (.cells #[.slice (some ⟨w.heap.size, 0, none⟩) 1 1] 28)) (some ⟨w.heap.size + 1, 0, none⟩) 1 [[7]]) := litT_seven w _ _
  have HB3 : Hid (Below w.heap.size w ((w.alloc (.cells #[.int .u8 7] 5)).alloc (.cells #[.slice (some ⟨w.heap.size, 0, none⟩) 1 1] 28))) := (HB0.out.alloc HB0.out.size _).alloc (by simp) _
  generalize (w.alloc (.cells #[.int .u8 7] 5)).alloc (.cells #[.slice (some ⟨w.heap.size, 0, none⟩) 1 1] 28) = x2 at *
  refine (wcode_spread (some ⟨w.heap.size + 1, 0, none⟩) 1 1 2 [[7]] x2 (HALL.out _ HB3.out).1 HR3.out (Nat.le_refl _) spreadE_seven).mono ?_
  rintro r w1 ⟨⟨a5, c5, rows5, rfl, hc5, r5, p5⟩, hb5⟩
  have HB1 : Hid (Below w.heap.size w w1) := HB3.out.trans (hb5.mono HB3.out.size)
  clear hb5 r5 p5 HR3 HB3 HB0 hc5
  go_wp2_with fail
  by_cases he : spreadE ls N = 0
  rotate_left
  · refine (wcode_spreadout a n c N ls (spreadE ls N) w1 (HALL.out _ HB1.out).1 (HALL.out _ HB1.out).2.1 hc (by omega) k1 k2 rfl he).mono ?_
    rintro r w2 ⟨⟨ag, cg, rfl⟩, hb4⟩
    have HB2 : Hid (Below w.heap.size w w2) := HB1.out.trans (hb4.mono HB1.out.size)
    generalize spreadE ls N = E at *
    clear hb4 HB1 he
    go_wp2_with fail
    by_cases hf : spreadE ms N = 0
    rotate_left
    · refine (wcode_spreadout a2 n2 c2 N ms (spreadE ms N) w2 (HALL.out _ HB2.out).1 (HALL.out _ HB2.out).2.2 h2 (by omega) k1 k2 rfl hf).mono ?_
      rintro r w4 ⟨⟨ag2, cg2, rfl⟩, hb4⟩
      have HB4 : Hid (Below w.heap.size w w4) := HB2.out.trans (hb4.mono HB2.out.size)
      generalize spreadE ms N = E2 at *
      clear hb4 hf HB2
      go_wp2_with fail
      refine (rows_same a n c ls a2 n2 c2 ms w4 (HALL.out _ HB4.out).2.1 (HALL.out _ HB4.out).2.2 hc h2 (by omega)).mono ?_
      rintro r w9 ⟨rfl, hb9⟩
      have HB9 : Hid (Below w.heap.size w w9) := HB4.out.trans (hb9.mono HB4.out.size)
      generalize decide (ls = ms) = same at *
      clear hb9
      go_wp2_with fail
      go_ret
      exact ⟨rfl, HB9.out⟩
    obtain ⟨q1, q2, q3, q4, q5⟩ := spreadE_ok hf
    obtain ⟨N5, hN5⟩ : ∃ N5 : Nat, N = (N5 : Int) := ⟨N.toNat, by omega⟩
    subst hN5
    clear q5 q4
    refine (wcode_spread a2 n2 c2 N5 ms w2 (HALL.out _ HB2.out).1 (HALL.out _ HB2.out).2.2 h2 hf).mono ?_
    rintro r w4 ⟨⟨ag2, cg2, rows2, rfl, hcg2, rg2, pg2⟩, hb4⟩
    have HB4 : Hid (Below w.heap.size w w4) := HB2.out.trans (hb4.mono HB2.out.size)
    clear hb4 hf HB2 rg2 pg2
    go_wp2_with fail
    refine (rows_same a n c ls a2 n2 c2 ms w4 (HALL.out _ HB4.out).2.1 (HALL.out _ HB4.out).2.2 hc h2 (by omega)).mono ?_
    rintro r w9 ⟨rfl, hb9⟩
    have HB9 : Hid (Below w.heap.size w w9) := HB4.out.trans (hb9.mono HB4.out.size)
    generalize decide (ls = ms) = same at *
    clear hb9
    go_wp2_with fail
    go_ret
    exact ⟨rfl, HB9.out⟩
  obtain ⟨p1, p2, p3, p4, p5⟩ := spreadE_ok he
  rw [HLS.out] at p1 p2
  obtain ⟨M, hM⟩ : ∃ M : Nat, N = (M : Int) := ⟨N.toNat, by omega⟩
  subst hM
  have HE : Hid (spreadE ls (M : Int) = 0) := he
  have HSA : Hid (∀ l ∈ ls, l.length = (ls.getD 0 []).length) := p5
  have hM20 : M ≤ 20 := by omega
  have hnM : n ≤ M := by omega
  clear he p5 p4
  refine (wcode_spread a n c M ls w1 (HALL.out _ HB1.out).1 (HALL.out _ HB1.out).2.1 hc HE.out).mono ?_
  rintro r w2 ⟨⟨a4, cs1, xs, rfl, hc4, r4, sp4⟩, hb5⟩
  have HB2 : Hid (Below w.heap.size w w2) := HB1.out.trans (hb5.mono HB1.out.size)
  have HX2 : Hid (∀ wx, Below w2.heap.size w2 wx → BRowsB wx a4 M xs) := fun wx hx => r4.below hx
  have HSX : Hid (spreadP ls M xs) := sp4
  clear hb5 HB1 r4 sp4 HE
  go_wp2_with fail
  by_cases hf : spreadE ms (M : Int) = 0
  rotate_left
  · refine (wcode_spreadout a2 n2 c2 (M : Int) ms (spreadE ms (M : Int)) w2 (HALL.out _ HB2.out).1 (HALL.out _ HB2.out).2.2 h2 (by omega) k1 k2 rfl hf).mono ?_
    rintro r w4 ⟨⟨ag2, cg2, rfl⟩, hb4⟩
    have HB4 : Hid (Below w.heap.size w w4) := HB2.out.trans (hb4.mono HB2.out.size)
    generalize spreadE ms (M : Int) = E2 at *
    clear hb4 hf HB2
    go_wp2_with fail
    refine (rows_same a n c ls a2 n2 c2 ms w4 (HALL.out _ HB4.out).2.1 (HALL.out _ HB4.out).2.2 hc h2 (by omega)).mono ?_
    rintro r w9 ⟨rfl, hb9⟩
    have HB9 : Hid (Below w.heap.size w w9) := HB4.out.trans (hb9.mono HB4.out.size)
    generalize decide (ls = ms) = same at *
    clear hb9
    go_wp2_with fail
    go_ret
    exact ⟨rfl, HB9.out⟩
  obtain ⟨q1, q2, q3, q4, q5⟩ := spreadE_ok hf
  rw [HMS.out] at q1 q2
  have HSB : Hid (∀ l ∈ ms, l.length = (ms.getD 0 []).length) := q5
  clear q5 q4
  refine (wcode_spread a2 n2 c2 M ms w2 (HALL.out _ HB2.out).1 (HALL.out _ HB2.out).2.2 h2 hf).mono ?_
  rintro r w3 ⟨⟨a5, cs2, ys, rfl, hc5, r5, sp5⟩, hb3⟩
  have HB3 : Hid (Below w.heap.size w w3) := HB2.out.trans (hb3.mono HB2.out.size)
  have HB23 : Hid (Below w2.heap.size w2 w3) := hb3
  have HXY : Hid (∀ wx, Below w3.heap.size w3 wx → BRowsB wx a4 M xs ∧ BRowsB wx a5 M ys ∧ Below w.heap.size w wx) := fun wx hx => ⟨HX2.out wx (HB23.out.trans (hx.mono HB23.out.size)), r5.below hx, HB3.out.trans (hx.mono HB3.out.size)⟩
  have HSY : Hid (spreadP ms M ys) := sp5
  have H33 : Hid (Below w3.heap.size w3 w3) := Below.refl _ _
  clear hb3 r5 sp5 hf HX2 HB23 HB2
  go_wp2_with fail
  refine (rows_same a n c ls a2 n2 c2 ms w3 (HALL.out _ HB3.out).2.1 (HALL.out _ HB3.out).2.2 hc h2 (by omega)).mono ?_
  rintro r w9 ⟨rfl, hb9⟩
  have HB9 : Hid (Below w3.heap.size w3 w9) := hb9
  clear hb9 H33 HB3
  by_cases hsame : ls = ms
  · rw [show decide (ls = ms) = true from decide_eq_true hsame]
    have g5 : n = n2 := by rw [← HLS.out, ← HMS.out, hsame]
    clear hsame
    subst g5
    go_wp2_with fail
    go_ret
    exact ⟨rfl, (HXY.out _ HB9.out).2.2⟩
  rw [show decide (ls = ms) = false from decide_eq_false hsame]
  have HNE : Hid (ls ≠ ms) := hsame
  clear hsame
  by_cases hnn : n = n2
  rotate_left
  · have g5 : ((n : Int) == (n2 : Int)) = false := beq_eq_false_iff_ne.2 (by omega)
    go_wp2_with fail
    go_ret
    exact ⟨rfl, (HXY.out _ HB9.out).2.2⟩
  subst hnn
  obtain ⟨ba, oa, ha⟩ := (HALL.out _ (HXY.out _ HB9.out).2.2).2.1.adr (by omega)
  subst ha
  obtain ⟨bb, ob, ha2⟩ := (HALL.out _ (HXY.out _ HB9.out).2.2).2.2.adr (by omega)
  subst ha2
  obtain ⟨b1, o1, ha4⟩ := (HXY.out _ HB9.out).1.adr (by omega)
  subst ha4
  obtain ⟨b2, o2, ha5⟩ := (HXY.out _ HB9.out).2.1.adr (by omega)
  subst ha5
  go_wp2_with fail
  go_loopw [14, 15] (fun av kv wr => ∃ ap k : Nat, av = .int .i64 (ap : Int) ∧ kv = .int .i64 (k : Int) ∧ k ≤ M ∧ ap ≤ k ∧ Hid (ap = apartN xs ys k) ∧ Hid (Below w3.heap.size w3 wr)) (fun _ kv _ => M - (intOf kv).toNat)
  case atStart => exact ⟨0, 0, rfl, rfl, Nat.zero_le _, Nat.zero_le _, rfl, HB9.out⟩
  case round =>
    clear HB9
    obtain ⟨ap, k, rfl, rfl, hk, hap, HA, HB⟩ := hrel
    by_cases hlt : k < M
    · have HKM : Hid (k < M ∧ ap ≤ k) := ⟨hlt, hap⟩
      have g4 : (k : Int) < (M : Int) := by omega
      have g0 : (0 : Int) ≤ (k : Int) := by omega
      obtain ⟨x1, m1, d1, hd1, hm1', e1, HC1⟩ := (HXY.out _ HB.out).1.hrow k hlt
      obtain ⟨x2, m2, d2, hd2, hm2, e2, HC2⟩ := (HXY.out _ HB.out).2.1.hrow k hlt
      have HCI : Hid (∀ wx, Below wr.heap.size wr wx → wx.cell? ⟨b1, o1 + k, none⟩ = some (.slice x1 m1 d1) ∧ wx.cell? ⟨b2, o2 + k, none⟩ = some (.slice x2 m2 d2) ∧ Row wx x1 m1 (xs.getD k []) ∧ Row wx x2 m2 (ys.getD k [])) := fun wx hx => ⟨(HC1 wx hx).1, (HC2 wx hx).1, (HC1 wx hx).2, (HC2 wx hx).2⟩
      obtain ⟨l1, hl1⟩ : ∃ p, xs.getD k [] = p := ⟨_, rfl⟩
      obtain ⟨l2, hl2⟩ : ∃ p, ys.getD k [] = p := ⟨_, rfl⟩
      have HAS : Hid (apartN xs ys (k + 1) = if l1 = l2 then apartN xs ys k else apartN xs ys k + 1) := by rw [← hl1, ← hl2]; rfl
      rw [hl1, hl2] at HCI
      have hm1 : m1 ≤ 281474976710656 := by omega
      clear HC1 HC2 hl1 hl2 hlt hk hm2 e1 e2 hm1' hap
      by_cases cd : l1 = l2
      · have HSD : Hid (decide (l1 = l2) = true) := decide_eq_true cd
        have HA2 : Hid (ap = apartN xs ys (k + 1)) := by rw [HAS.out, if_pos cd]; exact HA.out
        clear cd HAS HA
        go_upto_region 13 with fail
        try simp only [Act.put, List.setIfInBounds_toArray, List.set_cons_zero, List.set_cons_succ]
        refine wp_region_noPanic ?_
        refine wp_region_held_drew (S := fun wx => wx.cell? ⟨b1, o1 + k, none⟩ = some (.slice x1 m1 d1) ∧ wx.cell? ⟨b2, o2 + k, none⟩ = some (.slice x2 m2 d2)) (by kernel_rfl) ⟨(HCI.out _ (below_drewN wr 1)).1, (HCI.out _ (below_drewN wr 1)).2.1⟩ (fun hHeld => ?_)
        try simp only [Act.put, List.setIfInBounds_toArray, List.set_cons_zero, List.set_cons_succ]
        have HBd : Hid (Below wr.heap.size wr wr.drew) := below_drewN wr 1
        generalize wr.drew = wd at *
        refine wpAnyH_take (i := 0) (v := .slice (some ⟨b1, o1, none⟩) M cs1) (by simp only [List.getElem?_toArray, List.getElem?_cons_zero, List.getElem?_cons_succ]; rfl) (by kernel_rfl) (by kernel_rfl) (by kernel_rfl) (fun _ _ _ h => h) (Or.inl ⟨by rfl, ?_⟩) hHeld ?_
        · intro w hSw
          obtain ⟨hSw0, hSw1⟩ := hSw
          go_simp
        try simp only [Act.put, List.setIfInBounds_toArray, List.set_cons_zero, List.set_cons_succ]
        refine wpAnyH_take (i := 1) (v := .int .i64 (k : Int)) (by simp only [List.getElem?_toArray, List.getElem?_cons_zero, List.getElem?_cons_succ]; rfl) (by kernel_rfl) (by kernel_rfl) (by kernel_rfl) (fun _ _ _ h => h) (Or.inl ⟨by rfl, ?_⟩) hHeld ?_
        · intro w hSw
          obtain ⟨hSw0, hSw1⟩ := hSw
          go_simp
        try simp only [Act.put, List.setIfInBounds_toArray, List.set_cons_zero, List.set_cons_succ]
        refine wpAnyH_take (i := 2) (v := .pointer (some ⟨b1, o1 + k, none⟩)) (by simp only [List.getElem?_toArray, List.getElem?_cons_zero, List.getElem?_cons_succ]; rfl) (by kernel_rfl) (by kernel_rfl) (by kernel_rfl) (fun _ _ _ h => h) (Or.inl ⟨by rfl, ?_⟩) hHeld ?_
        · intro w hSw
          obtain ⟨hSw0, hSw1⟩ := hSw
          go_simp
        try simp only [Act.put, List.setIfInBounds_toArray, List.set_cons_zero, List.set_cons_succ]
        refine wpAnyH_take (i := 3) (v := .slice x1 m1 d1) (by simp only [List.getElem?_toArray, List.getElem?_cons_zero, List.getElem?_cons_succ]; rfl) (by kernel_rfl) (by kernel_rfl) (by kernel_rfl) (fun _ _ _ h => h) (Or.inl ⟨by rfl, ?_⟩) hHeld ?_
        · intro w hSw
          obtain ⟨hSw0, hSw1⟩ := hSw
          go_simp
        try simp only [Act.put, List.setIfInBounds_toArray, List.set_cons_zero, List.set_cons_succ]
        refine wpAnyH_take (i := 4) (v := .slice (some ⟨b2, o2, none⟩) M cs2) (by simp only [List.getElem?_toArray, List.getElem?_cons_zero, List.getElem?_cons_succ]; rfl) (by kernel_rfl) (by kernel_rfl) (by kernel_rfl) (fun _ _ _ h => h) (Or.inl ⟨by rfl, ?_⟩) hHeld ?_
        · intro w hSw
          obtain ⟨hSw0, hSw1⟩ := hSw
          go_simp
        try simp only [Act.put, List.setIfInBounds_toArray, List.set_cons_zero, List.set_cons_succ]
        refine wpAnyH_take (i := 5) (v := .int .i64 (k : Int)) (by simp only [List.getElem?_toArray, List.getElem?_cons_zero, List.getElem?_cons_succ]; rfl) (by kernel_rfl) (by kernel_rfl) (by kernel_rfl) (fun _ _ _ h => h) (Or.inl ⟨by rfl, ?_⟩) hHeld ?_
        · intro w hSw
          obtain ⟨hSw0, hSw1⟩ := hSw
          go_simp
        try simp only [Act.put, List.setIfInBounds_toArray, List.set_cons_zero, List.set_cons_succ]
        refine wpAnyH_take (i := 6) (v := .pointer (some ⟨b2, o2 + k, none⟩)) (by simp only [List.getElem?_toArray, List.getElem?_cons_zero, List.getElem?_cons_succ]; rfl) (by kernel_rfl) (by kernel_rfl) (by kernel_rfl) (fun _ _ _ h => h) (Or.inl ⟨by rfl, ?_⟩) hHeld ?_
        · intro w hSw
          obtain ⟨hSw0, hSw1⟩ := hSw
          go_simp
        try simp only [Act.put, List.setIfInBounds_toArray, List.set_cons_zero, List.set_cons_succ]
        refine wpAnyH_take (i := 7) (v := .slice x2 m2 d2) (by simp only [List.getElem?_toArray, List.getElem?_cons_zero, List.getElem?_cons_succ]; rfl) (by kernel_rfl) (by kernel_rfl) (by kernel_rfl) (fun _ _ _ h => h) (Or.inl ⟨by rfl, ?_⟩) hHeld ?_
        · intro w hSw
          obtain ⟨hSw0, hSw1⟩ := hSw
          go_simp
        try simp only [Act.put, List.setIfInBounds_toArray, List.set_cons_zero, List.set_cons_succ]
        refine wpAnyH_ready (rs := [8]) (by kernel_rfl) (by simp) ?_
        refine AllReadyH.cons (by simp only [List.getElem?_toArray, List.getElem?_cons_zero, List.getElem?_cons_succ]; rfl) (fun K hK => ?_) AllReadyH.nil
        rw [if_pos (by rfl)]
        go_simp
        refine (bytes_any x1 x2 m1 m2 d1 d2 l1 l2 wd (HCI.out _ HBd.out).2.2.1 (HCI.out _ HBd.out).2.2.2 hm1).mono ?_
        rintro e wq ⟨rfl, q, hq⟩
        have HBq : Hid (Below wr.heap.size wr wq) := by rw [hq]; exact HBd.out.trans ((below_drewN wd q).mono HBd.out.size)
        rw [HSD.out]
        clear hq
        go_wp2_with fail
        refine hK.out _ _ ⟨(HCI.out _ HBq.out).1, (HCI.out _ HBq.out).2.1⟩ (fun hHeld => ?_)
        clear hK K
        try simp only [Act.put, List.setIfInBounds_toArray, List.set_cons_zero, List.set_cons_succ]
        refine wpAnyH_take (i := 9) (v := .bool true) (by simp only [List.getElem?_toArray, List.getElem?_cons_zero, List.getElem?_cons_succ]; rfl) (by kernel_rfl) (by kernel_rfl) (by kernel_rfl) (fun _ _ _ h => h) (Or.inl ⟨by rfl, ?_⟩) hHeld ?_
        · intro w hSw
          obtain ⟨hSw0, hSw1⟩ := hSw
          go_simp
        try simp only [Act.put, List.setIfInBounds_toArray, List.set_cons_zero, List.set_cons_succ]
        refine wpAnyH_done (by kernel_rfl) (NoPanic.normal ?_) _
        clear hHeld
        go_wp2_with fail
        go_roundw
        case rel => exact ⟨ap, k + 1, rfl, by go_num, HKM.out.1, by have := HKM.out; omega, HA2.out, HB.out.trans (HBq.out.mono HB.out.size)⟩
        case measure => have := HKM.out; simp [intOf]; omega
      · have HSD : Hid (decide (l1 = l2) = false) := decide_eq_false cd
        have HA2 : Hid (ap + 1 = apartN xs ys (k + 1)) := by rw [HAS.out, if_neg cd, ← HA.out]; exact rfl
        have hapb : ap ≤ 20 := by have := HKM.out; omega
        clear cd HAS HA
        go_upto_region 13 with fail
        try simp only [Act.put, List.setIfInBounds_toArray, List.set_cons_zero, List.set_cons_succ]
        refine wp_region_noPanic ?_
        refine wp_region_held_drew (S := fun wx => wx.cell? ⟨b1, o1 + k, none⟩ = some (.slice x1 m1 d1) ∧ wx.cell? ⟨b2, o2 + k, none⟩ = some (.slice x2 m2 d2)) (by kernel_rfl) ⟨(HCI.out _ (below_drewN wr 1)).1, (HCI.out _ (below_drewN wr 1)).2.1⟩ (fun hHeld => ?_)
        try simp only [Act.put, List.setIfInBounds_toArray, List.set_cons_zero, List.set_cons_succ]
        have HBd : Hid (Below wr.heap.size wr wr.drew) := below_drewN wr 1
        generalize wr.drew = wd at *
        refine wpAnyH_take (i := 0) (v := .slice (some ⟨b1, o1, none⟩) M cs1) (by simp only [List.getElem?_toArray, List.getElem?_cons_zero, List.getElem?_cons_succ]; rfl) (by kernel_rfl) (by kernel_rfl) (by kernel_rfl) (fun _ _ _ h => h) (Or.inl ⟨by rfl, ?_⟩) hHeld ?_
        · intro w hSw
          obtain ⟨hSw0, hSw1⟩ := hSw
          go_simp
        try simp only [Act.put, List.setIfInBounds_toArray, List.set_cons_zero, List.set_cons_succ]
        refine wpAnyH_take (i := 1) (v := .int .i64 (k : Int)) (by simp only [List.getElem?_toArray, List.getElem?_cons_zero, List.getElem?_cons_succ]; rfl) (by kernel_rfl) (by kernel_rfl) (by kernel_rfl) (fun _ _ _ h => h) (Or.inl ⟨by rfl, ?_⟩) hHeld ?_
        · intro w hSw
          obtain ⟨hSw0, hSw1⟩ := hSw
          go_simp
        try simp only [Act.put, List.setIfInBounds_toArray, List.set_cons_zero, List.set_cons_succ]
        refine wpAnyH_take (i := 2) (v := .pointer (some ⟨b1, o1 + k, none⟩)) (by simp only [List.getElem?_toArray, List.getElem?_cons_zero, List.getElem?_cons_succ]; rfl) (by kernel_rfl) (by kernel_rfl) (by kernel_rfl) (fun _ _ _ h => h) (Or.inl ⟨by rfl, ?_⟩) hHeld ?_
        · intro w hSw
          obtain ⟨hSw0, hSw1⟩ := hSw
          go_simp
        try simp only [Act.put, List.setIfInBounds_toArray, List.set_cons_zero, List.set_cons_succ]
        refine wpAnyH_take (i := 3) (v := .slice x1 m1 d1) (by simp only [List.getElem?_toArray, List.getElem?_cons_zero, List.getElem?_cons_succ]; rfl) (by kernel_rfl) (by kernel_rfl) (by kernel_rfl) (fun _ _ _ h => h) (Or.inl ⟨by rfl, ?_⟩) hHeld ?_
        · intro w hSw
          obtain ⟨hSw0, hSw1⟩ := hSw
          go_simp
        try simp only [Act.put, List.setIfInBounds_toArray, List.set_cons_zero, List.set_cons_succ]
        refine wpAnyH_take (i := 4) (v := .slice (some ⟨b2, o2, none⟩) M cs2) (by simp only [List.getElem?_toArray, List.getElem?_cons_zero, List.getElem?_cons_succ]; rfl) (by kernel_rfl) (by kernel_rfl) (by kernel_rfl) (fun _ _ _ h => h) (Or.inl ⟨by rfl, ?_⟩) hHeld ?_
        · intro w hSw
          obtain ⟨hSw0, hSw1⟩ := hSw
          go_simp
        try simp only [Act.put, List.setIfInBounds_toArray, List.set_cons_zero, List.set_cons_succ]
        refine wpAnyH_take (i := 5) (v := .int .i64 (k : Int)) (by simp only [List.getElem?_toArray, List.getElem?_cons_zero, List.getElem?_cons_succ]; rfl) (by kernel_rfl) (by kernel_rfl) (by kernel_rfl) (fun _ _ _ h => h) (Or.inl ⟨by rfl, ?_⟩) hHeld ?_
        · intro w hSw
          obtain ⟨hSw0, hSw1⟩ := hSw
          go_simp
        try simp only [Act.put, List.setIfInBounds_toArray, List.set_cons_zero, List.set_cons_succ]
        refine wpAnyH_take (i := 6) (v := .pointer (some ⟨b2, o2 + k, none⟩)) (by simp only [List.getElem?_toArray, List.getElem?_cons_zero, List.getElem?_cons_succ]; rfl) (by kernel_rfl) (by kernel_rfl) (by kernel_rfl) (fun _ _ _ h => h) (Or.inl ⟨by rfl, ?_⟩) hHeld ?_
        · intro w hSw
          obtain ⟨hSw0, hSw1⟩ := hSw
          go_simp
        try simp only [Act.put, List.setIfInBounds_toArray, List.set_cons_zero, List.set_cons_succ]
        refine wpAnyH_take (i := 7) (v := .slice x2 m2 d2) (by simp only [List.getElem?_toArray, List.getElem?_cons_zero, List.getElem?_cons_succ]; rfl) (by kernel_rfl) (by kernel_rfl) (by kernel_rfl) (fun _ _ _ h => h) (Or.inl ⟨by rfl, ?_⟩) hHeld ?_
        · intro w hSw
          obtain ⟨hSw0, hSw1⟩ := hSw
          go_simp
        try simp only [Act.put, List.setIfInBounds_toArray, List.set_cons_zero, List.set_cons_succ]
        refine wpAnyH_ready (rs := [8]) (by kernel_rfl) (by simp) ?_
        refine AllReadyH.cons (by simp only [List.getElem?_toArray, List.getElem?_cons_zero, List.getElem?_cons_succ]; rfl) (fun K hK => ?_) AllReadyH.nil
        rw [if_pos (by rfl)]
        go_simp
        refine (bytes_any x1 x2 m1 m2 d1 d2 l1 l2 wd (HCI.out _ HBd.out).2.2.1 (HCI.out _ HBd.out).2.2.2 hm1).mono ?_
        rintro e wq ⟨rfl, q, hq⟩
        have HBq : Hid (Below wr.heap.size wr wq) := by rw [hq]; exact HBd.out.trans ((below_drewN wd q).mono HBd.out.size)
        rw [HSD.out]
        clear hq
        go_wp2_with fail
        refine hK.out _ _ ⟨(HCI.out _ HBq.out).1, (HCI.out _ HBq.out).2.1⟩ (fun hHeld => ?_)
        clear hK K
        try simp only [Act.put, List.setIfInBounds_toArray, List.set_cons_zero, List.set_cons_succ]
        refine wpAnyH_take (i := 9) (v := .bool false) (by simp only [List.getElem?_toArray, List.getElem?_cons_zero, List.getElem?_cons_succ]; rfl) (by kernel_rfl) (by kernel_rfl) (by kernel_rfl) (fun _ _ _ h => h) (Or.inl ⟨by rfl, ?_⟩) hHeld ?_
        · intro w hSw
          obtain ⟨hSw0, hSw1⟩ := hSw
          go_simp
        try simp only [Act.put, List.setIfInBounds_toArray, List.set_cons_zero, List.set_cons_succ]
        refine wpAnyH_done (by kernel_rfl) (NoPanic.normal ?_) _
        clear hHeld
        go_wp2_with fail
        go_roundw
        case rel => exact ⟨ap + 1, k + 1, by go_num, by go_num, HKM.out.1, by have := HKM.out; omega, HA2.out, HB.out.trans (HBq.out.mono HB.out.size)⟩
        case measure => have := HKM.out; simp [intOf]; omega
    · have hkM : k = M := by omega
      subst hkM
      have g2 : ¬ (k : Int) < (k : Int) := by omega
      have n1' : (0 : Int) < (n : Int) := by omega
      obtain ⟨a0, n0, c0, h0c, h0n, e0, HC0⟩ := (HALL.out _ (HXY.out _ HB.out).2.2).2.1.hrow 0 (by omega)
      obtain ⟨a1, n1, c1, h1c, h1n, e1, HC1⟩ := (HALL.out _ (HXY.out _ HB.out).2.2).2.2.hrow 0 (by omega)
      have HCZ : Hid (∀ wx, Below wr.heap.size wr wx → wx.cell? ⟨ba, oa, none⟩ = some (.slice a0 n0 c0) ∧ wx.cell? ⟨bb, ob, none⟩ = some (.slice a1 n1 c1)) := fun wx hx => ⟨(HC0 wx hx).1, (HC1 wx hx).1⟩
      have HLE : Hid (n0 = (ls.getD 0 []).length ∧ n1 = (ms.getD 0 []).length) := ⟨e0, e1⟩
      clear HC0 HC1 e0 e1 hlt
      by_cases ce : n0 = n1
      · have HFAR : Hid (k - n + 1 ≤ ap) := by
          have q := far (N := k) (by rw [HLS.out]; omega) hM20 (by rw [HLS.out]; omega) (by rw [HLS.out, HMS.out]) HSA.out HSB.out (by rw [← HLE.out.1, ← HLE.out.2, ce]) HSX.out HSY.out HNE.out
          rw [HLS.out, ← HA.out] at q
          exact q
        have HPN : Hid ((n0 : Int) = (n1 : Int)) := by rw [ce]; rfl
        have HW1 : Hid (IntKind.i64.wrap ((k : Int) - (n : Int)) = (k : Int) - (n : Int)) := by unfold Hid; rw [IntKind.wrap_i64]; omega
        have HW2 : Hid (IntKind.i64.wrap ((k : Int) - (n : Int) + 1) = (k : Int) - (n : Int) + 1) := by unfold Hid; rw [IntKind.wrap_i64]; omega
        clear ce
        go_upto_region 16 with fail
        try simp only [Act.put, List.setIfInBounds_toArray, List.set_cons_zero, List.set_cons_succ]
        refine wp_region_noPanic ?_
        refine wp_region_held_drew (S := fun wx => wx.cell? ⟨ba, oa, none⟩ = some (.slice a0 n0 c0) ∧ wx.cell? ⟨bb, ob, none⟩ = some (.slice a1 n1 c1)) (by kernel_rfl) (HCZ.out _ (below_drewN wr 1)) (fun hHeld => ?_)
        try simp only [Act.put, List.setIfInBounds_toArray, List.set_cons_zero, List.set_cons_succ]
        have HBd : Hid (Below wr.heap.size wr wr.drew) := below_drewN wr 1
        generalize wr.drew = wd at *
        refine wpAnyH_take (i := 0) (v := .slice (some ⟨ba, oa, none⟩) n c) (by simp only [List.getElem?_toArray, List.getElem?_cons_zero, List.getElem?_cons_succ]; rfl) (by kernel_rfl) (by kernel_rfl) (by kernel_rfl) (fun _ _ _ h => h) (Or.inl ⟨by rfl, ?_⟩) hHeld ?_
        · intro w hSw
          obtain ⟨hSw0, hSw1⟩ := hSw
          go_simp
        try simp only [Act.put, List.setIfInBounds_toArray, List.set_cons_zero, List.set_cons_succ]
        refine wpAnyH_take (i := 1) (v := .pointer (some ⟨ba, oa, none⟩)) (by simp only [List.getElem?_toArray, List.getElem?_cons_zero, List.getElem?_cons_succ]; rfl) (by kernel_rfl) (by kernel_rfl) (by kernel_rfl) (fun _ _ _ h => h) (Or.inl ⟨by rfl, ?_⟩) hHeld ?_
        · intro w hSw
          obtain ⟨hSw0, hSw1⟩ := hSw
          go_simp
          intro h0
          omega
        try simp only [Act.put, List.setIfInBounds_toArray, List.set_cons_zero, List.set_cons_succ]
        refine wpAnyH_take (i := 2) (v := .slice a0 n0 c0) (by simp only [List.getElem?_toArray, List.getElem?_cons_zero, List.getElem?_cons_succ]; rfl) (by kernel_rfl) (by kernel_rfl) (by kernel_rfl) (fun _ _ _ h => h) (Or.inl ⟨by rfl, ?_⟩) hHeld ?_
        · intro w hSw
          obtain ⟨hSw0, hSw1⟩ := hSw
          go_simp
        try simp only [Act.put, List.setIfInBounds_toArray, List.set_cons_zero, List.set_cons_succ]
        refine wpAnyH_take (i := 3) (v := .int .i64 (n0 : Int)) (by simp only [List.getElem?_toArray, List.getElem?_cons_zero, List.getElem?_cons_succ]; rfl) (by kernel_rfl) (by kernel_rfl) (by kernel_rfl) (fun _ _ _ h => h) (Or.inl ⟨by rfl, ?_⟩) hHeld ?_
        · intro w hSw
          obtain ⟨hSw0, hSw1⟩ := hSw
          go_simp
        try simp only [Act.put, List.setIfInBounds_toArray, List.set_cons_zero, List.set_cons_succ]
        refine wpAnyH_take (i := 4) (v := .slice (some ⟨bb, ob, none⟩) n c2) (by simp only [List.getElem?_toArray, List.getElem?_cons_zero, List.getElem?_cons_succ]; rfl) (by kernel_rfl) (by kernel_rfl) (by kernel_rfl) (fun _ _ _ h => h) (Or.inl ⟨by rfl, ?_⟩) hHeld ?_
        · intro w hSw
          obtain ⟨hSw0, hSw1⟩ := hSw
          go_simp
        try simp only [Act.put, List.setIfInBounds_toArray, List.set_cons_zero, List.set_cons_succ]
        refine wpAnyH_take (i := 5) (v := .pointer (some ⟨bb, ob, none⟩)) (by simp only [List.getElem?_toArray, List.getElem?_cons_zero, List.getElem?_cons_succ]; rfl) (by kernel_rfl) (by kernel_rfl) (by kernel_rfl) (fun _ _ _ h => h) (Or.inl ⟨by rfl, ?_⟩) hHeld ?_
        · intro w hSw
          obtain ⟨hSw0, hSw1⟩ := hSw
          go_simp
          intro h0
          omega
        try simp only [Act.put, List.setIfInBounds_toArray, List.set_cons_zero, List.set_cons_succ]
        refine wpAnyH_take (i := 6) (v := .slice a1 n1 c1) (by simp only [List.getElem?_toArray, List.getElem?_cons_zero, List.getElem?_cons_succ]; rfl) (by kernel_rfl) (by kernel_rfl) (by kernel_rfl) (fun _ _ _ h => h) (Or.inl ⟨by rfl, ?_⟩) hHeld ?_
        · intro w hSw
          obtain ⟨hSw0, hSw1⟩ := hSw
          go_simp
        try simp only [Act.put, List.setIfInBounds_toArray, List.set_cons_zero, List.set_cons_succ]
        refine wpAnyH_take (i := 7) (v := .int .i64 (n1 : Int)) (by simp only [List.getElem?_toArray, List.getElem?_cons_zero, List.getElem?_cons_succ]; rfl) (by kernel_rfl) (by kernel_rfl) (by kernel_rfl) (fun _ _ _ h => h) (Or.inl ⟨by rfl, ?_⟩) hHeld ?_
        · intro w hSw
          obtain ⟨hSw0, hSw1⟩ := hSw
          go_simp
        try simp only [Act.put, List.setIfInBounds_toArray, List.set_cons_zero, List.set_cons_succ]
        refine wpAnyH_take (i := 8) (v := .bool false) (by simp only [List.getElem?_toArray, List.getElem?_cons_zero, List.getElem?_cons_succ]; rfl) (by kernel_rfl) (by kernel_rfl) (by kernel_rfl) (fun _ _ _ h => h) (Or.inl ⟨by rfl, ?_⟩) hHeld ?_
        · intro w hSw
          obtain ⟨hSw0, hSw1⟩ := hSw
          go_simp
          exact HPN.out
        try simp only [Act.put, List.setIfInBounds_toArray, List.set_cons_zero, List.set_cons_succ]
        refine wpAnyH_take (i := 9) (v := .bool false) (by simp only [List.getElem?_toArray, List.getElem?_cons_zero, List.getElem?_cons_succ]; rfl) (by kernel_rfl) (by kernel_rfl) (by kernel_rfl) (fun _ _ _ h => h) (Or.inl ⟨by rfl, ?_⟩) hHeld ?_
        · intro w hSw
          obtain ⟨hSw0, hSw1⟩ := hSw
          go_simp
        try simp only [Act.put, List.setIfInBounds_toArray, List.set_cons_zero, List.set_cons_succ]
        refine wpAnyH_take (i := 10) (v := .int .i64 (ap : Int)) (by simp only [List.getElem?_toArray, List.getElem?_cons_zero, List.getElem?_cons_succ]; rfl) (by kernel_rfl) (by kernel_rfl) (by kernel_rfl) (fun _ _ _ h => h) (Or.inl ⟨by rfl, ?_⟩) hHeld ?_
        · intro w hSw
          obtain ⟨hSw0, hSw1⟩ := hSw
          go_simp
        try simp only [Act.put, List.setIfInBounds_toArray, List.set_cons_zero, List.set_cons_succ]
        refine wpAnyH_take (i := 11) (v := .int .i64 (k : Int)) (by simp only [List.getElem?_toArray, List.getElem?_cons_zero, List.getElem?_cons_succ]; rfl) (by kernel_rfl) (by kernel_rfl) (by kernel_rfl) (fun _ _ _ h => h) (Or.inl ⟨by rfl, ?_⟩) hHeld ?_
        · intro w hSw
          obtain ⟨hSw0, hSw1⟩ := hSw
          go_simp
        try simp only [Act.put, List.setIfInBounds_toArray, List.set_cons_zero, List.set_cons_succ]
        refine wpAnyH_take (i := 12) (v := .slice (some ⟨ba, oa, none⟩) n c) (by simp only [List.getElem?_toArray, List.getElem?_cons_zero, List.getElem?_cons_succ]; rfl) (by kernel_rfl) (by kernel_rfl) (by kernel_rfl) (fun _ _ _ h => h) (Or.inl ⟨by rfl, ?_⟩) hHeld ?_
        · intro w hSw
          obtain ⟨hSw0, hSw1⟩ := hSw
          go_simp
        try simp only [Act.put, List.setIfInBounds_toArray, List.set_cons_zero, List.set_cons_succ]
        refine wpAnyH_take (i := 13) (v := .int .i64 (n : Int)) (by simp only [List.getElem?_toArray, List.getElem?_cons_zero, List.getElem?_cons_succ]; rfl) (by kernel_rfl) (by kernel_rfl) (by kernel_rfl) (fun _ _ _ h => h) (Or.inl ⟨by rfl, ?_⟩) hHeld ?_
        · intro w hSw
          obtain ⟨hSw0, hSw1⟩ := hSw
          go_simp
        try simp only [Act.put, List.setIfInBounds_toArray, List.set_cons_zero, List.set_cons_succ]
        refine wpAnyH_take (i := 14) (v := .int .i64 ((k : Int) - (n : Int))) (by simp only [List.getElem?_toArray, List.getElem?_cons_zero, List.getElem?_cons_succ]; rfl) (by kernel_rfl) (by kernel_rfl) (by kernel_rfl) (fun _ _ _ h => h) (Or.inl ⟨by rfl, ?_⟩) hHeld ?_
        · intro w hSw
          obtain ⟨hSw0, hSw1⟩ := hSw
          go_simp
          exact HW1.out
        try simp only [Act.put, List.setIfInBounds_toArray, List.set_cons_zero, List.set_cons_succ]
        refine wpAnyH_take (i := 15) (v := .int .i64 ((k : Int) - (n : Int) + 1)) (by simp only [List.getElem?_toArray, List.getElem?_cons_zero, List.getElem?_cons_succ]; rfl) (by kernel_rfl) (by kernel_rfl) (by kernel_rfl) (fun _ _ _ h => h) (Or.inl ⟨by rfl, ?_⟩) hHeld ?_
        · intro w hSw
          obtain ⟨hSw0, hSw1⟩ := hSw
          go_simp
          exact HW2.out
        try simp only [Act.put, List.setIfInBounds_toArray, List.set_cons_zero, List.set_cons_succ]
        refine wpAnyH_take (i := 16) (v := .bool true) (by simp only [List.getElem?_toArray, List.getElem?_cons_zero, List.getElem?_cons_succ]; rfl) (by kernel_rfl) (by kernel_rfl) (by kernel_rfl) (fun _ _ _ h => h) (Or.inl ⟨by rfl, ?_⟩) hHeld ?_
        · intro w hSw
          obtain ⟨hSw0, hSw1⟩ := hSw
          go_simp
          have := HFAR.out
          omega
        try simp only [Act.put, List.setIfInBounds_toArray, List.set_cons_zero, List.set_cons_succ]
        refine wpAnyH_take (i := 17) (v := .bool true) (by simp only [List.getElem?_toArray, List.getElem?_cons_zero, List.getElem?_cons_succ]; rfl) (by kernel_rfl) (by kernel_rfl) (by kernel_rfl) (fun _ _ _ h => h) (Or.inl ⟨by rfl, ?_⟩) hHeld ?_
        · intro w hSw
          obtain ⟨hSw0, hSw1⟩ := hSw
          go_simp
        try simp only [Act.put, List.setIfInBounds_toArray, List.set_cons_zero, List.set_cons_succ]
        refine wpAnyH_take (i := 18) (v := .bool true) (by simp only [List.getElem?_toArray, List.getElem?_cons_zero, List.getElem?_cons_succ]; rfl) (by kernel_rfl) (by kernel_rfl) (by kernel_rfl) (fun _ _ _ h => h) (Or.inl ⟨by rfl, ?_⟩) hHeld ?_
        · intro w hSw
          obtain ⟨hSw0, hSw1⟩ := hSw
          go_simp
        try simp only [Act.put, List.setIfInBounds_toArray, List.set_cons_zero, List.set_cons_succ]
        refine wpAnyH_done (by kernel_rfl) (NoPanic.normal ?_) _
        clear hHeld
        go_wp2_with fail
        go_ret
        exact ⟨rfl, (HXY.out _ (HB.out.trans (HBd.out.mono HB.out.size))).2.2⟩
      · have HPN : Hid (¬ (n0 : Int) = (n1 : Int)) := by unfold Hid; omega
        clear ce
        go_upto_region 16 with fail
        try simp only [Act.put, List.setIfInBounds_toArray, List.set_cons_zero, List.set_cons_succ]
        refine wp_region_noPanic ?_
        refine wp_region_held_drew (S := fun wx => wx.cell? ⟨ba, oa, none⟩ = some (.slice a0 n0 c0) ∧ wx.cell? ⟨bb, ob, none⟩ = some (.slice a1 n1 c1)) (by kernel_rfl) (HCZ.out _ (below_drewN wr 1)) (fun hHeld => ?_)
        try simp only [Act.put, List.setIfInBounds_toArray, List.set_cons_zero, List.set_cons_succ]
        have HBd : Hid (Below wr.heap.size wr wr.drew) := below_drewN wr 1
        generalize wr.drew = wd at *
        refine wpAnyH_take (i := 0) (v := .slice (some ⟨ba, oa, none⟩) n c) (by simp only [List.getElem?_toArray, List.getElem?_cons_zero, List.getElem?_cons_succ]; rfl) (by kernel_rfl) (by kernel_rfl) (by kernel_rfl) (fun _ _ _ h => h) (Or.inl ⟨by rfl, ?_⟩) hHeld ?_
        · intro w hSw
          obtain ⟨hSw0, hSw1⟩ := hSw
          go_simp
        try simp only [Act.put, List.setIfInBounds_toArray, List.set_cons_zero, List.set_cons_succ]
        refine wpAnyH_take (i := 1) (v := .pointer (some ⟨ba, oa, none⟩)) (by simp only [List.getElem?_toArray, List.getElem?_cons_zero, List.getElem?_cons_succ]; rfl) (by kernel_rfl) (by kernel_rfl) (by kernel_rfl) (fun _ _ _ h => h) (Or.inl ⟨by rfl, ?_⟩) hHeld ?_
        · intro w hSw
          obtain ⟨hSw0, hSw1⟩ := hSw
          go_simp
          intro h0
          omega
        try simp only [Act.put, List.setIfInBounds_toArray, List.set_cons_zero, List.set_cons_succ]
        refine wpAnyH_take (i := 2) (v := .slice a0 n0 c0) (by simp only [List.getElem?_toArray, List.getElem?_cons_zero, List.getElem?_cons_succ]; rfl) (by kernel_rfl) (by kernel_rfl) (by kernel_rfl) (fun _ _ _ h => h) (Or.inl ⟨by rfl, ?_⟩) hHeld ?_
        · intro w hSw
          obtain ⟨hSw0, hSw1⟩ := hSw
          go_simp
        try simp only [Act.put, List.setIfInBounds_toArray, List.set_cons_zero, List.set_cons_succ]
        refine wpAnyH_take (i := 3) (v := .int .i64 (n0 : Int)) (by simp only [List.getElem?_toArray, List.getElem?_cons_zero, List.getElem?_cons_succ]; rfl) (by kernel_rfl) (by kernel_rfl) (by kernel_rfl) (fun _ _ _ h => h) (Or.inl ⟨by rfl, ?_⟩) hHeld ?_
        · intro w hSw
          obtain ⟨hSw0, hSw1⟩ := hSw
          go_simp
        try simp only [Act.put, List.setIfInBounds_toArray, List.set_cons_zero, List.set_cons_succ]
        refine wpAnyH_take (i := 4) (v := .slice (some ⟨bb, ob, none⟩) n c2) (by simp only [List.getElem?_toArray, List.getElem?_cons_zero, List.getElem?_cons_succ]; rfl) (by kernel_rfl) (by kernel_rfl) (by kernel_rfl) (fun _ _ _ h => h) (Or.inl ⟨by rfl, ?_⟩) hHeld ?_
        · intro w hSw
          obtain ⟨hSw0, hSw1⟩ := hSw
          go_simp
        try simp only [Act.put, List.setIfInBounds_toArray, List.set_cons_zero, List.set_cons_succ]
        refine wpAnyH_take (i := 5) (v := .pointer (some ⟨bb, ob, none⟩)) (by simp only [List.getElem?_toArray, List.getElem?_cons_zero, List.getElem?_cons_succ]; rfl) (by kernel_rfl) (by kernel_rfl) (by kernel_rfl) (fun _ _ _ h => h) (Or.inl ⟨by rfl, ?_⟩) hHeld ?_
        · intro w hSw
          obtain ⟨hSw0, hSw1⟩ := hSw
          go_simp
          intro h0
          omega
        try simp only [Act.put, List.setIfInBounds_toArray, List.set_cons_zero, List.set_cons_succ]
        refine wpAnyH_take (i := 6) (v := .slice a1 n1 c1) (by simp only [List.getElem?_toArray, List.getElem?_cons_zero, List.getElem?_cons_succ]; rfl) (by kernel_rfl) (by kernel_rfl) (by kernel_rfl) (fun _ _ _ h => h) (Or.inl ⟨by rfl, ?_⟩) hHeld ?_
        · intro w hSw
          obtain ⟨hSw0, hSw1⟩ := hSw
          go_simp
        try simp only [Act.put, List.setIfInBounds_toArray, List.set_cons_zero, List.set_cons_succ]
        refine wpAnyH_take (i := 7) (v := .int .i64 (n1 : Int)) (by simp only [List.getElem?_toArray, List.getElem?_cons_zero, List.getElem?_cons_succ]; rfl) (by kernel_rfl) (by kernel_rfl) (by kernel_rfl) (fun _ _ _ h => h) (Or.inl ⟨by rfl, ?_⟩) hHeld ?_
        · intro w hSw
          obtain ⟨hSw0, hSw1⟩ := hSw
          go_simp
        try simp only [Act.put, List.setIfInBounds_toArray, List.set_cons_zero, List.set_cons_succ]
        refine wpAnyH_take (i := 8) (v := .bool true) (by simp only [List.getElem?_toArray, List.getElem?_cons_zero, List.getElem?_cons_succ]; rfl) (by kernel_rfl) (by kernel_rfl) (by kernel_rfl) (fun _ _ _ h => h) (Or.inl ⟨by rfl, ?_⟩) hHeld ?_
        · intro w hSw
          obtain ⟨hSw0, hSw1⟩ := hSw
          go_simp
          exact HPN.out
        try simp only [Act.put, List.setIfInBounds_toArray, List.set_cons_zero, List.set_cons_succ]
        refine wpAnyH_take (i := 9) (v := .bool true) (by simp only [List.getElem?_toArray, List.getElem?_cons_zero, List.getElem?_cons_succ]; rfl) (by kernel_rfl) (by kernel_rfl) (by kernel_rfl) (fun _ _ _ h => h) (Or.inl ⟨by rfl, ?_⟩) hHeld ?_
        · intro w hSw
          obtain ⟨hSw0, hSw1⟩ := hSw
          go_simp
        try simp only [Act.put, List.setIfInBounds_toArray, List.set_cons_zero, List.set_cons_succ]
        refine wpAnyH_take (i := 10) (v := undef) (by simp only [List.getElem?_toArray, List.getElem?_cons_zero, List.getElem?_cons_succ]; rfl) (by kernel_rfl) (by kernel_rfl) (by kernel_rfl) (fun _ _ _ h => h) (Or.inr ⟨by rfl, rfl⟩) hHeld ?_
        try simp only [Act.put, List.setIfInBounds_toArray, List.set_cons_zero, List.set_cons_succ]
        refine wpAnyH_take (i := 11) (v := undef) (by simp only [List.getElem?_toArray, List.getElem?_cons_zero, List.getElem?_cons_succ]; rfl) (by kernel_rfl) (by kernel_rfl) (by kernel_rfl) (fun _ _ _ h => h) (Or.inr ⟨by rfl, rfl⟩) hHeld ?_
        try simp only [Act.put, List.setIfInBounds_toArray, List.set_cons_zero, List.set_cons_succ]
        refine wpAnyH_take (i := 12) (v := undef) (by simp only [List.getElem?_toArray, List.getElem?_cons_zero, List.getElem?_cons_succ]; rfl) (by kernel_rfl) (by kernel_rfl) (by kernel_rfl) (fun _ _ _ h => h) (Or.inr ⟨by rfl, rfl⟩) hHeld ?_
        try simp only [Act.put, List.setIfInBounds_toArray, List.set_cons_zero, List.set_cons_succ]
        refine wpAnyH_take (i := 13) (v := undef) (by simp only [List.getElem?_toArray, List.getElem?_cons_zero, List.getElem?_cons_succ]; rfl) (by kernel_rfl) (by kernel_rfl) (by kernel_rfl) (fun _ _ _ h => h) (Or.inr ⟨by rfl, rfl⟩) hHeld ?_
        try simp only [Act.put, List.setIfInBounds_toArray, List.set_cons_zero, List.set_cons_succ]
        refine wpAnyH_take (i := 14) (v := undef) (by simp only [List.getElem?_toArray, List.getElem?_cons_zero, List.getElem?_cons_succ]; rfl) (by kernel_rfl) (by kernel_rfl) (by kernel_rfl) (fun _ _ _ h => h) (Or.inr ⟨by rfl, rfl⟩) hHeld ?_
        try simp only [Act.put, List.setIfInBounds_toArray, List.set_cons_zero, List.set_cons_succ]
        refine wpAnyH_take (i := 15) (v := undef) (by simp only [List.getElem?_toArray, List.getElem?_cons_zero, List.getElem?_cons_succ]; rfl) (by kernel_rfl) (by kernel_rfl) (by kernel_rfl) (fun _ _ _ h => h) (Or.inr ⟨by rfl, rfl⟩) hHeld ?_
        try simp only [Act.put, List.setIfInBounds_toArray, List.set_cons_zero, List.set_cons_succ]
        refine wpAnyH_take (i := 16) (v := undef) (by simp only [List.getElem?_toArray, List.getElem?_cons_zero, List.getElem?_cons_succ]; rfl) (by kernel_rfl) (by kernel_rfl) (by kernel_rfl) (fun _ _ _ h => h) (Or.inr ⟨by rfl, rfl⟩) hHeld ?_
        try simp only [Act.put, List.setIfInBounds_toArray, List.set_cons_zero, List.set_cons_succ]
        refine wpAnyH_take (i := 17) (v := .bool true) (by simp only [List.getElem?_toArray, List.getElem?_cons_zero, List.getElem?_cons_succ]; rfl) (by kernel_rfl) (by kernel_rfl) (by kernel_rfl) (fun _ _ _ h => h) (Or.inl ⟨by rfl, ?_⟩) hHeld ?_
        · intro w hSw
          obtain ⟨hSw0, hSw1⟩ := hSw
          go_simp
        try simp only [Act.put, List.setIfInBounds_toArray, List.set_cons_zero, List.set_cons_succ]
        refine wpAnyH_take (i := 18) (v := .bool true) (by simp only [List.getElem?_toArray, List.getElem?_cons_zero, List.getElem?_cons_succ]; rfl) (by kernel_rfl) (by kernel_rfl) (by kernel_rfl) (fun _ _ _ h => h) (Or.inl ⟨by rfl, ?_⟩) hHeld ?_
        · intro w hSw
          obtain ⟨hSw0, hSw1⟩ := hSw
          go_simp
        try simp only [Act.put, List.setIfInBounds_toArray, List.set_cons_zero, List.set_cons_succ]
        refine wpAnyH_done (by kernel_rfl) (NoPanic.normal ?_) _
        clear hHeld
        go_wp2_with fail
        go_ret
        exact ⟨rfl, (HXY.out _ (HB.out.trans (HBd.out.mono HB.out.size))).2.2⟩
end Go.Proofs.Ytnffmegicgbinab
