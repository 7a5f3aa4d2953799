/- The law WotsApart: no digest is below another one. -/
import Derived.Test.YtdplajhebapkgaaWdigf
import Derived.Test.YtdplajhebapkgaaSameH
import Derived.Deep.QuietTactic
import Derived.BigQuiet
import Derived.Deep.RegionHeld3
namespace Go.Proofs.Ytdplajhebapkgaa
open Go.RowKit
set_option linter.unusedVariables false
set_option linter.unusedSimpArgs false

/-- Has one of the first k digits of a less than those of b? -/
def lessB (a b : List UInt8) (k : Nat) : Bool := (List.range k).any fun i => decide (digL a i < digL b i)
theorem lessB_succ (a b : List UInt8) (k : Nat) : lessB a b (k + 1) = (lessB a b k || decide (digL a k < digL b k)) := by
  unfold lessB
  rw [List.range_succ, List.any_append]
  simp
theorem lessB_self (a : List UInt8) (k : Nat) : lessB a a k = false := by
  unfold lessB
  rw [List.any_eq_false]
  intro i _
  simp
theorem lessB_apart {a b : List UInt8} (ha : a.length = 32) (hb : b.length = 32) (h : a ≠ b) : lessB b a 67 = true := by
  obtain ⟨i, hi, hd⟩ := dig_apart ha hb h
  unfold lessB
  rw [List.any_eq_true]
  exact ⟨i, List.mem_range.2 hi, decide_eq_true hd⟩
theorem wrapI (x : Int) (h0 : 0 ≤ x) (h : x < 9223372036854775808) : IntKind.i64.wrap x = x := by
  simp only [IntKind.wrap, IntKind.bits, IntKind.signed, Bool.true_and]
  rw [if_neg (by simp; omega)]
  omega
theorem cell_drewN (w : World) (n : Nat) (p : Addr) : (w.drewN n).cell? p = w.cell? p := by
  induction n with
  | zero => rfl
  | succ n ih => exact ih
/-- What the first digits lack, when k were looked at. -/
def lackM (m : List UInt8) (k : Nat) : Nat := lackL m (min k 64)
theorem lackM_le (m : List UInt8) (k : Nat) : lackM m k ≤ 960 := by
  have := lackL_le m (min k 64)
  unfold lackM
  omega
theorem lackM_lo (m : List UInt8) (k : Nat) (h : k < 64) : lackM m (k + 1) = lackM m k + (15 - digL m k) := by
  unfold lackM digL
  rw [show min (k + 1) 64 = k + 1 by omega, show min k 64 = k by omega, if_pos h]
  rfl
theorem lackM_hi (m : List UInt8) (k : Nat) (h : ¬ k < 64) : lackM m (k + 1) = lackM m k := by
  unfold lackM
  rw [show min (k + 1) 64 = 64 by omega, show min k 64 = 64 by omega]

set_option maxRecDepth 100000 in
set_option maxHeartbeats 4000000 in
theorem wapart_walk (m other : List UInt8) (w : World) (hm : m.length = 32) (ho : other.length = 32) :
    Calls Try.prog 3 #[digestV m, digestV other] w fun e w' => e = .returned (.bool true) ∧ Below w.heap.size w w' := by
  obtain ⟨w2, hw2⟩ : ∃ w2, (w.alloc (.cells (cellsB m).toArray 23)).alloc (.cells (cellsB other).toArray 23) = w2 := ⟨_, rfl⟩
  have hs1 : (w.alloc (.cells (cellsB m).toArray 23)).heap.size = w.heap.size + 1 := by simp
  have HS2 : Hid (w2.heap.size = w.heap.size + 1 + 1) := by unfold Hid; rw [← hw2]; simp
  have HB2 : Hid (Below w.heap.size w w2) := by rw [← hw2]; exact ((Below.refl _ _).alloc (Nat.le_refl _) _).alloc (by simp) _
  have HK : Hid (∀ wx, Below w2.heap.size w2 wx → wx.rangeAt w.heap.size 0 (cellsB m) ∧ wx.rangeAt (w.heap.size + 1) 0 (cellsB other) ∧ Below w.heap.size w wx) := fun wx hx => by
    have s2 := HS2.out
    refine ⟨?_, ?_, HB2.out.trans (hx.mono (by omega))⟩
    · refine DAt.below (l := m) ?_ hx (by omega)
      rw [← hw2]; exact World.rangeAt_alloc (box_dat w m _) _
    · refine DAt.below (l := other) ?_ hx (by omega)
      rw [← hw2]; exact box_rangeAt _ _ _ _ hs1
  have H0 : Hid (Below w2.heap.size w2 w2) := Below.refl _ _
  go_enter Try.func3, Try.ntmps3
  go_wp2_with (refine wpList_load_mid (by rfl) 23 (.tmp 2) (by rfl) w.heap.size 0 (by rfl) (cellsB m) _ (by first | exact (HK.out _ H0.out).1 | (rw [hw2]; exact (HK.out _ H0.out).1)) Try.underlying23 (by rfl) (by rw [cellsB_length, hm]; exact Try.sizeDg) ?_)
  try rw [hw2]
  clear hw2 hs1 HS2 HB2
  refine (wwots_digits0 m w2 hm).mono ?_
  rintro e w3 ⟨⟨a3, c3, rfl, hc3, r3⟩, hb3⟩
  have HB3 : Hid (Below w2.heap.size w2 w3) := hb3
  have HR3 : Hid (IRow w3 a3 67 (digsL m 67)) := r3
  clear hb3 r3 H0
  go_wp2_with (refine wpList_load_mid (by rfl) 23 (.tmp 3) (by rfl) (w.heap.size + 1) 0 (by rfl) (cellsB other) _ (HK.out _ HB3.out).2.1 Try.underlying23 (by rfl) (by rw [cellsB_length, ho]; exact Try.sizeDg) ?_)
  refine (wwots_digits0 other w3 ho).mono ?_
  rintro e w4 ⟨⟨a4, c4, rfl, hc4, r4⟩, hb4⟩
  have HB4 : Hid (Below w2.heap.size w2 w4) := HB3.out.trans (hb4.mono HB3.out.size)
  have r3 := HR3.out.below hb4
  obtain ⟨ba, oa, rfl, hca⟩ : ∃ b o, a3 = some ⟨b, o, none⟩ ∧ ∀ i, i < 67 → w4.cell? ⟨b, o + i, none⟩ = some (.int .i64 ((digsL m 67).getD i 0)) := by
    rcases r3.2 with h | h
    · omega
    · exact h
  obtain ⟨bb, ob, rfl, hcb⟩ : ∃ b o, a4 = some ⟨b, o, none⟩ ∧ ∀ i, i < 67 → w4.cell? ⟨b, o + i, none⟩ = some (.int .i64 ((digsL other 67).getD i 0)) := by
    rcases r4.2 with h | h
    · omega
    · exact h
  have HC : Hid (∀ wx, Below w4.heap.size w4 wx → ∀ i, i < 67 → wx.cell? ⟨ba, oa + i, none⟩ = some (.int .i64 (digL m i : Int)) ∧ wx.cell? ⟨bb, ob + i, none⟩ = some (.int .i64 (digL other i : Int))) := fun wx hx i hi => by
    have h1 := hca i hi
    have h2 := hcb i hi
    rw [digsL_at _ 67 i hi] at h1 h2
    exact ⟨(hx.cell (p := ⟨ba, oa + i, none⟩) (cell_block h1)).trans h1, (hx.cell (p := ⟨bb, ob + i, none⟩) (cell_block h2)).trans h2⟩
  clear hb4 r3 r4 hca hcb HB3 HR3
  go_wp2_with fail
  go_loopw [7, 8, 9, 10] (fun s l g i wr => ∃ k : Nat, k ≤ 67 ∧ i = .int .i64 (k : Int) ∧ s = .int .i64 (lackM m k : Nat) ∧ l = .bool (lessB m other k) ∧ g = .bool (lessB other m k) ∧ Below w4.heap.size w4 wr) (fun _ _ _ i _ => 67 - (intOf i).toNat)
  case atStart => exact ⟨0, Nat.zero_le _, rfl, rfl, rfl, rfl, Below.refl _ _⟩
  case round =>
    obtain ⟨k, hk, rfl, rfl, rfl, rfl, hB⟩ := hrel
    have hll := lackM_le m k
    by_cases hlt : k < 67
    · have HB : Hid (Below w4.heap.size w4 wr) := hB
      obtain ⟨ca, cb⟩ := HC.out _ hB k hlt
      have hda := digL_lt m k
      have hdb := digL_lt other k
      have HL1 : Hid (lessB m other (k + 1) = (lessB m other k || decide (digL m k < digL other k))) := lessB_succ _ _ _
      have HL2 : Hid (lessB other m (k + 1) = (lessB other m k || decide (digL other k < digL m k))) := lessB_succ _ _ _
      have HLO : Hid (k < 64 → lackM m (k + 1) = lackM m k + (15 - digL m k)) := lackM_lo m k
      have HHI : Hid (¬ k < 64 → lackM m (k + 1) = lackM m k) := lackM_hi m k
      clear hB
      generalize lackM m k = s at *
      generalize lessB m other k = l1 at *
      generalize lessB other m k = l2 at *
      generalize hga : digL m k = x at *
      generalize hgb : digL other k = y at *
      clear hga hgb
      have x0 : ¬ (x : Int) < 0 := by omega
      have x1 : ¬ (15 : Int) < (x : Int) := by omega
      by_cases h64 : k < 64
      · have k64 : (k : Int) < 64 := by omega
        have HE := HLO.out h64
        clear HLO HHI h64
        have HEH : Hid (lackM m (k + 1) = s + (15 - x)) := HE
        clear HE
        go_wp2_with fail
        go_quiet (fail)
        rw [← cell_drewN wr nq] at ca cb
        have HB5 : Hid (Below w4.heap.size w4 (wr.drewN nq)) := HB.out.trans ((below_drewN wr nq).mono HB.out.size)
        clear HB
        generalize wr.drewN nq = w5 at *
        rcases Nat.lt_trichotomy x y with hxy | hxy | hxy
        · have g1 : (x : Int) < (y : Int) := by omega
          have g2 : ¬ (y : Int) < (x : Int) := by omega
          have q1 : Hid (decide (x < y) = true) := by unfold Hid; simp; omega
          have q2 : Hid (decide (y < x) = false) := by unfold Hid; simp; omega
          clear hxy
          go_wp2_with fail
          go_quiet (fail)
          have HB6 : Hid (Below w4.heap.size w4 (w5.drewN nq)) := HB5.out.trans ((below_drewN w5 nq).mono HB5.out.size)
          clear HB5 ca cb
          generalize w5.drewN nq = w6 at *
          go_wp2_with fail
          go_roundw
          case rel =>
            refine ⟨k + 1, by omega, by go_num, ?_, ?_, ?_, HB6.out⟩
            · first | (rw [HEH.out]; simp; omega) | rw [HEH.out]
            · rw [HL1.out, q1.out]; simp
            · rw [HL2.out, q2.out]; simp
          case measure => simp [intOf]; omega
        · have g1 : ¬ (x : Int) < (y : Int) := by omega
          have g2 : ¬ (y : Int) < (x : Int) := by omega
          have q1 : Hid (decide (x < y) = false) := by unfold Hid; simp; omega
          have q2 : Hid (decide (y < x) = false) := by unfold Hid; simp; omega
          clear hxy
          go_wp2_with fail
          go_quiet (fail)
          have HB6 : Hid (Below w4.heap.size w4 (w5.drewN nq)) := HB5.out.trans ((below_drewN w5 nq).mono HB5.out.size)
          clear HB5 ca cb
          generalize w5.drewN nq = w6 at *
          go_wp2_with fail
          go_roundw
          case rel =>
            refine ⟨k + 1, by omega, by go_num, ?_, ?_, ?_, HB6.out⟩
            · first | (rw [HEH.out]; simp; omega) | rw [HEH.out]
            · rw [HL1.out, q1.out]; simp
            · rw [HL2.out, q2.out]; simp
          case measure => simp [intOf]; omega
        · have g1 : ¬ (x : Int) < (y : Int) := by omega
          have g2 : (y : Int) < (x : Int) := by omega
          have q1 : Hid (decide (x < y) = false) := by unfold Hid; simp; omega
          have q2 : Hid (decide (y < x) = true) := by unfold Hid; simp; omega
          clear hxy
          go_wp2_with fail
          go_quiet (fail)
          have HB6 : Hid (Below w4.heap.size w4 (w5.drewN nq)) := HB5.out.trans ((below_drewN w5 nq).mono HB5.out.size)
          clear HB5 ca cb
          generalize w5.drewN nq = w6 at *
          go_wp2_with fail
          go_roundw
          case rel =>
            refine ⟨k + 1, by omega, by go_num, ?_, ?_, ?_, HB6.out⟩
            · first | (rw [HEH.out]; simp; omega) | rw [HEH.out]
            · rw [HL1.out, q1.out]; simp
            · rw [HL2.out, q2.out]; simp
          case measure => simp [intOf]; omega
      · have k64 : ¬ (k : Int) < 64 := by omega
        have HE := HHI.out h64
        clear HLO HHI h64
        have HEH : Hid (lackM m (k + 1) = s) := HE
        clear HE
        go_wp2_with fail
        go_quiet (fail)
        rw [← cell_drewN wr nq] at ca cb
        have HB5 : Hid (Below w4.heap.size w4 (wr.drewN nq)) := HB.out.trans ((below_drewN wr nq).mono HB.out.size)
        clear HB
        generalize wr.drewN nq = w5 at *
        rcases Nat.lt_trichotomy x y with hxy | hxy | hxy
        · have g1 : (x : Int) < (y : Int) := by omega
          have g2 : ¬ (y : Int) < (x : Int) := by omega
          have q1 : Hid (decide (x < y) = true) := by unfold Hid; simp; omega
          have q2 : Hid (decide (y < x) = false) := by unfold Hid; simp; omega
          clear hxy
          go_wp2_with fail
          go_quiet (fail)
          have HB6 : Hid (Below w4.heap.size w4 (w5.drewN nq)) := HB5.out.trans ((below_drewN w5 nq).mono HB5.out.size)
          clear HB5 ca cb
          generalize w5.drewN nq = w6 at *
          go_wp2_with fail
          go_roundw
          case rel =>
            refine ⟨k + 1, by omega, by go_num, ?_, ?_, ?_, HB6.out⟩
            · first | (rw [HEH.out]; simp; omega) | rw [HEH.out]
            · rw [HL1.out, q1.out]; simp
            · rw [HL2.out, q2.out]; simp
          case measure => simp [intOf]; omega
        · have g1 : ¬ (x : Int) < (y : Int) := by omega
          have g2 : ¬ (y : Int) < (x : Int) := by omega
          have q1 : Hid (decide (x < y) = false) := by unfold Hid; simp; omega
          have q2 : Hid (decide (y < x) = false) := by unfold Hid; simp; omega
          clear hxy
          go_wp2_with fail
          go_quiet (fail)
          have HB6 : Hid (Below w4.heap.size w4 (w5.drewN nq)) := HB5.out.trans ((below_drewN w5 nq).mono HB5.out.size)
          clear HB5 ca cb
          generalize w5.drewN nq = w6 at *
          go_wp2_with fail
          go_roundw
          case rel =>
            refine ⟨k + 1, by omega, by go_num, ?_, ?_, ?_, HB6.out⟩
            · first | (rw [HEH.out]; simp; omega) | rw [HEH.out]
            · rw [HL1.out, q1.out]; simp
            · rw [HL2.out, q2.out]; simp
          case measure => simp [intOf]; omega
        · have g1 : ¬ (x : Int) < (y : Int) := by omega
          have g2 : (y : Int) < (x : Int) := by omega
          have q1 : Hid (decide (x < y) = false) := by unfold Hid; simp; omega
          have q2 : Hid (decide (y < x) = true) := by unfold Hid; simp; omega
          clear hxy
          go_wp2_with fail
          go_quiet (fail)
          have HB6 : Hid (Below w4.heap.size w4 (w5.drewN nq)) := HB5.out.trans ((below_drewN w5 nq).mono HB5.out.size)
          clear HB5 ca cb
          generalize w5.drewN nq = w6 at *
          go_wp2_with fail
          go_roundw
          case rel =>
            refine ⟨k + 1, by omega, by go_num, ?_, ?_, ?_, HB6.out⟩
            · first | (rw [HEH.out]; simp; omega) | rw [HEH.out]
            · rw [HL1.out, q1.out]; simp
            · rw [HL2.out, q2.out]; simp
          case measure => simp [intOf]; omega
    · obtain rfl : k = 67 := by omega
      have HB : Hid (Below w4.heap.size w4 wr) := hB
      have hsum := dig_sum m
      have hE : lackM m 67 = digL m 64 * 256 + digL m 65 * 16 + digL m 66 := hsum
      have b4 := digL_lt m 64
      have b5 := digL_lt m 65
      have b6 := digL_lt m 66
      have HSd : Hid (∀ wx, Below wr.heap.size wr wx → wx.cell? ⟨ba, oa + 64, none⟩ = some (.int .i64 (digL m 64 : Int)) ∧ wx.cell? ⟨ba, oa + 65, none⟩ = some (.int .i64 (digL m 65 : Int)) ∧ wx.cell? ⟨ba, oa + 66, none⟩ = some (.int .i64 (digL m 66 : Int)) ∧ wx.rangeAt w.heap.size 0 (cellsB m) ∧ wx.rangeAt (w.heap.size + 1) 0 (cellsB other)) := fun wx hx => by
        have b : Below w4.heap.size w4 wx := HB.out.trans (hx.mono HB.out.size)
        have k := HK.out _ (HB4.out.trans (b.mono HB4.out.size))
        exact ⟨(HC.out _ b 64 (by omega)).1, (HC.out _ b 65 (by omega)).1, (HC.out _ b 66 (by omega)).1, k.1, k.2.1⟩
      have HLE : Hid ((m = other → lessB m other 67 = false ∧ lessB other m 67 = false) ∧ (m ≠ other → lessB m other 67 = true ∧ lessB other m 67 = true)) :=
        ⟨fun h => by subst h; exact ⟨lessB_self _ _, lessB_self _ _⟩, fun h => ⟨lessB_apart ho hm (Ne.symm h), lessB_apart hm ho h⟩⟩
      have HBE : Hid (∀ wx, Below wr.heap.size wr wx → Below w.heap.size w wx) := fun wx hx => by
        have b : Below w4.heap.size w4 wx := HB.out.trans (hx.mono HB.out.size)
        exact (HK.out _ (HB4.out.trans (b.mono HB4.out.size))).2.2
      clear hB hsum HC
      generalize lackM m 67 = s at *
      generalize lessB m other 67 = l1 at *
      generalize lessB other m 67 = l2 at *
      generalize digL m 64 = e4 at *
      generalize digL m 65 = e5 at *
      generalize digL m 66 = e6 at *
      subst hE
      have HW1 : Hid (IntKind.i64.wrap ((e4 : Int) * 256) = (e4 : Int) * 256) := wrapI _ (by omega) (by omega)
      have HW2 : Hid (IntKind.i64.wrap ((e5 : Int) * 16) = (e5 : Int) * 16) := wrapI _ (by omega) (by omega)
      have HW3 : Hid (IntKind.i64.wrap ((e4 : Int) * 256 + (e5 : Int) * 16) = (e4 : Int) * 256 + (e5 : Int) * 16) := wrapI _ (by omega) (by omega)
      have HW4 : Hid (IntKind.i64.wrap ((e4 : Int) * 256 + (e5 : Int) * 16 + (e6 : Int)) = (e4 : Int) * 256 + (e5 : Int) * 16 + (e6 : Int)) := wrapI _ (by omega) (by omega)
      go_wp2_with fail
      refine wp_region_noPanic ?_
      refine wp_region_held_drew (S := fun w' => w'.cell? ⟨ba, oa + 64, none⟩ = some (.int .i64 (e4 : Int)) ∧ w'.cell? ⟨ba, oa + 65, none⟩ = some (.int .i64 (e5 : Int)) ∧ w'.cell? ⟨ba, oa + 66, none⟩ = some (.int .i64 (e6 : Int)) ∧ w'.rangeAt w.heap.size 0 (cellsB m) ∧ w'.rangeAt (w.heap.size + 1) 0 (cellsB other)) (by kernel_rfl) (HSd.out _ (below_drewN wr 1)) (fun hHeld => ?_)
      try simp only [Act.put, List.setIfInBounds_toArray, List.set_cons_zero, List.set_cons_succ]
      have HBd : Hid (Below wr.heap.size wr wr.drew) := below_drewN wr 1
      generalize wr.drew = wd at *
      refine wpAnyH_take (i := 0) (v := ?_) (by simp only [List.getElem?_toArray, List.getElem?_cons_zero, List.getElem?_cons_succ]; rfl) (by kernel_rfl) (by kernel_rfl) (by kernel_rfl) (fun _ _ _ h => h) (Or.inl ⟨by rfl, ?_⟩) hHeld ?_
      rotate_left
      · intro w hSw
        obtain ⟨hSw0, hSw1, hSw2, hSw3, hSw4⟩ := hSw
        go_simp
        try with_reducible rfl
      try simp only [Act.put, List.setIfInBounds_toArray, List.set_cons_zero, List.set_cons_succ]
      refine wpAnyH_take (i := 1) (v := ?_) (by simp only [List.getElem?_toArray, List.getElem?_cons_zero, List.getElem?_cons_succ]; rfl) (by kernel_rfl) (by kernel_rfl) (by kernel_rfl) (fun _ _ _ h => h) (Or.inl ⟨by rfl, ?_⟩) hHeld ?_
      rotate_left
      · intro w hSw
        obtain ⟨hSw0, hSw1, hSw2, hSw3, hSw4⟩ := hSw
        go_simp
        try with_reducible rfl
      try simp only [Act.put, List.setIfInBounds_toArray, List.set_cons_zero, List.set_cons_succ]
      refine wpAnyH_take (i := 2) (v := ?_) (by simp only [List.getElem?_toArray, List.getElem?_cons_zero, List.getElem?_cons_succ]; rfl) (by kernel_rfl) (by kernel_rfl) (by kernel_rfl) (fun _ _ _ h => h) (Or.inl ⟨by rfl, ?_⟩) hHeld ?_
      rotate_left
      · intro w hSw
        obtain ⟨hSw0, hSw1, hSw2, hSw3, hSw4⟩ := hSw
        go_simp
        try with_reducible rfl
      try simp only [Act.put, List.setIfInBounds_toArray, List.set_cons_zero, List.set_cons_succ]
      refine wpAnyH_take (i := 3) (v := ?_) (by simp only [List.getElem?_toArray, List.getElem?_cons_zero, List.getElem?_cons_succ]; rfl) (by kernel_rfl) (by kernel_rfl) (by kernel_rfl) (fun _ _ _ h => h) (Or.inl ⟨by rfl, ?_⟩) hHeld ?_
      rotate_left
      · intro w hSw
        obtain ⟨hSw0, hSw1, hSw2, hSw3, hSw4⟩ := hSw
        go_simp
        try with_reducible rfl
      try simp only [Act.put, List.setIfInBounds_toArray, List.set_cons_zero, List.set_cons_succ]
      refine wpAnyH_take (i := 4) (v := ?_) (by simp only [List.getElem?_toArray, List.getElem?_cons_zero, List.getElem?_cons_succ]; rfl) (by kernel_rfl) (by kernel_rfl) (by kernel_rfl) (fun _ _ _ h => h) (Or.inl ⟨by rfl, ?_⟩) hHeld ?_
      rotate_left
      · intro w hSw
        obtain ⟨hSw0, hSw1, hSw2, hSw3, hSw4⟩ := hSw
        go_simp
        try with_reducible rfl
      try simp only [Act.put, List.setIfInBounds_toArray, List.set_cons_zero, List.set_cons_succ]
      refine wpAnyH_take (i := 5) (v := ?_) (by simp only [List.getElem?_toArray, List.getElem?_cons_zero, List.getElem?_cons_succ]; rfl) (by kernel_rfl) (by kernel_rfl) (by kernel_rfl) (fun _ _ _ h => h) (Or.inl ⟨by rfl, ?_⟩) hHeld ?_
      rotate_left
      · intro w hSw
        obtain ⟨hSw0, hSw1, hSw2, hSw3, hSw4⟩ := hSw
        go_simp
        try with_reducible rfl
      try simp only [Act.put, List.setIfInBounds_toArray, List.set_cons_zero, List.set_cons_succ]
      refine wpAnyH_take (i := 6) (v := ?_) (by simp only [List.getElem?_toArray, List.getElem?_cons_zero, List.getElem?_cons_succ]; rfl) (by kernel_rfl) (by kernel_rfl) (by kernel_rfl) (fun _ _ _ h => h) (Or.inl ⟨by rfl, ?_⟩) hHeld ?_
      rotate_left
      · intro w hSw
        obtain ⟨hSw0, hSw1, hSw2, hSw3, hSw4⟩ := hSw
        go_simp
        try with_reducible rfl
      try simp only [Act.put, List.setIfInBounds_toArray, List.set_cons_zero, List.set_cons_succ]
      refine wpAnyH_take (i := 7) (v := ?_) (by simp only [List.getElem?_toArray, List.getElem?_cons_zero, List.getElem?_cons_succ]; rfl) (by kernel_rfl) (by kernel_rfl) (by kernel_rfl) (fun _ _ _ h => h) (Or.inl ⟨by rfl, ?_⟩) hHeld ?_
      rotate_left
      · intro w hSw
        obtain ⟨hSw0, hSw1, hSw2, hSw3, hSw4⟩ := hSw
        go_simp
        try with_reducible rfl
      try simp only [Act.put, List.setIfInBounds_toArray, List.set_cons_zero, List.set_cons_succ]
      refine wpAnyH_take (i := 8) (v := ?_) (by simp only [List.getElem?_toArray, List.getElem?_cons_zero, List.getElem?_cons_succ]; rfl) (by kernel_rfl) (by kernel_rfl) (by kernel_rfl) (fun _ _ _ h => h) (Or.inl ⟨by rfl, ?_⟩) hHeld ?_
      rotate_left
      · intro w hSw
        obtain ⟨hSw0, hSw1, hSw2, hSw3, hSw4⟩ := hSw
        go_simp
        try with_reducible rfl
      try simp only [Act.put, List.setIfInBounds_toArray, List.set_cons_zero, List.set_cons_succ]
      refine wpAnyH_take (i := 9) (v := ?_) (by simp only [List.getElem?_toArray, List.getElem?_cons_zero, List.getElem?_cons_succ]; rfl) (by kernel_rfl) (by kernel_rfl) (by kernel_rfl) (fun _ _ _ h => h) (Or.inl ⟨by rfl, ?_⟩) hHeld ?_
      rotate_left
      · intro w hSw
        obtain ⟨hSw0, hSw1, hSw2, hSw3, hSw4⟩ := hSw
        go_simp
        try with_reducible rfl
      try simp only [Act.put, List.setIfInBounds_toArray, List.set_cons_zero, List.set_cons_succ]
      refine wpAnyH_take (i := 10) (v := ?_) (by simp only [List.getElem?_toArray, List.getElem?_cons_zero, List.getElem?_cons_succ]; rfl) (by kernel_rfl) (by kernel_rfl) (by kernel_rfl) (fun _ _ _ h => h) (Or.inl ⟨by rfl, ?_⟩) hHeld ?_
      rotate_left
      · intro w hSw
        obtain ⟨hSw0, hSw1, hSw2, hSw3, hSw4⟩ := hSw
        go_simp
        try with_reducible rfl
      try simp only [Act.put, List.setIfInBounds_toArray, List.set_cons_zero, List.set_cons_succ]
      refine wpAnyH_take (i := 11) (v := ?_) (by simp only [List.getElem?_toArray, List.getElem?_cons_zero, List.getElem?_cons_succ]; rfl) (by kernel_rfl) (by kernel_rfl) (by kernel_rfl) (fun _ _ _ h => h) (Or.inl ⟨by rfl, ?_⟩) hHeld ?_
      rotate_left
      · intro w hSw
        obtain ⟨hSw0, hSw1, hSw2, hSw3, hSw4⟩ := hSw
        go_simp
        try with_reducible rfl
      try simp only [Act.put, List.setIfInBounds_toArray, List.set_cons_zero, List.set_cons_succ]
      refine wpAnyH_take (i := 12) (v := ?_) (by simp only [List.getElem?_toArray, List.getElem?_cons_zero, List.getElem?_cons_succ]; rfl) (by kernel_rfl) (by kernel_rfl) (by kernel_rfl) (fun _ _ _ h => h) (Or.inl ⟨by rfl, ?_⟩) hHeld ?_
      rotate_left
      · intro w hSw
        obtain ⟨hSw0, hSw1, hSw2, hSw3, hSw4⟩ := hSw
        go_simp
        try with_reducible rfl
      try simp only [Act.put, List.setIfInBounds_toArray, List.set_cons_zero, List.set_cons_succ]
      refine wpAnyH_take (i := 13) (v := ?_) (by simp only [List.getElem?_toArray, List.getElem?_cons_zero, List.getElem?_cons_succ]; rfl) (by kernel_rfl) (by kernel_rfl) (by kernel_rfl) (fun _ _ _ h => h) (Or.inl ⟨by rfl, ?_⟩) hHeld ?_
      rotate_left
      · intro w hSw
        obtain ⟨hSw0, hSw1, hSw2, hSw3, hSw4⟩ := hSw
        go_simp
        try with_reducible rfl
      try simp only [Act.put, List.setIfInBounds_toArray, List.set_cons_zero, List.set_cons_succ]
      refine wpAnyH_take (i := 14) (v := .bool true) (by simp only [List.getElem?_toArray, List.getElem?_cons_zero, List.getElem?_cons_succ]; rfl) (by kernel_rfl) (by kernel_rfl) (by kernel_rfl) (fun _ _ _ h => h) (Or.inl ⟨by rfl, ?_⟩) hHeld ?_
      · intro w hSw
        obtain ⟨hSw0, hSw1, hSw2, hSw3, hSw4⟩ := hSw
        go_simp
        rw [HW1.out, HW2.out, HW3.out, HW4.out]
      try simp only [Act.put, List.setIfInBounds_toArray, List.set_cons_zero, List.set_cons_succ]
      refine wpAnyH_take (i := 15) (v := ?_) (by simp only [List.getElem?_toArray, List.getElem?_cons_zero, List.getElem?_cons_succ]; rfl) (by kernel_rfl) (by kernel_rfl) (by kernel_rfl) (fun _ _ _ h => h) (Or.inl ⟨by rfl, ?_⟩) hHeld ?_
      rotate_left
      · intro w hSw
        obtain ⟨hSw0, hSw1, hSw2, hSw3, hSw4⟩ := hSw
        go_simp
        try with_reducible rfl
      try simp only [Act.put, List.setIfInBounds_toArray, List.set_cons_zero, List.set_cons_succ]
      refine wpAnyH_take (i := 16) (v := .agg (cellsB m).toArray) (by simp only [List.getElem?_toArray, List.getElem?_cons_zero, List.getElem?_cons_succ]; rfl) (by kernel_rfl) (by kernel_rfl) (by kernel_rfl) (fun _ _ _ h => h)
        (yieldsIf_load_mid (by rfl) _ _ rfl _ _ rfl _ _ (fun w hw => hw.2.2.2.1) Try.underlying23 rfl (by rw [cellsB_length, hm]; exact Try.sizeDg)) hHeld ?_
      try simp only [Act.put, List.setIfInBounds_toArray, List.set_cons_zero, List.set_cons_succ]
      refine wpAnyH_take (i := 17) (v := .agg (cellsB other).toArray) (by simp only [List.getElem?_toArray, List.getElem?_cons_zero, List.getElem?_cons_succ]; rfl) (by kernel_rfl) (by kernel_rfl) (by kernel_rfl) (fun _ _ _ h => h)
        (yieldsIf_load_mid (by rfl) _ _ rfl _ _ rfl _ _ (fun w hw => hw.2.2.2.2) Try.underlying23 rfl (by rw [cellsB_length, ho]; exact Try.sizeDg)) hHeld ?_
      try simp only [Act.put, List.setIfInBounds_toArray, List.set_cons_zero, List.set_cons_succ]
      by_cases hmo : m = other
      · obtain ⟨rfl, rfl⟩ := HLE.out.1 hmo
        have hd : decide (m = other) = true := by simp [hmo]
        refine wpAnyH_take (i := 18) (v := .bool true) (by simp only [List.getElem?_toArray, List.getElem?_cons_zero, List.getElem?_cons_succ]; rfl) (by kernel_rfl) (by kernel_rfl) (by kernel_rfl) (fun _ _ _ h => h)
          (yieldsIf_eqD (by rfl) _ _ rfl m other hm ho rfl rfl true hd) hHeld ?_
        try simp only [Act.put, List.setIfInBounds_toArray, List.set_cons_zero, List.set_cons_succ]
        refine wpAnyH_take (i := 19) (v := ?_) (by simp only [List.getElem?_toArray, List.getElem?_cons_zero, List.getElem?_cons_succ]; rfl) (by kernel_rfl) (by kernel_rfl) (by kernel_rfl) (fun _ _ _ h => h) (Or.inl ⟨by rfl, ?_⟩) hHeld ?_
        rotate_left
        · intro w hSw
          obtain ⟨hSw0, hSw1, hSw2, hSw3, hSw4⟩ := hSw
          go_simp
          try with_reducible rfl
        try simp only [Act.put, List.setIfInBounds_toArray, List.set_cons_zero, List.set_cons_succ]
        refine wpAnyH_take (i := 20) (v := ?_) (by simp only [List.getElem?_toArray, List.getElem?_cons_zero, List.getElem?_cons_succ]; rfl) (by kernel_rfl) (by kernel_rfl) (by kernel_rfl) (fun _ _ _ h => h) (Or.inl ⟨by rfl, ?_⟩) hHeld ?_
        rotate_left
        · intro w hSw
          obtain ⟨hSw0, hSw1, hSw2, hSw3, hSw4⟩ := hSw
          go_simp
          try with_reducible rfl
        try simp only [Act.put, List.setIfInBounds_toArray, List.set_cons_zero, List.set_cons_succ]
        refine wpAnyH_take (i := 21) (v := ?_) (by simp only [List.getElem?_toArray, List.getElem?_cons_zero, List.getElem?_cons_succ]; rfl) (by kernel_rfl) (by kernel_rfl) (by kernel_rfl) (fun _ _ _ h => h) (Or.inl ⟨by rfl, ?_⟩) hHeld ?_
        rotate_left
        · intro w hSw
          obtain ⟨hSw0, hSw1, hSw2, hSw3, hSw4⟩ := hSw
          go_simp
          try with_reducible rfl
        try simp only [Act.put, List.setIfInBounds_toArray, List.set_cons_zero, List.set_cons_succ]
        refine wpAnyH_take (i := 22) (v := ?_) (by simp only [List.getElem?_toArray, List.getElem?_cons_zero, List.getElem?_cons_succ]; rfl) (by kernel_rfl) (by kernel_rfl) (by kernel_rfl) (fun _ _ _ h => h) (Or.inl ⟨by rfl, ?_⟩) hHeld ?_
        rotate_left
        · intro w hSw
          obtain ⟨hSw0, hSw1, hSw2, hSw3, hSw4⟩ := hSw
          go_simp
          try with_reducible rfl
        try simp only [Act.put, List.setIfInBounds_toArray, List.set_cons_zero, List.set_cons_succ]
        refine wpAnyH_take (i := 23) (v := ?_) (by simp only [List.getElem?_toArray, List.getElem?_cons_zero, List.getElem?_cons_succ]; rfl) (by kernel_rfl) (by kernel_rfl) (by kernel_rfl) (fun _ _ _ h => h) (Or.inl ⟨by rfl, ?_⟩) hHeld ?_
        rotate_left
        · intro w hSw
          obtain ⟨hSw0, hSw1, hSw2, hSw3, hSw4⟩ := hSw
          go_simp
          try with_reducible rfl
        try simp only [Act.put, List.setIfInBounds_toArray, List.set_cons_zero, List.set_cons_succ]
        refine wpAnyH_take (i := 24) (v := .agg (cellsB m).toArray) (by simp only [List.getElem?_toArray, List.getElem?_cons_zero, List.getElem?_cons_succ]; rfl) (by kernel_rfl) (by kernel_rfl) (by kernel_rfl) (fun _ _ _ h => h)
          (yieldsIf_load_mid (by rfl) _ _ rfl _ _ rfl _ _ (fun w hw => hw.2.2.2.1) Try.underlying23 rfl (by rw [cellsB_length, hm]; exact Try.sizeDg)) hHeld ?_
        try simp only [Act.put, List.setIfInBounds_toArray, List.set_cons_zero, List.set_cons_succ]
        refine wpAnyH_take (i := 25) (v := .agg (cellsB other).toArray) (by simp only [List.getElem?_toArray, List.getElem?_cons_zero, List.getElem?_cons_succ]; rfl) (by kernel_rfl) (by kernel_rfl) (by kernel_rfl) (fun _ _ _ h => h)
          (yieldsIf_load_mid (by rfl) _ _ rfl _ _ rfl _ _ (fun w hw => hw.2.2.2.2) Try.underlying23 rfl (by rw [cellsB_length, ho]; exact Try.sizeDg)) hHeld ?_
        try simp only [Act.put, List.setIfInBounds_toArray, List.set_cons_zero, List.set_cons_succ]
        refine wpAnyH_take (i := 26) (v := .bool true) (by simp only [List.getElem?_toArray, List.getElem?_cons_zero, List.getElem?_cons_succ]; rfl) (by kernel_rfl) (by kernel_rfl) (by kernel_rfl) (fun _ _ _ h => h)
          (yieldsIf_eqD (by rfl) _ _ rfl m other hm ho rfl rfl true hd) hHeld ?_
        try simp only [Act.put, List.setIfInBounds_toArray, List.set_cons_zero, List.set_cons_succ]
        refine wpAnyH_take (i := 27) (v := ?_) (by simp only [List.getElem?_toArray, List.getElem?_cons_zero, List.getElem?_cons_succ]; rfl) (by kernel_rfl) (by kernel_rfl) (by kernel_rfl) (fun _ _ _ h => h) (Or.inl ⟨by rfl, ?_⟩) hHeld ?_
        rotate_left
        · intro w hSw
          obtain ⟨hSw0, hSw1, hSw2, hSw3, hSw4⟩ := hSw
          go_simp
          try with_reducible rfl
        try simp only [Act.put, List.setIfInBounds_toArray, List.set_cons_zero, List.set_cons_succ]
        refine wpAnyH_take (i := 28) (v := ?_) (by simp only [List.getElem?_toArray, List.getElem?_cons_zero, List.getElem?_cons_succ]; rfl) (by kernel_rfl) (by kernel_rfl) (by kernel_rfl) (fun _ _ _ h => h) (Or.inl ⟨by rfl, ?_⟩) hHeld ?_
        rotate_left
        · intro w hSw
          obtain ⟨hSw0, hSw1, hSw2, hSw3, hSw4⟩ := hSw
          go_simp
          try with_reducible rfl
        try simp only [Act.put, List.setIfInBounds_toArray, List.set_cons_zero, List.set_cons_succ]
        refine wpAnyH_take (i := 29) (v := ?_) (by simp only [List.getElem?_toArray, List.getElem?_cons_zero, List.getElem?_cons_succ]; rfl) (by kernel_rfl) (by kernel_rfl) (by kernel_rfl) (fun _ _ _ h => h) (Or.inl ⟨by rfl, ?_⟩) hHeld ?_
        rotate_left
        · intro w hSw
          obtain ⟨hSw0, hSw1, hSw2, hSw3, hSw4⟩ := hSw
          go_simp
          try with_reducible rfl
        try simp only [Act.put, List.setIfInBounds_toArray, List.set_cons_zero, List.set_cons_succ]
        refine wpAnyH_take (i := 30) (v := ?_) (by simp only [List.getElem?_toArray, List.getElem?_cons_zero, List.getElem?_cons_succ]; rfl) (by kernel_rfl) (by kernel_rfl) (by kernel_rfl) (fun _ _ _ h => h) (Or.inl ⟨by rfl, ?_⟩) hHeld ?_
        rotate_left
        · intro w hSw
          obtain ⟨hSw0, hSw1, hSw2, hSw3, hSw4⟩ := hSw
          go_simp
          try with_reducible rfl
        try simp only [Act.put, List.setIfInBounds_toArray, List.set_cons_zero, List.set_cons_succ]
        refine wpAnyH_take (i := 31) (v := ?_) (by simp only [List.getElem?_toArray, List.getElem?_cons_zero, List.getElem?_cons_succ]; rfl) (by kernel_rfl) (by kernel_rfl) (by kernel_rfl) (fun _ _ _ h => h) (Or.inl ⟨by rfl, ?_⟩) hHeld ?_
        rotate_left
        · intro w hSw
          obtain ⟨hSw0, hSw1, hSw2, hSw3, hSw4⟩ := hSw
          go_simp
          try with_reducible rfl
        try simp only [Act.put, List.setIfInBounds_toArray, List.set_cons_zero, List.set_cons_succ]
        refine wpAnyH_done (by kernel_rfl) (NoPanic.normal ?_) _
        clear hHeld
        go_wp2_with fail
        go_ret
        exact ⟨rfl, HBE.out _ HBd.out⟩
      · obtain ⟨rfl, rfl⟩ := HLE.out.2 hmo
        have hd : decide (m = other) = false := by simp [hmo]
        refine wpAnyH_take (i := 18) (v := .bool false) (by simp only [List.getElem?_toArray, List.getElem?_cons_zero, List.getElem?_cons_succ]; rfl) (by kernel_rfl) (by kernel_rfl) (by kernel_rfl) (fun _ _ _ h => h)
          (yieldsIf_eqD (by rfl) _ _ rfl m other hm ho rfl rfl false hd) hHeld ?_
        try simp only [Act.put, List.setIfInBounds_toArray, List.set_cons_zero, List.set_cons_succ]
        refine wpAnyH_take (i := 19) (v := ?_) (by simp only [List.getElem?_toArray, List.getElem?_cons_zero, List.getElem?_cons_succ]; rfl) (by kernel_rfl) (by kernel_rfl) (by kernel_rfl) (fun _ _ _ h => h) (Or.inl ⟨by rfl, ?_⟩) hHeld ?_
        rotate_left
        · intro w hSw
          obtain ⟨hSw0, hSw1, hSw2, hSw3, hSw4⟩ := hSw
          go_simp
          try with_reducible rfl
        try simp only [Act.put, List.setIfInBounds_toArray, List.set_cons_zero, List.set_cons_succ]
        refine wpAnyH_take (i := 20) (v := ?_) (by simp only [List.getElem?_toArray, List.getElem?_cons_zero, List.getElem?_cons_succ]; rfl) (by kernel_rfl) (by kernel_rfl) (by kernel_rfl) (fun _ _ _ h => h) (Or.inl ⟨by rfl, ?_⟩) hHeld ?_
        rotate_left
        · intro w hSw
          obtain ⟨hSw0, hSw1, hSw2, hSw3, hSw4⟩ := hSw
          go_simp
          try with_reducible rfl
        try simp only [Act.put, List.setIfInBounds_toArray, List.set_cons_zero, List.set_cons_succ]
        refine wpAnyH_take (i := 21) (v := ?_) (by simp only [List.getElem?_toArray, List.getElem?_cons_zero, List.getElem?_cons_succ]; rfl) (by kernel_rfl) (by kernel_rfl) (by kernel_rfl) (fun _ _ _ h => h) (Or.inl ⟨by rfl, ?_⟩) hHeld ?_
        rotate_left
        · intro w hSw
          obtain ⟨hSw0, hSw1, hSw2, hSw3, hSw4⟩ := hSw
          go_simp
          try with_reducible rfl
        try simp only [Act.put, List.setIfInBounds_toArray, List.set_cons_zero, List.set_cons_succ]
        refine wpAnyH_take (i := 22) (v := ?_) (by simp only [List.getElem?_toArray, List.getElem?_cons_zero, List.getElem?_cons_succ]; rfl) (by kernel_rfl) (by kernel_rfl) (by kernel_rfl) (fun _ _ _ h => h) (Or.inl ⟨by rfl, ?_⟩) hHeld ?_
        rotate_left
        · intro w hSw
          obtain ⟨hSw0, hSw1, hSw2, hSw3, hSw4⟩ := hSw
          go_simp
          try with_reducible rfl
        try simp only [Act.put, List.setIfInBounds_toArray, List.set_cons_zero, List.set_cons_succ]
        refine wpAnyH_take (i := 23) (v := ?_) (by simp only [List.getElem?_toArray, List.getElem?_cons_zero, List.getElem?_cons_succ]; rfl) (by kernel_rfl) (by kernel_rfl) (by kernel_rfl) (fun _ _ _ h => h) (Or.inl ⟨by rfl, ?_⟩) hHeld ?_
        rotate_left
        · intro w hSw
          obtain ⟨hSw0, hSw1, hSw2, hSw3, hSw4⟩ := hSw
          go_simp
          try with_reducible rfl
        try simp only [Act.put, List.setIfInBounds_toArray, List.set_cons_zero, List.set_cons_succ]
        refine wpAnyH_take (i := 24) (v := .agg (cellsB m).toArray) (by simp only [List.getElem?_toArray, List.getElem?_cons_zero, List.getElem?_cons_succ]; rfl) (by kernel_rfl) (by kernel_rfl) (by kernel_rfl) (fun _ _ _ h => h)
          (yieldsIf_load_mid (by rfl) _ _ rfl _ _ rfl _ _ (fun w hw => hw.2.2.2.1) Try.underlying23 rfl (by rw [cellsB_length, hm]; exact Try.sizeDg)) hHeld ?_
        try simp only [Act.put, List.setIfInBounds_toArray, List.set_cons_zero, List.set_cons_succ]
        refine wpAnyH_take (i := 25) (v := .agg (cellsB other).toArray) (by simp only [List.getElem?_toArray, List.getElem?_cons_zero, List.getElem?_cons_succ]; rfl) (by kernel_rfl) (by kernel_rfl) (by kernel_rfl) (fun _ _ _ h => h)
          (yieldsIf_load_mid (by rfl) _ _ rfl _ _ rfl _ _ (fun w hw => hw.2.2.2.2) Try.underlying23 rfl (by rw [cellsB_length, ho]; exact Try.sizeDg)) hHeld ?_
        try simp only [Act.put, List.setIfInBounds_toArray, List.set_cons_zero, List.set_cons_succ]
        refine wpAnyH_take (i := 26) (v := .bool false) (by simp only [List.getElem?_toArray, List.getElem?_cons_zero, List.getElem?_cons_succ]; rfl) (by kernel_rfl) (by kernel_rfl) (by kernel_rfl) (fun _ _ _ h => h)
          (yieldsIf_eqD (by rfl) _ _ rfl m other hm ho rfl rfl false hd) hHeld ?_
        try simp only [Act.put, List.setIfInBounds_toArray, List.set_cons_zero, List.set_cons_succ]
        refine wpAnyH_take (i := 27) (v := ?_) (by simp only [List.getElem?_toArray, List.getElem?_cons_zero, List.getElem?_cons_succ]; rfl) (by kernel_rfl) (by kernel_rfl) (by kernel_rfl) (fun _ _ _ h => h) (Or.inl ⟨by rfl, ?_⟩) hHeld ?_
        rotate_left
        · intro w hSw
          obtain ⟨hSw0, hSw1, hSw2, hSw3, hSw4⟩ := hSw
          go_simp
          try with_reducible rfl
        try simp only [Act.put, List.setIfInBounds_toArray, List.set_cons_zero, List.set_cons_succ]
        refine wpAnyH_take (i := 28) (v := ?_) (by simp only [List.getElem?_toArray, List.getElem?_cons_zero, List.getElem?_cons_succ]; rfl) (by kernel_rfl) (by kernel_rfl) (by kernel_rfl) (fun _ _ _ h => h) (Or.inl ⟨by rfl, ?_⟩) hHeld ?_
        rotate_left
        · intro w hSw
          obtain ⟨hSw0, hSw1, hSw2, hSw3, hSw4⟩ := hSw
          go_simp
          try with_reducible rfl
        try simp only [Act.put, List.setIfInBounds_toArray, List.set_cons_zero, List.set_cons_succ]
        refine wpAnyH_take (i := 29) (v := ?_) (by simp only [List.getElem?_toArray, List.getElem?_cons_zero, List.getElem?_cons_succ]; rfl) (by kernel_rfl) (by kernel_rfl) (by kernel_rfl) (fun _ _ _ h => h) (Or.inl ⟨by rfl, ?_⟩) hHeld ?_
        rotate_left
        · intro w hSw
          obtain ⟨hSw0, hSw1, hSw2, hSw3, hSw4⟩ := hSw
          go_simp
          try with_reducible rfl
        try simp only [Act.put, List.setIfInBounds_toArray, List.set_cons_zero, List.set_cons_succ]
        refine wpAnyH_take (i := 30) (v := ?_) (by simp only [List.getElem?_toArray, List.getElem?_cons_zero, List.getElem?_cons_succ]; rfl) (by kernel_rfl) (by kernel_rfl) (by kernel_rfl) (fun _ _ _ h => h) (Or.inl ⟨by rfl, ?_⟩) hHeld ?_
        rotate_left
        · intro w hSw
          obtain ⟨hSw0, hSw1, hSw2, hSw3, hSw4⟩ := hSw
          go_simp
          try with_reducible rfl
        try simp only [Act.put, List.setIfInBounds_toArray, List.set_cons_zero, List.set_cons_succ]
        refine wpAnyH_take (i := 31) (v := ?_) (by simp only [List.getElem?_toArray, List.getElem?_cons_zero, List.getElem?_cons_succ]; rfl) (by kernel_rfl) (by kernel_rfl) (by kernel_rfl) (fun _ _ _ h => h) (Or.inl ⟨by rfl, ?_⟩) hHeld ?_
        rotate_left
        · intro w hSw
          obtain ⟨hSw0, hSw1, hSw2, hSw3, hSw4⟩ := hSw
          go_simp
          try with_reducible rfl
        try simp only [Act.put, List.setIfInBounds_toArray, List.set_cons_zero, List.set_cons_succ]
        refine wpAnyH_done (by kernel_rfl) (NoPanic.normal ?_) _
        clear hHeld
        go_wp2_with fail
        go_ret
        exact ⟨rfl, HBE.out _ HBd.out⟩
end Go.Proofs.Ytdplajhebapkgaa
