/- The law CodeAny: any so many rows are enough. -/
import Derived.Test.YtnffmegicgbinabJ13
import Derived.Test.YtnffmegicgbinabJ14
import Derived.Test.YtnffmegicgbinabJ15
import Derived.Deep.DeepCutAuto
import Derived.Deep.RegionHeld3
namespace Go.Proofs.Ytnffmegicgbinab
open Go.RowKit
set_option linter.unusedVariables false
set_option linter.unusedSimpArgs false

set_option maxRecDepth 100000 in
set_option maxHeartbeats 4000000 in
theorem cany_walk (a : Option Addr) (n c : Nat) (ls : List (List UInt8)) (N : Int) (a3 : Option Addr) (n3 c3 : Nat) (wh : List Int) (w : World) (G : Env w)
    (R : BRowsB w a n ls) (hc : n ≤ c) (hn : 24 * n ≤ 140737488351232) (k1 : -9223372036854775808 ≤ N) (k2 : N ≤ 9223372036854775807) (R3 : IRow w a3 n3 wh) (h3 : n3 ≤ c3) (hn3 : 8 * n3 ≤ 140737488351232) (hb : ∀ i, i < n3 → -9223372036854775808 ≤ wh.getD i 0 ∧ wh.getD i 0 ≤ 9223372036854775807) :
    Calls Try.prog 3 #[.slice a n c, .int .i64 N, .slice a3 n3 c3] w fun r w' => r = .returned (.bool true) ∧ Below w.heap.size w w' := by
  have HALL : Hid (∀ wx, Below w.heap.size w wx → Env wx ∧ BRowsB wx a n ls ∧ IRow wx a3 n3 wh) := fun wx hx => ⟨G.below hx, R.below hx, R3.below hx⟩
  have HB0 : Hid (Below w.heap.size w w) := Below.refl _ _
  have HLS : Hid (ls.length = n) := R.1.1
  have HBD : Hid (∀ i, i < n3 → -9223372036854775808 ≤ wh.getD i 0 ∧ wh.getD i 0 ≤ 9223372036854775807) := hb
  clear G R R3 hb
  go_enter Try.func3, Try.ntmps3
  go_wp2_with fail
  have HR3 : Hid (BRowsB ((w.alloc (.cells #[.int .u8 7] 5)).alloc (.cells #[.slice (some ⟨w.heap.size, 0, none⟩) 1 1] 28)) (some ⟨w.heap.size + 1, 0, none⟩) 1 [[7]]) := litT_seven w _ _
  have HB3 : Hid (Below w.heap.size w ((w.alloc (.cells #[.int .u8 7] 5)).alloc (.cells #[.slice (some ⟨w.heap.size, 0, none⟩) 1 1] 28))) := (HB0.out.alloc HB0.out.size _).alloc (by simp) _
  generalize (w.alloc (.cells #[.int .u8 7] 5)).alloc (.cells #[.slice (some ⟨w.heap.size, 0, none⟩) 1 1] 28) = x2 at *
  refine (wcode_spread (some ⟨w.heap.size + 1, 0, none⟩) 1 1 2 [[7]] x2 (HALL.out _ HB3.out).1 HR3.out (Nat.le_refl _) spreadE_seven).mono ?_
  rintro r w1 ⟨⟨a5, c5, rows5, rfl, hc5, r5, p5⟩, hb5⟩
  have HB1 : Hid (Below w.heap.size w w1) := HB3.out.trans (hb5.mono HB3.out.size)
  clear hb5 r5 p5 HR3 HB3 HB0 hc5
  go_wp2_with fail
  by_cases he : spreadE ls N = 0
  rotate_left
  · refine (wcode_spreadout a n c N ls (spreadE ls N) w1 (HALL.out _ HB1.out).1 (HALL.out _ HB1.out).2.1 hc (by omega) k1 k2 rfl he).mono ?_
    rintro r w4 ⟨⟨ag, cg, rfl⟩, hb4⟩
    have HB4 : Hid (Below w.heap.size w w4) := HB1.out.trans (hb4.mono HB1.out.size)
    generalize spreadE ls N = E at *
    clear hb4 HB1 he
    go_wp2_with fail
    go_ret
    exact ⟨rfl, HB4.out⟩
  obtain ⟨p1, p2, p3, p4, p5⟩ := spreadE_ok he
  rw [HLS.out] at p1 p2
  obtain ⟨N4, hN4⟩ : ∃ N4 : Nat, N = (N4 : Int) := ⟨N.toNat, by omega⟩
  subst hN4
  have HE : Hid (spreadE ls (N4 : Int) = 0) := he
  have HSAME : Hid (∀ l ∈ ls, l.length = (ls.getD 0 []).length) := p5
  have hN20 : N4 ≤ 20 := by omega
  have hnN : n ≤ N4 := by omega
  clear he p5 p4
  refine (wcode_spread a n c N4 ls w1 (HALL.out _ HB1.out).1 (HALL.out _ HB1.out).2.1 hc HE.out).mono ?_
  rintro r w5 ⟨⟨a4, c4, rows, rfl, hc4, r4, sp4⟩, hb5⟩
  have HB5 : Hid (Below w.heap.size w w5) := HB1.out.trans (hb5.mono HB1.out.size)
  have HSS : Hid (BRowsB w5 a4 N4 rows) := r4
  have HSP : Hid (spreadP ls N4 rows) := sp4
  clear hb5 HB1 r4 sp4 HE
  by_cases g1 : (n3 : Int) < (n : Int)
  · go_wp2_with fail
    go_ret
    exact ⟨rfl, HB5.out⟩
  have hn31 : n ≤ n3 := by omega
  have hnc3 : n ≤ c3 := by omega
  obtain ⟨bi, oi, ha3⟩ : ∃ bi oi, a3 = some ⟨bi, oi, none⟩ := by
    rcases (HALL.out _ HB5.out).2.2.2 with h0 | ⟨b, o, e, _⟩
    · omega
    · exact ⟨b, o, e⟩
  subst ha3
  have HWC : Hid (∀ wx, Below w.heap.size w wx → ∀ i, i < n → wx.cell? ⟨bi, oi + i, none⟩ = some (.int .i64 (wh.getD i 0))) := fun wx hx i hi => by
    rcases (HALL.out _ hx).2.2.2 with h0 | ⟨b, o, e, hc⟩
    · omega
    · cases e
      exact hc i (by omega)
  have HN3 : Hid (n ≤ n3) := hn31
  go_wp2_with fail
  clear g1
  obtain ⟨B0, hB0⟩ : ∃ B0, w5.heap.size = B0 := ⟨_, rfl⟩
  have HBB : Hid (w5.heap.size = B0) := hB0
  have H55 : Hid (Below B0 w5 w5) := Below.refl _ _
  clear hB0
  have HBW : Hid (∀ wx, Below B0 w5 wx → Below w.heap.size w wx ∧ B0 ≤ wx.heap.size) := fun wx hx => ⟨HB5.out.trans (hx.mono (by have := HB5.out.size; have := HBB.out; omega)), by have := hx.size; have := HBB.out; omega⟩
  go_loopw [11, 12] (fun v iv wr => ∃ i : Nat, iv = .int .i64 (i : Int) ∧ i ≤ n ∧ Hid (OwnS wr B0 v (pickR rows wh i)) ∧ Hid (∀ j, j < i → 0 ≤ wh.getD j 0 ∧ wh.getD j 0 < (N4 : Int)) ∧ Hid (∀ p q, p < i → q < p → wh.getD q 0 ≠ wh.getD p 0) ∧ Hid (Below B0 w5 wr)) (fun _ iv _ => n - (intOf iv).toNat)
  case atStart => exact ⟨0, rfl, Nat.zero_le _, OwnS.nil _ _, (fun j h => by omega), (fun p q h => by omega), H55.out⟩
  case round =>
    obtain ⟨i, rfl, hi, HO, HIN, HNE, HB⟩ := hrel
    by_cases hlt : i < n
    · have HI3 : Hid (i < n) := hlt
      have k0 : wr.cell? ⟨bi, oi + i, none⟩ = some (.int .i64 (wh.getD i 0)) := HWC.out wr (HBW.out wr HB.out).1 i hlt
      have q1 := (HBD.out i (by omega)).1
      have q2 := (HBD.out i (by omega)).2
      have i0 : (0 : Int) ≤ (i : Int) := by omega
      have i1 : (i : Int) < (n3 : Int) := by omega
      have i2 : (i : Int) < (n : Int) := by omega
      obtain ⟨z, hz⟩ : ∃ z, wh.getD i 0 = z := ⟨_, rfl⟩
      have HZ : Hid (wh.getD i 0 = z) := hz
      rw [hz] at k0 q1 q2
      clear hz hlt hi
      by_cases d1 : z < 0
      · go_wp2_with fail
        go_ret
        exact ⟨rfl, (HBW.out wr HB.out).1⟩
      by_cases d2 : (N4 : Int) ≤ z
      · go_wp2_with fail
        go_ret
        exact ⟨rfl, (HBW.out wr HB.out).1⟩
      have z0 : 0 ≤ z := by omega
      have z1 : z < (N4 : Int) := by omega
      go_wp2_with fail
      clear k0
      generalize wr = w6 at *
      clear wr
      have H66 : Hid (Below w6.heap.size w6 w6) := Below.refl _ _
      go_loopw [13] (fun jv wr => ∃ j : Nat, jv = .int .i64 (j : Int) ∧ j ≤ i ∧ Hid (∀ q, q < j → wh.getD q 0 ≠ z) ∧ Hid (Below w6.heap.size w6 wr)) (fun jv _ => i - (intOf jv).toNat)
      case atStart => exact ⟨0, rfl, Nat.zero_le _, (fun q h => by omega), H66.out⟩
      case round =>
        clear H66
        obtain ⟨j, rfl, hj, HJ, HB6⟩ := hrel
        have HBx : Hid (Below B0 w5 wr) := HB.out.trans (HB6.out.mono (HBW.out _ HB.out).2)
        by_cases hlj : j < i
        · have HJI : Hid (j < i) := hlj
          have j0 : (0 : Int) ≤ (j : Int) := by omega
          have j1 : (j : Int) < (n3 : Int) := by have := HI3.out; have := HN3.out; omega
          have j2 : (j : Int) < (i : Int) := by omega
          obtain ⟨zj, hzj⟩ : ∃ zj, wh.getD j 0 = zj := ⟨_, rfl⟩
          have HZJ : Hid (wh.getD j 0 = zj) := hzj
          have HCJ : Hid (∀ wx, Below wr.heap.size wr wx → wx.cell? ⟨bi, oi + j, none⟩ = some (.int .i64 zj) ∧ wx.cell? ⟨bi, oi + i, none⟩ = some (.int .i64 z) ∧ Below B0 w5 wx) := fun wx hx => by
            have b : Below B0 w5 wx := HBx.out.trans (hx.mono (HBW.out _ HBx.out).2)
            have c := HWC.out wx (HBW.out wx b).1
            have := HI3.out
            have := HJI.out
            exact ⟨by rw [c j (by omega), HZJ.out], by rw [c i (by omega), HZ.out], b⟩
          clear hzj hlj hj
          by_cases ce : zj = z
          · have HCE : Hid ((zj : Int) = z) := ce
            clear ce
            go_upto_region 16 with fail
            try simp only [Act.put, List.setIfInBounds_toArray, List.set_cons_zero, List.set_cons_succ]
            refine wp_region_noPanic ?_
            refine wp_region_held_drew (S := fun wx => wx.cell? ⟨bi, oi + j, none⟩ = some (.int .i64 (zj : Int)) ∧ wx.cell? ⟨bi, oi + i, none⟩ = some (.int .i64 (z : Int))) (by kernel_rfl) ⟨(HCJ.out _ (below_drewN wr 1)).1, (HCJ.out _ (below_drewN wr 1)).2.1⟩ (fun hHeld => ?_)
            try simp only [Act.put, List.setIfInBounds_toArray, List.set_cons_zero, List.set_cons_succ]
            have HBd : Hid (Below wr.heap.size wr wr.drew) := below_drewN wr 1
            generalize wr.drew = wd at *
            refine wpAnyH_take (i := 0) (v := .slice (some ⟨bi, oi, none⟩) n3 c3) (by simp only [List.getElem?_toArray, List.getElem?_cons_zero, List.getElem?_cons_succ]; rfl) (by kernel_rfl) (by kernel_rfl) (by kernel_rfl) (fun _ _ _ h => h) (Or.inl ⟨by rfl, ?_⟩) hHeld ?_
            · intro w hSw
              obtain ⟨hSw0, hSw1⟩ := hSw
              go_simp
            try simp only [Act.put, List.setIfInBounds_toArray, List.set_cons_zero, List.set_cons_succ]
            refine wpAnyH_take (i := 1) (v := .int .i64 (j : Int)) (by simp only [List.getElem?_toArray, List.getElem?_cons_zero, List.getElem?_cons_succ]; rfl) (by kernel_rfl) (by kernel_rfl) (by kernel_rfl) (fun _ _ _ h => h) (Or.inl ⟨by rfl, ?_⟩) hHeld ?_
            · intro w hSw
              obtain ⟨hSw0, hSw1⟩ := hSw
              go_simp
            try simp only [Act.put, List.setIfInBounds_toArray, List.set_cons_zero, List.set_cons_succ]
            refine wpAnyH_take (i := 2) (v := .pointer (some ⟨bi, oi + j, none⟩)) (by simp only [List.getElem?_toArray, List.getElem?_cons_zero, List.getElem?_cons_succ]; rfl) (by kernel_rfl) (by kernel_rfl) (by kernel_rfl) (fun _ _ _ h => h) (Or.inl ⟨by rfl, ?_⟩) hHeld ?_
            · intro w hSw
              obtain ⟨hSw0, hSw1⟩ := hSw
              go_simp
            try simp only [Act.put, List.setIfInBounds_toArray, List.set_cons_zero, List.set_cons_succ]
            refine wpAnyH_take (i := 3) (v := .int .i64 (zj : Int)) (by simp only [List.getElem?_toArray, List.getElem?_cons_zero, List.getElem?_cons_succ]; rfl) (by kernel_rfl) (by kernel_rfl) (by kernel_rfl) (fun _ _ _ h => h) (Or.inl ⟨by rfl, ?_⟩) hHeld ?_
            · intro w hSw
              obtain ⟨hSw0, hSw1⟩ := hSw
              go_simp
            try simp only [Act.put, List.setIfInBounds_toArray, List.set_cons_zero, List.set_cons_succ]
            refine wpAnyH_take (i := 4) (v := .slice (some ⟨bi, oi, none⟩) n3 c3) (by simp only [List.getElem?_toArray, List.getElem?_cons_zero, List.getElem?_cons_succ]; rfl) (by kernel_rfl) (by kernel_rfl) (by kernel_rfl) (fun _ _ _ h => h) (Or.inl ⟨by rfl, ?_⟩) hHeld ?_
            · intro w hSw
              obtain ⟨hSw0, hSw1⟩ := hSw
              go_simp
            try simp only [Act.put, List.setIfInBounds_toArray, List.set_cons_zero, List.set_cons_succ]
            refine wpAnyH_take (i := 5) (v := .int .i64 (i : Int)) (by simp only [List.getElem?_toArray, List.getElem?_cons_zero, List.getElem?_cons_succ]; rfl) (by kernel_rfl) (by kernel_rfl) (by kernel_rfl) (fun _ _ _ h => h) (Or.inl ⟨by rfl, ?_⟩) hHeld ?_
            · intro w hSw
              obtain ⟨hSw0, hSw1⟩ := hSw
              go_simp
            try simp only [Act.put, List.setIfInBounds_toArray, List.set_cons_zero, List.set_cons_succ]
            refine wpAnyH_take (i := 6) (v := .pointer (some ⟨bi, oi + i, none⟩)) (by simp only [List.getElem?_toArray, List.getElem?_cons_zero, List.getElem?_cons_succ]; rfl) (by kernel_rfl) (by kernel_rfl) (by kernel_rfl) (fun _ _ _ h => h) (Or.inl ⟨by rfl, ?_⟩) hHeld ?_
            · intro w hSw
              obtain ⟨hSw0, hSw1⟩ := hSw
              go_simp
            try simp only [Act.put, List.setIfInBounds_toArray, List.set_cons_zero, List.set_cons_succ]
            refine wpAnyH_take (i := 7) (v := .int .i64 (z : Int)) (by simp only [List.getElem?_toArray, List.getElem?_cons_zero, List.getElem?_cons_succ]; rfl) (by kernel_rfl) (by kernel_rfl) (by kernel_rfl) (fun _ _ _ h => h) (Or.inl ⟨by rfl, ?_⟩) hHeld ?_
            · intro w hSw
              obtain ⟨hSw0, hSw1⟩ := hSw
              go_simp
            try simp only [Act.put, List.setIfInBounds_toArray, List.set_cons_zero, List.set_cons_succ]
            refine wpAnyH_take (i := 8) (v := .bool true) (by simp only [List.getElem?_toArray, List.getElem?_cons_zero, List.getElem?_cons_succ]; rfl) (by kernel_rfl) (by kernel_rfl) (by kernel_rfl) (fun _ _ _ h => h) (Or.inl ⟨by rfl, ?_⟩) hHeld ?_
            · intro w hSw
              obtain ⟨hSw0, hSw1⟩ := hSw
              go_simp
              exact HCE.out
            try simp only [Act.put, List.setIfInBounds_toArray, List.set_cons_zero, List.set_cons_succ]
            refine wpAnyH_done (by kernel_rfl) (NoPanic.normal ?_) _
            clear hHeld
            go_wp2_with fail
            go_ret
            exact ⟨rfl, (HBW.out _ (HCJ.out _ HBd.out).2.2).1⟩
          · have HCE : Hid (¬ (zj : Int) = z) := ce
            have HNX : Hid (∀ q, q < j + 1 → wh.getD q 0 ≠ z) := fun q h => by
              by_cases e : q = j
              · rw [e, HZJ.out]; exact HCE.out
              · exact HJ.out q (by omega)
            clear ce
            go_upto_region 16 with fail
            try simp only [Act.put, List.setIfInBounds_toArray, List.set_cons_zero, List.set_cons_succ]
            refine wp_region_noPanic ?_
            refine wp_region_held_drew (S := fun wx => wx.cell? ⟨bi, oi + j, none⟩ = some (.int .i64 (zj : Int)) ∧ wx.cell? ⟨bi, oi + i, none⟩ = some (.int .i64 (z : Int))) (by kernel_rfl) ⟨(HCJ.out _ (below_drewN wr 1)).1, (HCJ.out _ (below_drewN wr 1)).2.1⟩ (fun hHeld => ?_)
            try simp only [Act.put, List.setIfInBounds_toArray, List.set_cons_zero, List.set_cons_succ]
            have HBd : Hid (Below wr.heap.size wr wr.drew) := below_drewN wr 1
            generalize wr.drew = wd at *
            refine wpAnyH_take (i := 0) (v := .slice (some ⟨bi, oi, none⟩) n3 c3) (by simp only [List.getElem?_toArray, List.getElem?_cons_zero, List.getElem?_cons_succ]; rfl) (by kernel_rfl) (by kernel_rfl) (by kernel_rfl) (fun _ _ _ h => h) (Or.inl ⟨by rfl, ?_⟩) hHeld ?_
            · intro w hSw
              obtain ⟨hSw0, hSw1⟩ := hSw
              go_simp
            try simp only [Act.put, List.setIfInBounds_toArray, List.set_cons_zero, List.set_cons_succ]
            refine wpAnyH_take (i := 1) (v := .int .i64 (j : Int)) (by simp only [List.getElem?_toArray, List.getElem?_cons_zero, List.getElem?_cons_succ]; rfl) (by kernel_rfl) (by kernel_rfl) (by kernel_rfl) (fun _ _ _ h => h) (Or.inl ⟨by rfl, ?_⟩) hHeld ?_
            · intro w hSw
              obtain ⟨hSw0, hSw1⟩ := hSw
              go_simp
            try simp only [Act.put, List.setIfInBounds_toArray, List.set_cons_zero, List.set_cons_succ]
            refine wpAnyH_take (i := 2) (v := .pointer (some ⟨bi, oi + j, none⟩)) (by simp only [List.getElem?_toArray, List.getElem?_cons_zero, List.getElem?_cons_succ]; rfl) (by kernel_rfl) (by kernel_rfl) (by kernel_rfl) (fun _ _ _ h => h) (Or.inl ⟨by rfl, ?_⟩) hHeld ?_
            · intro w hSw
              obtain ⟨hSw0, hSw1⟩ := hSw
              go_simp
            try simp only [Act.put, List.setIfInBounds_toArray, List.set_cons_zero, List.set_cons_succ]
            refine wpAnyH_take (i := 3) (v := .int .i64 (zj : Int)) (by simp only [List.getElem?_toArray, List.getElem?_cons_zero, List.getElem?_cons_succ]; rfl) (by kernel_rfl) (by kernel_rfl) (by kernel_rfl) (fun _ _ _ h => h) (Or.inl ⟨by rfl, ?_⟩) hHeld ?_
            · intro w hSw
              obtain ⟨hSw0, hSw1⟩ := hSw
              go_simp
            try simp only [Act.put, List.setIfInBounds_toArray, List.set_cons_zero, List.set_cons_succ]
            refine wpAnyH_take (i := 4) (v := .slice (some ⟨bi, oi, none⟩) n3 c3) (by simp only [List.getElem?_toArray, List.getElem?_cons_zero, List.getElem?_cons_succ]; rfl) (by kernel_rfl) (by kernel_rfl) (by kernel_rfl) (fun _ _ _ h => h) (Or.inl ⟨by rfl, ?_⟩) hHeld ?_
            · intro w hSw
              obtain ⟨hSw0, hSw1⟩ := hSw
              go_simp
            try simp only [Act.put, List.setIfInBounds_toArray, List.set_cons_zero, List.set_cons_succ]
            refine wpAnyH_take (i := 5) (v := .int .i64 (i : Int)) (by simp only [List.getElem?_toArray, List.getElem?_cons_zero, List.getElem?_cons_succ]; rfl) (by kernel_rfl) (by kernel_rfl) (by kernel_rfl) (fun _ _ _ h => h) (Or.inl ⟨by rfl, ?_⟩) hHeld ?_
            · intro w hSw
              obtain ⟨hSw0, hSw1⟩ := hSw
              go_simp
            try simp only [Act.put, List.setIfInBounds_toArray, List.set_cons_zero, List.set_cons_succ]
            refine wpAnyH_take (i := 6) (v := .pointer (some ⟨bi, oi + i, none⟩)) (by simp only [List.getElem?_toArray, List.getElem?_cons_zero, List.getElem?_cons_succ]; rfl) (by kernel_rfl) (by kernel_rfl) (by kernel_rfl) (fun _ _ _ h => h) (Or.inl ⟨by rfl, ?_⟩) hHeld ?_
            · intro w hSw
              obtain ⟨hSw0, hSw1⟩ := hSw
              go_simp
            try simp only [Act.put, List.setIfInBounds_toArray, List.set_cons_zero, List.set_cons_succ]
            refine wpAnyH_take (i := 7) (v := .int .i64 (z : Int)) (by simp only [List.getElem?_toArray, List.getElem?_cons_zero, List.getElem?_cons_succ]; rfl) (by kernel_rfl) (by kernel_rfl) (by kernel_rfl) (fun _ _ _ h => h) (Or.inl ⟨by rfl, ?_⟩) hHeld ?_
            · intro w hSw
              obtain ⟨hSw0, hSw1⟩ := hSw
              go_simp
            try simp only [Act.put, List.setIfInBounds_toArray, List.set_cons_zero, List.set_cons_succ]
            refine wpAnyH_take (i := 8) (v := .bool false) (by simp only [List.getElem?_toArray, List.getElem?_cons_zero, List.getElem?_cons_succ]; rfl) (by kernel_rfl) (by kernel_rfl) (by kernel_rfl) (fun _ _ _ h => h) (Or.inl ⟨by rfl, ?_⟩) hHeld ?_
            · intro w hSw
              obtain ⟨hSw0, hSw1⟩ := hSw
              go_simp
              exact HCE.out
            try simp only [Act.put, List.setIfInBounds_toArray, List.set_cons_zero, List.set_cons_succ]
            refine wpAnyH_done (by kernel_rfl) (NoPanic.normal ?_) _
            clear hHeld
            go_wp2_with fail
            go_roundw
            case rel => exact ⟨j + 1, by go_num, HJI.out, HNX.out, HB6.out.trans (HBd.out.mono HB6.out.size)⟩
            case measure => have := HJI.out; simp [intOf]; omega
        · have hji : j = i := by omega
          subst hji
          have g3 : ¬ (j : Int) < (j : Int) := by omega
          obtain ⟨M, hM⟩ : ∃ M : Nat, z = (M : Int) := ⟨z.toNat, by omega⟩
          subst hM
          have M0 : (0 : Int) ≤ (M : Int) := z0
          have M1 : (M : Int) < (N4 : Int) := z1
          have M8 : (M : Int) ≤ 255 := by omega
          obtain ⟨b, o, ha4⟩ := HSS.out.adr (by omega)
          subst ha4
          obtain ⟨ai, ni, ci, hci, hni, e9, HC⟩ := HSS.out.hrow M (by omega)
          clear e9
          have HBy : Below w5.heap.size w5 wr := by rw [HBB.out]; exact HBx.out
          obtain ⟨t, ht⟩ : ∃ t, rows.getD M [] = t := ⟨_, rfl⟩
          have HRC : Hid (∀ wx, Below B0 w5 wx → wx.cell? ⟨b, o + M, none⟩ = some (.slice ai ni ci)) := fun wx hx => (HC wx (by rw [HBB.out]; exact hx)).1
          have HCX : Hid (∀ wx, Below wr.heap.size wr wx → wx.cell? ⟨bi, oi + j, none⟩ = some (.int .i64 (M : Int)) ∧ wx.cell? ⟨b, o + M, none⟩ = some (.slice ai ni ci)) := fun wx hx => by
            have bx : Below B0 w5 wx := HBx.out.trans (hx.mono (HBW.out _ HBx.out).2)
            exact ⟨by rw [HWC.out wx (HBW.out wx bx).1 j HI3.out, HZ.out], HRC.out _ bx⟩
          have HDH : Hid (∀ wx, Below wr.heap.size wr wx → DatH wx (M, ai, ni, ci) (M, t)) := fun wx hx => by
            have bx : Below B0 w5 wx := HBx.out.trans (hx.mono (HBW.out _ HBx.out).2)
            exact ⟨rfl, by show M < 256; omega, hci, hni, by rw [← ht]; exact (HC wx (by rw [HBB.out]; exact bx)).2⟩
          have HAP : Hid (ApartH (M, ai, ni, ci) u11.ownBlock) := by
            have d : DatH w5 (M, ai, ni, ci) (M, t) := ⟨rfl, by show M < 256; omega, hci, hni, by rw [← ht]; exact (HC w5 (Below.refl _ _)).2⟩
            rcases d.2.2.2.2.2 with h0 | ⟨b', o', e, hc'⟩
            · exact .inl h0
            · by_cases h0 : ni = 0
              · exact .inl h0
              · refine .inr fun ad e2 e3 => ?_
                rw [e] at e2
                cases e2
                have l1 := cell_block (hc' 0 (by show 0 < ni; omega))
                have l2 := (HO.out.lt _ e3).1
                have := HBB.out
                simp only at l2
                omega
          have HPS : Hid (pickR rows wh j ++ [(M, t)] = pickR rows wh (j + 1)) := by
            have e := pickR_succ rows wh j
            rw [HZ.out] at e
            rw [← ht]
            exact e
          have HPL : Hid ((pickR rows wh j).length = j) := pickR_len _ _ _
          have HOx : Hid (OwnS wr B0 u11 (pickR rows wh j)) := HO.out.below HB6.out
          have HIN2 : Hid (∀ q, q < j + 1 → 0 ≤ wh.getD q 0 ∧ wh.getD q 0 < (N4 : Int)) := fun q h => by
            by_cases e : q = j
            · rw [e, HZ.out]; exact ⟨z0, z1⟩
            · exact HIN.out q (by omega)
          have HNE2 : Hid (∀ p q, p < j + 1 → q < p → wh.getD q 0 ≠ wh.getD p 0) := fun p q h h' => by
            by_cases e : p = j
            · subst e
              rw [HZ.out]
              exact HJ.out q h'
            · exact HNE.out p q (by omega) h'
          have HBU : Hid (Try.prog.built 31 [(0, .int .u8 (M : Int)), (1, .slice ai ni ci)] = some (hdC (M, ai, ni, ci)).toArray) := by rfl
          have HWR : Hid (IntKind.u8.wrap (M : Int) = (M : Int)) := by unfold Hid; rw [IntKind.wrap_u8]; omega
          generalize pickR rows wh j = PS at *
          clear HC ht HBy HO HIN HNE HJ HB6 hci hni
          go_upto_region 18 with fail
          try simp only [Act.put, List.setIfInBounds_toArray, List.set_cons_zero, List.set_cons_succ]
          refine wp_region_noPanic ?_
          refine wp_region_held_drew (S := fun wx => wx.cell? ⟨bi, oi + j, none⟩ = some (.int .i64 (M : Int)) ∧ wx.cell? ⟨b, o + M, none⟩ = some (.slice ai ni ci)) (by kernel_rfl) (HCX.out _ (below_drewN wr 1)) (fun hHeld => ?_)
          try simp only [Act.put, List.setIfInBounds_toArray, List.set_cons_zero, List.set_cons_succ]
          have HBd : Hid (Below wr.heap.size wr wr.drew) := below_drewN wr 1
          have HOd : Hid (OwnS wr.drew B0 u11 PS) := HOx.out.below (below_drewN wr 1)
          generalize wr.drew = wd at *
          refine wpAnyH_take (i := 0) (v := u11) (by simp only [List.getElem?_toArray, List.getElem?_cons_zero, List.getElem?_cons_succ]; rfl) (by kernel_rfl) (by kernel_rfl) (by kernel_rfl) (fun _ _ _ h => h) (Or.inl ⟨by rfl, ?_⟩) hHeld ?_
          · intro w hSw
            obtain ⟨hSw0, hSw1⟩ := hSw
            go_simp
          try simp only [Act.put, List.setIfInBounds_toArray, List.set_cons_zero, List.set_cons_succ]
          refine wpAnyH_take (i := 1) (v := .slice (some ⟨bi, oi, none⟩) n3 c3) (by simp only [List.getElem?_toArray, List.getElem?_cons_zero, List.getElem?_cons_succ]; rfl) (by kernel_rfl) (by kernel_rfl) (by kernel_rfl) (fun _ _ _ h => h) (Or.inl ⟨by rfl, ?_⟩) hHeld ?_
          · intro w hSw
            obtain ⟨hSw0, hSw1⟩ := hSw
            go_simp
          try simp only [Act.put, List.setIfInBounds_toArray, List.set_cons_zero, List.set_cons_succ]
          refine wpAnyH_take (i := 2) (v := .int .i64 (j : Int)) (by simp only [List.getElem?_toArray, List.getElem?_cons_zero, List.getElem?_cons_succ]; rfl) (by kernel_rfl) (by kernel_rfl) (by kernel_rfl) (fun _ _ _ h => h) (Or.inl ⟨by rfl, ?_⟩) hHeld ?_
          · intro w hSw
            obtain ⟨hSw0, hSw1⟩ := hSw
            go_simp
          try simp only [Act.put, List.setIfInBounds_toArray, List.set_cons_zero, List.set_cons_succ]
          refine wpAnyH_take (i := 3) (v := .pointer (some ⟨bi, oi + j, none⟩)) (by simp only [List.getElem?_toArray, List.getElem?_cons_zero, List.getElem?_cons_succ]; rfl) (by kernel_rfl) (by kernel_rfl) (by kernel_rfl) (fun _ _ _ h => h) (Or.inl ⟨by rfl, ?_⟩) hHeld ?_
          · intro w hSw
            obtain ⟨hSw0, hSw1⟩ := hSw
            go_simp
          try simp only [Act.put, List.setIfInBounds_toArray, List.set_cons_zero, List.set_cons_succ]
          refine wpAnyH_take (i := 4) (v := .int .i64 (M : Int)) (by simp only [List.getElem?_toArray, List.getElem?_cons_zero, List.getElem?_cons_succ]; rfl) (by kernel_rfl) (by kernel_rfl) (by kernel_rfl) (fun _ _ _ h => h) (Or.inl ⟨by rfl, ?_⟩) hHeld ?_
          · intro w hSw
            obtain ⟨hSw0, hSw1⟩ := hSw
            go_simp
          try simp only [Act.put, List.setIfInBounds_toArray, List.set_cons_zero, List.set_cons_succ]
          refine wpAnyH_take (i := 5) (v := .int .u8 (M : Int)) (by simp only [List.getElem?_toArray, List.getElem?_cons_zero, List.getElem?_cons_succ]; rfl) (by kernel_rfl) (by kernel_rfl) (by kernel_rfl) (fun _ _ _ h => h) (Or.inl ⟨by rfl, ?_⟩) hHeld ?_
          · intro w hSw
            obtain ⟨hSw0, hSw1⟩ := hSw
            go_simp
            exact HWR.out
          try simp only [Act.put, List.setIfInBounds_toArray, List.set_cons_zero, List.set_cons_succ]
          refine wpAnyH_take (i := 6) (v := .slice (some ⟨b, o, none⟩) N4 c4) (by simp only [List.getElem?_toArray, List.getElem?_cons_zero, List.getElem?_cons_succ]; rfl) (by kernel_rfl) (by kernel_rfl) (by kernel_rfl) (fun _ _ _ h => h) (Or.inl ⟨by rfl, ?_⟩) hHeld ?_
          · intro w hSw
            obtain ⟨hSw0, hSw1⟩ := hSw
            go_simp
          try simp only [Act.put, List.setIfInBounds_toArray, List.set_cons_zero, List.set_cons_succ]
          refine wpAnyH_take (i := 7) (v := .slice (some ⟨bi, oi, none⟩) n3 c3) (by simp only [List.getElem?_toArray, List.getElem?_cons_zero, List.getElem?_cons_succ]; rfl) (by kernel_rfl) (by kernel_rfl) (by kernel_rfl) (fun _ _ _ h => h) (Or.inl ⟨by rfl, ?_⟩) hHeld ?_
          · intro w hSw
            obtain ⟨hSw0, hSw1⟩ := hSw
            go_simp
          try simp only [Act.put, List.setIfInBounds_toArray, List.set_cons_zero, List.set_cons_succ]
          refine wpAnyH_take (i := 8) (v := .int .i64 (j : Int)) (by simp only [List.getElem?_toArray, List.getElem?_cons_zero, List.getElem?_cons_succ]; rfl) (by kernel_rfl) (by kernel_rfl) (by kernel_rfl) (fun _ _ _ h => h) (Or.inl ⟨by rfl, ?_⟩) hHeld ?_
          · intro w hSw
            obtain ⟨hSw0, hSw1⟩ := hSw
            go_simp
          try simp only [Act.put, List.setIfInBounds_toArray, List.set_cons_zero, List.set_cons_succ]
          refine wpAnyH_take (i := 9) (v := .pointer (some ⟨bi, oi + j, none⟩)) (by simp only [List.getElem?_toArray, List.getElem?_cons_zero, List.getElem?_cons_succ]; rfl) (by kernel_rfl) (by kernel_rfl) (by kernel_rfl) (fun _ _ _ h => h) (Or.inl ⟨by rfl, ?_⟩) hHeld ?_
          · intro w hSw
            obtain ⟨hSw0, hSw1⟩ := hSw
            go_simp
          try simp only [Act.put, List.setIfInBounds_toArray, List.set_cons_zero, List.set_cons_succ]
          refine wpAnyH_take (i := 10) (v := .int .i64 (M : Int)) (by simp only [List.getElem?_toArray, List.getElem?_cons_zero, List.getElem?_cons_succ]; rfl) (by kernel_rfl) (by kernel_rfl) (by kernel_rfl) (fun _ _ _ h => h) (Or.inl ⟨by rfl, ?_⟩) hHeld ?_
          · intro w hSw
            obtain ⟨hSw0, hSw1⟩ := hSw
            go_simp
          try simp only [Act.put, List.setIfInBounds_toArray, List.set_cons_zero, List.set_cons_succ]
          refine wpAnyH_take (i := 11) (v := .pointer (some ⟨b, o + M, none⟩)) (by simp only [List.getElem?_toArray, List.getElem?_cons_zero, List.getElem?_cons_succ]; rfl) (by kernel_rfl) (by kernel_rfl) (by kernel_rfl) (fun _ _ _ h => h) (Or.inl ⟨by rfl, ?_⟩) hHeld ?_
          · intro w hSw
            obtain ⟨hSw0, hSw1⟩ := hSw
            go_simp
          try simp only [Act.put, List.setIfInBounds_toArray, List.set_cons_zero, List.set_cons_succ]
          refine wpAnyH_take (i := 12) (v := .slice ai ni ci) (by simp only [List.getElem?_toArray, List.getElem?_cons_zero, List.getElem?_cons_succ]; rfl) (by kernel_rfl) (by kernel_rfl) (by kernel_rfl) (fun _ _ _ h => h) (Or.inl ⟨by rfl, ?_⟩) hHeld ?_
          · intro w hSw
            obtain ⟨hSw0, hSw1⟩ := hSw
            go_simp
          try simp only [Act.put, List.setIfInBounds_toArray, List.set_cons_zero, List.set_cons_succ]
          refine wpAnyH_take (i := 13) (v := hdV (M, ai, ni, ci)) (by simp only [List.getElem?_toArray, List.getElem?_cons_zero, List.getElem?_cons_succ]; rfl) (by kernel_rfl) (by kernel_rfl) (by kernel_rfl) (fun _ _ _ h => h) (Or.inl ⟨by rfl, ?_⟩) hHeld ?_
          · intro w hSw
            obtain ⟨hSw0, hSw1⟩ := hSw
            go_simp
            rfl
          try simp only [Act.put, List.setIfInBounds_toArray, List.set_cons_zero, List.set_cons_succ]
          refine wpAnyH_ready (rs := [14]) (by kernel_rfl) (by simp) ?_
          refine AllReadyH.cons (by simp only [List.getElem?_toArray, List.getElem?_cons_zero, List.getElem?_cons_succ]; rfl) (fun K hK => ?_) AllReadyH.nil
          rw [if_pos (by rfl)]
          refine wp_buildSh1 (.tmp 91) rfl (M, ai, ni, ci) rfl ?_
          have HBe : Hid (Below wr.heap.size wr (wd.alloc (.cells (hdC (M, ai, ni, ci)).toArray 31))) := HBd.out.alloc HBd.out.size _
          have HOe : Hid (OwnS (wd.alloc (.cells (hdC (M, ai, ni, ci)).toArray 31)) B0 u11 PS) := OwnS.alloc HOd.out _
          have HLe : Hid (∀ j u, (hdC (M, ai, ni, ci))[j]? = some u → (wd.alloc (.cells (hdC (M, ai, ni, ci)).toArray 31)).cell? ⟨wd.heap.size, 0 + j, none⟩ = some u) := lit_cells wd (M, ai, ni, ci) _
          refine hK.out _ _ (HCX.out _ HBe.out) (fun hHeld => ?_)
          generalize wd.alloc (.cells (hdC (M, ai, ni, ci)).toArray 31) = we at *
          clear hK K
          try simp only [Act.put, List.setIfInBounds_toArray, List.set_cons_zero, List.set_cons_succ]
          refine wpAnyH_ready (rs := [15]) (by kernel_rfl) (by simp) ?_
          refine AllReadyH.cons (by simp only [List.getElem?_toArray, List.getElem?_cons_zero, List.getElem?_cons_succ]; rfl) (fun K hK => ?_) AllReadyH.nil
          rw [if_pos (by rfl)]
          refine wp_appendSh (.tmp 78) (.tmp 92) rfl B0 u11 PS rfl HOe.out wd.heap.size 0 1 (M, ai, ni, ci) (M, t) rfl HLe.out (HDH.out _ HBe.out) HAP.out (by rw [HPL.out]; have := HI3.out; omega) (by have := (HBW.out _ HBx.out).2; have := HBe.out.size; omega) ?_
          intro v7 w7 ho7 hg7 ha7
          have HO7 : Hid (OwnS w7 B0 v7 (PS ++ [(M, t)])) := ho7
          have HB7 : Hid (Below B0 w5 w7) := OwnS.grown HOe.out (HBx.out.trans (HBe.out.mono (HBW.out _ HBx.out).2)) hg7 (Nat.le_refl _) (by have := (HBW.out _ HBx.out).2; have := HBe.out.size; omega)
          have HKR : Hid (wr.cell? ⟨b, o + M, none⟩ = some (.slice ai ni ci)) := (HCX.out wr (Below.refl _ _)).2
          refine hK.out _ _ ⟨by rw [HWC.out _ (HBW.out _ HB7.out).1 j HI3.out, HZ.out], (HRC.out _ HB7.out)⟩ (fun hHeld => ?_)
          clear ho7 hg7 ha7
          clear hK K
          try simp only [Act.put, List.setIfInBounds_toArray, List.set_cons_zero, List.set_cons_succ]
          refine wpAnyH_take (i := 16) (v := v7) (by simp only [List.getElem?_toArray, List.getElem?_cons_zero, List.getElem?_cons_succ]; rfl) (by kernel_rfl) (by kernel_rfl) (by kernel_rfl) (fun _ _ _ h => h) (Or.inl ⟨by rfl, ?_⟩) hHeld ?_
          · intro w hSw
            obtain ⟨hSw0, hSw1⟩ := hSw
            go_simp
          try simp only [Act.put, List.setIfInBounds_toArray, List.set_cons_zero, List.set_cons_succ]
          refine wpAnyH_done (by kernel_rfl) (NoPanic.normal ?_) _
          clear hHeld
          clear HOx HDH HAP HCX HRC HOd HOe HLe HBe HKR
          go_wp2_with fail
          have q7 : OwnS w7 B0 v7 (pickR rows wh (j + 1)) := by rw [← HPS.out]; exact HO7.out
          have hi3 := HI3.out
          refine ⟨⟨u6, v7, .int .i64 ((j + 1 : Nat) : Int), ⟨j + 1, rfl, by omega, q7, HIN2.out, HNE2.out⟩, rfl, rfl, by go_num⟩, ?_⟩
          simp [intOf]
          omega
    · have hin : i = n := by omega
      subst hin
      have g3 : ¬ (i : Int) < (i : Int) := by omega
      obtain ⟨a6, c6, hu, r6, hc6⟩ := HO.out.form
      rw [pickR_len] at hu r6 hc6
      subst hu
      have HR6 : Hid (SRow wr a6 i (pickR rows wh i)) := r6
      have hall := pickR_all (rows := rows) (N := N4) (n := i) (l := wh) HIN.out HNE.out
      have HGE : Hid (gatherE (pickR rows wh i) (i : Int) = 0) := gatherE_none (F := (ls.getD 0 []).length) (by omega) (by omega) (pickR_len _ _ _) (fun s hs => ⟨by have := (hall.1 s hs).1; omega, by rw [(hall.1 s hs).2]; exact spread_len (by rw [HLS.out]; omega) HSAME.out HSP.out _ (hall.1 s hs).1⟩) hall.2
      have HREED : Hid (∀ got, gatherP (pickR rows wh i) i got → got = ls) := fun got hg => reed (N := N4) (rows := rows) (by rw [HLS.out]; omega) hN20 (by rw [HLS.out]; omega) HSAME.out HSP.out (by rw [pickR_len, HLS.out]) hall.1 hall.2 (by rw [HLS.out]; exact hg)
      have HBx : Hid (Below w.heap.size w wr) := (HBW.out wr HB.out).1
      clear r6 hall HO HIN HNE HB hlt
      go_wp2_with fail
      refine (wcode_gather a6 i c6 i (pickR rows wh i) wr (HALL.out _ HBx.out).1 HR6.out hc6 (by omega) HGE.out).mono ?_
      rintro r w8 ⟨⟨a8, c8, got, rfl, hc8, r8, j8⟩, hb8⟩
      have hl8 := HREED.out got j8
      subst hl8
      have HB8 : Hid (Below w.heap.size w w8) := HBx.out.trans (hb8.mono HBx.out.size)
      have HR8 : Hid (BRowsB w8 a8 i got) := r8
      clear hb8 HR6 HGE HREED HBx r8 j8
      go_wp2_with fail
      refine (rows_same a8 i c8 got a i c got w8 HR8.out (HALL.out _ HB8.out).2.1 hc8 hc (by omega)).mono ?_
      rintro r w9 ⟨rfl, hb9⟩
      have HB9 : Hid (Below w.heap.size w w9) := HB8.out.trans (hb9.mono HB8.out.size)
      rw [show decide (got = got) = true from decide_eq_true rfl]
      clear hb9
      go_wp2_with fail
      go_ret
      exact ⟨rfl, HB9.out⟩
end Go.Proofs.Ytnffmegicgbinab
