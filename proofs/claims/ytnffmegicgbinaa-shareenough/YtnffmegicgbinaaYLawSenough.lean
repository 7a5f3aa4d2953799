/- The law ShareEnough: so many shares are enough. -/
import Derived.Test.YtnffmegicgbinaaJ14
import Derived.Deep.DeepCutAuto
namespace Go.Proofs.Ytnffmegicgbinaa
open Go.RowKit
set_option linter.unusedVariables false
set_option linter.unusedSimpArgs false

set_option maxRecDepth 100000 in
set_option maxHeartbeats 2000000 in
theorem senough_walk (a1 : Option Addr) (m c1 : Nat) (secret : List UInt8) (n : Int) (a2 : Option Addr) (n2 c2 : Nat) (ls : List (List UInt8)) (a3 : Option Addr) (n3 c3 : Nat) (wh : List Int) (w : World) (G : Env w)
    (R1 : Row w a1 m secret) (h1 : m ≤ c1) (hm : m ≤ 140737488351232) (k1 : -9223372036854775808 ≤ n) (k2 : n ≤ 9223372036854775807) (R2 : BRowsB w a2 n2 ls) (h2 : n2 ≤ c2) (hn2 : 24 * n2 ≤ 140737488351232) (R3 : IRow w a3 n3 wh) (h3 : n3 ≤ c3) (hn3 : 8 * n3 ≤ 140737488351232) (hb : ∀ i, i < n3 → -9223372036854775808 ≤ wh.getD i 0 ∧ wh.getD i 0 ≤ 9223372036854775807) :
    Calls Try.prog 3 #[.slice a1 m c1, .int .i64 n, .slice a2 n2 c2, .slice a3 n3 c3] w fun r w' => r = .returned (.bool true) ∧ Below w.heap.size w w' := by
  have HALL : Hid (∀ wx, Below w.heap.size w wx → Env wx ∧ Row wx a1 m secret ∧ BRowsB wx a2 n2 ls ∧ IRow wx a3 n3 wh) := fun wx hx => ⟨G.below hx, R1.below hx, R2.below hx, R3.below hx⟩
  have HB0 : Hid (Below w.heap.size w w) := Below.refl _ _
  have HLS : Hid (ls.length = n2 ∧ secret.length = m) := ⟨R2.1.1, R1.1⟩
  have HBD : Hid (∀ i, i < n3 → -9223372036854775808 ≤ wh.getD i 0 ∧ wh.getD i 0 ≤ 9223372036854775807) := hb
  clear G R1 R2 R3 hb
  go_enter Try.func3, Try.ntmps3
  go_wp2_with fail
  refine (lsplit_any w (HALL.out _ HB0.out).1).mono ?_
  rintro r w1 ⟨rfl, hb1⟩
  have HB1 : Hid (Below w.heap.size w w1) := hb1
  clear hb1 HB0
  go_wp2_with fail
  by_cases he : splitE m n ls = 0
  rotate_left
  · refine (wshare_splitout a1 m c1 secret n a2 n2 c2 ls (splitE m n ls) w1 (HALL.out _ HB1.out).1 (HALL.out _ HB1.out).2.1 h1 hm k1 k2 (HALL.out _ HB1.out).2.2.1 h2 (by omega) rfl he).mono ?_
    rintro r w4 ⟨⟨ag, cg, rfl⟩, hb4⟩
    have HB4 : Hid (Below w.heap.size w w4) := HB1.out.trans (hb4.mono HB1.out.size)
    generalize splitE m n ls = E at *
    clear hb4 HB1 he
    go_wp2_with fail
    go_ret
    exact ⟨rfl, HB4.out⟩
  have HE : Hid (splitE m n ls = 0) := he
  obtain ⟨p1, p2, p3, p4, p5⟩ := splitE_ok he
  obtain ⟨N, hN⟩ : ∃ N : Nat, n = (N : Int) := ⟨n.toNat, by omega⟩
  subst hN
  have hN20 : N ≤ 20 := by omega
  clear he p4 p5
  refine (wshare_split a1 m c1 secret N a2 n2 c2 ls w1 (HALL.out _ HB1.out).1 (HALL.out _ HB1.out).2.1 h1 (HALL.out _ HB1.out).2.2.1 h2 HE.out).mono ?_
  rintro r w5 ⟨⟨a4, c4, rfl, hc4, r4⟩, hb5⟩
  have HB5 : Hid (Below w.heap.size w w5) := HB1.out.trans (hb5.mono HB1.out.size)
  have HSS : Hid (SRow w5 a4 N (splitL secret ls N)) := r4
  clear hb5 HB1 r4
  by_cases g1 : (n3 : Int) < (n2 : Int) + 1
  · go_wp2_with fail
    go_ret
    exact ⟨rfl, HB5.out⟩
  by_cases g2 : (20 : Int) < (n3 : Int)
  · go_wp2_with fail
    go_ret
    exact ⟨rfl, HB5.out⟩
  have hn31 : n2 + 1 ≤ n3 := by omega
  have hn320 : n3 ≤ 20 := by omega
  obtain ⟨bi, oi, ha3⟩ : ∃ bi oi, a3 = some ⟨bi, oi, none⟩ := by
    rcases (HALL.out _ HB5.out).2.2.2.2 with h0 | ⟨b, o, e, _⟩
    · omega
    · exact ⟨b, o, e⟩
  subst ha3
  have HWC : Hid (∀ wx, Below w.heap.size w wx → ∀ i, i < n3 → wx.cell? ⟨bi, oi + i, none⟩ = some (.int .i64 (wh.getD i 0))) := fun wx hx i hi => by
    rcases (HALL.out _ hx).2.2.2.2 with h0 | ⟨b, o, e, hc⟩
    · omega
    · cases e
      exact hc i hi
  go_wp2_with fail
  clear g1 g2
  obtain ⟨B0, hB0⟩ : ∃ B0, w5.heap.size = B0 := ⟨_, rfl⟩
  have HBB : Hid (w5.heap.size = B0) := hB0
  have H55 : Hid (Below B0 w5 w5) := Below.refl _ _
  clear hB0
  have HBW : Hid (∀ wx, Below B0 w5 wx → Below w.heap.size w wx ∧ B0 ≤ wx.heap.size) := fun wx hx => ⟨HB5.out.trans (hx.mono (by have := HB5.out.size; have := HBB.out; omega)), by have := hx.size; have := HBB.out; omega⟩
  go_loopw [12, 13] (fun v iv wr => ∃ i : Nat, iv = .int .i64 (i : Int) ∧ i ≤ n3 ∧ Hid (OwnS wr B0 v (pickS (splitL secret ls N) wh i)) ∧ Hid (∀ j, j < i → 0 ≤ wh.getD j 0 ∧ wh.getD j 0 < (N : Int)) ∧ Hid (∀ p q, p < i → q < p → wh.getD q 0 ≠ wh.getD p 0) ∧ Hid (Below B0 w5 wr)) (fun _ iv _ => n3 - (intOf iv).toNat)
  case atStart => exact ⟨0, rfl, Nat.zero_le _, OwnS.nil _ _, (fun j h => by omega), (fun p q h => by omega), H55.out⟩
  case round =>
    obtain ⟨i, rfl, hi, HO, HIN, HNE, HB⟩ := hrel
    by_cases hlt : i < n3
    · have HI3 : Hid (i < n3) := hlt
      have k0 : wr.cell? ⟨bi, oi + i, none⟩ = some (.int .i64 (wh.getD i 0)) := HWC.out wr (HBW.out wr HB.out).1 i hlt
      have q1 := (HBD.out i hlt).1
      have q2 := (HBD.out i hlt).2
      have i0 : (0 : Int) ≤ (i : Int) := by omega
      have i1 : (i : Int) < (n3 : Int) := by omega
      obtain ⟨z, hz⟩ : ∃ z, wh.getD i 0 = z := ⟨_, rfl⟩
      have HZ : Hid (wh.getD i 0 = z) := hz
      rw [hz] at k0 q1 q2
      clear hz hlt hi
      by_cases d1 : z < 0
      · go_wp2_with fail
        go_ret
        exact ⟨rfl, (HBW.out wr HB.out).1⟩
      by_cases d2 : (N : Int) ≤ z
      · go_wp2_with fail
        go_ret
        exact ⟨rfl, (HBW.out wr HB.out).1⟩
      have z0 : 0 ≤ z := by omega
      have z1 : z < (N : Int) := by omega
      go_wp2_with fail
      clear k0
      generalize wr = w6 at *
      clear wr
      have H66 : Hid (Below w6.heap.size w6 w6) := Below.refl _ _
      go_loopw [14] (fun jv wr => ∃ j : Nat, jv = .int .i64 (j : Int) ∧ j ≤ i ∧ Hid (∀ q, q < j → wh.getD q 0 ≠ z) ∧ Hid (Below w6.heap.size w6 wr)) (fun jv _ => i - (intOf jv).toNat)
      case atStart => exact ⟨0, rfl, Nat.zero_le _, (fun q h => by omega), H66.out⟩
      case round =>
        clear H66
        obtain ⟨j, rfl, hj, HJ, HB6⟩ := hrel
        have HBx : Hid (Below B0 w5 wr) := HB.out.trans (HB6.out.mono (HBW.out _ HB.out).2)
        by_cases hlj : j < i
        · have HJI : Hid (j < i) := hlj
          have j0 : (0 : Int) ≤ (j : Int) := by omega
          have j1 : (j : Int) < (n3 : Int) := by have := HI3.out; omega
          have j2 : (j : Int) < (i : Int) := by omega
          obtain ⟨zj, hzj⟩ : ∃ zj, wh.getD j 0 = zj := ⟨_, rfl⟩
          have HZJ : Hid (wh.getD j 0 = zj) := hzj
          have HCJ : Hid (∀ wx, Below wr.heap.size wr wx → wx.cell? ⟨bi, oi + j, none⟩ = some (.int .i64 zj) ∧ wx.cell? ⟨bi, oi + i, none⟩ = some (.int .i64 z) ∧ Below B0 w5 wx) := fun wx hx => by
            have b : Below B0 w5 wx := HBx.out.trans (hx.mono (HBW.out _ HBx.out).2)
            have c := HWC.out wx (HBW.out wx b).1
            have := HI3.out
            have := HJI.out
            exact ⟨by rw [c j (by omega), HZJ.out], by rw [c i (by omega), HZ.out], b⟩
          clear hzj hlj hj
          by_cases ce : zj = z
          · have e1 : (zj : Int) = z := ce
            have HCE : Hid ((zj : Int) = z) := ce
            clear ce e1
            go_upto_region 16 with fail
            try simp only [Act.put, List.setIfInBounds_toArray, List.set_cons_zero, List.set_cons_succ]
            refine wp_region_noPanic ?_
            refine wp_region_held_drew (S := fun wx => wx.cell? ⟨bi, oi + j, none⟩ = some (.int .i64 (zj : Int)) ∧ wx.cell? ⟨bi, oi + i, none⟩ = some (.int .i64 (z : Int))) (by kernel_rfl) ⟨(HCJ.out _ (below_drewN wr 1)).1, (HCJ.out _ (below_drewN wr 1)).2.1⟩ (fun hHeld => ?_)
            try simp only [Act.put, List.setIfInBounds_toArray, List.set_cons_zero, List.set_cons_succ]
            have HBd : Hid (Below wr.heap.size wr wr.drew) := below_drewN wr 1
            generalize wr.drew = wd at *
            refine wpAnyH_take (i := 0) (v := .slice (some ⟨bi, oi, none⟩) n3 c3) (by simp only [List.getElem?_toArray, List.getElem?_cons_zero, List.getElem?_cons_succ]; rfl) (by kernel_rfl) (by kernel_rfl) (by kernel_rfl) (fun _ _ _ h => h) (Or.inl ⟨by rfl, ?_⟩) hHeld ?_
            · intro w hSw
              obtain ⟨hSw0, hSw1⟩ := hSw
              go_simp
            try simp only [Act.put, List.setIfInBounds_toArray, List.set_cons_zero, List.set_cons_succ]
            refine wpAnyH_take (i := 1) (v := .int .i64 (j : Int)) (by simp only [List.getElem?_toArray, List.getElem?_cons_zero, List.getElem?_cons_succ]; rfl) (by kernel_rfl) (by kernel_rfl) (by kernel_rfl) (fun _ _ _ h => h) (Or.inl ⟨by rfl, ?_⟩) hHeld ?_
            · intro w hSw
              obtain ⟨hSw0, hSw1⟩ := hSw
              go_simp
            try simp only [Act.put, List.setIfInBounds_toArray, List.set_cons_zero, List.set_cons_succ]
            refine wpAnyH_take (i := 2) (v := .pointer (some ⟨bi, oi + j, none⟩)) (by simp only [List.getElem?_toArray, List.getElem?_cons_zero, List.getElem?_cons_succ]; rfl) (by kernel_rfl) (by kernel_rfl) (by kernel_rfl) (fun _ _ _ h => h) (Or.inl ⟨by rfl, ?_⟩) hHeld ?_
            · intro w hSw
              obtain ⟨hSw0, hSw1⟩ := hSw
              go_simp
            try simp only [Act.put, List.setIfInBounds_toArray, List.set_cons_zero, List.set_cons_succ]
            refine wpAnyH_take (i := 3) (v := .int .i64 (zj : Int)) (by simp only [List.getElem?_toArray, List.getElem?_cons_zero, List.getElem?_cons_succ]; rfl) (by kernel_rfl) (by kernel_rfl) (by kernel_rfl) (fun _ _ _ h => h) (Or.inl ⟨by rfl, ?_⟩) hHeld ?_
            · intro w hSw
              obtain ⟨hSw0, hSw1⟩ := hSw
              go_simp
            try simp only [Act.put, List.setIfInBounds_toArray, List.set_cons_zero, List.set_cons_succ]
            refine wpAnyH_take (i := 4) (v := .slice (some ⟨bi, oi, none⟩) n3 c3) (by simp only [List.getElem?_toArray, List.getElem?_cons_zero, List.getElem?_cons_succ]; rfl) (by kernel_rfl) (by kernel_rfl) (by kernel_rfl) (fun _ _ _ h => h) (Or.inl ⟨by rfl, ?_⟩) hHeld ?_
            · intro w hSw
              obtain ⟨hSw0, hSw1⟩ := hSw
              go_simp
            try simp only [Act.put, List.setIfInBounds_toArray, List.set_cons_zero, List.set_cons_succ]
            refine wpAnyH_take (i := 5) (v := .int .i64 (i : Int)) (by simp only [List.getElem?_toArray, List.getElem?_cons_zero, List.getElem?_cons_succ]; rfl) (by kernel_rfl) (by kernel_rfl) (by kernel_rfl) (fun _ _ _ h => h) (Or.inl ⟨by rfl, ?_⟩) hHeld ?_
            · intro w hSw
              obtain ⟨hSw0, hSw1⟩ := hSw
              go_simp
            try simp only [Act.put, List.setIfInBounds_toArray, List.set_cons_zero, List.set_cons_succ]
            refine wpAnyH_take (i := 6) (v := .pointer (some ⟨bi, oi + i, none⟩)) (by simp only [List.getElem?_toArray, List.getElem?_cons_zero, List.getElem?_cons_succ]; rfl) (by kernel_rfl) (by kernel_rfl) (by kernel_rfl) (fun _ _ _ h => h) (Or.inl ⟨by rfl, ?_⟩) hHeld ?_
            · intro w hSw
              obtain ⟨hSw0, hSw1⟩ := hSw
              go_simp
            try simp only [Act.put, List.setIfInBounds_toArray, List.set_cons_zero, List.set_cons_succ]
            refine wpAnyH_take (i := 7) (v := .int .i64 (z : Int)) (by simp only [List.getElem?_toArray, List.getElem?_cons_zero, List.getElem?_cons_succ]; rfl) (by kernel_rfl) (by kernel_rfl) (by kernel_rfl) (fun _ _ _ h => h) (Or.inl ⟨by rfl, ?_⟩) hHeld ?_
            · intro w hSw
              obtain ⟨hSw0, hSw1⟩ := hSw
              go_simp
            try simp only [Act.put, List.setIfInBounds_toArray, List.set_cons_zero, List.set_cons_succ]
            refine wpAnyH_take (i := 8) (v := .bool true) (by simp only [List.getElem?_toArray, List.getElem?_cons_zero, List.getElem?_cons_succ]; rfl) (by kernel_rfl) (by kernel_rfl) (by kernel_rfl) (fun _ _ _ h => h) (Or.inl ⟨by rfl, ?_⟩) hHeld ?_
            · intro w hSw
              obtain ⟨hSw0, hSw1⟩ := hSw
              go_simp
              exact HCE.out
            try simp only [Act.put, List.setIfInBounds_toArray, List.set_cons_zero, List.set_cons_succ]
            refine wpAnyH_done (by kernel_rfl) (NoPanic.normal ?_) _
            clear hHeld
            go_wp2_with fail
            go_ret
            exact ⟨rfl, (HBW.out _ (HCJ.out _ HBd.out).2.2).1⟩
          · have HCE : Hid (¬ (zj : Int) = z) := ce
            have HNX : Hid (∀ q, q < j + 1 → wh.getD q 0 ≠ z) := fun q h => by
              by_cases e : q = j
              · rw [e, HZJ.out]; exact HCE.out
              · exact HJ.out q (by omega)
            clear ce
            go_upto_region 16 with fail
            try simp only [Act.put, List.setIfInBounds_toArray, List.set_cons_zero, List.set_cons_succ]
            refine wp_region_noPanic ?_
            refine wp_region_held_drew (S := fun wx => wx.cell? ⟨bi, oi + j, none⟩ = some (.int .i64 (zj : Int)) ∧ wx.cell? ⟨bi, oi + i, none⟩ = some (.int .i64 (z : Int))) (by kernel_rfl) ⟨(HCJ.out _ (below_drewN wr 1)).1, (HCJ.out _ (below_drewN wr 1)).2.1⟩ (fun hHeld => ?_)
            try simp only [Act.put, List.setIfInBounds_toArray, List.set_cons_zero, List.set_cons_succ]
            have HBd : Hid (Below wr.heap.size wr wr.drew) := below_drewN wr 1
            generalize wr.drew = wd at *
            refine wpAnyH_take (i := 0) (v := .slice (some ⟨bi, oi, none⟩) n3 c3) (by simp only [List.getElem?_toArray, List.getElem?_cons_zero, List.getElem?_cons_succ]; rfl) (by kernel_rfl) (by kernel_rfl) (by kernel_rfl) (fun _ _ _ h => h) (Or.inl ⟨by rfl, ?_⟩) hHeld ?_
            · intro w hSw
              obtain ⟨hSw0, hSw1⟩ := hSw
              go_simp
            try simp only [Act.put, List.setIfInBounds_toArray, List.set_cons_zero, List.set_cons_succ]
            refine wpAnyH_take (i := 1) (v := .int .i64 (j : Int)) (by simp only [List.getElem?_toArray, List.getElem?_cons_zero, List.getElem?_cons_succ]; rfl) (by kernel_rfl) (by kernel_rfl) (by kernel_rfl) (fun _ _ _ h => h) (Or.inl ⟨by rfl, ?_⟩) hHeld ?_
            · intro w hSw
              obtain ⟨hSw0, hSw1⟩ := hSw
              go_simp
            try simp only [Act.put, List.setIfInBounds_toArray, List.set_cons_zero, List.set_cons_succ]
            refine wpAnyH_take (i := 2) (v := .pointer (some ⟨bi, oi + j, none⟩)) (by simp only [List.getElem?_toArray, List.getElem?_cons_zero, List.getElem?_cons_succ]; rfl) (by kernel_rfl) (by kernel_rfl) (by kernel_rfl) (fun _ _ _ h => h) (Or.inl ⟨by rfl, ?_⟩) hHeld ?_
            · intro w hSw
              obtain ⟨hSw0, hSw1⟩ := hSw
              go_simp
            try simp only [Act.put, List.setIfInBounds_toArray, List.set_cons_zero, List.set_cons_succ]
            refine wpAnyH_take (i := 3) (v := .int .i64 (zj : Int)) (by simp only [List.getElem?_toArray, List.getElem?_cons_zero, List.getElem?_cons_succ]; rfl) (by kernel_rfl) (by kernel_rfl) (by kernel_rfl) (fun _ _ _ h => h) (Or.inl ⟨by rfl, ?_⟩) hHeld ?_
            · intro w hSw
              obtain ⟨hSw0, hSw1⟩ := hSw
              go_simp
            try simp only [Act.put, List.setIfInBounds_toArray, List.set_cons_zero, List.set_cons_succ]
            refine wpAnyH_take (i := 4) (v := .slice (some ⟨bi, oi, none⟩) n3 c3) (by simp only [List.getElem?_toArray, List.getElem?_cons_zero, List.getElem?_cons_succ]; rfl) (by kernel_rfl) (by kernel_rfl) (by kernel_rfl) (fun _ _ _ h => h) (Or.inl ⟨by rfl, ?_⟩) hHeld ?_
            · intro w hSw
              obtain ⟨hSw0, hSw1⟩ := hSw
              go_simp
            try simp only [Act.put, List.setIfInBounds_toArray, List.set_cons_zero, List.set_cons_succ]
            refine wpAnyH_take (i := 5) (v := .int .i64 (i : Int)) (by simp only [List.getElem?_toArray, List.getElem?_cons_zero, List.getElem?_cons_succ]; rfl) (by kernel_rfl) (by kernel_rfl) (by kernel_rfl) (fun _ _ _ h => h) (Or.inl ⟨by rfl, ?_⟩) hHeld ?_
            · intro w hSw
              obtain ⟨hSw0, hSw1⟩ := hSw
              go_simp
            try simp only [Act.put, List.setIfInBounds_toArray, List.set_cons_zero, List.set_cons_succ]
            refine wpAnyH_take (i := 6) (v := .pointer (some ⟨bi, oi + i, none⟩)) (by simp only [List.getElem?_toArray, List.getElem?_cons_zero, List.getElem?_cons_succ]; rfl) (by kernel_rfl) (by kernel_rfl) (by kernel_rfl) (fun _ _ _ h => h) (Or.inl ⟨by rfl, ?_⟩) hHeld ?_
            · intro w hSw
              obtain ⟨hSw0, hSw1⟩ := hSw
              go_simp
            try simp only [Act.put, List.setIfInBounds_toArray, List.set_cons_zero, List.set_cons_succ]
            refine wpAnyH_take (i := 7) (v := .int .i64 (z : Int)) (by simp only [List.getElem?_toArray, List.getElem?_cons_zero, List.getElem?_cons_succ]; rfl) (by kernel_rfl) (by kernel_rfl) (by kernel_rfl) (fun _ _ _ h => h) (Or.inl ⟨by rfl, ?_⟩) hHeld ?_
            · intro w hSw
              obtain ⟨hSw0, hSw1⟩ := hSw
              go_simp
            try simp only [Act.put, List.setIfInBounds_toArray, List.set_cons_zero, List.set_cons_succ]
            refine wpAnyH_take (i := 8) (v := .bool false) (by simp only [List.getElem?_toArray, List.getElem?_cons_zero, List.getElem?_cons_succ]; rfl) (by kernel_rfl) (by kernel_rfl) (by kernel_rfl) (fun _ _ _ h => h) (Or.inl ⟨by rfl, ?_⟩) hHeld ?_
            · intro w hSw
              obtain ⟨hSw0, hSw1⟩ := hSw
              go_simp
              exact HCE.out
            try simp only [Act.put, List.setIfInBounds_toArray, List.set_cons_zero, List.set_cons_succ]
            refine wpAnyH_done (by kernel_rfl) (NoPanic.normal ?_) _
            clear hHeld
            go_wp2_with fail
            go_roundw
            case rel => exact ⟨j + 1, by go_num, HJI.out, HNX.out, HB6.out.trans (HBd.out.mono HB6.out.size)⟩
            case measure => have := HJI.out; simp [intOf]; omega
        · have hji : j = i := by omega
          subst hji
          have g3 : ¬ (j : Int) < (j : Int) := by omega
          obtain ⟨M, hM⟩ : ∃ M : Nat, z = (M : Int) := ⟨z.toNat, by omega⟩
          subst hM
          have M1 : (M : Int) < (N : Int) := z1
          have k0 : wr.cell? ⟨bi, oi + j, none⟩ = some (.int .i64 (M : Int)) := by rw [HWC.out wr (HBW.out wr HBx.out).1 j HI3.out, HZ.out]
          obtain ⟨b, o, ha4⟩ := HSS.out.addr (by omega)
          subst ha4
          obtain ⟨ai, ni, ci, hni, hp8, hnc, HC⟩ := HSS.out.head M (by omega)
          have HBy : Below w5.heap.size w5 wr := by rw [HBB.out]; exact HBx.out
          have hp := HC w5 (Below.refl _ _)
          have hq := HC wr HBy
          obtain ⟨t, ht⟩ : ∃ t, (splitL secret ls N).getD M noS = t := ⟨_, rfl⟩
          rw [ht] at hp hq hp8
          have HDR : Hid (wr.rangeAt b (o + M * 2) (hdC (t.1, ai, ni, ci))) := fun x v hx => by
            match x, hx with
            | 0, hx => rw [← hx]; exact hq.1
            | 1, hx => rw [← hx]; exact hq.2.1
          have HDH : Hid (DatH wr (t.1, ai, ni, ci) t) := ⟨rfl, hp8, hnc, hni, hq.2.2⟩
          have HAP : Hid (ApartH (t.1, ai, ni, ci) u12.ownBlock) := by
            have d : DatH w5 (t.1, ai, ni, ci) t := ⟨rfl, hp8, hnc, hni, hp.2.2⟩
            rcases d.2.2.2.2.2 with h0 | ⟨b', o', e, hc'⟩
            · exact .inl h0
            · by_cases h0 : ni = 0
              · exact .inl h0
              · refine .inr fun ad e2 e3 => ?_
                rw [e] at e2
                cases e2
                have l1 := cell_block (hc' 0 (by show 0 < ni; omega))
                have l2 := (HO.out.lt _ e3).1
                have := HBB.out
                simp only at l2
                omega
          have HPS : Hid (pickS (splitL secret ls N) wh j ++ [t] = pickS (splitL secret ls N) wh (j + 1)) := by
            rw [pickS_succ, HZ.out, ← ht]
            rfl
          have HPL : Hid ((pickS (splitL secret ls N) wh j).length = j) := pickS_len _ _ _
          have HOx : Hid (OwnS wr B0 u12 (pickS (splitL secret ls N) wh j)) := HO.out.below HB6.out
          have HIN2 : Hid (∀ q, q < j + 1 → 0 ≤ wh.getD q 0 ∧ wh.getD q 0 < (N : Int)) := fun q h => by
            by_cases e : q = j
            · rw [e, HZ.out]; exact ⟨z0, z1⟩
            · exact HIN.out q (by omega)
          have HNE2 : Hid (∀ p q, p < j + 1 → q < p → wh.getD q 0 ≠ wh.getD p 0) := fun p q h h' => by
            by_cases e : p = j
            · subst e
              rw [HZ.out]
              exact HJ.out q h'
            · exact HNE.out p q (by omega) h'
          generalize pickS (splitL secret ls N) wh j = PS at *
          clear HC hp hq ht hp8 HBy HO HIN HNE HJ HB6
          go_wp2_with (first
            | (refine wpList_loadSh (by rfl) (.tmp 82) (by rfl) b (o + M * 2) (t.1, ai, ni, ci) (by rfl) HDR.out ?_)
            | (refine wpList_buildSh (by rfl) (.tmp 83) (by rfl) (t.1, ai, ni, ci) (by rfl) ?_)
            | (at_builtin; refine wpList_append_share (by rfl) (.tmp 76) (.tmp 84) (by rfl) B0 u12 PS (by rfl) (OwnS.alloc HOx.out _) wr.heap.size 0 1 (t.1, ai, ni, ci) t (by rfl) (lit_cells wr (t.1, ai, ni, ci) _) (HDH.out.below ((Below.refl _ _).alloc (Nat.le_refl _) _)) HAP.out (by rw [HPL.out]; have := HI3.out; omega) (by have := (HBW.out _ HBx.out).2; simp; omega) ?_; intro v7 w7 ho7 hg7 ha7))
          have q7 : OwnS w7 B0 v7 (pickS (splitL secret ls N) wh (j + 1)) := by rw [← HPS.out]; exact ho7
          have B7 := OwnS.grown (OwnS.alloc HOx.out _) (HBx.out.alloc (HBW.out _ HBx.out).2 _) hg7 (Nat.le_refl _) (by have := (HBW.out _ HBx.out).2; simp; omega)
          have hi3 := HI3.out
          go_roundw
          case rel => exact ⟨j + 1, by go_num, by omega, q7, HIN2.out, HNE2.out, B7⟩
          case measure => simp [intOf]; omega
    · have hin : i = n3 := by omega
      subst hin
      have g3 : ¬ (i : Int) < (i : Int) := by omega
      obtain ⟨a6, c6, hu, r6, hc6⟩ := HO.out.form
      rw [pickS_len] at hu r6 hc6
      subst hu
      have HR6 : Hid (SRow wr a6 i (pickS (splitL secret ls N) wh i)) := r6
      have hall := pickS_all (secret := secret) (ls := ls) (N := N) (n := i) (l := wh) hN20 HIN.out HNE.out
      have HJE : Hid (joinE (pickS (splitL secret ls N) wh i) = 0) := joinE_none (F := m) (by rw [pickS_len]; omega) (by rw [pickS_len]; exact hn320) (fun s hs => ⟨⟨(hall.1 s hs).1.1, by have := (hall.1 s hs).1.2; omega⟩, by rw [(hall.1 s hs).2]; show (dataS _ _ _ _).length = m; rw [dataS_length]; exact HLS.out.2⟩) hall.2
      have HEN : Hid (∀ l, joinedP (pickS (splitL secret ls N) wh i) 0 l → l = secret) := fun l hl => enough (fun s hs => ⟨by have := (hall.1 s hs).1.2; omega, (hall.1 s hs).2⟩) hall.2 (by rw [pickS_len, HLS.out.1]; exact hn31) hl
      have HBx : Hid (Below w.heap.size w wr) := (HBW.out wr HB.out).1
      clear r6 hall HO HIN HNE HB hlt
      go_wp2_with fail
      refine (wshare_join a6 i c6 (pickS (splitL secret ls N) wh i) wr (HALL.out _ HBx.out).1 HR6.out hc6 HJE.out).mono ?_
      rintro r w8 ⟨⟨a8, c8, l8, rfl, hc8, r8, j8⟩, hb8⟩
      have hl8 := HEN.out l8 j8
      subst hl8
      have HB8 : Hid (Below w.heap.size w w8) := HBx.out.trans (hb8.mono HBx.out.size)
      have HR8 : Hid (Row w8 a8 m l8) := by have e := HLS.out.2; rw [e] at r8; exact r8
      rw [HLS.out.2]
      clear hb8 HR6 HJE HEN HBx r8 j8 hc8
      go_wp2_with fail
      refine (bytes_any a8 a1 m m c8 c1 l8 l8 w8 HR8.out (HALL.out _ HB8.out).2.1 (by omega)).mono ?_
      rintro r w9 ⟨rfl, q, hq⟩
      have HB9 : Hid (Below w.heap.size w w9) := by rw [hq]; exact HB8.out.trans ((below_drewN w8 q).mono HB8.out.size)
      rw [show decide (l8 = l8) = true from decide_eq_true rfl]
      clear hq
      go_wp2_with fail
      go_ret
      exact ⟨rfl, HB9.out⟩
end Go.Proofs.Ytnffmegicgbinaa
