/- Texts of this claim, joined: Rsfault, Wcanj, Lagr, Lagx. -/
import Derived.Test.YtnffmegicgbinabDoorJ01
import Derived.OrdersHeld
import Derived.Deep.RegionHeld3
import Derived.Deep.DeepCutAuto
import Derived.WalkKit
import Derived.Test.YtnffmegicgbinabDoorJ09
import Derived.Test.YtnffmegicgbinabDoorJ05
import Derived.Test.YtnffmegicgbinabDoorJ04
import Derived.Test.YtnffmegicgbinabDoorJ02
/- The contract of oathbookref2.SharesFault. -/
namespace Go.Proofs.YtnffmegicgbinabDoor
open Go.RowKit
set_option linter.unusedVariables false
set_option linter.unusedSimpArgs false

theorem anyS_yes {ss : List Shr} {i j p : Nat} (hj : j < i) (hi : i ≤ ss.length) (h : (ss.getD j noS).1 = p) : (ss.take i).any (fun x => x.1 == p) = true := by
  refine List.any_eq_true.2 ⟨ss.getD j noS, ?_, by simpa using h⟩
  rw [List.getD_eq_getElem?_getD, List.getElem?_eq_getElem (show j < ss.length by omega)]
  exact List.mem_take_iff_getElem.2 ⟨j, by omega, rfl⟩
theorem anyS_no {ss : List Shr} {i p : Nat} (hi : i ≤ ss.length) (h : ∀ j, j < i → (ss.getD j noS).1 ≠ p) : (ss.take i).any (fun x => x.1 == p) = false := by
  rw [List.any_eq_false]
  intro x hx
  obtain ⟨j, hj, rfl⟩ := List.mem_take_iff_getElem.1 hx
  have := h j (by omega)
  rw [List.getD_eq_getElem?_getD, List.getElem?_eq_getElem (show j < ss.length by omega)] at this
  simpa using this
set_option maxRecDepth 100000 in
set_option maxHeartbeats 2000000 in
theorem rsfault_any (a : Option Addr) (n c : Nat) (ss : List Shr) (least most : Nat) (w : World) (R : SRow w a n ss) (hc : n ≤ c) (hn : n ≤ 140737488351232) (h1 : least ≤ 1000) (h2 : most ≤ 1000) :
    Calls Tryd.prog 4 #[.slice a n c, .int .i64 (least : Int), .int .i64 (most : Int)] w fun e w' => e = .returned (.int .i64 (sfault least most ss)) ∧ Below w.heap.size w w' := by
  have HR : Hid (∀ wx, Below w.heap.size w wx → SRow wx a n ss) := fun wx hx => R.below hx
  have HL : Hid (ss.length = n) := R.1
  have HB0 : Hid (Below w.heap.size w w) := Below.refl _ _
  have HF0 : Hid (sfaultG least most (ss.getD 0 noS).2.length (ss.take 0) (ss.drop 0) = sfault least most ss) := rfl
  clear R
  obtain ⟨F, hF⟩ : ∃ F, sfault least most ss = F := ⟨_, rfl⟩
  rw [hF] at HF0
  simp only [hF]
  clear hF
  go_enter Tryd.func4, Tryd.ntmps4
  go_wp2_with fail
  go_loopw [7] (fun iv wr => ∃ i : Nat, iv = .int .i64 (i : Int) ∧ i ≤ n ∧ Hid (sfaultG least most (ss.getD 0 noS).2.length (ss.take i) (ss.drop i) = F ∧ Below w.heap.size w wr)) (fun iv _ => n - (intOf iv).toNat)
  case atStart => exact ⟨0, rfl, Nat.zero_le _, HF0.out, HB0.out⟩
  case round =>
    clear HF0 HB0
    obtain ⟨i, rfl, hi, HE⟩ := hrel
    by_cases hlt : i < n
    · obtain ⟨b, ob, ha⟩ := (HR.out wr HE.out.2).addr (by omega)
      subst ha
      have HST := sfault_step (least := least) (most := most) (first := (ss.getD 0 noS).2.length) (i := i) (ss := ss) (by rw [HL.out]; exact hlt)
      rw [HE.out.1] at HST
      have HS : Hid (F = if (ss.getD i noS).1 < least ∨ most < (ss.getD i noS).1 then 2 else if (ss.take i).any (fun x => x.1 == (ss.getD i noS).1) = true then 7 else if (ss.getD i noS).2.length ≠ (ss.getD 0 noS).2.length then 3 else sfaultG least most (ss.getD 0 noS).2.length (ss.take (i + 1)) (ss.drop (i + 1))) := HST
      have k0 : wr.cell? ⟨b, ob + i * 2, none⟩ = some (.int .u8 ((ss.getD i noS).1 : Int)) := ((HR.out wr HE.out.2).at i hlt).2.1
      have hp8 := ((HR.out wr HE.out.2).at i hlt).1
      have HPI : Hid (∀ wx, Below w.heap.size w wx → wx.cell? ⟨b, ob + i * 2, none⟩ = some (.int .u8 ((ss.getD i noS).1 : Int))) := fun wx hx => ((HR.out wx hx).at i hlt).2.1
      have HII : Hid (i < n) := hlt
      obtain ⟨p, hp⟩ : ∃ p, (ss.getD i noS).1 = p := ⟨_, rfl⟩
      have HP : Hid ((ss.getD i noS).1 = p) := hp
      rw [hp] at HS k0 hp8 HPI
      clear HST hp
      have i0 : (0 : Int) ≤ (i : Int) := by omega
      have i1 : (i : Int) < (n : Int) := by omega
      by_cases c1 : p < least
      · have HV : Hid (F = 2) := by rw [HS.out, if_pos (.inl c1)]; rfl
        have g1 : (p : Int) < (least : Int) := by omega
        clear HS
        go_wp2_with fail
        go_ret
        rw [HV.out]
        exact ⟨rfl, HE.out.2⟩
      · by_cases c2 : most < p
        · have HV : Hid (F = 2) := by rw [HS.out, if_pos (.inr c2)]; rfl
          have g1 : ¬ (p : Int) < (least : Int) := by omega
          have g2 : (most : Int) < (p : Int) := by omega
          clear HS
          go_wp2_with fail
          go_ret
          rw [HV.out]
          exact ⟨rfl, HE.out.2⟩
        · have HS2 : Hid (F = if (ss.take i).any (fun x => x.1 == p) = true then 7 else if (ss.getD i noS).2.length ≠ (ss.getD 0 noS).2.length then 3 else sfaultG least most (ss.getD 0 noS).2.length (ss.take (i + 1)) (ss.drop (i + 1))) := by
            have h := HS.out
            rw [if_neg (by omega)] at h
            exact h
          have g1 : ¬ (p : Int) < (least : Int) := by omega
          have g2 : ¬ (most : Int) < (p : Int) := by omega
          have HBE : Hid (Below w.heap.size w wr) := HE.out.2
          clear HS HE
          go_wp2_with fail
          clear k0
          go_loopw [8] (fun jv wq => ∃ j : Nat, jv = .int .i64 (j : Int) ∧ j ≤ i ∧ Hid ((∀ j', j' < j → (ss.getD j' noS).1 ≠ p) ∧ Below w.heap.size w wq)) (fun jv _ => i - (intOf jv).toNat)
          case atStart => exact ⟨0, rfl, Nat.zero_le _, (fun j' h => by omega), HBE.out⟩
          case round =>
            clear HBE
            obtain ⟨j, rfl, hj, HJ⟩ := hrel
            by_cases hlj : j < i
            · have HCJ : Hid (∀ wx, Below wr.heap.size wr wx → wx.cell? ⟨b, ob + j * 2, none⟩ = some (.int .u8 ((ss.getD j noS).1 : Int)) ∧ wx.cell? ⟨b, ob + i * 2, none⟩ = some (.int .u8 (p : Int)) ∧ Below w.heap.size w wx) := fun wx hx => by
                have hb := HJ.out.2.trans (hx.mono HJ.out.2.size)
                exact ⟨((HR.out wx hb).at j (by omega)).2.1, HPI.out wx hb, hb⟩
              have hq8 := ((HR.out wr HJ.out.2).at j (by omega)).1
              obtain ⟨q, hq⟩ : ∃ q, (ss.getD j noS).1 = q := ⟨_, rfl⟩
              have HQ : Hid ((ss.getD j noS).1 = q) := hq
              rw [hq] at HCJ hq8
              clear hq
              have j0 : (0 : Int) ≤ (j : Int) := by omega
              have j1 : (j : Int) < (n : Int) := by omega
              have g3 : (j : Int) < (i : Int) := by omega
              have HJI : Hid (j < i) := hlj
              go_upto_region 9 with fail
              refine wp_region_noPanic ?_
              refine wp_region_held_drew (S := fun wx => wx.cell? ⟨b, ob + j * 2, none⟩ = some (.int .u8 (q : Int)) ∧ wx.cell? ⟨b, ob + i * 2, none⟩ = some (.int .u8 (p : Int))) (by kernel_rfl) (by have z := HCJ.out _ (below_drewN wr 1); exact ⟨z.1, z.2.1⟩) (fun hHeld => ?_)
              try simp only [Act.put, List.setIfInBounds_toArray, List.set_cons_zero, List.set_cons_succ]
              have HCW : Hid (wr.drew.cell? ⟨b, ob + j * 2, none⟩ = some (.int .u8 (q : Int)) ∧ wr.drew.cell? ⟨b, ob + i * 2, none⟩ = some (.int .u8 (p : Int)) ∧ Below w.heap.size w wr.drew) := HCJ.out _ (below_drewN wr 1)
              generalize wr.drew = wd at *
              refine wpAnyH_take (i := 0) (v := ?_) (by simp only [List.getElem?_toArray, List.getElem?_cons_zero, List.getElem?_cons_succ]; rfl) (by kernel_rfl) (by kernel_rfl) (by kernel_rfl) (fun _ _ _ h => h) (Or.inl ⟨by rfl, ?_⟩) hHeld ?_
              rotate_left
              · intro w hSw
                obtain ⟨hSw0, hSw1⟩ := hSw
                go_simp
                try with_reducible rfl
              try simp only [Act.put, List.setIfInBounds_toArray, List.set_cons_zero, List.set_cons_succ]
              refine wpAnyH_take (i := 1) (v := ?_) (by simp only [List.getElem?_toArray, List.getElem?_cons_zero, List.getElem?_cons_succ]; rfl) (by kernel_rfl) (by kernel_rfl) (by kernel_rfl) (fun _ _ _ h => h) (Or.inl ⟨by rfl, ?_⟩) hHeld ?_
              rotate_left
              · intro w hSw
                obtain ⟨hSw0, hSw1⟩ := hSw
                go_simp
                try with_reducible rfl
              try simp only [Act.put, List.setIfInBounds_toArray, List.set_cons_zero, List.set_cons_succ]
              refine wpAnyH_take (i := 2) (v := ?_) (by simp only [List.getElem?_toArray, List.getElem?_cons_zero, List.getElem?_cons_succ]; rfl) (by kernel_rfl) (by kernel_rfl) (by kernel_rfl) (fun _ _ _ h => h) (Or.inl ⟨by rfl, ?_⟩) hHeld ?_
              rotate_left
              · intro w hSw
                obtain ⟨hSw0, hSw1⟩ := hSw
                go_simp
                try with_reducible rfl
              try simp only [Act.put, List.setIfInBounds_toArray, List.set_cons_zero, List.set_cons_succ]
              refine wpAnyH_take (i := 3) (v := ?_) (by simp only [List.getElem?_toArray, List.getElem?_cons_zero, List.getElem?_cons_succ]; rfl) (by kernel_rfl) (by kernel_rfl) (by kernel_rfl) (fun _ _ _ h => h) (Or.inl ⟨by rfl, ?_⟩) hHeld ?_
              rotate_left
              · intro w hSw
                obtain ⟨hSw0, hSw1⟩ := hSw
                go_simp
                try with_reducible rfl
              try simp only [Act.put, List.setIfInBounds_toArray, List.set_cons_zero, List.set_cons_succ]
              refine wpAnyH_take (i := 4) (v := ?_) (by simp only [List.getElem?_toArray, List.getElem?_cons_zero, List.getElem?_cons_succ]; rfl) (by kernel_rfl) (by kernel_rfl) (by kernel_rfl) (fun _ _ _ h => h) (Or.inl ⟨by rfl, ?_⟩) hHeld ?_
              rotate_left
              · intro w hSw
                obtain ⟨hSw0, hSw1⟩ := hSw
                go_simp
                try with_reducible rfl
              try simp only [Act.put, List.setIfInBounds_toArray, List.set_cons_zero, List.set_cons_succ]
              refine wpAnyH_take (i := 5) (v := ?_) (by simp only [List.getElem?_toArray, List.getElem?_cons_zero, List.getElem?_cons_succ]; rfl) (by kernel_rfl) (by kernel_rfl) (by kernel_rfl) (fun _ _ _ h => h) (Or.inl ⟨by rfl, ?_⟩) hHeld ?_
              rotate_left
              · intro w hSw
                obtain ⟨hSw0, hSw1⟩ := hSw
                go_simp
                try with_reducible rfl
              try simp only [Act.put, List.setIfInBounds_toArray, List.set_cons_zero, List.set_cons_succ]
              refine wpAnyH_take (i := 6) (v := ?_) (by simp only [List.getElem?_toArray, List.getElem?_cons_zero, List.getElem?_cons_succ]; rfl) (by kernel_rfl) (by kernel_rfl) (by kernel_rfl) (fun _ _ _ h => h) (Or.inl ⟨by rfl, ?_⟩) hHeld ?_
              rotate_left
              · intro w hSw
                obtain ⟨hSw0, hSw1⟩ := hSw
                go_simp
                try with_reducible rfl
              try simp only [Act.put, List.setIfInBounds_toArray, List.set_cons_zero, List.set_cons_succ]
              refine wpAnyH_take (i := 7) (v := ?_) (by simp only [List.getElem?_toArray, List.getElem?_cons_zero, List.getElem?_cons_succ]; rfl) (by kernel_rfl) (by kernel_rfl) (by kernel_rfl) (fun _ _ _ h => h) (Or.inl ⟨by rfl, ?_⟩) hHeld ?_
              rotate_left
              · intro w hSw
                obtain ⟨hSw0, hSw1⟩ := hSw
                go_simp
                try with_reducible rfl
              try simp only [Act.put, List.setIfInBounds_toArray, List.set_cons_zero, List.set_cons_succ]
              refine wpAnyH_take (i := 8) (v := ?_) (by simp only [List.getElem?_toArray, List.getElem?_cons_zero, List.getElem?_cons_succ]; rfl) (by kernel_rfl) (by kernel_rfl) (by kernel_rfl) (fun _ _ _ h => h) (Or.inl ⟨by rfl, ?_⟩) hHeld ?_
              rotate_left
              · intro w hSw
                obtain ⟨hSw0, hSw1⟩ := hSw
                go_simp
                try with_reducible rfl
              try simp only [Act.put, List.setIfInBounds_toArray, List.set_cons_zero, List.set_cons_succ]
              refine wpAnyH_take (i := 9) (v := ?_) (by simp only [List.getElem?_toArray, List.getElem?_cons_zero, List.getElem?_cons_succ]; rfl) (by kernel_rfl) (by kernel_rfl) (by kernel_rfl) (fun _ _ _ h => h) (Or.inl ⟨by rfl, ?_⟩) hHeld ?_
              rotate_left
              · intro w hSw
                obtain ⟨hSw0, hSw1⟩ := hSw
                go_simp
                try with_reducible rfl
              try simp only [Act.put, List.setIfInBounds_toArray, List.set_cons_zero, List.set_cons_succ]
              refine wpAnyH_take (i := 10) (v := .bool ((q : Int) == (p : Int))) (by simp only [List.getElem?_toArray, List.getElem?_cons_zero, List.getElem?_cons_succ]; rfl) (by kernel_rfl) (by kernel_rfl) (by kernel_rfl) (fun _ _ _ h => h) (Or.inl ⟨by rfl, ?_⟩) hHeld ?_
              · intro w hSw
                obtain ⟨hSw0, hSw1⟩ := hSw
                go_simp
              try simp only [Act.put, List.setIfInBounds_toArray, List.set_cons_zero, List.set_cons_succ]
              refine wpAnyH_done (by kernel_rfl) (NoPanic.normal ?_) _
              clear hHeld HCJ
              by_cases ce : q = p
              · have HV : Hid (F = 7) := by
                  have h := HS2.out
                  rw [if_pos (anyS_yes HJI.out (by rw [HL.out]; have := HII.out; omega) (HQ.out.trans ce))] at h
                  exact h
                have e1 : ((q : Int) == (p : Int)) = true := by rw [ce]; simp
                rw [e1]
                clear HS2 ce e1
                go_wp2_with fail
                go_ret
                rw [HV.out]
                exact ⟨rfl, HCW.out.2.2⟩
              · have HN : Hid (∀ j', j' < j + 1 → (ss.getD j' noS).1 ≠ p) := fun j' h => by
                  by_cases e : j' = j
                  · rw [e, HQ.out]; exact ce
                  · exact HJ.out.1 j' (by omega)
                have e1 : ((q : Int) == (p : Int)) = false := beq_eq_false_iff_ne.2 (by omega)
                rw [e1]
                clear ce e1 HJ
                go_wp2_with fail
                go_roundw
                case rel => exact ⟨j + 1, by go_num, HJI.out, HN.out, HCW.out.2.2⟩
                case measure => have := HJI.out; simp [intOf]; omega
            · obtain rfl : j = i := by omega
              have HA : Hid ((ss.take j).any (fun x => x.1 == p) = false) := anyS_no (by rw [HL.out]; have := HII.out; omega) HJ.out.1
              have HS3 : Hid (F = if (ss.getD j noS).2.length ≠ (ss.getD 0 noS).2.length then 3 else sfaultG least most (ss.getD 0 noS).2.length (ss.take (j + 1)) (ss.drop (j + 1))) := by
                have h := HS2.out
                rw [HA.out, if_neg (by simp)] at h
                exact h
              have g3 : ¬ (j : Int) < (j : Int) := by omega
              have HJB : Hid (Below w.heap.size w wr) := HJ.out.2
              obtain ⟨_, _, ai, ni, ci, hs1, _, hni, hsr⟩ := (HR.out wr HJ.out.2).at j HII.out
              obtain ⟨_, hs00, az, nz, cz, hs2, _, hnz, hsz⟩ := (HR.out wr HJ.out.2).at 0 (by have := HII.out; omega)
              have hbw := cell_block hs00
              have HLN : Hid ((ss.getD j noS).2.length = ni ∧ (ss.getD 0 noS).2.length = nz) := ⟨hsr.1, hsz.1⟩
              rw [Nat.zero_mul, Nat.add_zero] at hs2
              have HCW : Hid (wr.drew.cell? ⟨b, ob + j * 2 + 1, none⟩ = some (.slice ai ni ci) ∧ wr.drew.cell? ⟨b, ob + 1, none⟩ = some (.slice az nz cz) ∧ Below w.heap.size w wr.drew) := by
                have hd := below_drewN wr 1
                exact ⟨(hd.cell (p := ⟨b, ob + j * 2 + 1, none⟩) hbw).trans hs1, (hd.cell (p := ⟨b, ob + 1, none⟩) hbw).trans hs2, HJB.out.trans (hd.mono HJB.out.size)⟩
              clear HS2 HA HJ hs1 hs2 hsr hsz hs00 hbw
              have n0 : 0 < n := by have := HII.out; omega
              have HJN : Hid (j + 1 ≤ n) := HII.out
              go_upto_region 11 with fail
              refine wp_region_noPanic ?_
              refine wp_region_held_drew (S := fun wx => wx.cell? ⟨b, ob + j * 2 + 1, none⟩ = some (.slice ai ni ci) ∧ wx.cell? ⟨b, ob + 1, none⟩ = some (.slice az nz cz)) (by kernel_rfl) ⟨HCW.out.1, HCW.out.2.1⟩ (fun hHeld => ?_)
              try simp only [Act.put, List.setIfInBounds_toArray, List.set_cons_zero, List.set_cons_succ]
              generalize wr.drew = wd at *
              refine wpAnyH_take (i := 0) (v := ?_) (by simp only [List.getElem?_toArray, List.getElem?_cons_zero, List.getElem?_cons_succ]; rfl) (by kernel_rfl) (by kernel_rfl) (by kernel_rfl) (fun _ _ _ h => h) (Or.inl ⟨by rfl, ?_⟩) hHeld ?_
              rotate_left
              · intro w hSw
                obtain ⟨hSw0, hSw1⟩ := hSw
                go_simp
                try with_reducible rfl
              try simp only [Act.put, List.setIfInBounds_toArray, List.set_cons_zero, List.set_cons_succ]
              refine wpAnyH_take (i := 1) (v := ?_) (by simp only [List.getElem?_toArray, List.getElem?_cons_zero, List.getElem?_cons_succ]; rfl) (by kernel_rfl) (by kernel_rfl) (by kernel_rfl) (fun _ _ _ h => h) (Or.inl ⟨by rfl, ?_⟩) hHeld ?_
              rotate_left
              · intro w hSw
                obtain ⟨hSw0, hSw1⟩ := hSw
                go_simp
                try with_reducible rfl
              try simp only [Act.put, List.setIfInBounds_toArray, List.set_cons_zero, List.set_cons_succ]
              refine wpAnyH_take (i := 2) (v := ?_) (by simp only [List.getElem?_toArray, List.getElem?_cons_zero, List.getElem?_cons_succ]; rfl) (by kernel_rfl) (by kernel_rfl) (by kernel_rfl) (fun _ _ _ h => h) (Or.inl ⟨by rfl, ?_⟩) hHeld ?_
              rotate_left
              · intro w hSw
                obtain ⟨hSw0, hSw1⟩ := hSw
                go_simp
                try with_reducible rfl
              try simp only [Act.put, List.setIfInBounds_toArray, List.set_cons_zero, List.set_cons_succ]
              refine wpAnyH_take (i := 3) (v := ?_) (by simp only [List.getElem?_toArray, List.getElem?_cons_zero, List.getElem?_cons_succ]; rfl) (by kernel_rfl) (by kernel_rfl) (by kernel_rfl) (fun _ _ _ h => h) (Or.inl ⟨by rfl, ?_⟩) hHeld ?_
              rotate_left
              · intro w hSw
                obtain ⟨hSw0, hSw1⟩ := hSw
                go_simp
                try with_reducible rfl
              try simp only [Act.put, List.setIfInBounds_toArray, List.set_cons_zero, List.set_cons_succ]
              refine wpAnyH_take (i := 4) (v := ?_) (by simp only [List.getElem?_toArray, List.getElem?_cons_zero, List.getElem?_cons_succ]; rfl) (by kernel_rfl) (by kernel_rfl) (by kernel_rfl) (fun _ _ _ h => h) (Or.inl ⟨by rfl, ?_⟩) hHeld ?_
              rotate_left
              · intro w hSw
                obtain ⟨hSw0, hSw1⟩ := hSw
                go_simp
                try with_reducible rfl
              try simp only [Act.put, List.setIfInBounds_toArray, List.set_cons_zero, List.set_cons_succ]
              refine wpAnyH_take (i := 5) (v := ?_) (by simp only [List.getElem?_toArray, List.getElem?_cons_zero, List.getElem?_cons_succ]; rfl) (by kernel_rfl) (by kernel_rfl) (by kernel_rfl) (fun _ _ _ h => h) (Or.inl ⟨by rfl, ?_⟩) hHeld ?_
              rotate_left
              · intro w hSw
                obtain ⟨hSw0, hSw1⟩ := hSw
                go_simp
                try with_reducible rfl
              try simp only [Act.put, List.setIfInBounds_toArray, List.set_cons_zero, List.set_cons_succ]
              refine wpAnyH_take (i := 6) (v := ?_) (by simp only [List.getElem?_toArray, List.getElem?_cons_zero, List.getElem?_cons_succ]; rfl) (by kernel_rfl) (by kernel_rfl) (by kernel_rfl) (fun _ _ _ h => h) (Or.inl ⟨by rfl, ?_⟩) hHeld ?_
              rotate_left
              · intro w hSw
                obtain ⟨hSw0, hSw1⟩ := hSw
                go_simp
                try with_reducible rfl
              try simp only [Act.put, List.setIfInBounds_toArray, List.set_cons_zero, List.set_cons_succ]
              refine wpAnyH_take (i := 7) (v := ?_) (by simp only [List.getElem?_toArray, List.getElem?_cons_zero, List.getElem?_cons_succ]; rfl) (by kernel_rfl) (by kernel_rfl) (by kernel_rfl) (fun _ _ _ h => h) (Or.inl ⟨by rfl, ?_⟩) hHeld ?_
              rotate_left
              · intro w hSw
                obtain ⟨hSw0, hSw1⟩ := hSw
                go_simp
                try with_reducible rfl
              try simp only [Act.put, List.setIfInBounds_toArray, List.set_cons_zero, List.set_cons_succ]
              refine wpAnyH_take (i := 8) (v := ?_) (by simp only [List.getElem?_toArray, List.getElem?_cons_zero, List.getElem?_cons_succ]; rfl) (by kernel_rfl) (by kernel_rfl) (by kernel_rfl) (fun _ _ _ h => h) (Or.inl ⟨by rfl, ?_⟩) hHeld ?_
              rotate_left
              · intro w hSw
                obtain ⟨hSw0, hSw1⟩ := hSw
                go_simp
                try with_reducible rfl
              try simp only [Act.put, List.setIfInBounds_toArray, List.set_cons_zero, List.set_cons_succ]
              refine wpAnyH_take (i := 9) (v := ?_) (by simp only [List.getElem?_toArray, List.getElem?_cons_zero, List.getElem?_cons_succ]; rfl) (by kernel_rfl) (by kernel_rfl) (by kernel_rfl) (fun _ _ _ h => h) (Or.inl ⟨by rfl, ?_⟩) hHeld ?_
              rotate_left
              · intro w hSw
                obtain ⟨hSw0, hSw1⟩ := hSw
                go_simp
                try with_reducible rfl
              try simp only [Act.put, List.setIfInBounds_toArray, List.set_cons_zero, List.set_cons_succ]
              refine wpAnyH_take (i := 10) (v := ?_) (by simp only [List.getElem?_toArray, List.getElem?_cons_zero, List.getElem?_cons_succ]; rfl) (by kernel_rfl) (by kernel_rfl) (by kernel_rfl) (fun _ _ _ h => h) (Or.inl ⟨by rfl, ?_⟩) hHeld ?_
              rotate_left
              · intro w hSw
                obtain ⟨hSw0, hSw1⟩ := hSw
                go_simp
                try with_reducible rfl
              try simp only [Act.put, List.setIfInBounds_toArray, List.set_cons_zero, List.set_cons_succ]
              refine wpAnyH_take (i := 11) (v := .bool ((ni : Int) != (nz : Int))) (by simp only [List.getElem?_toArray, List.getElem?_cons_zero, List.getElem?_cons_succ]; rfl) (by kernel_rfl) (by kernel_rfl) (by kernel_rfl) (fun _ _ _ h => h) (Or.inl ⟨by rfl, ?_⟩) hHeld ?_
              · intro w hSw
                obtain ⟨hSw0, hSw1⟩ := hSw
                go_simp
              try simp only [Act.put, List.setIfInBounds_toArray, List.set_cons_zero, List.set_cons_succ]
              refine wpAnyH_done (by kernel_rfl) (NoPanic.normal ?_) _
              clear hHeld
              by_cases ce : ni = nz
              · have HV : Hid (sfaultG least most (ss.getD 0 noS).2.length (ss.take (j + 1)) (ss.drop (j + 1)) = F) := by
                  have h := HS3.out
                  rw [HLN.out.1, HLN.out.2, if_neg (by omega)] at h
                  rw [HLN.out.2]
                  exact h.symm
                have e1 : ((ni : Int) != (nz : Int)) = false := by rw [ce]; simp
                rw [e1]
                clear HS3 ce e1
                go_wp2_with fail
                go_roundw
                case rel => exact ⟨j + 1, by go_num, HJN.out, HV.out, HCW.out.2.2⟩
                case measure => have := HJN.out; simp [intOf]; omega
              · have HV : Hid (F = 3) := by
                  have h := HS3.out
                  rw [HLN.out.1, HLN.out.2, if_pos ce] at h
                  exact h
                have e1 : ((ni : Int) != (nz : Int)) = true := by simp; omega
                rw [e1]
                clear HS3 ce e1
                go_wp2_with fail
                go_ret
                rw [HV.out]
                exact ⟨rfl, HCW.out.2.2⟩
    · obtain rfl : i = n := by omega
      have g1 : ¬ (i : Int) < (i : Int) := by omega
      have HV : Hid (F = 0) := by
        have h := HE.out.1
        rw [List.drop_of_length_le (by rw [HL.out]; exact Nat.le_refl _)] at h
        exact h.symm
      go_wp2_with fail
      go_ret
      rw [HV.out]
      exact ⟨rfl, HE.out.2⟩
end Go.Proofs.YtnffmegicgbinabDoor
/- The contracts of share.Check and share.canJoin. -/
namespace Go.Proofs.YtnffmegicgbinabDoor
open Go.RowKit
set_option linter.unusedVariables false
set_option linter.unusedSimpArgs false

/-- Share i as it lies. -/
theorem SRow.hdr {w : World} {b o n : Nat} {ss : List Shr} (R : SRow w (some ⟨b, o, none⟩) n ss) (i : Nat) (hi : i < n) : ∃ (ai : Option Addr) (ni ci : Nat), (ss.getD i noS).1 < 256 ∧ ni ≤ ci ∧ ni ≤ 140737488351232 ∧ ni = (ss.getD i noS).2.length ∧
    ∀ wx, Below w.heap.size w wx → wx.rangeAt b (o + i * 2) (hdC ((ss.getD i noS).1, ai, ni, ci)) ∧ Row wx ai ni (ss.getD i noS).2 := by
  obtain ⟨h1, h2, ai, ni, ci, h3, h4, h5, h6⟩ := R.at i hi
  refine ⟨ai, ni, ci, h1, h4, h5, h6.1.symm, fun wx hx => ⟨fun j v hj => ?_, h6.below hx⟩⟩
  have hlt := (List.getElem?_eq_some_iff.1 hj).1
  rw [hdC_length] at hlt
  match j, hlt with
  | 0, _ => cases hj; exact (hx.cell (p := ⟨b, o + i * 2, none⟩) (cell_block h2)).trans h2
  | 1, _ => cases hj; exact (hx.cell (p := ⟨b, o + i * 2 + 1, none⟩) (cell_block h3)).trans h3
theorem SRow.takeR {w : World} {a : Option Addr} {n i : Nat} {ss : List Shr} (R : SRow w a n ss) (hi : i ≤ n) : SRow w a i (ss.take i) := by
  refine ⟨by rw [List.length_take, R.1]; omega, ?_⟩
  by_cases h0 : i = 0
  · exact .inl h0
  · obtain ⟨b, o, rfl⟩ := R.addr (by omega)
    refine .inr ⟨b, o, rfl, fun j hj => ?_⟩
    have e : (ss.take i).getD j noS = ss.getD j noS := by
      rw [List.getD_eq_getElem?_getD, List.getD_eq_getElem?_getD, List.getElem?_take_of_lt hj]
    rw [e]
    exact R.at j (by omega)
set_option maxRecDepth 100000 in
set_option maxHeartbeats 2000000 in
theorem wcj1_any (h : Hdr) (K g : Nat) (w : World) (h8 : h.1 < 256) (hK8 : K < 256) (hK : w.cell? ⟨g, 0, none⟩ = some (.int .u8 (K : Int))) :
    Calls Tryd.prog 22 #[hdV h, .pointer (some ⟨g, 0, none⟩)] w fun e w' => e = .returned (.bool (h.1 == K)) ∧ Below w.heap.size w w' := by
  obtain ⟨p, a, n, c⟩ := h
  have h8 : p < 256 := h8
  show Calls Tryd.prog 22 #[.agg #[.int .u8 (p : Int), .slice a n c], .pointer (some ⟨g, 0, none⟩)] w fun e w' => e = .returned (.bool (p == K)) ∧ Below w.heap.size w w'
  have hb := (Below.refl w.heap.size w).alloc (Nat.le_refl _) (.cells #[.int .u8 (p : Int), .slice a n c] 36)
  have hK1 := (hb.cell (p := ⟨g, 0, none⟩) (cell_block hK)).trans hK
  have hP1 : (w.alloc (.cells #[.int .u8 (p : Int), .slice a n c] 36)).cell? ⟨w.heap.size, 0, none⟩ = some (.int .u8 (p : Int)) := box_rangeAt w [.int .u8 (p : Int), .slice a n c] 36 _ rfl 0 _ rfl
  have hE : ((p : Int) == (K : Int)) = (p == K) := by
    by_cases e : p = K
    · subst e; simp
    · have : ¬ (p : Int) = (K : Int) := by omega
      rw [beq_eq_false_iff_ne.2 e, beq_eq_false_iff_ne.2 this]
  obtain ⟨z, hz⟩ : ∃ z, (p == K) = z := ⟨_, rfl⟩
  have HZ : Hid ((p == K) = z) := hz
  rw [hz] at hE
  simp only [hz]
  clear hz
  go_enter Tryd.func22, Tryd.ntmps22
  go_wp2_with fail
  go_ret
  exact ⟨rfl, hb⟩

set_option maxRecDepth 100000 in
set_option maxHeartbeats 2000000 in
theorem windexf_any (a : Option Addr) (n c : Nat) (ss : List Shr) (K g : Nat) (w : World) (R : SRow w a n ss) (hn : n ≤ 1000) (hK8 : K < 256) (hK : w.cell? ⟨g, 0, none⟩ = some (.int .u8 (K : Int))) :
    Calls Tryd.prog 30 #[.slice a n c, .func (.func 22) #[] #[.pointer (some ⟨g, 0, none⟩)]] w fun e w' => (∃ r : Int, e = .returned (.int .i64 r) ∧ -1 ≤ r ∧ r ≤ 1000 ∧ decide (0 ≤ r) = ss.any (fun x => x.1 == K)) ∧ Below w.heap.size w w' := by
  have HR : Hid (SRow w a n ss) := R
  have HL : Hid (ss.length = n) := R.1
  have HK : Hid (w.cell? ⟨g, 0, none⟩ = some (.int .u8 (K : Int))) := hK
  have hg := cell_block hK
  have HG : Hid (g < w.heap.size) := hg
  clear R hK hg
  go_enter Tryd.func30, Tryd.ntmps30
  go_wp2_with fail
  go_loopw [8] (fun iv wr => ∃ i : Nat, iv = .int .i64 (i : Int) ∧ i ≤ n ∧ Hid (∀ j, j < i → (ss.getD j noS).1 ≠ K) ∧ Hid (Below w.heap.size w wr)) (fun iv _ => n - (intOf iv).toNat)
  case atStart => exact ⟨0, rfl, Nat.zero_le _, (fun j h => by omega), Below.refl _ _⟩
  case round =>
    obtain ⟨i, rfl, hi, HJ, HB⟩ := hrel
    by_cases hlt : i < n
    · obtain ⟨b, o, ha⟩ := HR.out.addr (by omega)
      subst ha
      obtain ⟨ai, ni, ci, hp8, hnc, hn47, hni, HC⟩ := HR.out.hdr i hlt
      have HX : Hid (wr.rangeAt b (o + i * 2) (hdC ((ss.getD i noS).1, ai, ni, ci))) := (HC wr HB.out).1
      have i0 : (0 : Int) ≤ (i : Int) := by omega
      have i1 : (i : Int) < (n : Int) := by omega
      have HLT : Hid (i < n) := hlt
      have hcall := wcj1_any ((ss.getD i noS).1, ai, ni, ci) K g wr hp8 hK8 ((HB.out.cell (p := ⟨g, 0, none⟩) HG.out).trans HK.out)
      have HPE : Hid ((ss.getD i noS).1 = K ↔ ((ss.getD i noS).1 == K) = true) := by simp [Hid]
      have hcall2 : Calls Tryd.prog 22 #[hdV ((ss.getD i noS).1, ai, ni, ci), .pointer (some ⟨g, 0, none⟩)] wr fun e w' => e = .returned (.bool ((ss.getD i noS).1 == K)) ∧ Below wr.heap.size wr w' := hcall
      have HCL : Hid (Calls Tryd.prog 22 #[hdV ((ss.getD i noS).1, ai, ni, ci), .pointer (some ⟨g, 0, none⟩)] wr fun e w' => e = .returned (.bool ((ss.getD i noS).1 == K)) ∧ Below wr.heap.size wr w') := hcall2
      obtain ⟨hd, hhd⟩ : ∃ hd : Hdr, ((ss.getD i noS).1, ai, ni, ci) = hd := ⟨_, rfl⟩
      rw [hhd] at HCL HX
      obtain ⟨z, hz⟩ : ∃ z, ((ss.getD i noS).1 == K) = z := ⟨_, rfl⟩
      rw [hz] at HCL HPE
      clear hcall hcall2 HC hlt hi hni hnc hn47 hp8 hhd hz
      cases z with
      | true =>
        have HE : Hid ((ss.getD i noS).1 = K) := HPE.out.2 rfl
        go_wp2_with (refine wpList_loadSh (by rfl) (.tmp 14) (by rfl) b (o + i * 2) hd (by rfl) HX.out ?_)
        refine HCL.out.mono ?_
        rintro e w' ⟨rfl, hb'⟩
        go_wp2_with fail
        go_ret
        refine ⟨⟨(i : Int), rfl, by omega, by omega, ?_⟩, HB.out.trans (hb'.mono HB.out.size)⟩
        rw [decide_eq_true i0]
        refine (List.any_eq_true.2 ⟨ss.getD i noS, ?_, by simpa using HE.out⟩).symm
        rw [List.getD_eq_getElem?_getD, List.getElem?_eq_getElem (by rw [HL.out]; exact HLT.out)]
        exact List.getElem_mem _
      | false =>
        have HE : Hid ((ss.getD i noS).1 ≠ K) := fun e => by have := HPE.out.1 e; cases this
        go_wp2_with (refine wpList_loadSh (by rfl) (.tmp 14) (by rfl) b (o + i * 2) hd (by rfl) HX.out ?_)
        refine HCL.out.mono ?_
        rintro e w' ⟨rfl, hb'⟩
        go_wp2_with fail
        go_roundw
        case rel => exact ⟨i + 1, by go_num, by have := HLT.out; omega, (fun j hj => by
          by_cases e : j = i
          · rw [e]; exact HE.out
          · exact HJ.out j (by omega)), HB.out.trans (hb'.mono HB.out.size)⟩
        case measure => have := HLT.out; simp [intOf]; omega
    · have hin : i = n := by omega
      subst hin
      have g2 : ¬ (i : Int) < (i : Int) := by omega
      clear hlt
      go_wp2_with fail
      go_ret
      refine ⟨⟨-1, rfl, by omega, by omega, ?_⟩, HB.out⟩
      have e := anyS_no (ss := ss) (i := i) (p := K) (by rw [HL.out]; exact Nat.le_refl _) HJ.out
      rw [List.take_of_length_le (by rw [HL.out]; exact Nat.le_refl _)] at e
      rw [e]
      decide

set_option maxRecDepth 100000 in
set_option maxHeartbeats 2000000 in
theorem wcontainsf_any (a : Option Addr) (n c : Nat) (ss : List Shr) (K g : Nat) (w : World) (R : SRow w a n ss) (hn : n ≤ 1000) (hK8 : K < 256) (hK : w.cell? ⟨g, 0, none⟩ = some (.int .u8 (K : Int))) :
    Calls Tryd.prog 21 #[.slice a n c, .func (.func 22) #[] #[.pointer (some ⟨g, 0, none⟩)]] w fun e w' => e = .returned (.bool (ss.any (fun x => x.1 == K))) ∧ Below w.heap.size w w' := by
  have hcall := windexf_any a n c ss K g w R hn hK8 hK
  obtain ⟨z, hz⟩ : ∃ z, ss.any (fun x => x.1 == K) = z := ⟨_, rfl⟩
  rw [hz] at hcall
  rw [hz]
  have HCL : Hid (Calls Tryd.prog 30 #[.slice a n c, .func (.func 22) #[] #[.pointer (some ⟨g, 0, none⟩)]] w fun e w' => (∃ r : Int, e = .returned (.int .i64 r) ∧ -1 ≤ r ∧ r ≤ 1000 ∧ decide (0 ≤ r) = z) ∧ Below w.heap.size w w') := hcall
  clear hcall hz hK R
  go_enter Tryd.func21, Tryd.ntmps21
  go_wp2_with fail
  refine HCL.out.mono ?_
  rintro e w' ⟨⟨r, rfl, r1, r2, hr⟩, hb'⟩
  go_wp2_with fail
  go_ret
  first
    | exact ⟨rfl, hb'⟩
    | (refine ⟨?_, hb'⟩; subst hr; rfl)
/-- An error, or none. -/
def errV (q : Int) : Value := if q = 0 then .nilIface else .iface 23 (.int .i64 q)
theorem errV_0 : errV 0 = .nilIface := rfl

set_option maxRecDepth 100000 in
set_option maxHeartbeats 2000000 in
theorem wcheck_any (a : Option Addr) (n c : Nat) (ss : List Shr) (q : Int) (least most : Nat) (w : World) (R : SRow w a n ss) (hc : n ≤ c) (hn0 : 0 < n) (hn20 : n ≤ 20) (hl8 : least < 256) (hm8 : most < 256) (hf : sfault least most ss = q) :
    Calls Tryd.prog 16 #[.slice a n c, .int .u8 (least : Int), .int .u8 (most : Int)] w fun e w' => e = .returned (errV q) ∧ Below w.heap.size w w' := by
  have HL : Hid (ss.length = n) := R.1
  have HR : Hid (SRow w a n ss) := R
  have HF0 : Hid (sfaultG least most (ss.getD 0 noS).2.length (ss.take 0) (ss.drop 0) = q) := hf
  clear R hf
  go_enter Tryd.func16, Tryd.ntmps16
  obtain ⟨b, o, ha⟩ := HR.out.addr (by omega)
  subst ha
  obtain ⟨a0, F, cF, _, _, hF47, hF0, HC0⟩ := HR.out.hdr 0 (by omega)
  have HK0 : Hid (∀ wx, Below w.heap.size w wx → wx.cell? ⟨b, o + 1, none⟩ = some (.slice a0 F cF)) := fun wx hx => (HC0 wx hx).1 1 _ rfl
  have HFE : Hid ((ss.getD 0 noS).2.length = F) := hF0.symm
  rw [HFE.out] at HF0
  clear HC0 hF0
  go_wp2_with fail
  go_loopw [11] (fun iv wr => ∃ i : Nat, iv = .int .i64 (i : Int) ∧ i ≤ n ∧ Hid (sfaultG least most F (ss.take i) (ss.drop i) = q) ∧ Hid (Below w.heap.size w wr)) (fun iv _ => n - (intOf iv).toNat)
  case atStart => exact ⟨0, rfl, Nat.zero_le _, HF0.out, Below.refl _ _⟩
  case round =>
    clear HF0
    obtain ⟨i, rfl, hi, HJ, HB⟩ := hrel
    by_cases hlt : i < n
    · obtain ⟨ai, ni, ci, hp8, hnc, hn47, hni, HC⟩ := HR.out.hdr i hlt
      have HX : Hid (wr.rangeAt b (o + i * 2) (hdC ((ss.getD i noS).1, ai, ni, ci))) := (HC wr HB.out).1
      have HST : Hid (q = _) := (HJ.out.symm).trans (sfault_step (least := least) (most := most) (first := F) (i := i) (ss := ss) (by rw [HL.out]; exact hlt))
      have HTK : Hid (SRow wr (some ⟨b, o, none⟩) i (ss.take i)) := (HR.out.takeR (i := i) (by omega)).below HB.out
      rw [← hni] at HST
      have i0 : (0 : Int) ≤ (i : Int) := by omega
      have i1 : (i : Int) < (n : Int) := by omega
      have HLT : Hid (i < n) := hlt
      have hi20 : i ≤ 1000 := by omega
      obtain ⟨p, hp⟩ : ∃ p, (ss.getD i noS).1 = p := ⟨_, rfl⟩
      rw [hp] at HX HST hp8
      clear HC hlt hi hni hp HJ
      obtain ⟨g, hg⟩ : ∃ g, wr.heap.size = g := ⟨_, rfl⟩
      obtain ⟨w2, hw2⟩ : ∃ w2, wr.alloc (.cells (hdC noH).toArray 36) = w2 := ⟨_, rfl⟩
      obtain ⟨w3, hw3⟩ : ∃ w3, w2.setCells g 0 (hdC (p, ai, ni, ci)) = w3 := ⟨_, rfl⟩
      have q3 := SVar.new hg hw2 hw3
      have HT2 : Hid (w2.there g 0 2) := q3.1
      have k0 : w3.cell? ⟨g, 0, none⟩ = some (.int .u8 (p : Int)) := q3.2.1.1
      have HV3 : Hid (SVar w3 g p (.slice ai ni ci)) := q3.2.1
      have HB3 : Hid (Below w.heap.size w w3) := HB.out.trans (q3.2.2.mono (by have := HB.out.size; omega))
      have HT3 : Hid (SRow w3 (some ⟨b, o, none⟩) i (ss.take i)) := HTK.out.below (by rw [hg]; exact q3.2.2)
      clear q3 HTK HB
      by_cases c1 : p < least
      · have HE : Hid (q = 2) := by rw [HST.out]; exact if_pos (.inl c1)
        have d1 : (p : Int) < (least : Int) := by omega
        clear HST c1
        go_wp2_with (first
          | (refine wpList_loadSh (by rfl) (.tmp 14) (by rfl) b (o + i * 2) (p, ai, ni, ci) (by rfl) HX.out ?_)
          | (refine wpList_allocSh (by rfl) (by rfl) g hg w2 hw2 ?_)
          | (refine wpList_storeSh (by rfl) (.tmp 8) (.tmp 15) (by rfl) g (p, ai, ni, ci) (by rfl) (by rfl) HT2.out w3 hw3 ?_))
        go_ret
        exact ⟨by rw [HE.out]; rfl, HB3.out⟩
      have d1 : ¬ (p : Int) < (least : Int) := by omega
      by_cases c2 : most < p
      · have HE : Hid (q = 2) := by rw [HST.out]; exact if_pos (.inr c2)
        have d2 : (most : Int) < (p : Int) := by omega
        clear HST c1 c2
        go_wp2_with (first
          | (refine wpList_loadSh (by rfl) (.tmp 14) (by rfl) b (o + i * 2) (p, ai, ni, ci) (by rfl) HX.out ?_)
          | (refine wpList_allocSh (by rfl) (by rfl) g hg w2 hw2 ?_)
          | (refine wpList_storeSh (by rfl) (.tmp 8) (.tmp 15) (by rfl) g (p, ai, ni, ci) (by rfl) (by rfl) HT2.out w3 hw3 ?_))
        go_ret
        exact ⟨by rw [HE.out]; rfl, HB3.out⟩
      have d2 : ¬ (most : Int) < (p : Int) := by omega
      have HS2 : Hid (q = if (ss.take i).any (fun x => x.1 == p) = true then 7 else if ni ≠ F then 3 else sfaultG least most F (ss.take (i + 1)) (ss.drop (i + 1))) := by
        rw [HST.out]
        exact if_neg (by omega)
      clear HST c1 c2
      have HCL : Hid (Calls Tryd.prog 21 #[.slice (some ⟨b, o, none⟩) i c, .func (.func 22) #[] #[.pointer (some ⟨g, 0, none⟩)]] w3 fun e w' => e = .returned (.bool ((ss.take i).any (fun x => x.1 == p))) ∧ Below w3.heap.size w3 w') := wcontainsf_any (some ⟨b, o, none⟩) i c (ss.take i) p g w3 HT3.out hi20 hp8 k0
      obtain ⟨z, hz⟩ : ∃ z, (ss.take i).any (fun x => x.1 == p) = z := ⟨_, rfl⟩
      rw [hz] at HCL HS2
      clear hz
      cases z with
      | true =>
        have HE : Hid (q = 7) := by rw [HS2.out]; exact if_pos rfl
        go_wp2_with (first
          | (refine wpList_loadSh (by rfl) (.tmp 14) (by rfl) b (o + i * 2) (p, ai, ni, ci) (by rfl) HX.out ?_)
          | (refine wpList_allocSh (by rfl) (by rfl) g hg w2 hw2 ?_)
          | (refine wpList_storeSh (by rfl) (.tmp 8) (.tmp 15) (by rfl) g (p, ai, ni, ci) (by rfl) (by rfl) HT2.out w3 hw3 ?_))
        refine HCL.out.mono ?_
        rintro e w4 ⟨rfl, hb4⟩
        go_wp2_with fail
        go_ret
        exact ⟨by rw [HE.out]; rfl, HB3.out.trans (hb4.mono HB3.out.size)⟩
      | false =>
        have HS3 : Hid (q = if ni ≠ F then 3 else sfaultG least most F (ss.take (i + 1)) (ss.drop (i + 1))) := by rw [HS2.out]; exact if_neg (by simp)
        clear HS2
        go_wp2_with (first
          | (refine wpList_loadSh (by rfl) (.tmp 14) (by rfl) b (o + i * 2) (p, ai, ni, ci) (by rfl) HX.out ?_)
          | (refine wpList_allocSh (by rfl) (by rfl) g hg w2 hw2 ?_)
          | (refine wpList_storeSh (by rfl) (.tmp 8) (.tmp 15) (by rfl) g (p, ai, ni, ci) (by rfl) (by rfl) HT2.out w3 hw3 ?_))
        refine HCL.out.mono ?_
        rintro e w4 ⟨rfl, hb4⟩
        go_upto_region 8 with fail
        have HB4 : Hid (Below w.heap.size w w4) := HB3.out.trans (hb4.mono HB3.out.size)
        have j1 : w4.cell? ⟨g, 1, none⟩ = some (.slice ai ni ci) := (HV3.out.below hb4 HV3.out.lt).2.1
        have j2 : w4.cell? ⟨b, o + 1, none⟩ = some (.slice a0 F cF) := HK0.out w4 HB4.out
        clear HCL hb4 HB3 HT3 HV3 HT2 HX hw3 hw2 hg k0
        by_cases ce : ni = F
        · have HE : Hid (sfaultG least most F (ss.take (i + 1)) (ss.drop (i + 1)) = q) := by rw [HS3.out]; exact (if_neg (by simpa using ce)).symm
          subst ce
          have g7 : ((ni : Int) != (ni : Int)) = false := by simp
          clear HS3
          go_quiet (fail)
          have HB5 : Hid (Below w.heap.size w (w4.drewN nq)) := HB4.out.trans ((below_drewN w4 nq).mono HB4.out.size)
          generalize w4.drewN nq = w5 at *
          clear j1 j2 HB4
          go_wp2_with fail
          go_roundw
          case rel => exact ⟨i + 1, by go_num, by have := HLT.out; omega, HE.out, HB5.out⟩
          case measure => have := HLT.out; simp [intOf]; omega
        · have HE : Hid (q = 3) := by rw [HS3.out]; exact if_pos ce
          have g6 : ((ni : Int) != (F : Int)) = true := by simp; omega
          clear HS3 ce
          go_quiet (fail)
          have HB5 : Hid (Below w.heap.size w (w4.drewN nq)) := HB4.out.trans ((below_drewN w4 nq).mono HB4.out.size)
          generalize w4.drewN nq = w5 at *
          clear j1 j2 HB4
          go_wp2_with fail
          go_ret
          exact ⟨by rw [HE.out]; rfl, HB5.out⟩
    · have hin : i = n := by omega
      subst hin
      have g5 : ¬ (i : Int) < (i : Int) := by omega
      clear hlt
      have HE : Hid (q = 0) := by
        rw [← HJ.out, List.drop_of_length_le (by rw [HL.out]; exact Nat.le_refl _)]
        rfl
      go_wp2_with fail
      go_ret
      exact ⟨by rw [HE.out]; rfl, HB.out⟩

end Go.Proofs.YtnffmegicgbinabDoor
/- LAGRANGE's polynomial over bytes, by its coefficients: plain facts. -/
namespace Go.Proofs.YtnffmegicgbinabDoor
set_option linter.unusedVariables false
set_option linter.unusedSimpArgs false

/-- c times (x - a). -/
def nxt (c : List Nat) (a : Nat) : List Nat := padd (0 :: c) (c.map (gm a))
theorem nxt_bys {c : List Nat} (hc : bys c) (a : Nat) : bys (nxt c a) :=
  padd_bys (fun y hy => by rcases List.mem_cons.1 hy with rfl | h; · omega
                           · exact hc y h) (fun y hy => by obtain ⟨z, _, rfl⟩ := List.mem_map.1 hy; exact gm_lt _ _)
theorem nxt_len (c : List Nat) (a : Nat) : (nxt c a).length = c.length + 1 := by
  unfold nxt
  rw [padd_len]
  simp
theorem nxt_val {c : List Nat} (hc : bys c) {a x : Nat} (ha : a < 256) (hx : x < 256) : polyv (nxt c a) x = gm (x ^^^ a) (polyv c x) := by
  unfold nxt
  rw [padd_val (fun y hy => by rcases List.mem_cons.1 hy with rfl | h; · omega
                               · exact hc y h) (fun y hy => by obtain ⟨z, _, rfl⟩ := List.mem_map.1 hy; exact gm_lt _ _) x hx, scale_val a ha hc x hx]
  show (0 ^^^ gm x (polyv c x)) ^^^ gm a (polyv c x) = _
  rw [Nat.zero_xor, xor_gm hx ha (polyv_lt hc x)]
theorem nxt_at (c : List Nat) (a k : Nat) : (nxt c a).getD k 0 = (if k = 0 then 0 else c.getD (k - 1) 0) ^^^ gm a (c.getD k 0) := by
  unfold nxt
  rw [padd_at, scale_at]
  congr 1
  cases k with
  | zero => rfl
  | succ k => simp
/-- All of (x - a), multiplied. -/
def mono (xs : List Nat) : List Nat := xs.foldl nxt [1]
theorem fold_nxt : ∀ (xs : List Nat) {c : List Nat}, bys c → bys xs → bys (xs.foldl nxt c) ∧ (xs.foldl nxt c).length = c.length + xs.length ∧ ∀ x, x < 256 → polyv (xs.foldl nxt c) x = gm (polyv c x) (lprod x xs)
  | [], c, hc, _ => ⟨hc, rfl, fun x _ => (gm_one (polyv_lt hc x)).symm⟩
  | a :: xs, c, hc, hb => by
    have ha := bys_head hb
    obtain ⟨h1, h2, h3⟩ := fold_nxt xs (nxt_bys hc a) (bys_tail hb)
    refine ⟨h1, ?_, fun x hx => ?_⟩
    · show (xs.foldl nxt (nxt c a)).length = _
      rw [h2, nxt_len, List.length_cons]; omega
    · show polyv (xs.foldl nxt (nxt c a)) x = gm (polyv c x) (gm (x ^^^ a) (lprod x xs))
      rw [h3 x hx, nxt_val hc ha hx, gm_comm (x ^^^ a) (polyv c x), gm_assoc]
theorem mono_ok {xs : List Nat} (hb : bys xs) : bys (mono xs) ∧ (mono xs).length = xs.length + 1 ∧ ∀ x, x < 256 → polyv (mono xs) x = lprod x xs := by
  obtain ⟨h1, h2, h3⟩ := fold_nxt xs (c := [1]) (fun y hy => by rw [List.mem_singleton.1 hy]; omega) hb
  refine ⟨h1, by show (xs.foldl nxt [1]).length = _; rw [h2]; simp; omega, fun x hx => ?_⟩
  show polyv (xs.foldl nxt [1]) x = _
  rw [h3 x hx]
  show gm (1 ^^^ gm x 0) _ = _
  rw [gm_zero, Nat.xor_zero, one_gm (lprod_lt _ _)]
theorem lprod_zero {x : Nat} : ∀ {xs : List Nat}, x ∈ xs → lprod x xs = 0
  | a :: xs, h => by
    rcases List.mem_cons.1 h with rfl | h
    · show gm (x ^^^ x) _ = 0
      rw [Nat.xor_self, zero_gm]
    · show gm _ (lprod x xs) = 0
      rw [lprod_zero h, gm_zero]
theorem lprod_ne {x : Nat} : ∀ {xs : List Nat}, x ∉ xs → lprod x xs ≠ 0
  | [], _ => by show 1 ≠ 0; omega
  | a :: xs, h => gm_nz (xor_ne fun e => h (e ▸ List.mem_cons_self ..)) (lprod_ne fun h' => h (List.mem_cons_of_mem _ h'))
/-- The other places. -/
def others (A : Nat → Nat) (n i : Nat) : List Nat := ((List.range n).filter fun j => j != i).map A
theorem others_bys {A : Nat → Nat} (hA : ∀ i, A i < 256) (n i : Nat) : bys (others A n i) := fun y hy => by
  obtain ⟨j, _, rfl⟩ := List.mem_map.1 hy
  exact hA j
theorem filter_len (n i : Nat) (h : i < n) : ((List.range n).filter fun j => j != i).length = n - 1 := by
  induction n with
  | zero => omega
  | succ n ih =>
    rw [List.range_succ, List.filter_append, List.length_append]
    by_cases c : i = n
    · subst c
      have e : ((List.range i).filter fun j => j != i) = List.range i := List.filter_eq_self.2 fun j hj => by
        have := List.mem_range.1 hj
        simp; omega
      rw [e]
      simp
    · rw [ih (by omega)]
      have : (n != i) = true := by simp; omega
      simp [this]; omega
theorem others_len (A : Nat → Nat) (n i : Nat) (h : i < n) : (others A n i).length = n - 1 := by
  unfold others
  rw [List.length_map, filter_len n i h]
/-- Lagrange's sum: of the first m places, of n. -/
def lagr (A V : Nat → Nat) (n : Nat) : Nat → List Nat
  | 0 => List.replicate n 0
  | m + 1 => padd (lagr A V n m) ((mono (others A n m)).map (gm (gm (V m) (ginv (lprod (A m) (others A n m))))))
theorem rep_val (x : Nat) : ∀ n, polyv (List.replicate n 0) x = 0
  | 0 => rfl
  | n + 1 => by
    rw [List.replicate_succ]
    show 0 ^^^ gm x (polyv (List.replicate n 0) x) = 0
    rw [rep_val x n, gm_zero, Nat.xor_zero]
theorem lagr_bys {A V : Nat → Nat} (hA : ∀ i, A i < 256) (n : Nat) : ∀ m, bys (lagr A V n m)
  | 0 => fun y hy => by rw [(List.mem_replicate.1 hy).2]; omega
  | m + 1 => padd_bys (lagr_bys hA n m) (fun y hy => by obtain ⟨z, _, rfl⟩ := List.mem_map.1 hy; exact gm_lt _ _)
theorem lagr_len {A V : Nat → Nat} (hA : ∀ i, A i < 256) (n : Nat) : ∀ m, m ≤ n → (lagr A V n m).length = n
  | 0, _ => by simp [lagr]
  | m + 1, h => by
    show (padd _ _).length = n
    rw [padd_len, lagr_len hA n m (by omega), List.length_map, (mono_ok (others_bys hA n m)).2.1, others_len A n m (by omega)]
    omega
theorem lagr_val {A V : Nat → Nat} {n : Nat} (hA : ∀ i, A i < 256) (hV : ∀ i, V i < 256) (hd : ∀ i j, i < n → j < n → i ≠ j → A i ≠ A j) (k : Nat) (hk : k < n) : ∀ m, m ≤ n → polyv (lagr A V n m) (A k) = if k < m then V k else 0
  | 0, _ => rep_val _ _
  | m + 1, h => by
    have ho := others_bys hA n m
    show polyv (padd _ _) (A k) = _
    rw [padd_val (lagr_bys hA n m) (fun y hy => by obtain ⟨z, _, rfl⟩ := List.mem_map.1 hy; exact gm_lt _ _) _ (hA k), lagr_val hA hV hd k hk m (by omega), scale_val _ (gm_lt _ _) (mono_ok ho).1 _ (hA k), (mono_ok ho).2.2 _ (hA k)]
    by_cases c : k = m
    · subst c
      have hne : A k ∉ others A n k := fun hm => by
        obtain ⟨j, hj, e⟩ := List.mem_map.1 hm
        obtain ⟨h1, h2⟩ := List.mem_filter.1 hj
        have h3 := List.mem_range.1 h1
        have h4 : j ≠ k := by simpa using h2
        exact hd j k h3 hk h4 e
      rw [if_neg (by omega), if_pos (by omega), Nat.zero_xor, gm_assoc, gm_comm (ginv _), gm_ginv (lprod_lt _ _) (lprod_ne hne), gm_one (hV k)]
    · have hin : A k ∈ others A n m := List.mem_map.2 ⟨k, List.mem_filter.2 ⟨List.mem_range.2 hk, by simpa using c⟩, rfl⟩
      rw [lprod_zero hin, gm_zero, Nat.xor_zero]
      by_cases c2 : k < m
      · rw [if_pos c2, if_pos (by omega)]
      · rw [if_neg c2, if_neg (by omega)]
theorem lagr_ok {A V : Nat → Nat} {n : Nat} (hA : ∀ i, A i < 256) (hV : ∀ i, V i < 256) (hd : ∀ i j, i < n → j < n → i ≠ j → A i ≠ A j) : bys (lagr A V n n) ∧ (lagr A V n n).length = n ∧ ∀ k, k < n → polyv (lagr A V n n) (A k) = V k :=
  ⟨lagr_bys hA n n, lagr_len hA n n (Nat.le_refl _), fun k hk => by rw [lagr_val hA hV hd k hk n (Nat.le_refl _), if_pos hk]⟩
end Go.Proofs.YtnffmegicgbinabDoor
/- What the polynomial through values has at a place, by Lagrange's weights, and by Horner's way: plain facts (no theorem of the program). -/
namespace Go.Proofs.YtnffmegicgbinabDoor
set_option linter.unusedVariables false
set_option linter.unusedSimpArgs false

/-! Horner -/
theorem horner_step {c : List Nat} (hc : bys c) {i x : Nat} (hi : i < c.length) : polyv (c.drop i) x = gm (polyv (c.drop (i + 1)) x) x ^^^ c.getD i 0 := by
  rw [List.drop_eq_getElem_cons hi]
  show c[i] ^^^ gm x _ = _
  rw [gm_comm x, Nat.xor_comm, List.getD_eq_getElem?_getD, List.getElem?_eq_getElem hi]
  rfl
theorem horner_end (c : List Nat) (x : Nat) : polyv (c.drop c.length) x = 0 := by rw [List.drop_length]; rfl
theorem horner_start (c : List Nat) (x : Nat) : polyv (c.drop 0) x = polyv c x := by rw [List.drop_zero]

/-! Lagrange -/
/-- The product of x less the places below m, but i's. -/
def np (A : Nat → Nat) (x i : Nat) : Nat → Nat
  | 0 => 1
  | m + 1 => if m = i then np A x i m else gm (np A x i m) (x ^^^ A m)
theorem np_lt (A : Nat → Nat) (x i : Nat) : ∀ m, np A x i m < 256
  | 0 => by show 1 < 256; omega
  | m + 1 => by
    show (if m = i then _ else _) < 256
    split
    · exact np_lt A x i m
    · exact gm_lt _ _
theorem np_is {A : Nat → Nat} {x : Nat} (hA : ∀ i, A i < 256) (hx : x < 256) (i : Nat) : ∀ m, np A x i m = lprod x (((List.range m).filter fun j => j != i).map A)
  | 0 => rfl
  | m + 1 => by
    rw [List.range_succ, List.filter_append, List.map_append]
    show (if m = i then _ else _) = _
    by_cases c : m = i
    · subst c
      rw [if_pos rfl, np_is hA hx m m]
      simp
    · rw [if_neg c, np_is hA hx i m]
      have e : ([m].filter fun j => j != i).map A = [A m] := by simp [c]
      rw [e, lprod_app x _ _ hx (hA m)]
theorem np_others {A : Nat → Nat} {x : Nat} (hA : ∀ i, A i < 256) (hx : x < 256) (n i : Nat) : np A x i n = lprod x (others A n i) := np_is hA hx i n
theorem np_ne {A : Nat → Nat} {x i : Nat} (hA : ∀ i, A i < 256) (hx : x < 256) : ∀ m, (∀ j, j < m → j ≠ i → A j ≠ x) → np A x i m ≠ 0
  | 0, _ => by show 1 ≠ 0; omega
  | m + 1, h => by
    show (if m = i then _ else _) ≠ 0
    by_cases c : m = i
    · rw [if_pos c]
      exact np_ne hA hx m fun j hj => h j (by omega)
    · rw [if_neg c]
      exact gm_nz (np_ne hA hx m fun j hj => h j (by omega)) (xor_ne fun e => h m (by omega) c e.symm)
theorem ginv_gm {a b : Nat} (ha : a < 256) (hb : b < 256) (h1 : a ≠ 0) (h2 : b ≠ 0) : ginv (gm a b) = gm (ginv a) (ginv b) := by
  refine (ginv_only (gm_lt a b) (gm_lt _ _) ?_).symm
  rw [gm_assoc, ← gm_assoc b, gm_comm b, gm_assoc (ginv a), gm_ginv hb h2, gm_one (ginv_lt a), gm_ginv ha h1]
/-- The same product, each divided at once. -/
def qp (A : Nat → Nat) (x i : Nat) : Nat → Nat
  | 0 => 1
  | m + 1 => if m = i then qp A x i m else gm (qp A x i m) (gm (x ^^^ A m) (ginv (A i ^^^ A m)))
theorem qp_lt (A : Nat → Nat) (x i : Nat) : ∀ m, qp A x i m < 256
  | 0 => by show 1 < 256; omega
  | m + 1 => by
    show (if m = i then _ else _) < 256
    split
    · exact qp_lt A x i m
    · exact gm_lt _ _
theorem qp_is {A : Nat → Nat} {x i : Nat} (hA : ∀ i, A i < 256) (hx : x < 256) : ∀ m, (∀ j, j < m → j ≠ i → A j ≠ A i) → qp A x i m = gm (np A x i m) (ginv (np A (A i) i m))
  | 0, _ => by
    show 1 = gm 1 (ginv 1)
    decide +kernel
  | m + 1, h => by
    show (if m = i then _ else _) = gm (if m = i then _ else _) (ginv (if m = i then _ else _))
    by_cases c : m = i
    · rw [if_pos c, if_pos c, if_pos c]
      exact qp_is hA hx m fun j hj => h j (by omega)
    · rw [if_neg c, if_neg c, if_neg c, qp_is hA hx m fun j hj => h j (by omega)]
      have n1 := np_ne (i := i) hA (hA i) m fun j hj => h j (by omega)
      have n2 : A i ^^^ A m ≠ 0 := xor_ne fun e => h m (by omega) c e.symm
      rw [ginv_gm (np_lt _ _ _ _) (xor_lt256 (hA i) (hA m)) n1 n2]
      generalize np A x i m = p
      generalize ginv (np A (A i) i m) = q
      generalize x ^^^ A m = r
      generalize ginv (A i ^^^ A m) = s
      rw [gm_assoc p q, ← gm_assoc q r s, gm_comm q r, gm_assoc r q s, ← gm_assoc p r]
/-- How much of the value at place i is in the value at x. -/
def lwt (A : Nat → Nat) (x n i : Nat) : Nat := gm (np A x i n) (ginv (np A (A i) i n))
theorem lwt_lt (A : Nat → Nat) (x n i : Nat) : lwt A x n i < 256 := gm_lt _ _
def lsum (A V : Nat → Nat) (x n : Nat) : Nat → Nat
  | 0 => 0
  | m + 1 => lsum A V x n m ^^^ gm (lwt A x n m) (V m)
theorem lsum_lt (A V : Nat → Nat) (x n : Nat) : ∀ m, lsum A V x n m < 256
  | 0 => by show 0 < 256; omega
  | m + 1 => xor_lt256 (lsum_lt A V x n m) (gm_lt _ _)
theorem lsum_is {A V : Nat → Nat} {x : Nat} (hA : ∀ i, A i < 256) (hx : x < 256) (n : Nat) : ∀ m, polyv (lagr A V n m) x = lsum A V x n m
  | 0 => rep_val _ _
  | m + 1 => by
    have ho := others_bys hA n m
    show polyv (padd _ _) x = lsum A V x n m ^^^ gm (lwt A x n m) (V m)
    rw [padd_val (lagr_bys hA n m) (fun y hy => by obtain ⟨z, _, rfl⟩ := List.mem_map.1 hy; exact gm_lt _ _) _ hx, lsum_is hA hx n m, scale_val _ (gm_lt _ _) (mono_ok ho).1 _ hx, (mono_ok ho).2.2 _ hx]
    unfold lwt
    rw [np_others hA hx, np_others hA (hA m)]
    generalize lprod x (others A n m) = p
    generalize ginv (lprod (A m) (others A n m)) = q
    generalize V m = v
    rw [gm_comm (gm p q) v, gm_comm p q, gm_assoc v q p]
/-- Lagrange's sum is the value of the polynomial through the values. -/
theorem lsum_interp {at' v : List Nat} {x : Nat} (ha : bys at') (hv : bys v) (hd : at'.Nodup) (hx : x < 256) :
    Interp at' v x (lsum (fun i => at'.getD i 0) (fun i => v.getD i 0) x at'.length at'.length) := by
  have hA : ∀ i, at'.getD i 0 < 256 := getD_bys ha
  have hV : ∀ i, v.getD i 0 < 256 := getD_bys hv
  have hdd : ∀ i j, i < at'.length → j < at'.length → i ≠ j → at'.getD i 0 ≠ at'.getD j 0 := fun i j hi hj hij => by
    rw [List.getD_eq_getElem?_getD, List.getD_eq_getElem?_getD, List.getElem?_eq_getElem hi, List.getElem?_eq_getElem hj]
    have hp := List.pairwise_iff_getElem.1 (List.nodup_iff_pairwise_ne.1 hd)
    intro e
    rcases Nat.lt_or_gt_of_ne hij with q | q
    · exact hp i j hi hj q e
    · exact hp j i hj hi q e.symm
  obtain ⟨h1, h2, h3⟩ := lagr_ok hA hV hdd
  exact ⟨_, h1, by rw [h2]; exact Nat.le_refl _, h3, (lsum_is (V := fun i => v.getD i 0) hA hx _ _).symm⟩
end Go.Proofs.YtnffmegicgbinabDoor
