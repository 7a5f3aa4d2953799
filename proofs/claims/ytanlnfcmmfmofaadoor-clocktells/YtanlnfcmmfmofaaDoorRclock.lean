/- The contracts of oathbookref2.ClockFault, Seen and Shortened. -/
import Derived.Test.YtanlnfcmmfmofaaDoorClockp
import Derived.WalkKit
namespace Go.Proofs.YtanlnfcmmfmofaaDoor
open Go.RowKit
set_option linter.unusedVariables false
set_option linter.unusedSimpArgs false

set_option maxRecDepth 100000 in
set_option maxHeartbeats 4000000 in
theorem rshort_any (a : Option Addr) (n c : Nat) (l : List Int) (w : World) (R : IRow w a n l) (hc : n ≤ c) (hn : n ≤ 140737488351232) :
    Calls Tryd.prog 10 #[.slice a n c] w fun r w' => r = .returned (.slice a (shortL l).length c) ∧ w' = w := by
  have HL : Hid (l.length = n) := R.1
  have HR : Hid (n = 0 ∨ ∃ b o, a = some ⟨b, o, none⟩ ∧ ∀ i, i < n → w.cell? ⟨b, o + i, none⟩ = some (.int .i64 (l.getD i 0))) := R.2
  have HS : Hid ((shortL l).length = shortN l n) := by unfold Hid; rw [shortL_length, R.1]
  clear R
  go_enter Tryd.func10, Tryd.ntmps10
  go_wp2_with fail
  go_loopw [3] (fun kv wr => ∃ k : Nat, kv = .int .i64 (k : Int) ∧ k ≤ n ∧ Hid (shortN l k = shortN l n) ∧ Hid (wr = w)) (fun kv _ => (intOf kv).toNat)
  case atStart => exact ⟨n, rfl, Nat.le_refl _, rfl, rfl⟩
  case round =>
    obtain ⟨k, rfl, hk, HK, HW⟩ := hrel
    have hw : w = wr := HW.out.symm
    subst hw
    by_cases hz : k = 0
    · subst hz
      have HE : Hid ((shortL l).length = 0) := by rw [HS.out, ← HK.out]; rfl
      clear HR HK
      go_wp2_with fail
      go_ret
      rw [HE.out]
      exact ⟨rfl, by trivial⟩
    obtain ⟨j, rfl⟩ : ∃ j, k = j + 1 := ⟨k - 1, by omega⟩
    obtain ⟨b, o, rfl, hc'⟩ : ∃ b o, a = some ⟨b, o, none⟩ ∧ ∀ i, i < n → w.cell? ⟨b, o + i, none⟩ = some (.int .i64 (l.getD i 0)) := by
      rcases HR.out with h0 | h
      · omega
      · exact h
    have g1 : (0 : Int) < ((j + 1 : Nat) : Int) := by omega
    have k0 := hc' j (by omega)
    have e1 : ((j + 1 : Nat) : Int) - 1 = (j : Int) := by omega
    have j0 : (0 : Int) ≤ (j : Int) := by omega
    have j1 : (j : Int) < (n : Int) := by omega
    have HKL : Hid (j + 1 ≤ n ∧ n ≤ c) := ⟨hk, hc⟩
    have jc : ((j + 1 : Nat) : Int) ≤ (c : Int) := by omega
    by_cases cz : l.getD j 0 = 0
    · have HK2 : Hid (shortN l j = shortN l n) := by
        rw [← HK.out]
        exact (if_pos cz : shortN l (j + 1) = shortN l j).symm
      rw [cz] at k0
      clear cz hc' HK
      go_wp2_with fail
      go_roundw
      case rel => exact ⟨j, by first | rfl | go_num, by have := HKL.out; omega, HK2.out, by first | exact True.intro | exact rfl⟩
      case measure => simp [intOf]
    · have HE : Hid ((shortL l).length = j + 1) := by
        rw [HS.out, ← HK.out]
        exact (if_neg cz : shortN l (j + 1) = j + 1)
      obtain ⟨z, hz'⟩ : ∃ z, l.getD j 0 = z := ⟨_, rfl⟩
      rw [hz'] at k0 cz
      have cz' : (z == (0 : Int)) = false := beq_eq_false_iff_ne.2 cz
      clear hz' hc' HK hz HR
      go_wp2_with fail
      go_ret
      rw [HE.out]
      exact ⟨by first | rfl | simp, by trivial⟩
set_option maxRecDepth 100000 in
set_option maxHeartbeats 4000000 in
theorem rseen_any (a : Option Addr) (n c : Nat) (l : List Int) (who : Nat) (w : World) (R : IRow w a n l) (hc : n ≤ c) :
    Calls Tryd.prog 7 #[.slice a n c, .int .i64 (who : Int)] w fun r w' => r = .returned (.int .i64 (seenL l who)) ∧ w' = w := by
  by_cases h : who < n
  · obtain ⟨b, o, rfl, hc'⟩ : ∃ b o, a = some ⟨b, o, none⟩ ∧ ∀ i, i < n → w.cell? ⟨b, o + i, none⟩ = some (.int .i64 (l.getD i 0)) := by
      rcases R.2 with h0 | h
      · omega
      · exact h
    have k0 := hc' who h
    have j0 : (0 : Int) ≤ (who : Int) := by omega
    have j1 : (who : Int) < (n : Int) := by omega
    have HZ : Hid (seenL l who = l.getD who 0) := rfl
    generalize seenL l who = z at *
    rw [← HZ.out] at k0
    clear hc' R HZ
    go_enter Tryd.func7, Tryd.ntmps7
    go_wp2_with fail
    go_ret
    exact ⟨rfl, rfl⟩
  · have j1 : ¬ (who : Int) < (n : Int) := by omega
    have HZ : Hid (seenL l who = 0) := seenL_out (by rw [R.1]; omega)
    clear R
    go_enter Tryd.func7, Tryd.ntmps7
    go_wp2_with fail
    go_ret
    rw [HZ.out]
    exact ⟨rfl, rfl⟩
set_option maxRecDepth 100000 in
set_option maxHeartbeats 4000000 in
theorem rclockfault_any (a : Option Addr) (n c : Nat) (l : List Int) (w : World) (R : IRow w a n l) (hc : n ≤ c) (hn : n ≤ 140737488351232) :
    Calls Tryd.prog 4 #[.slice a n c] w fun r w' => r = .returned (.int .i64 (clockE l)) ∧ w' = w := by
  have HL : Hid (l.length = n) := R.1
  go_enter Tryd.func4, Tryd.ntmps4
  by_cases c1 : 16 < n
  · have HE : Hid (clockE l = 4) := if_pos (by rw [HL.out]; exact c1)
    have g1 : (16 : Int) < (n : Int) := by omega
    clear R c1
    go_wp2_with fail
    go_ret
    exact ⟨by rw [HE.out]; rfl, rfl⟩
  have g1 : ¬ (16 : Int) < (n : Int) := by omega
  have HE1 : Hid (clockE l = if ∀ x ∈ l, 0 ≤ x then 0 else 2) := if_neg (by rw [HL.out]; exact c1)
  have HR : Hid (n = 0 ∨ ∃ b o, a = some ⟨b, o, none⟩ ∧ ∀ i, i < n → w.cell? ⟨b, o + i, none⟩ = some (.int .i64 (l.getD i 0))) := R.2
  clear R c1
  go_wp2_with fail
  go_loopw [3] (fun iv wr => ∃ i : Nat, iv = .int .i64 (i : Int) ∧ i ≤ n ∧ Hid (∀ j, j < i → 0 ≤ l.getD j 0) ∧ Hid (wr = w)) (fun iv _ => n - (intOf iv).toNat)
  case atStart => exact ⟨0, rfl, Nat.zero_le _, (fun j h => by omega), rfl⟩
  case round =>
    obtain ⟨i, rfl, hi, HJ, HW⟩ := hrel
    have hw : w = wr := HW.out.symm
    subst hw
    by_cases hlt : i < n
    · obtain ⟨b, o, rfl, hc'⟩ : ∃ b o, a = some ⟨b, o, none⟩ ∧ ∀ i, i < n → w.cell? ⟨b, o + i, none⟩ = some (.int .i64 (l.getD i 0)) := by
        rcases HR.out with h0 | h
        · omega
        · exact h
      have k0 := hc' i hlt
      have i0 : (0 : Int) ≤ (i : Int) := by omega
      have i1 : (i : Int) < (n : Int) := by omega
      have HIN : Hid (i < n) := hlt
      obtain ⟨z, hz⟩ : ∃ z, l.getD i 0 = z := ⟨_, rfl⟩
      have HZ : Hid (l.getD i 0 = z) := hz
      rw [hz] at k0
      clear hz hc' hlt hi
      by_cases cz : z < 0
      · have HE : Hid (clockE l = 2) := by
          rw [HE1.out]
          refine if_neg fun q => ?_
          have := q (l.getD i 0) (seenL_mem (by rw [HL.out]; exact HIN.out))
          rw [HZ.out] at this
          omega
        go_wp2_with fail
        go_ret
        exact ⟨by rw [HE.out]; rfl, by trivial⟩
      · have HJ2 : Hid (∀ j, j < i + 1 → 0 ≤ l.getD j 0) := fun j hj => by
          by_cases e : j = i
          · rw [e, HZ.out]; omega
          · exact HJ.out j (by omega)
        go_wp2_with fail
        go_roundw
        case rel => exact ⟨i + 1, by go_num, HIN.out, HJ2.out, by first | exact True.intro | exact rfl⟩
        case measure => have := HIN.out; simp [intOf]; omega
    · have hin : i = n := by omega
      subst hin
      have g2 : ¬ (i : Int) < (i : Int) := by omega
      have HE : Hid (clockE l = 0) := by
        rw [HE1.out]
        refine if_pos fun x hx => ?_
        obtain ⟨j, hj, rfl⟩ := List.mem_iff_getElem.1 hx
        have := HJ.out j (by rw [← HL.out]; exact hj)
        rw [List.getD_eq_getElem?_getD, List.getElem?_eq_getElem hj] at this
        exact this
      clear hlt
      go_wp2_with fail
      go_ret
      exact ⟨by rw [HE.out]; rfl, by trivial⟩
end Go.Proofs.YtanlnfcmmfmofaaDoor
