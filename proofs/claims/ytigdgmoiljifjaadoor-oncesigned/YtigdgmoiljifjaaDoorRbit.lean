/- The contract of oathbookref1.Bit. -/
import Derived.Test.YtigdgmoiljifjaaDoorOnce
import Derived.Test.YtigdgmoiljifjaaDoorDigest
namespace Go.Proofs.YtigdgmoiljifjaaDoor
open Go.RowKit
set_option linter.unusedVariables false
set_option linter.unusedSimpArgs false

set_option maxRecDepth 100000 in
set_option maxHeartbeats 1000000 in
theorem rbit_any (m : List UInt8) (i : Nat) (w : World) (hm : m.length = 32) (hi : i < 256) :
    Calls Tryd.prog 14 #[digestV m, .int .i64 (i : Int)] w fun e w' => e = .returned (.int .i64 (bitL m i : Nat)) ∧ Below w.heap.size w w' := by
  have hq : (i : Int).tdiv 8 = ((i / 8 : Nat) : Int) := by rw [Int.tdiv_eq_ediv_of_nonneg (by omega)]; omega
  have hr : (i : Int).tmod 8 = ((i % 8 : Nat) : Int) := by rw [Int.tmod_eq_emod_of_nonneg (by omega)]; omega
  have hq2 : (i : Int) / 8 = ((i / 8 : Nat) : Int) := by omega
  have hr2 : (i : Int) % 8 = ((i % 8 : Nat) : Int) := by omega
  have hb : bitL m i = (m.getD (i / 8) 0).toNat / 2 ^ (7 - i % 8) % 2 := rfl
  have HB : Hid (bitL m i = (m.getD (i / 8) 0).toNat / 2 ^ (7 - i % 8) % 2) := hb
  have hlq : i / 8 < 32 := by omega
  have hlr : i % 8 < 8 := by omega
  have hc := (box_dat w m 23).cell (i / 8) (by omega)
  rw [Nat.zero_add] at hc
  unfold nth at hc
  have hx := (m.getD (i / 8) 0).toNat_lt
  generalize (m.getD (i / 8) 0).toNat = x at *
  generalize i / 8 = q at *
  generalize i % 8 = r at *
  clear hb
  have q0 : (0 : Int) ≤ (q : Int) := by omega
  have q1 : (q : Int) < 32 := by omega
  go_enter Tryd.func14, Tryd.ntmps14
  go_wp2
  go_loopw [5, 6] (fun v j wr => ∃ k : Nat, k + r ≤ 7 ∧ v = .int .i64 ((x / 2 ^ k : Nat) : Int) ∧ j = .int .i64 (7 - (k : Int)) ∧ Hid (wr = w.alloc (.cells (cellsB m).toArray 23))) (fun _ j _ => (intOf j).toNat)
  case atStart => exact ⟨0, by omega, by simp, rfl, rfl⟩
  case round =>
    obtain ⟨k, hk, rfl, rfl, HW⟩ := hrel
    by_cases hlt : k + r < 7
    · have hd : x / 2 ^ (k + 1) = x / 2 ^ k / 2 := by rw [Nat.pow_succ, Nat.div_div_eq_div_mul]
      have HD : Hid (x / 2 ^ (k + 1) = x / 2 ^ k / 2) := hd
      clear hd
      have hle : x / 2 ^ k ≤ 255 := Nat.le_trans (Nat.div_le_self _ _) (by omega)
      generalize x / 2 ^ k = y at *
      have e1 : (y : Int).tdiv 2 = ((y / 2 : Nat) : Int) := by rw [Int.tdiv_eq_ediv_of_nonneg (by omega)]; omega
      have e2 : (y : Int) / 2 = ((y / 2 : Nat) : Int) := by omega
      have hz : y / 2 ≤ 255 := by omega
      generalize y / 2 = z at *
      have z0 : (0 : Int) ≤ (z : Int) := by omega
      have z1 : (z : Int) ≤ 255 := by omega
      go_wp2
      go_roundw
      case rel => exact ⟨k + 1, by omega, by rw [HD.out], by go_num, HW⟩
      case measure => simp [intOf]; omega
    · obtain rfl : k = 7 - r := by omega
      rw [show (7 : Int) - ((7 - r : Nat) : Int) = (r : Int) by omega]
      generalize x / 2 ^ (7 - r) = y at *
      have e1 : (y : Int).tmod 2 = ((y % 2 : Nat) : Int) := by rw [Int.tmod_eq_emod_of_nonneg (by omega)]; omega
      have e2 : (y : Int) % 2 = ((y % 2 : Nat) : Int) := by omega
      have hz : y % 2 ≤ 1 := by omega
      generalize y % 2 = z at *
      have z0 : (0 : Int) ≤ (z : Int) := by omega
      have z1 : (z : Int) ≤ 1 := by omega
      go_wp2
      go_ret
      refine ⟨?_, ?_⟩
      · rw [HB.out]; rfl
      · rw [HW.out]; exact (Below.refl _ _).alloc (Nat.le_refl _) _
end Go.Proofs.YtigdgmoiljifjaaDoor
