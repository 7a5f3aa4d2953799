/- The law FieldPowers: 255 times is 1; so many times and so many times. -/
import Derived.Test.YtfefhjnjndfchaaWfield
import Derived.WalkKit
namespace Go.Proofs.Ytfefhjnjndfchaa
open Go.RowKit
set_option linter.unusedVariables false
set_option linter.unusedSimpArgs false

theorem gpow_0 (n : Nat) (h : n ≠ 0) : gpow 0 n = 0 := by
  obtain ⟨m, rfl⟩ : ∃ m, n = m + 1 := ⟨n - 1, by omega⟩
  exact gpow_zero m
set_option maxRecDepth 100000 in
set_option maxHeartbeats 2000000 in
theorem fpow_outz (a : Nat) (m n : Int) (w : World) (G : Env w) (ha : a < 256) (m1 : -9223372036854775808 ≤ m) (m2 : m ≤ 9223372036854775807) (n1 : -9223372036854775808 ≤ n) (n2 : n ≤ 9223372036854775807) (ho : m < 0 ∨ n < 0 ∨ 100000 < m ∨ 100000 < n) (h0 : a = 0) :
    Calls Try.prog 4 #[.int .u8 (a : Int), .int .i64 m, .int .i64 n] w fun r w' => r = .returned (.bool true) ∧ Below w.heap.size w w' := by
  have HE : Hid (∀ wx, Below w.heap.size w wx → Env wx) := fun wx hx => G.below hx
  have HBw : Hid (Below w.heap.size w w) := Below.refl _ _
  have P0 : Hid (∀ wx, Env wx → Calls Try.prog 8 #[.int .u8 (2 : Int), .int .i64 (8 : Int)] wx fun e w' => e = .returned (.tuple #[.int .u8 (27 : Int), .nilIface]) ∧ Below wx.heap.size wx w') := fun wx hx => by
    have h := wfield_pow 2 8 wx hx (by omega) (by omega)
    rw [show gpow 2 8 = 27 by decide +kernel] at h
    exact h
  have P1 : Hid (∀ wx, Env wx → Calls Try.prog 8 #[.int .u8 (a : Int), .int .i64 (255 : Int)] wx fun e w' => e = .returned (.tuple #[.int .u8 (0 : Int), .nilIface]) ∧ Below wx.heap.size wx w') := fun wx hx => by
    have h := wfield_pow a 255 wx hx ha (by omega)
    rw [show gpow a 255 = 0 by rw [h0]; exact gpow_0 255 (by omega)] at h
    exact h
  subst h0
  clear G
  go_enter Try.func4, Try.ntmps4
  go_wp2_with fail
  refine (P0.out w (HE.out _ HBw.out)).mono ?_
  rintro r x73 ⟨rfl, hbx73⟩
  have HBx73 : Hid (Below w.heap.size w x73) := HBw.out.trans (hbx73.mono HBw.out.size)
  clear hbx73
  go_wp2_with fail
  refine (P1.out x73 (HE.out _ HBx73.out)).mono ?_
  rintro r x74 ⟨rfl, hbx74⟩
  have HBx74 : Hid (Below w.heap.size w x74) := HBx73.out.trans (hbx74.mono HBx73.out.size)
  clear hbx74
  by_cases q1 : m < 0
  · clear ho
    go_wp2_with fail
    go_ret
    exact ⟨rfl, HBx74.out⟩
  by_cases q2 : n < 0
  · clear ho
    go_wp2_with fail
    go_ret
    exact ⟨rfl, HBx74.out⟩
  by_cases q3 : 100000 < m
  · clear ho
    go_wp2_with fail
    go_ret
    exact ⟨rfl, HBx74.out⟩
  have q4 : 100000 < n := by omega
  clear ho
  go_wp2_with fail
  go_ret
  exact ⟨rfl, HBx74.out⟩
set_option maxRecDepth 100000 in
set_option maxHeartbeats 2000000 in
theorem fpow_outn (a : Nat) (m n : Int) (w : World) (G : Env w) (ha : a < 256) (m1 : -9223372036854775808 ≤ m) (m2 : m ≤ 9223372036854775807) (n1 : -9223372036854775808 ≤ n) (n2 : n ≤ 9223372036854775807) (ho : m < 0 ∨ n < 0 ∨ 100000 < m ∨ 100000 < n) (h0 : a ≠ 0) :
    Calls Try.prog 4 #[.int .u8 (a : Int), .int .i64 m, .int .i64 n] w fun r w' => r = .returned (.bool true) ∧ Below w.heap.size w w' := by
  have HE : Hid (∀ wx, Below w.heap.size w wx → Env wx) := fun wx hx => G.below hx
  have HBw : Hid (Below w.heap.size w w) := Below.refl _ _
  have P0 : Hid (∀ wx, Env wx → Calls Try.prog 8 #[.int .u8 (2 : Int), .int .i64 (8 : Int)] wx fun e w' => e = .returned (.tuple #[.int .u8 (27 : Int), .nilIface]) ∧ Below wx.heap.size wx w') := fun wx hx => by
    have h := wfield_pow 2 8 wx hx (by omega) (by omega)
    rw [show gpow 2 8 = 27 by decide +kernel] at h
    exact h
  have P1 : Hid (∀ wx, Env wx → Calls Try.prog 8 #[.int .u8 (a : Int), .int .i64 (255 : Int)] wx fun e w' => e = .returned (.tuple #[.int .u8 (1 : Int), .nilIface]) ∧ Below wx.heap.size wx w') := fun wx hx => by
    have h := wfield_pow a 255 wx hx ha (by omega)
    rw [gpow_255 ha h0] at h
    exact h
  have ca : ((a : Int) == 0) = false := beq_eq_false_iff_ne.2 (by omega)
  have cn : ((a : Int) != 0) = true := by simp; omega
  clear G
  go_enter Try.func4, Try.ntmps4
  go_wp2_with fail
  refine (P0.out w (HE.out _ HBw.out)).mono ?_
  rintro r x75 ⟨rfl, hbx75⟩
  have HBx75 : Hid (Below w.heap.size w x75) := HBw.out.trans (hbx75.mono HBw.out.size)
  clear hbx75
  go_wp2_with fail
  refine (P1.out x75 (HE.out _ HBx75.out)).mono ?_
  rintro r x76 ⟨rfl, hbx76⟩
  have HBx76 : Hid (Below w.heap.size w x76) := HBx75.out.trans (hbx76.mono HBx75.out.size)
  clear hbx76
  by_cases q1 : m < 0
  · clear ho
    go_wp2_with fail
    go_ret
    exact ⟨rfl, HBx76.out⟩
  by_cases q2 : n < 0
  · clear ho
    go_wp2_with fail
    go_ret
    exact ⟨rfl, HBx76.out⟩
  by_cases q3 : 100000 < m
  · clear ho
    go_wp2_with fail
    go_ret
    exact ⟨rfl, HBx76.out⟩
  have q4 : 100000 < n := by omega
  clear ho
  go_wp2_with fail
  go_ret
  exact ⟨rfl, HBx76.out⟩
set_option maxRecDepth 100000 in
set_option maxHeartbeats 2000000 in
theorem fpow_inz (a m n : Nat) (w : World) (G : Env w) (ha : a < 256) (hm : m ≤ 100000) (hn : n ≤ 100000) (h0 : a = 0) :
    Calls Try.prog 4 #[.int .u8 (a : Int), .int .i64 (m : Int), .int .i64 (n : Int)] w fun r w' => r = .returned (.bool true) ∧ Below w.heap.size w w' := by
  have HE : Hid (∀ wx, Below w.heap.size w wx → Env wx) := fun wx hx => G.below hx
  have HBw : Hid (Below w.heap.size w w) := Below.refl _ _
  have P0 : Hid (∀ wx, Env wx → Calls Try.prog 8 #[.int .u8 (2 : Int), .int .i64 (8 : Int)] wx fun e w' => e = .returned (.tuple #[.int .u8 (27 : Int), .nilIface]) ∧ Below wx.heap.size wx w') := fun wx hx => by
    have h := wfield_pow 2 8 wx hx (by omega) (by omega)
    rw [show gpow 2 8 = 27 by decide +kernel] at h
    exact h
  have P1 : Hid (∀ wx, Env wx → Calls Try.prog 8 #[.int .u8 (a : Int), .int .i64 (255 : Int)] wx fun e w' => e = .returned (.tuple #[.int .u8 (0 : Int), .nilIface]) ∧ Below wx.heap.size wx w') := fun wx hx => by
    have h := wfield_pow a 255 wx hx ha (by omega)
    rw [show gpow a 255 = 0 by rw [h0]; exact gpow_0 255 (by omega)] at h
    exact h
  have lx := gpow_lt a m
  have ly := gpow_lt a n
  have lz := gpow_lt a (m + n)
  have lu := gpow_lt a (m * n)
  have P2 : Hid (∀ wx, Env wx → Calls Try.prog 8 #[.int .u8 (a : Int), .int .i64 (m : Int)] wx fun e w' => e = .returned (.tuple #[.int .u8 ((gpow a m : Nat) : Int), .nilIface]) ∧ Below wx.heap.size wx w') := fun wx hx => wfield_pow a m wx hx ha (by omega)
  have P3 : Hid (∀ wx, Env wx → Calls Try.prog 8 #[.int .u8 (a : Int), .int .i64 (n : Int)] wx fun e w' => e = .returned (.tuple #[.int .u8 ((gpow a n : Nat) : Int), .nilIface]) ∧ Below wx.heap.size wx w') := fun wx hx => wfield_pow a n wx hx ha (by omega)
  have P4 : Hid (∀ wx, Env wx → Calls Try.prog 8 #[.int .u8 (a : Int), .int .i64 ((m : Int) + (n : Int))] wx fun e w' => e = .returned (.tuple #[.int .u8 ((gpow a (m + n) : Nat) : Int), .nilIface]) ∧ Below wx.heap.size wx w') := fun wx hx => by
    have h := wfield_pow a (m + n) wx hx ha (by omega)
    rwa [Int.natCast_add] at h
  have P5 : Hid (∀ wx, Env wx → Calls Try.prog 8 #[.int .u8 ((gpow a m : Nat) : Int), .int .i64 (n : Int)] wx fun e w' => e = .returned (.tuple #[.int .u8 ((gpow a (m * n) : Nat) : Int), .nilIface]) ∧ Below wx.heap.size wx w') := fun wx hx => by
    have h := wfield_pow _ n wx hx lx (by omega)
    rw [gpow_mul] at h
    exact h
  have P6 : Hid (∀ wx, Env wx → Calls Try.prog 8 #[.int .u8 ((gpow a n : Nat) : Int), .int .i64 (m : Int)] wx fun e w' => e = .returned (.tuple #[.int .u8 ((gpow a (m * n) : Nat) : Int), .nilIface]) ∧ Below wx.heap.size wx w') := fun wx hx => by
    have h := wfield_pow _ m wx hx ly (by omega)
    rw [gpow_mul, Nat.mul_comm] at h
    exact h
  have M1 : Hid (∀ wx, Env wx → Calls Try.prog 5 #[.int .u8 ((gpow a m : Nat) : Int), .int .u8 ((gpow a n : Nat) : Int)] wx fun e w' => e = .returned (.int .u8 ((gpow a (m + n) : Nat) : Int)) ∧ Below wx.heap.size wx w') := fun wx hx => by
    have h := wfield_mul _ _ wx hx lx ly
    rw [← gpow_add] at h
    exact h
  generalize gpow a (m + n) = z at *
  generalize gpow a (m * n) = u at *
  generalize gpow a m = x at *
  generalize gpow a n = y at *
  have g1 : ¬ (m : Int) < 0 := by omega
  have g2 : ¬ (n : Int) < 0 := by omega
  have g3 : ¬ (100000 : Int) < (m : Int) := by omega
  have g4 : ¬ (100000 : Int) < (n : Int) := by omega
  subst h0
  clear G
  go_enter Try.func4, Try.ntmps4
  go_wp2_with fail
  refine (P0.out w (HE.out _ HBw.out)).mono ?_
  rintro r x77 ⟨rfl, hbx77⟩
  have HBx77 : Hid (Below w.heap.size w x77) := HBw.out.trans (hbx77.mono HBw.out.size)
  clear hbx77
  go_wp2_with fail
  refine (P1.out x77 (HE.out _ HBx77.out)).mono ?_
  rintro r x78 ⟨rfl, hbx78⟩
  have HBx78 : Hid (Below w.heap.size w x78) := HBx77.out.trans (hbx78.mono HBx77.out.size)
  clear hbx78
  go_wp2_with fail
  refine (P2.out x78 (HE.out _ HBx78.out)).mono ?_
  rintro r x79 ⟨rfl, hbx79⟩
  have HBx79 : Hid (Below w.heap.size w x79) := HBx78.out.trans (hbx79.mono HBx78.out.size)
  clear hbx79
  go_wp2_with fail
  refine (P3.out x79 (HE.out _ HBx79.out)).mono ?_
  rintro r x80 ⟨rfl, hbx80⟩
  have HBx80 : Hid (Below w.heap.size w x80) := HBx79.out.trans (hbx80.mono HBx79.out.size)
  clear hbx80
  go_wp2_with fail
  refine (P4.out x80 (HE.out _ HBx80.out)).mono ?_
  rintro r x81 ⟨rfl, hbx81⟩
  have HBx81 : Hid (Below w.heap.size w x81) := HBx80.out.trans (hbx81.mono HBx80.out.size)
  clear hbx81
  go_wp2_with fail
  refine (P5.out x81 (HE.out _ HBx81.out)).mono ?_
  rintro r x82 ⟨rfl, hbx82⟩
  have HBx82 : Hid (Below w.heap.size w x82) := HBx81.out.trans (hbx82.mono HBx81.out.size)
  clear hbx82
  go_wp2_with fail
  refine (P6.out x82 (HE.out _ HBx82.out)).mono ?_
  rintro r x83 ⟨rfl, hbx83⟩
  have HBx83 : Hid (Below w.heap.size w x83) := HBx82.out.trans (hbx83.mono HBx82.out.size)
  clear hbx83
  go_wp2_with fail
  refine (M1.out x83 (HE.out _ HBx83.out)).mono ?_
  rintro r x84 ⟨rfl, hbx84⟩
  have HBx84 : Hid (Below w.heap.size w x84) := HBx83.out.trans (hbx84.mono HBx83.out.size)
  clear hbx84
  go_wp2_with fail
  go_ret
  exact ⟨rfl, HBx84.out⟩
set_option maxRecDepth 100000 in
set_option maxHeartbeats 2000000 in
theorem fpow_inn (a m n : Nat) (w : World) (G : Env w) (ha : a < 256) (hm : m ≤ 100000) (hn : n ≤ 100000) (h0 : a ≠ 0) :
    Calls Try.prog 4 #[.int .u8 (a : Int), .int .i64 (m : Int), .int .i64 (n : Int)] w fun r w' => r = .returned (.bool true) ∧ Below w.heap.size w w' := by
  have HE : Hid (∀ wx, Below w.heap.size w wx → Env wx) := fun wx hx => G.below hx
  have HBw : Hid (Below w.heap.size w w) := Below.refl _ _
  have P0 : Hid (∀ wx, Env wx → Calls Try.prog 8 #[.int .u8 (2 : Int), .int .i64 (8 : Int)] wx fun e w' => e = .returned (.tuple #[.int .u8 (27 : Int), .nilIface]) ∧ Below wx.heap.size wx w') := fun wx hx => by
    have h := wfield_pow 2 8 wx hx (by omega) (by omega)
    rw [show gpow 2 8 = 27 by decide +kernel] at h
    exact h
  have P1 : Hid (∀ wx, Env wx → Calls Try.prog 8 #[.int .u8 (a : Int), .int .i64 (255 : Int)] wx fun e w' => e = .returned (.tuple #[.int .u8 (1 : Int), .nilIface]) ∧ Below wx.heap.size wx w') := fun wx hx => by
    have h := wfield_pow a 255 wx hx ha (by omega)
    rw [gpow_255 ha h0] at h
    exact h
  have lx := gpow_lt a m
  have ly := gpow_lt a n
  have lz := gpow_lt a (m + n)
  have lu := gpow_lt a (m * n)
  have P2 : Hid (∀ wx, Env wx → Calls Try.prog 8 #[.int .u8 (a : Int), .int .i64 (m : Int)] wx fun e w' => e = .returned (.tuple #[.int .u8 ((gpow a m : Nat) : Int), .nilIface]) ∧ Below wx.heap.size wx w') := fun wx hx => wfield_pow a m wx hx ha (by omega)
  have P3 : Hid (∀ wx, Env wx → Calls Try.prog 8 #[.int .u8 (a : Int), .int .i64 (n : Int)] wx fun e w' => e = .returned (.tuple #[.int .u8 ((gpow a n : Nat) : Int), .nilIface]) ∧ Below wx.heap.size wx w') := fun wx hx => wfield_pow a n wx hx ha (by omega)
  have P4 : Hid (∀ wx, Env wx → Calls Try.prog 8 #[.int .u8 (a : Int), .int .i64 ((m : Int) + (n : Int))] wx fun e w' => e = .returned (.tuple #[.int .u8 ((gpow a (m + n) : Nat) : Int), .nilIface]) ∧ Below wx.heap.size wx w') := fun wx hx => by
    have h := wfield_pow a (m + n) wx hx ha (by omega)
    rwa [Int.natCast_add] at h
  have P5 : Hid (∀ wx, Env wx → Calls Try.prog 8 #[.int .u8 ((gpow a m : Nat) : Int), .int .i64 (n : Int)] wx fun e w' => e = .returned (.tuple #[.int .u8 ((gpow a (m * n) : Nat) : Int), .nilIface]) ∧ Below wx.heap.size wx w') := fun wx hx => by
    have h := wfield_pow _ n wx hx lx (by omega)
    rw [gpow_mul] at h
    exact h
  have P6 : Hid (∀ wx, Env wx → Calls Try.prog 8 #[.int .u8 ((gpow a n : Nat) : Int), .int .i64 (m : Int)] wx fun e w' => e = .returned (.tuple #[.int .u8 ((gpow a (m * n) : Nat) : Int), .nilIface]) ∧ Below wx.heap.size wx w') := fun wx hx => by
    have h := wfield_pow _ m wx hx ly (by omega)
    rw [gpow_mul, Nat.mul_comm] at h
    exact h
  have M1 : Hid (∀ wx, Env wx → Calls Try.prog 5 #[.int .u8 ((gpow a m : Nat) : Int), .int .u8 ((gpow a n : Nat) : Int)] wx fun e w' => e = .returned (.int .u8 ((gpow a (m + n) : Nat) : Int)) ∧ Below wx.heap.size wx w') := fun wx hx => by
    have h := wfield_mul _ _ wx hx lx ly
    rw [← gpow_add] at h
    exact h
  generalize gpow a (m + n) = z at *
  generalize gpow a (m * n) = u at *
  generalize gpow a m = x at *
  generalize gpow a n = y at *
  have g1 : ¬ (m : Int) < 0 := by omega
  have g2 : ¬ (n : Int) < 0 := by omega
  have g3 : ¬ (100000 : Int) < (m : Int) := by omega
  have g4 : ¬ (100000 : Int) < (n : Int) := by omega
  have ca : ((a : Int) == 0) = false := beq_eq_false_iff_ne.2 (by omega)
  have cn : ((a : Int) != 0) = true := by simp; omega
  clear G
  go_enter Try.func4, Try.ntmps4
  go_wp2_with fail
  refine (P0.out w (HE.out _ HBw.out)).mono ?_
  rintro r x85 ⟨rfl, hbx85⟩
  have HBx85 : Hid (Below w.heap.size w x85) := HBw.out.trans (hbx85.mono HBw.out.size)
  clear hbx85
  go_wp2_with fail
  refine (P1.out x85 (HE.out _ HBx85.out)).mono ?_
  rintro r x86 ⟨rfl, hbx86⟩
  have HBx86 : Hid (Below w.heap.size w x86) := HBx85.out.trans (hbx86.mono HBx85.out.size)
  clear hbx86
  go_wp2_with fail
  refine (P2.out x86 (HE.out _ HBx86.out)).mono ?_
  rintro r x87 ⟨rfl, hbx87⟩
  have HBx87 : Hid (Below w.heap.size w x87) := HBx86.out.trans (hbx87.mono HBx86.out.size)
  clear hbx87
  go_wp2_with fail
  refine (P3.out x87 (HE.out _ HBx87.out)).mono ?_
  rintro r x88 ⟨rfl, hbx88⟩
  have HBx88 : Hid (Below w.heap.size w x88) := HBx87.out.trans (hbx88.mono HBx87.out.size)
  clear hbx88
  go_wp2_with fail
  refine (P4.out x88 (HE.out _ HBx88.out)).mono ?_
  rintro r x89 ⟨rfl, hbx89⟩
  have HBx89 : Hid (Below w.heap.size w x89) := HBx88.out.trans (hbx89.mono HBx88.out.size)
  clear hbx89
  go_wp2_with fail
  refine (P5.out x89 (HE.out _ HBx89.out)).mono ?_
  rintro r x90 ⟨rfl, hbx90⟩
  have HBx90 : Hid (Below w.heap.size w x90) := HBx89.out.trans (hbx90.mono HBx89.out.size)
  clear hbx90
  go_wp2_with fail
  refine (P6.out x90 (HE.out _ HBx90.out)).mono ?_
  rintro r x91 ⟨rfl, hbx91⟩
  have HBx91 : Hid (Below w.heap.size w x91) := HBx90.out.trans (hbx91.mono HBx90.out.size)
  clear hbx91
  go_wp2_with fail
  refine (M1.out x91 (HE.out _ HBx91.out)).mono ?_
  rintro r x92 ⟨rfl, hbx92⟩
  have HBx92 : Hid (Below w.heap.size w x92) := HBx91.out.trans (hbx92.mono HBx91.out.size)
  clear hbx92
  go_wp2_with fail
  go_ret
  exact ⟨rfl, HBx92.out⟩
theorem fpow_walk (a m n : Int) (w : World) (G : Env w) (a1 : 0 ≤ a) (a2 : a ≤ 255) (m1 : -9223372036854775808 ≤ m) (m2 : m ≤ 9223372036854775807) (n1 : -9223372036854775808 ≤ n) (n2 : n ≤ 9223372036854775807) :
    Calls Try.prog 4 #[.int .u8 a, .int .i64 m, .int .i64 n] w fun r w' => r = .returned (.bool true) ∧ Below w.heap.size w w' := by
  obtain ⟨x, rfl⟩ : ∃ x : Nat, a = (x : Int) := ⟨a.toNat, by omega⟩
  by_cases ho : m < 0 ∨ n < 0 ∨ 100000 < m ∨ 100000 < n
  · by_cases h0 : x = 0
    · exact fpow_outz x m n w G (by omega) m1 m2 n1 n2 ho h0
    · exact fpow_outn x m n w G (by omega) m1 m2 n1 n2 ho h0
  · obtain ⟨y, rfl⟩ : ∃ x : Nat, m = (x : Int) := ⟨m.toNat, by omega⟩
    obtain ⟨z, rfl⟩ : ∃ x : Nat, n = (x : Int) := ⟨n.toNat, by omega⟩
    by_cases h0 : x = 0
    · exact fpow_inz x y z w G (by omega) (by omega) (by omega) h0
    · exact fpow_inn x y z w G (by omega) (by omega) (by omega) h0
end Go.Proofs.Ytfefhjnjndfchaa
