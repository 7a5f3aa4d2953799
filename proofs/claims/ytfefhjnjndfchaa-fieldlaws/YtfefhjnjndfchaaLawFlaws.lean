/- The law FieldLaws: a field. -/
import Derived.Test.YtfefhjnjndfchaaWfield
import Derived.WalkKit
namespace Go.Proofs.Ytfefhjnjndfchaa
open Go.RowKit
set_option linter.unusedVariables false
set_option linter.unusedSimpArgs false

set_option maxRecDepth 100000 in
set_option maxHeartbeats 2000000 in
theorem flaws_zx (a b c : Nat) (w : World) (G : Env w) (ha : a < 256) (hb : b < 256) (hc : c < 256) (h0 : a = 0) :
    Calls Try.prog 3 #[.int .u8 (a : Int), .int .u8 (b : Int), .int .u8 (c : Int)] w fun r w' => r = .returned (.bool true) ∧ Below w.heap.size w w' := by
  have HE : Hid (∀ wx, Below w.heap.size w wx → Env wx) := fun wx hx => G.below hx
  have HBw : Hid (Below w.heap.size w w) := Below.refl _ _
  have ls1 := xor_lt256 ha hb
  have ls3 := xor_lt256 hb hc
  have lp1 := gm_lt a b
  have lp3 := gm_lt b c
  have lp4 := gm_lt a c
  have M0 : Hid (∀ wx, Env wx → Calls Try.prog 5 #[.int .u8 (3 : Int), .int .u8 (7 : Int)] wx fun e w' => e = .returned (.int .u8 (9 : Int)) ∧ Below wx.heap.size wx w') := fun wx hx => by
    have h := wfield_mul 3 7 wx hx (by omega) (by omega)
    rw [show gm 3 7 = 9 by decide +kernel] at h
    exact h
  have A1 : Hid (∀ wx, Env wx → Calls Try.prog 6 #[.int .u8 (a : Int), .int .u8 (b : Int)] wx fun e w' => e = .returned (.int .u8 ((a ^^^ b : Nat) : Int)) ∧ Below wx.heap.size wx w') := fun wx hx => wfield_add a b wx hx ha hb
  have A2 : Hid (∀ wx, Env wx → Calls Try.prog 6 #[.int .u8 (b : Int), .int .u8 (a : Int)] wx fun e w' => e = .returned (.int .u8 ((a ^^^ b : Nat) : Int)) ∧ Below wx.heap.size wx w') := fun wx hx => by
    have h := wfield_add b a wx hx hb ha
    rw [Nat.xor_comm b a] at h
    exact h
  have A3 : Hid (∀ wx, Env wx → Calls Try.prog 6 #[.int .u8 ((a ^^^ b : Nat) : Int), .int .u8 (c : Int)] wx fun e w' => e = .returned (.int .u8 (((a ^^^ b) ^^^ c : Nat) : Int)) ∧ Below wx.heap.size wx w') := fun wx hx => wfield_add _ c wx hx ls1 hc
  have A4 : Hid (∀ wx, Env wx → Calls Try.prog 6 #[.int .u8 (b : Int), .int .u8 (c : Int)] wx fun e w' => e = .returned (.int .u8 ((b ^^^ c : Nat) : Int)) ∧ Below wx.heap.size wx w') := fun wx hx => wfield_add b c wx hx hb hc
  have A5 : Hid (∀ wx, Env wx → Calls Try.prog 6 #[.int .u8 (a : Int), .int .u8 ((b ^^^ c : Nat) : Int)] wx fun e w' => e = .returned (.int .u8 (((a ^^^ b) ^^^ c : Nat) : Int)) ∧ Below wx.heap.size wx w') := fun wx hx => by
    have h := wfield_add a _ wx hx ha ls3
    rw [← Nat.xor_assoc] at h
    exact h
  have A6 : Hid (∀ wx, Env wx → Calls Try.prog 6 #[.int .u8 (a : Int), .int .u8 (0 : Int)] wx fun e w' => e = .returned (.int .u8 (a : Int)) ∧ Below wx.heap.size wx w') := fun wx hx => by
    have h := wfield_add a 0 wx hx ha (by omega)
    rw [Nat.xor_zero] at h
    exact h
  have A7 : Hid (∀ wx, Env wx → Calls Try.prog 6 #[.int .u8 (a : Int), .int .u8 (a : Int)] wx fun e w' => e = .returned (.int .u8 (0 : Int)) ∧ Below wx.heap.size wx w') := fun wx hx => by
    have h := wfield_add a a wx hx ha ha
    rw [Nat.xor_self] at h
    exact h
  have M1 : Hid (∀ wx, Env wx → Calls Try.prog 5 #[.int .u8 (a : Int), .int .u8 (b : Int)] wx fun e w' => e = .returned (.int .u8 ((gm a b : Nat) : Int)) ∧ Below wx.heap.size wx w') := fun wx hx => wfield_mul a b wx hx ha hb
  have M2 : Hid (∀ wx, Env wx → Calls Try.prog 5 #[.int .u8 (b : Int), .int .u8 (a : Int)] wx fun e w' => e = .returned (.int .u8 ((gm a b : Nat) : Int)) ∧ Below wx.heap.size wx w') := fun wx hx => by
    have h := wfield_mul b a wx hx hb ha
    rw [gm_comm b a] at h
    exact h
  have M3 : Hid (∀ wx, Env wx → Calls Try.prog 5 #[.int .u8 ((gm a b : Nat) : Int), .int .u8 (c : Int)] wx fun e w' => e = .returned (.int .u8 ((gm (gm a b) c : Nat) : Int)) ∧ Below wx.heap.size wx w') := fun wx hx => wfield_mul _ c wx hx lp1 hc
  have M4 : Hid (∀ wx, Env wx → Calls Try.prog 5 #[.int .u8 (b : Int), .int .u8 (c : Int)] wx fun e w' => e = .returned (.int .u8 ((gm b c : Nat) : Int)) ∧ Below wx.heap.size wx w') := fun wx hx => wfield_mul b c wx hx hb hc
  have M5 : Hid (∀ wx, Env wx → Calls Try.prog 5 #[.int .u8 (a : Int), .int .u8 ((gm b c : Nat) : Int)] wx fun e w' => e = .returned (.int .u8 ((gm (gm a b) c : Nat) : Int)) ∧ Below wx.heap.size wx w') := fun wx hx => by
    have h := wfield_mul a _ wx hx ha lp3
    rw [← gm_assoc] at h
    exact h
  have M6 : Hid (∀ wx, Env wx → Calls Try.prog 5 #[.int .u8 (a : Int), .int .u8 (1 : Int)] wx fun e w' => e = .returned (.int .u8 (a : Int)) ∧ Below wx.heap.size wx w') := fun wx hx => by
    have h := wfield_mul a 1 wx hx ha (by omega)
    rw [gm_one ha] at h
    exact h
  have M7 : Hid (∀ wx, Env wx → Calls Try.prog 5 #[.int .u8 (a : Int), .int .u8 (0 : Int)] wx fun e w' => e = .returned (.int .u8 (0 : Int)) ∧ Below wx.heap.size wx w') := fun wx hx => by
    have h := wfield_mul a 0 wx hx ha (by omega)
    rw [gm_zero] at h
    exact h
  have M8 : Hid (∀ wx, Env wx → Calls Try.prog 5 #[.int .u8 (a : Int), .int .u8 ((b ^^^ c : Nat) : Int)] wx fun e w' => e = .returned (.int .u8 ((gm a (b ^^^ c) : Nat) : Int)) ∧ Below wx.heap.size wx w') := fun wx hx => wfield_mul a _ wx hx ha ls3
  have M9 : Hid (∀ wx, Env wx → Calls Try.prog 5 #[.int .u8 (a : Int), .int .u8 (c : Int)] wx fun e w' => e = .returned (.int .u8 ((gm a c : Nat) : Int)) ∧ Below wx.heap.size wx w') := fun wx hx => wfield_mul a c wx hx ha hc
  have A8 : Hid (∀ wx, Env wx → Calls Try.prog 6 #[.int .u8 ((gm a b : Nat) : Int), .int .u8 ((gm a c : Nat) : Int)] wx fun e w' => e = .returned (.int .u8 ((gm a (b ^^^ c) : Nat) : Int)) ∧ Below wx.heap.size wx w') := fun wx hx => by
    have h := wfield_add _ _ wx hx lp1 lp4
    rw [← gm_xor ha hb hc] at h
    exact h
  have lq1 := gm_lt (gm a b) c
  have lq2 := gm_lt a (b ^^^ c)
  have ls2 := xor_lt256 ls1 hc
  generalize gm a (b ^^^ c) = q1 at *
  generalize gm (gm a b) c = p2 at *
  generalize gm a c = p4 at *
  generalize gm b c = p3 at *
  generalize gm a b = p1 at *
  generalize (a ^^^ b) ^^^ c = s2 at *
  generalize a ^^^ b = s1 at *
  generalize b ^^^ c = s3 at *
  subst h0
  clear G
  go_enter Try.func3, Try.ntmps3
  go_wp2_with fail
  refine (M0.out w (HE.out _ HBw.out)).mono ?_
  rintro r x1 ⟨rfl, hbx1⟩
  have HBx1 : Hid (Below w.heap.size w x1) := HBw.out.trans (hbx1.mono HBw.out.size)
  clear hbx1
  go_wp2_with fail
  refine (A1.out x1 (HE.out _ HBx1.out)).mono ?_
  rintro r x2 ⟨rfl, hbx2⟩
  have HBx2 : Hid (Below w.heap.size w x2) := HBx1.out.trans (hbx2.mono HBx1.out.size)
  clear hbx2
  go_wp2_with fail
  refine (A2.out x2 (HE.out _ HBx2.out)).mono ?_
  rintro r x3 ⟨rfl, hbx3⟩
  have HBx3 : Hid (Below w.heap.size w x3) := HBx2.out.trans (hbx3.mono HBx2.out.size)
  clear hbx3
  go_wp2_with fail
  refine (A1.out x3 (HE.out _ HBx3.out)).mono ?_
  rintro r x4 ⟨rfl, hbx4⟩
  have HBx4 : Hid (Below w.heap.size w x4) := HBx3.out.trans (hbx4.mono HBx3.out.size)
  clear hbx4
  go_wp2_with fail
  refine (A3.out x4 (HE.out _ HBx4.out)).mono ?_
  rintro r x5 ⟨rfl, hbx5⟩
  have HBx5 : Hid (Below w.heap.size w x5) := HBx4.out.trans (hbx5.mono HBx4.out.size)
  clear hbx5
  go_wp2_with fail
  refine (A4.out x5 (HE.out _ HBx5.out)).mono ?_
  rintro r x6 ⟨rfl, hbx6⟩
  have HBx6 : Hid (Below w.heap.size w x6) := HBx5.out.trans (hbx6.mono HBx5.out.size)
  clear hbx6
  go_wp2_with fail
  refine (A5.out x6 (HE.out _ HBx6.out)).mono ?_
  rintro r x7 ⟨rfl, hbx7⟩
  have HBx7 : Hid (Below w.heap.size w x7) := HBx6.out.trans (hbx7.mono HBx6.out.size)
  clear hbx7
  go_wp2_with fail
  refine (A6.out x7 (HE.out _ HBx7.out)).mono ?_
  rintro r x8 ⟨rfl, hbx8⟩
  have HBx8 : Hid (Below w.heap.size w x8) := HBx7.out.trans (hbx8.mono HBx7.out.size)
  clear hbx8
  go_wp2_with fail
  refine (A7.out x8 (HE.out _ HBx8.out)).mono ?_
  rintro r x9 ⟨rfl, hbx9⟩
  have HBx9 : Hid (Below w.heap.size w x9) := HBx8.out.trans (hbx9.mono HBx8.out.size)
  clear hbx9
  go_wp2_with fail
  refine (M1.out x9 (HE.out _ HBx9.out)).mono ?_
  rintro r x10 ⟨rfl, hbx10⟩
  have HBx10 : Hid (Below w.heap.size w x10) := HBx9.out.trans (hbx10.mono HBx9.out.size)
  clear hbx10
  go_wp2_with fail
  refine (M2.out x10 (HE.out _ HBx10.out)).mono ?_
  rintro r x11 ⟨rfl, hbx11⟩
  have HBx11 : Hid (Below w.heap.size w x11) := HBx10.out.trans (hbx11.mono HBx10.out.size)
  clear hbx11
  go_wp2_with fail
  refine (M1.out x11 (HE.out _ HBx11.out)).mono ?_
  rintro r x12 ⟨rfl, hbx12⟩
  have HBx12 : Hid (Below w.heap.size w x12) := HBx11.out.trans (hbx12.mono HBx11.out.size)
  clear hbx12
  go_wp2_with fail
  refine (M3.out x12 (HE.out _ HBx12.out)).mono ?_
  rintro r x13 ⟨rfl, hbx13⟩
  have HBx13 : Hid (Below w.heap.size w x13) := HBx12.out.trans (hbx13.mono HBx12.out.size)
  clear hbx13
  go_wp2_with fail
  refine (M4.out x13 (HE.out _ HBx13.out)).mono ?_
  rintro r x14 ⟨rfl, hbx14⟩
  have HBx14 : Hid (Below w.heap.size w x14) := HBx13.out.trans (hbx14.mono HBx13.out.size)
  clear hbx14
  go_wp2_with fail
  refine (M5.out x14 (HE.out _ HBx14.out)).mono ?_
  rintro r x15 ⟨rfl, hbx15⟩
  have HBx15 : Hid (Below w.heap.size w x15) := HBx14.out.trans (hbx15.mono HBx14.out.size)
  clear hbx15
  go_wp2_with fail
  refine (M6.out x15 (HE.out _ HBx15.out)).mono ?_
  rintro r x16 ⟨rfl, hbx16⟩
  have HBx16 : Hid (Below w.heap.size w x16) := HBx15.out.trans (hbx16.mono HBx15.out.size)
  clear hbx16
  go_wp2_with fail
  refine (M7.out x16 (HE.out _ HBx16.out)).mono ?_
  rintro r x17 ⟨rfl, hbx17⟩
  have HBx17 : Hid (Below w.heap.size w x17) := HBx16.out.trans (hbx17.mono HBx16.out.size)
  clear hbx17
  go_wp2_with fail
  refine (A4.out x17 (HE.out _ HBx17.out)).mono ?_
  rintro r x18 ⟨rfl, hbx18⟩
  have HBx18 : Hid (Below w.heap.size w x18) := HBx17.out.trans (hbx18.mono HBx17.out.size)
  clear hbx18
  go_wp2_with fail
  refine (M8.out x18 (HE.out _ HBx18.out)).mono ?_
  rintro r x19 ⟨rfl, hbx19⟩
  have HBx19 : Hid (Below w.heap.size w x19) := HBx18.out.trans (hbx19.mono HBx18.out.size)
  clear hbx19
  go_wp2_with fail
  refine (M1.out x19 (HE.out _ HBx19.out)).mono ?_
  rintro r x20 ⟨rfl, hbx20⟩
  have HBx20 : Hid (Below w.heap.size w x20) := HBx19.out.trans (hbx20.mono HBx19.out.size)
  clear hbx20
  go_wp2_with fail
  refine (M9.out x20 (HE.out _ HBx20.out)).mono ?_
  rintro r x21 ⟨rfl, hbx21⟩
  have HBx21 : Hid (Below w.heap.size w x21) := HBx20.out.trans (hbx21.mono HBx20.out.size)
  clear hbx21
  go_wp2_with fail
  refine (A8.out x21 (HE.out _ HBx21.out)).mono ?_
  rintro r x22 ⟨rfl, hbx22⟩
  have HBx22 : Hid (Below w.heap.size w x22) := HBx21.out.trans (hbx22.mono HBx21.out.size)
  clear hbx22
  go_wp2_with fail
  go_ret
  exact ⟨rfl, HBx22.out⟩
set_option maxRecDepth 100000 in
set_option maxHeartbeats 2000000 in
theorem flaws_nz (a b c : Nat) (w : World) (G : Env w) (ha : a < 256) (hb : b < 256) (hc : c < 256) (h0 : a ≠ 0) (h1 : b = 0) :
    Calls Try.prog 3 #[.int .u8 (a : Int), .int .u8 (b : Int), .int .u8 (c : Int)] w fun r w' => r = .returned (.bool true) ∧ Below w.heap.size w w' := by
  have HE : Hid (∀ wx, Below w.heap.size w wx → Env wx) := fun wx hx => G.below hx
  have HBw : Hid (Below w.heap.size w w) := Below.refl _ _
  have ls1 := xor_lt256 ha hb
  have ls3 := xor_lt256 hb hc
  have lp1 := gm_lt a b
  have lp3 := gm_lt b c
  have lp4 := gm_lt a c
  have M0 : Hid (∀ wx, Env wx → Calls Try.prog 5 #[.int .u8 (3 : Int), .int .u8 (7 : Int)] wx fun e w' => e = .returned (.int .u8 (9 : Int)) ∧ Below wx.heap.size wx w') := fun wx hx => by
    have h := wfield_mul 3 7 wx hx (by omega) (by omega)
    rw [show gm 3 7 = 9 by decide +kernel] at h
    exact h
  have A1 : Hid (∀ wx, Env wx → Calls Try.prog 6 #[.int .u8 (a : Int), .int .u8 (b : Int)] wx fun e w' => e = .returned (.int .u8 ((a ^^^ b : Nat) : Int)) ∧ Below wx.heap.size wx w') := fun wx hx => wfield_add a b wx hx ha hb
  have A2 : Hid (∀ wx, Env wx → Calls Try.prog 6 #[.int .u8 (b : Int), .int .u8 (a : Int)] wx fun e w' => e = .returned (.int .u8 ((a ^^^ b : Nat) : Int)) ∧ Below wx.heap.size wx w') := fun wx hx => by
    have h := wfield_add b a wx hx hb ha
    rw [Nat.xor_comm b a] at h
    exact h
  have A3 : Hid (∀ wx, Env wx → Calls Try.prog 6 #[.int .u8 ((a ^^^ b : Nat) : Int), .int .u8 (c : Int)] wx fun e w' => e = .returned (.int .u8 (((a ^^^ b) ^^^ c : Nat) : Int)) ∧ Below wx.heap.size wx w') := fun wx hx => wfield_add _ c wx hx ls1 hc
  have A4 : Hid (∀ wx, Env wx → Calls Try.prog 6 #[.int .u8 (b : Int), .int .u8 (c : Int)] wx fun e w' => e = .returned (.int .u8 ((b ^^^ c : Nat) : Int)) ∧ Below wx.heap.size wx w') := fun wx hx => wfield_add b c wx hx hb hc
  have A5 : Hid (∀ wx, Env wx → Calls Try.prog 6 #[.int .u8 (a : Int), .int .u8 ((b ^^^ c : Nat) : Int)] wx fun e w' => e = .returned (.int .u8 (((a ^^^ b) ^^^ c : Nat) : Int)) ∧ Below wx.heap.size wx w') := fun wx hx => by
    have h := wfield_add a _ wx hx ha ls3
    rw [← Nat.xor_assoc] at h
    exact h
  have A6 : Hid (∀ wx, Env wx → Calls Try.prog 6 #[.int .u8 (a : Int), .int .u8 (0 : Int)] wx fun e w' => e = .returned (.int .u8 (a : Int)) ∧ Below wx.heap.size wx w') := fun wx hx => by
    have h := wfield_add a 0 wx hx ha (by omega)
    rw [Nat.xor_zero] at h
    exact h
  have A7 : Hid (∀ wx, Env wx → Calls Try.prog 6 #[.int .u8 (a : Int), .int .u8 (a : Int)] wx fun e w' => e = .returned (.int .u8 (0 : Int)) ∧ Below wx.heap.size wx w') := fun wx hx => by
    have h := wfield_add a a wx hx ha ha
    rw [Nat.xor_self] at h
    exact h
  have M1 : Hid (∀ wx, Env wx → Calls Try.prog 5 #[.int .u8 (a : Int), .int .u8 (b : Int)] wx fun e w' => e = .returned (.int .u8 ((gm a b : Nat) : Int)) ∧ Below wx.heap.size wx w') := fun wx hx => wfield_mul a b wx hx ha hb
  have M2 : Hid (∀ wx, Env wx → Calls Try.prog 5 #[.int .u8 (b : Int), .int .u8 (a : Int)] wx fun e w' => e = .returned (.int .u8 ((gm a b : Nat) : Int)) ∧ Below wx.heap.size wx w') := fun wx hx => by
    have h := wfield_mul b a wx hx hb ha
    rw [gm_comm b a] at h
    exact h
  have M3 : Hid (∀ wx, Env wx → Calls Try.prog 5 #[.int .u8 ((gm a b : Nat) : Int), .int .u8 (c : Int)] wx fun e w' => e = .returned (.int .u8 ((gm (gm a b) c : Nat) : Int)) ∧ Below wx.heap.size wx w') := fun wx hx => wfield_mul _ c wx hx lp1 hc
  have M4 : Hid (∀ wx, Env wx → Calls Try.prog 5 #[.int .u8 (b : Int), .int .u8 (c : Int)] wx fun e w' => e = .returned (.int .u8 ((gm b c : Nat) : Int)) ∧ Below wx.heap.size wx w') := fun wx hx => wfield_mul b c wx hx hb hc
  have M5 : Hid (∀ wx, Env wx → Calls Try.prog 5 #[.int .u8 (a : Int), .int .u8 ((gm b c : Nat) : Int)] wx fun e w' => e = .returned (.int .u8 ((gm (gm a b) c : Nat) : Int)) ∧ Below wx.heap.size wx w') := fun wx hx => by
    have h := wfield_mul a _ wx hx ha lp3
    rw [← gm_assoc] at h
    exact h
  have M6 : Hid (∀ wx, Env wx → Calls Try.prog 5 #[.int .u8 (a : Int), .int .u8 (1 : Int)] wx fun e w' => e = .returned (.int .u8 (a : Int)) ∧ Below wx.heap.size wx w') := fun wx hx => by
    have h := wfield_mul a 1 wx hx ha (by omega)
    rw [gm_one ha] at h
    exact h
  have M7 : Hid (∀ wx, Env wx → Calls Try.prog 5 #[.int .u8 (a : Int), .int .u8 (0 : Int)] wx fun e w' => e = .returned (.int .u8 (0 : Int)) ∧ Below wx.heap.size wx w') := fun wx hx => by
    have h := wfield_mul a 0 wx hx ha (by omega)
    rw [gm_zero] at h
    exact h
  have M8 : Hid (∀ wx, Env wx → Calls Try.prog 5 #[.int .u8 (a : Int), .int .u8 ((b ^^^ c : Nat) : Int)] wx fun e w' => e = .returned (.int .u8 ((gm a (b ^^^ c) : Nat) : Int)) ∧ Below wx.heap.size wx w') := fun wx hx => wfield_mul a _ wx hx ha ls3
  have M9 : Hid (∀ wx, Env wx → Calls Try.prog 5 #[.int .u8 (a : Int), .int .u8 (c : Int)] wx fun e w' => e = .returned (.int .u8 ((gm a c : Nat) : Int)) ∧ Below wx.heap.size wx w') := fun wx hx => wfield_mul a c wx hx ha hc
  have A8 : Hid (∀ wx, Env wx → Calls Try.prog 6 #[.int .u8 ((gm a b : Nat) : Int), .int .u8 ((gm a c : Nat) : Int)] wx fun e w' => e = .returned (.int .u8 ((gm a (b ^^^ c) : Nat) : Int)) ∧ Below wx.heap.size wx w') := fun wx hx => by
    have h := wfield_add _ _ wx hx lp1 lp4
    rw [← gm_xor ha hb hc] at h
    exact h
  have lv := ginv_lt a
  have I1 : Hid (∀ wx, Env wx → Calls Try.prog 7 #[.int .u8 (a : Int)] wx fun e w' => e = .returned (.tuple #[.int .u8 ((ginv a : Nat) : Int), .nilIface]) ∧ Below wx.heap.size wx w') := fun wx hx => wfield_inv a wx hx ha h0
  have M10 : Hid (∀ wx, Env wx → Calls Try.prog 5 #[.int .u8 (a : Int), .int .u8 ((ginv a : Nat) : Int)] wx fun e w' => e = .returned (.int .u8 (1 : Int)) ∧ Below wx.heap.size wx w') := fun wx hx => by
    have h := wfield_mul a _ wx hx ha lv
    rw [gm_ginv ha h0] at h
    exact h
  have hz : gm a b = 0 := by rw [h1]; exact gm_zero a
  have lq1 := gm_lt (gm a b) c
  have lq2 := gm_lt a (b ^^^ c)
  have ls2 := xor_lt256 ls1 hc
  generalize ginv a = v at *
  generalize gm a (b ^^^ c) = q1 at *
  generalize gm (gm a b) c = p2 at *
  generalize gm a c = p4 at *
  generalize gm b c = p3 at *
  generalize gm a b = p1 at *
  generalize (a ^^^ b) ^^^ c = s2 at *
  generalize a ^^^ b = s1 at *
  generalize b ^^^ c = s3 at *
  have ca : ((a : Int) == 0) = false := beq_eq_false_iff_ne.2 (by omega)
  subst hz h1
  clear h0
  clear G
  go_enter Try.func3, Try.ntmps3
  go_wp2_with fail
  refine (M0.out w (HE.out _ HBw.out)).mono ?_
  rintro r x23 ⟨rfl, hbx23⟩
  have HBx23 : Hid (Below w.heap.size w x23) := HBw.out.trans (hbx23.mono HBw.out.size)
  clear hbx23
  go_wp2_with fail
  refine (A1.out x23 (HE.out _ HBx23.out)).mono ?_
  rintro r x24 ⟨rfl, hbx24⟩
  have HBx24 : Hid (Below w.heap.size w x24) := HBx23.out.trans (hbx24.mono HBx23.out.size)
  clear hbx24
  go_wp2_with fail
  refine (A2.out x24 (HE.out _ HBx24.out)).mono ?_
  rintro r x25 ⟨rfl, hbx25⟩
  have HBx25 : Hid (Below w.heap.size w x25) := HBx24.out.trans (hbx25.mono HBx24.out.size)
  clear hbx25
  go_wp2_with fail
  refine (A1.out x25 (HE.out _ HBx25.out)).mono ?_
  rintro r x26 ⟨rfl, hbx26⟩
  have HBx26 : Hid (Below w.heap.size w x26) := HBx25.out.trans (hbx26.mono HBx25.out.size)
  clear hbx26
  go_wp2_with fail
  refine (A3.out x26 (HE.out _ HBx26.out)).mono ?_
  rintro r x27 ⟨rfl, hbx27⟩
  have HBx27 : Hid (Below w.heap.size w x27) := HBx26.out.trans (hbx27.mono HBx26.out.size)
  clear hbx27
  go_wp2_with fail
  refine (A4.out x27 (HE.out _ HBx27.out)).mono ?_
  rintro r x28 ⟨rfl, hbx28⟩
  have HBx28 : Hid (Below w.heap.size w x28) := HBx27.out.trans (hbx28.mono HBx27.out.size)
  clear hbx28
  go_wp2_with fail
  refine (A5.out x28 (HE.out _ HBx28.out)).mono ?_
  rintro r x29 ⟨rfl, hbx29⟩
  have HBx29 : Hid (Below w.heap.size w x29) := HBx28.out.trans (hbx29.mono HBx28.out.size)
  clear hbx29
  go_wp2_with fail
  refine (A6.out x29 (HE.out _ HBx29.out)).mono ?_
  rintro r x30 ⟨rfl, hbx30⟩
  have HBx30 : Hid (Below w.heap.size w x30) := HBx29.out.trans (hbx30.mono HBx29.out.size)
  clear hbx30
  go_wp2_with fail
  refine (A7.out x30 (HE.out _ HBx30.out)).mono ?_
  rintro r x31 ⟨rfl, hbx31⟩
  have HBx31 : Hid (Below w.heap.size w x31) := HBx30.out.trans (hbx31.mono HBx30.out.size)
  clear hbx31
  go_wp2_with fail
  refine (M1.out x31 (HE.out _ HBx31.out)).mono ?_
  rintro r x32 ⟨rfl, hbx32⟩
  have HBx32 : Hid (Below w.heap.size w x32) := HBx31.out.trans (hbx32.mono HBx31.out.size)
  clear hbx32
  go_wp2_with fail
  refine (M2.out x32 (HE.out _ HBx32.out)).mono ?_
  rintro r x33 ⟨rfl, hbx33⟩
  have HBx33 : Hid (Below w.heap.size w x33) := HBx32.out.trans (hbx33.mono HBx32.out.size)
  clear hbx33
  go_wp2_with fail
  refine (M1.out x33 (HE.out _ HBx33.out)).mono ?_
  rintro r x34 ⟨rfl, hbx34⟩
  have HBx34 : Hid (Below w.heap.size w x34) := HBx33.out.trans (hbx34.mono HBx33.out.size)
  clear hbx34
  go_wp2_with fail
  refine (M3.out x34 (HE.out _ HBx34.out)).mono ?_
  rintro r x35 ⟨rfl, hbx35⟩
  have HBx35 : Hid (Below w.heap.size w x35) := HBx34.out.trans (hbx35.mono HBx34.out.size)
  clear hbx35
  go_wp2_with fail
  refine (M4.out x35 (HE.out _ HBx35.out)).mono ?_
  rintro r x36 ⟨rfl, hbx36⟩
  have HBx36 : Hid (Below w.heap.size w x36) := HBx35.out.trans (hbx36.mono HBx35.out.size)
  clear hbx36
  go_wp2_with fail
  refine (M5.out x36 (HE.out _ HBx36.out)).mono ?_
  rintro r x37 ⟨rfl, hbx37⟩
  have HBx37 : Hid (Below w.heap.size w x37) := HBx36.out.trans (hbx37.mono HBx36.out.size)
  clear hbx37
  go_wp2_with fail
  refine (M6.out x37 (HE.out _ HBx37.out)).mono ?_
  rintro r x38 ⟨rfl, hbx38⟩
  have HBx38 : Hid (Below w.heap.size w x38) := HBx37.out.trans (hbx38.mono HBx37.out.size)
  clear hbx38
  go_wp2_with fail
  refine (M7.out x38 (HE.out _ HBx38.out)).mono ?_
  rintro r x39 ⟨rfl, hbx39⟩
  have HBx39 : Hid (Below w.heap.size w x39) := HBx38.out.trans (hbx39.mono HBx38.out.size)
  clear hbx39
  go_wp2_with fail
  refine (A4.out x39 (HE.out _ HBx39.out)).mono ?_
  rintro r x40 ⟨rfl, hbx40⟩
  have HBx40 : Hid (Below w.heap.size w x40) := HBx39.out.trans (hbx40.mono HBx39.out.size)
  clear hbx40
  go_wp2_with fail
  refine (M8.out x40 (HE.out _ HBx40.out)).mono ?_
  rintro r x41 ⟨rfl, hbx41⟩
  have HBx41 : Hid (Below w.heap.size w x41) := HBx40.out.trans (hbx41.mono HBx40.out.size)
  clear hbx41
  go_wp2_with fail
  refine (M1.out x41 (HE.out _ HBx41.out)).mono ?_
  rintro r x42 ⟨rfl, hbx42⟩
  have HBx42 : Hid (Below w.heap.size w x42) := HBx41.out.trans (hbx42.mono HBx41.out.size)
  clear hbx42
  go_wp2_with fail
  refine (M9.out x42 (HE.out _ HBx42.out)).mono ?_
  rintro r x43 ⟨rfl, hbx43⟩
  have HBx43 : Hid (Below w.heap.size w x43) := HBx42.out.trans (hbx43.mono HBx42.out.size)
  clear hbx43
  go_wp2_with fail
  refine (A8.out x43 (HE.out _ HBx43.out)).mono ?_
  rintro r x44 ⟨rfl, hbx44⟩
  have HBx44 : Hid (Below w.heap.size w x44) := HBx43.out.trans (hbx44.mono HBx43.out.size)
  clear hbx44
  go_wp2_with fail
  refine (I1.out x44 (HE.out _ HBx44.out)).mono ?_
  rintro r x45 ⟨rfl, hbx45⟩
  have HBx45 : Hid (Below w.heap.size w x45) := HBx44.out.trans (hbx45.mono HBx44.out.size)
  clear hbx45
  go_wp2_with fail
  refine (M1.out x45 (HE.out _ HBx45.out)).mono ?_
  rintro r x46 ⟨rfl, hbx46⟩
  have HBx46 : Hid (Below w.heap.size w x46) := HBx45.out.trans (hbx46.mono HBx45.out.size)
  clear hbx46
  go_wp2_with fail
  refine (M10.out x46 (HE.out _ HBx46.out)).mono ?_
  rintro r x47 ⟨rfl, hbx47⟩
  have HBx47 : Hid (Below w.heap.size w x47) := HBx46.out.trans (hbx47.mono HBx46.out.size)
  clear hbx47
  go_wp2_with fail
  go_ret
  exact ⟨rfl, HBx47.out⟩
set_option maxRecDepth 100000 in
set_option maxHeartbeats 2000000 in
theorem flaws_nn (a b c : Nat) (w : World) (G : Env w) (ha : a < 256) (hb : b < 256) (hc : c < 256) (h0 : a ≠ 0) (h1 : b ≠ 0) :
    Calls Try.prog 3 #[.int .u8 (a : Int), .int .u8 (b : Int), .int .u8 (c : Int)] w fun r w' => r = .returned (.bool true) ∧ Below w.heap.size w w' := by
  have HE : Hid (∀ wx, Below w.heap.size w wx → Env wx) := fun wx hx => G.below hx
  have HBw : Hid (Below w.heap.size w w) := Below.refl _ _
  have ls1 := xor_lt256 ha hb
  have ls3 := xor_lt256 hb hc
  have lp1 := gm_lt a b
  have lp3 := gm_lt b c
  have lp4 := gm_lt a c
  have M0 : Hid (∀ wx, Env wx → Calls Try.prog 5 #[.int .u8 (3 : Int), .int .u8 (7 : Int)] wx fun e w' => e = .returned (.int .u8 (9 : Int)) ∧ Below wx.heap.size wx w') := fun wx hx => by
    have h := wfield_mul 3 7 wx hx (by omega) (by omega)
    rw [show gm 3 7 = 9 by decide +kernel] at h
    exact h
  have A1 : Hid (∀ wx, Env wx → Calls Try.prog 6 #[.int .u8 (a : Int), .int .u8 (b : Int)] wx fun e w' => e = .returned (.int .u8 ((a ^^^ b : Nat) : Int)) ∧ Below wx.heap.size wx w') := fun wx hx => wfield_add a b wx hx ha hb
  have A2 : Hid (∀ wx, Env wx → Calls Try.prog 6 #[.int .u8 (b : Int), .int .u8 (a : Int)] wx fun e w' => e = .returned (.int .u8 ((a ^^^ b : Nat) : Int)) ∧ Below wx.heap.size wx w') := fun wx hx => by
    have h := wfield_add b a wx hx hb ha
    rw [Nat.xor_comm b a] at h
    exact h
  have A3 : Hid (∀ wx, Env wx → Calls Try.prog 6 #[.int .u8 ((a ^^^ b : Nat) : Int), .int .u8 (c : Int)] wx fun e w' => e = .returned (.int .u8 (((a ^^^ b) ^^^ c : Nat) : Int)) ∧ Below wx.heap.size wx w') := fun wx hx => wfield_add _ c wx hx ls1 hc
  have A4 : Hid (∀ wx, Env wx → Calls Try.prog 6 #[.int .u8 (b : Int), .int .u8 (c : Int)] wx fun e w' => e = .returned (.int .u8 ((b ^^^ c : Nat) : Int)) ∧ Below wx.heap.size wx w') := fun wx hx => wfield_add b c wx hx hb hc
  have A5 : Hid (∀ wx, Env wx → Calls Try.prog 6 #[.int .u8 (a : Int), .int .u8 ((b ^^^ c : Nat) : Int)] wx fun e w' => e = .returned (.int .u8 (((a ^^^ b) ^^^ c : Nat) : Int)) ∧ Below wx.heap.size wx w') := fun wx hx => by
    have h := wfield_add a _ wx hx ha ls3
    rw [← Nat.xor_assoc] at h
    exact h
  have A6 : Hid (∀ wx, Env wx → Calls Try.prog 6 #[.int .u8 (a : Int), .int .u8 (0 : Int)] wx fun e w' => e = .returned (.int .u8 (a : Int)) ∧ Below wx.heap.size wx w') := fun wx hx => by
    have h := wfield_add a 0 wx hx ha (by omega)
    rw [Nat.xor_zero] at h
    exact h
  have A7 : Hid (∀ wx, Env wx → Calls Try.prog 6 #[.int .u8 (a : Int), .int .u8 (a : Int)] wx fun e w' => e = .returned (.int .u8 (0 : Int)) ∧ Below wx.heap.size wx w') := fun wx hx => by
    have h := wfield_add a a wx hx ha ha
    rw [Nat.xor_self] at h
    exact h
  have M1 : Hid (∀ wx, Env wx → Calls Try.prog 5 #[.int .u8 (a : Int), .int .u8 (b : Int)] wx fun e w' => e = .returned (.int .u8 ((gm a b : Nat) : Int)) ∧ Below wx.heap.size wx w') := fun wx hx => wfield_mul a b wx hx ha hb
  have M2 : Hid (∀ wx, Env wx → Calls Try.prog 5 #[.int .u8 (b : Int), .int .u8 (a : Int)] wx fun e w' => e = .returned (.int .u8 ((gm a b : Nat) : Int)) ∧ Below wx.heap.size wx w') := fun wx hx => by
    have h := wfield_mul b a wx hx hb ha
    rw [gm_comm b a] at h
    exact h
  have M3 : Hid (∀ wx, Env wx → Calls Try.prog 5 #[.int .u8 ((gm a b : Nat) : Int), .int .u8 (c : Int)] wx fun e w' => e = .returned (.int .u8 ((gm (gm a b) c : Nat) : Int)) ∧ Below wx.heap.size wx w') := fun wx hx => wfield_mul _ c wx hx lp1 hc
  have M4 : Hid (∀ wx, Env wx → Calls Try.prog 5 #[.int .u8 (b : Int), .int .u8 (c : Int)] wx fun e w' => e = .returned (.int .u8 ((gm b c : Nat) : Int)) ∧ Below wx.heap.size wx w') := fun wx hx => wfield_mul b c wx hx hb hc
  have M5 : Hid (∀ wx, Env wx → Calls Try.prog 5 #[.int .u8 (a : Int), .int .u8 ((gm b c : Nat) : Int)] wx fun e w' => e = .returned (.int .u8 ((gm (gm a b) c : Nat) : Int)) ∧ Below wx.heap.size wx w') := fun wx hx => by
    have h := wfield_mul a _ wx hx ha lp3
    rw [← gm_assoc] at h
    exact h
  have M6 : Hid (∀ wx, Env wx → Calls Try.prog 5 #[.int .u8 (a : Int), .int .u8 (1 : Int)] wx fun e w' => e = .returned (.int .u8 (a : Int)) ∧ Below wx.heap.size wx w') := fun wx hx => by
    have h := wfield_mul a 1 wx hx ha (by omega)
    rw [gm_one ha] at h
    exact h
  have M7 : Hid (∀ wx, Env wx → Calls Try.prog 5 #[.int .u8 (a : Int), .int .u8 (0 : Int)] wx fun e w' => e = .returned (.int .u8 (0 : Int)) ∧ Below wx.heap.size wx w') := fun wx hx => by
    have h := wfield_mul a 0 wx hx ha (by omega)
    rw [gm_zero] at h
    exact h
  have M8 : Hid (∀ wx, Env wx → Calls Try.prog 5 #[.int .u8 (a : Int), .int .u8 ((b ^^^ c : Nat) : Int)] wx fun e w' => e = .returned (.int .u8 ((gm a (b ^^^ c) : Nat) : Int)) ∧ Below wx.heap.size wx w') := fun wx hx => wfield_mul a _ wx hx ha ls3
  have M9 : Hid (∀ wx, Env wx → Calls Try.prog 5 #[.int .u8 (a : Int), .int .u8 (c : Int)] wx fun e w' => e = .returned (.int .u8 ((gm a c : Nat) : Int)) ∧ Below wx.heap.size wx w') := fun wx hx => wfield_mul a c wx hx ha hc
  have A8 : Hid (∀ wx, Env wx → Calls Try.prog 6 #[.int .u8 ((gm a b : Nat) : Int), .int .u8 ((gm a c : Nat) : Int)] wx fun e w' => e = .returned (.int .u8 ((gm a (b ^^^ c) : Nat) : Int)) ∧ Below wx.heap.size wx w') := fun wx hx => by
    have h := wfield_add _ _ wx hx lp1 lp4
    rw [← gm_xor ha hb hc] at h
    exact h
  have lv := ginv_lt a
  have I1 : Hid (∀ wx, Env wx → Calls Try.prog 7 #[.int .u8 (a : Int)] wx fun e w' => e = .returned (.tuple #[.int .u8 ((ginv a : Nat) : Int), .nilIface]) ∧ Below wx.heap.size wx w') := fun wx hx => wfield_inv a wx hx ha h0
  have M10 : Hid (∀ wx, Env wx → Calls Try.prog 5 #[.int .u8 (a : Int), .int .u8 ((ginv a : Nat) : Int)] wx fun e w' => e = .returned (.int .u8 (1 : Int)) ∧ Below wx.heap.size wx w') := fun wx hx => by
    have h := wfield_mul a _ wx hx ha lv
    rw [gm_ginv ha h0] at h
    exact h
  have hz : gm a b ≠ 0 := gm_nz h0 h1
  have lq1 := gm_lt (gm a b) c
  have lq2 := gm_lt a (b ^^^ c)
  have ls2 := xor_lt256 ls1 hc
  generalize ginv a = v at *
  generalize gm a (b ^^^ c) = q1 at *
  generalize gm (gm a b) c = p2 at *
  generalize gm a c = p4 at *
  generalize gm b c = p3 at *
  generalize gm a b = p1 at *
  generalize (a ^^^ b) ^^^ c = s2 at *
  generalize a ^^^ b = s1 at *
  generalize b ^^^ c = s3 at *
  have ca : ((a : Int) == 0) = false := beq_eq_false_iff_ne.2 (by omega)
  have cb : ((b : Int) == 0) = false := beq_eq_false_iff_ne.2 (by omega)
  have cp : ((p1 : Int) == 0) = false := beq_eq_false_iff_ne.2 (by omega)
  clear hz h1
  clear h0
  clear G
  go_enter Try.func3, Try.ntmps3
  go_wp2_with fail
  refine (M0.out w (HE.out _ HBw.out)).mono ?_
  rintro r x48 ⟨rfl, hbx48⟩
  have HBx48 : Hid (Below w.heap.size w x48) := HBw.out.trans (hbx48.mono HBw.out.size)
  clear hbx48
  go_wp2_with fail
  refine (A1.out x48 (HE.out _ HBx48.out)).mono ?_
  rintro r x49 ⟨rfl, hbx49⟩
  have HBx49 : Hid (Below w.heap.size w x49) := HBx48.out.trans (hbx49.mono HBx48.out.size)
  clear hbx49
  go_wp2_with fail
  refine (A2.out x49 (HE.out _ HBx49.out)).mono ?_
  rintro r x50 ⟨rfl, hbx50⟩
  have HBx50 : Hid (Below w.heap.size w x50) := HBx49.out.trans (hbx50.mono HBx49.out.size)
  clear hbx50
  go_wp2_with fail
  refine (A1.out x50 (HE.out _ HBx50.out)).mono ?_
  rintro r x51 ⟨rfl, hbx51⟩
  have HBx51 : Hid (Below w.heap.size w x51) := HBx50.out.trans (hbx51.mono HBx50.out.size)
  clear hbx51
  go_wp2_with fail
  refine (A3.out x51 (HE.out _ HBx51.out)).mono ?_
  rintro r x52 ⟨rfl, hbx52⟩
  have HBx52 : Hid (Below w.heap.size w x52) := HBx51.out.trans (hbx52.mono HBx51.out.size)
  clear hbx52
  go_wp2_with fail
  refine (A4.out x52 (HE.out _ HBx52.out)).mono ?_
  rintro r x53 ⟨rfl, hbx53⟩
  have HBx53 : Hid (Below w.heap.size w x53) := HBx52.out.trans (hbx53.mono HBx52.out.size)
  clear hbx53
  go_wp2_with fail
  refine (A5.out x53 (HE.out _ HBx53.out)).mono ?_
  rintro r x54 ⟨rfl, hbx54⟩
  have HBx54 : Hid (Below w.heap.size w x54) := HBx53.out.trans (hbx54.mono HBx53.out.size)
  clear hbx54
  go_wp2_with fail
  refine (A6.out x54 (HE.out _ HBx54.out)).mono ?_
  rintro r x55 ⟨rfl, hbx55⟩
  have HBx55 : Hid (Below w.heap.size w x55) := HBx54.out.trans (hbx55.mono HBx54.out.size)
  clear hbx55
  go_wp2_with fail
  refine (A7.out x55 (HE.out _ HBx55.out)).mono ?_
  rintro r x56 ⟨rfl, hbx56⟩
  have HBx56 : Hid (Below w.heap.size w x56) := HBx55.out.trans (hbx56.mono HBx55.out.size)
  clear hbx56
  go_wp2_with fail
  refine (M1.out x56 (HE.out _ HBx56.out)).mono ?_
  rintro r x57 ⟨rfl, hbx57⟩
  have HBx57 : Hid (Below w.heap.size w x57) := HBx56.out.trans (hbx57.mono HBx56.out.size)
  clear hbx57
  go_wp2_with fail
  refine (M2.out x57 (HE.out _ HBx57.out)).mono ?_
  rintro r x58 ⟨rfl, hbx58⟩
  have HBx58 : Hid (Below w.heap.size w x58) := HBx57.out.trans (hbx58.mono HBx57.out.size)
  clear hbx58
  go_wp2_with fail
  refine (M1.out x58 (HE.out _ HBx58.out)).mono ?_
  rintro r x59 ⟨rfl, hbx59⟩
  have HBx59 : Hid (Below w.heap.size w x59) := HBx58.out.trans (hbx59.mono HBx58.out.size)
  clear hbx59
  go_wp2_with fail
  refine (M3.out x59 (HE.out _ HBx59.out)).mono ?_
  rintro r x60 ⟨rfl, hbx60⟩
  have HBx60 : Hid (Below w.heap.size w x60) := HBx59.out.trans (hbx60.mono HBx59.out.size)
  clear hbx60
  go_wp2_with fail
  refine (M4.out x60 (HE.out _ HBx60.out)).mono ?_
  rintro r x61 ⟨rfl, hbx61⟩
  have HBx61 : Hid (Below w.heap.size w x61) := HBx60.out.trans (hbx61.mono HBx60.out.size)
  clear hbx61
  go_wp2_with fail
  refine (M5.out x61 (HE.out _ HBx61.out)).mono ?_
  rintro r x62 ⟨rfl, hbx62⟩
  have HBx62 : Hid (Below w.heap.size w x62) := HBx61.out.trans (hbx62.mono HBx61.out.size)
  clear hbx62
  go_wp2_with fail
  refine (M6.out x62 (HE.out _ HBx62.out)).mono ?_
  rintro r x63 ⟨rfl, hbx63⟩
  have HBx63 : Hid (Below w.heap.size w x63) := HBx62.out.trans (hbx63.mono HBx62.out.size)
  clear hbx63
  go_wp2_with fail
  refine (M7.out x63 (HE.out _ HBx63.out)).mono ?_
  rintro r x64 ⟨rfl, hbx64⟩
  have HBx64 : Hid (Below w.heap.size w x64) := HBx63.out.trans (hbx64.mono HBx63.out.size)
  clear hbx64
  go_wp2_with fail
  refine (A4.out x64 (HE.out _ HBx64.out)).mono ?_
  rintro r x65 ⟨rfl, hbx65⟩
  have HBx65 : Hid (Below w.heap.size w x65) := HBx64.out.trans (hbx65.mono HBx64.out.size)
  clear hbx65
  go_wp2_with fail
  refine (M8.out x65 (HE.out _ HBx65.out)).mono ?_
  rintro r x66 ⟨rfl, hbx66⟩
  have HBx66 : Hid (Below w.heap.size w x66) := HBx65.out.trans (hbx66.mono HBx65.out.size)
  clear hbx66
  go_wp2_with fail
  refine (M1.out x66 (HE.out _ HBx66.out)).mono ?_
  rintro r x67 ⟨rfl, hbx67⟩
  have HBx67 : Hid (Below w.heap.size w x67) := HBx66.out.trans (hbx67.mono HBx66.out.size)
  clear hbx67
  go_wp2_with fail
  refine (M9.out x67 (HE.out _ HBx67.out)).mono ?_
  rintro r x68 ⟨rfl, hbx68⟩
  have HBx68 : Hid (Below w.heap.size w x68) := HBx67.out.trans (hbx68.mono HBx67.out.size)
  clear hbx68
  go_wp2_with fail
  refine (A8.out x68 (HE.out _ HBx68.out)).mono ?_
  rintro r x69 ⟨rfl, hbx69⟩
  have HBx69 : Hid (Below w.heap.size w x69) := HBx68.out.trans (hbx69.mono HBx68.out.size)
  clear hbx69
  go_wp2_with fail
  refine (I1.out x69 (HE.out _ HBx69.out)).mono ?_
  rintro r x70 ⟨rfl, hbx70⟩
  have HBx70 : Hid (Below w.heap.size w x70) := HBx69.out.trans (hbx70.mono HBx69.out.size)
  clear hbx70
  go_wp2_with fail
  refine (M1.out x70 (HE.out _ HBx70.out)).mono ?_
  rintro r x71 ⟨rfl, hbx71⟩
  have HBx71 : Hid (Below w.heap.size w x71) := HBx70.out.trans (hbx71.mono HBx70.out.size)
  clear hbx71
  go_wp2_with fail
  refine (M10.out x71 (HE.out _ HBx71.out)).mono ?_
  rintro r x72 ⟨rfl, hbx72⟩
  have HBx72 : Hid (Below w.heap.size w x72) := HBx71.out.trans (hbx72.mono HBx71.out.size)
  clear hbx72
  go_wp2_with fail
  go_ret
  exact ⟨rfl, HBx72.out⟩
theorem flaws_walk (a b c : Int) (w : World) (G : Env w) (a1 : 0 ≤ a) (a2 : a ≤ 255) (b1 : 0 ≤ b) (b2 : b ≤ 255) (c1 : 0 ≤ c) (c2 : c ≤ 255) :
    Calls Try.prog 3 #[.int .u8 a, .int .u8 b, .int .u8 c] w fun r w' => r = .returned (.bool true) ∧ Below w.heap.size w w' := by
  obtain ⟨x, rfl⟩ : ∃ x : Nat, a = (x : Int) := ⟨a.toNat, by omega⟩
  obtain ⟨y, rfl⟩ : ∃ x : Nat, b = (x : Int) := ⟨b.toNat, by omega⟩
  obtain ⟨z, rfl⟩ : ∃ x : Nat, c = (x : Int) := ⟨c.toNat, by omega⟩
  by_cases h0 : x = 0
  · exact flaws_zx x y z w G (by omega) (by omega) (by omega) h0
  · by_cases h1 : y = 0
    · exact flaws_nz x y z w G (by omega) (by omega) (by omega) h0 h1
    · exact flaws_nn x y z w G (by omega) (by omega) (by omega) h0 h1
end Go.Proofs.Ytfefhjnjndfchaa
