/- The law FieldTells: the program's Add, Mul, Inv and Pow are the document's. -/
import Derived.Test.YtfefhjnjndfchaaDoorWfield
import Derived.Test.YtfefhjnjndfchaaDoorRfieldi
import Derived.Test.YtfefhjnjndfchaaDoorTold
import Derived.Laws.BitsAllLaws
namespace Go.Proofs.YtfefhjnjndfchaaDoor
open Go.RowKit
set_option linter.unusedVariables false
set_option linter.unusedSimpArgs false

set_option maxRecDepth 100000 in
set_option maxHeartbeats 2000000 in
theorem ftells_zneg (a b : Nat) (n : Int) (w : World) (G : Env w) (HH : Handle w) (ha : a < 256) (hb : b < 256) (n1 : -9223372036854775808 ≤ n) (hn : n < 0) (h0 : a = 0) :
    Calls Tryd.prog 3 #[.int .u8 (a : Int), .int .u8 (b : Int), .int .i64 n] w fun r w' => r = .returned (.bool true) ∧ Below w.heap.size w w' := by
  have HE : Hid (∀ wx, Below w.heap.size w wx → Env wx) := fun wx hx => G.below hx
  have HHA : Hid (∀ wx, Below w.heap.size w wx → Handle wx) := fun wx hx => HH.below hx
  have HBw : Hid (Below w.heap.size w w) := Below.refl _ _
  have ls := xor_lt256 ha hb
  have lp := gm_lt a b
  have hx : bits .xor .u8 (a : Int) (b : Int) = ((a ^^^ b : Nat) : Int) := u8_xor_nat a b ha hb
  have A1 : Hid (∀ wx, Env wx → Calls Tryd.prog 4 #[.int .u8 (a : Int), .int .u8 (b : Int)] wx fun e w' => e = .returned (.int .u8 ((a ^^^ b : Nat) : Int)) ∧ Below wx.heap.size wx w') := fun wx hx => wfield_add a b wx hx ha hb
  have M1 : Hid (∀ wx, Env wx → Calls Tryd.prog 5 #[.int .u8 (a : Int), .int .u8 (b : Int)] wx fun e w' => e = .returned (.int .u8 ((gm a b : Nat) : Int)) ∧ Below wx.heap.size wx w') := fun wx hx => wfield_mul a b wx hx ha hb
  have M2 : Hid (∀ wx, Env wx → Calls Tryd.prog 5 #[.int .u8 (2 : Int), .int .u8 (128 : Int)] wx fun e w' => e = .returned (.int .u8 (27 : Int)) ∧ Below wx.heap.size wx w') := fun wx hx => by
    have h := wfield_mul 2 128 wx hx (by omega) (by omega)
    rw [show gm 2 128 = 27 by decide +kernel] at h
    exact h
  have R1 : Hid (∀ wx, Calls Tryd.prog 6 #[.int .u8 (a : Int), .int .u8 (b : Int)] wx fun e w' => e = .returned (.int .u8 ((gm a b : Nat) : Int)) ∧ w' = wx) := fun wx => rmul_any a b wx ha hb
  have I1 : Hid (∀ wx, Env wx → Calls Tryd.prog 8 #[.int .u8 0] wx fun e w' => e = .returned (.tuple #[.int .u8 0, .iface 23 (.int .i64 2)]) ∧ Below wx.heap.size wx w') := fun wx hx => wfield_invout wx hx
  have P1 : Hid (∀ wx, Env wx → Calls Tryd.prog 11 #[.int .u8 (a : Int), .int .i64 n] wx fun e w' => e = .returned (.tuple #[.int .u8 0, .iface 23 (.int .i64 2)]) ∧ Below wx.heap.size wx w') := fun wx hx => wfield_powout a n wx hx ha hn n1
  generalize a ^^^ b = sx at *
  generalize gm a b = p at *
  subst h0
  have hx2 : bits .xor .u8 (0 : Int) (b : Int) = (sx : Int) := hx
  clear G HH
  go_enter Tryd.func3, Tryd.ntmps3
  go_wp2_with fail
  refine (A1.out w (HE.out _ HBw.out)).mono ?_
  rintro r x93 ⟨rfl, hbx93⟩
  have HBx93 : Hid (Below w.heap.size w x93) := HBw.out.trans (hbx93.mono HBw.out.size)
  clear hbx93
  go_wp2_with fail
  refine (M1.out x93 (HE.out _ HBx93.out)).mono ?_
  rintro r x94 ⟨rfl, hbx94⟩
  have HBx94 : Hid (Below w.heap.size w x94) := HBx93.out.trans (hbx94.mono HBx93.out.size)
  clear hbx94
  go_wp2_with fail
  refine (R1.out x94).mono ?_
  rintro e x95 ⟨rfl, hq⟩
  have hq' : x94 = x95 := hq.symm
  subst hq'
  clear hq
  go_wp2_with fail
  refine (M2.out x94 (HE.out _ HBx94.out)).mono ?_
  rintro r x96 ⟨rfl, hbx96⟩
  have HBx96 : Hid (Below w.heap.size w x96) := HBx94.out.trans (hbx96.mono HBx94.out.size)
  clear hbx96
  go_wp2_with fail
  refine (I1.out x96 (HE.out _ HBx96.out)).mono ?_
  rintro r x97 ⟨rfl, hbx97⟩
  have HBx97 : Hid (Below w.heap.size w x97) := HBx96.out.trans (hbx97.mono HBx96.out.size)
  clear hbx97
  go_wp2_with fail
  refine (error_errno 2 2 x97 (HHA.out _ HBx97.out)).mono ?_
  rintro r x98 ⟨rfl, hbx98⟩
  have HBx98 : Hid (Below w.heap.size w x98) := HBx97.out.trans (hbx98.mono HBx97.out.size)
  clear hbx98
  rw [show decide ((2 : Int) = 2) = true from rfl]
  go_wp2_with fail
  refine (P1.out x98 (HE.out _ HBx98.out)).mono ?_
  rintro r x99 ⟨rfl, hbx99⟩
  have HBx99 : Hid (Below w.heap.size w x99) := HBx98.out.trans (hbx99.mono HBx98.out.size)
  clear hbx99
  go_wp2_with fail
  refine (error_errno 2 2 x99 (HHA.out _ HBx99.out)).mono ?_
  rintro r x100 ⟨rfl, hbx100⟩
  have HBx100 : Hid (Below w.heap.size w x100) := HBx99.out.trans (hbx100.mono HBx99.out.size)
  clear hbx100
  rw [show decide ((2 : Int) = 2) = true from rfl]
  go_wp2_with fail
  go_ret
  exact ⟨rfl, HBx100.out⟩
set_option maxRecDepth 100000 in
set_option maxHeartbeats 2000000 in
theorem ftells_zpos (a b : Nat) (n : Nat) (w : World) (G : Env w) (HH : Handle w) (ha : a < 256) (hb : b < 256) (hn : n ≤ 9223372036854775807) (h0 : a = 0) :
    Calls Tryd.prog 3 #[.int .u8 (a : Int), .int .u8 (b : Int), .int .i64 (n : Int)] w fun r w' => r = .returned (.bool true) ∧ Below w.heap.size w w' := by
  have HE : Hid (∀ wx, Below w.heap.size w wx → Env wx) := fun wx hx => G.below hx
  have HHA : Hid (∀ wx, Below w.heap.size w wx → Handle wx) := fun wx hx => HH.below hx
  have HBw : Hid (Below w.heap.size w w) := Below.refl _ _
  have ls := xor_lt256 ha hb
  have lp := gm_lt a b
  have hx : bits .xor .u8 (a : Int) (b : Int) = ((a ^^^ b : Nat) : Int) := u8_xor_nat a b ha hb
  have A1 : Hid (∀ wx, Env wx → Calls Tryd.prog 4 #[.int .u8 (a : Int), .int .u8 (b : Int)] wx fun e w' => e = .returned (.int .u8 ((a ^^^ b : Nat) : Int)) ∧ Below wx.heap.size wx w') := fun wx hx => wfield_add a b wx hx ha hb
  have M1 : Hid (∀ wx, Env wx → Calls Tryd.prog 5 #[.int .u8 (a : Int), .int .u8 (b : Int)] wx fun e w' => e = .returned (.int .u8 ((gm a b : Nat) : Int)) ∧ Below wx.heap.size wx w') := fun wx hx => wfield_mul a b wx hx ha hb
  have M2 : Hid (∀ wx, Env wx → Calls Tryd.prog 5 #[.int .u8 (2 : Int), .int .u8 (128 : Int)] wx fun e w' => e = .returned (.int .u8 (27 : Int)) ∧ Below wx.heap.size wx w') := fun wx hx => by
    have h := wfield_mul 2 128 wx hx (by omega) (by omega)
    rw [show gm 2 128 = 27 by decide +kernel] at h
    exact h
  have R1 : Hid (∀ wx, Calls Tryd.prog 6 #[.int .u8 (a : Int), .int .u8 (b : Int)] wx fun e w' => e = .returned (.int .u8 ((gm a b : Nat) : Int)) ∧ w' = wx) := fun wx => rmul_any a b wx ha hb
  have I1 : Hid (∀ wx, Env wx → Calls Tryd.prog 8 #[.int .u8 0] wx fun e w' => e = .returned (.tuple #[.int .u8 0, .iface 23 (.int .i64 2)]) ∧ Below wx.heap.size wx w') := fun wx hx => wfield_invout wx hx
  have lw := gpow_lt a n
  have R3 : Hid (∀ wx, Calls Tryd.prog 10 #[.int .u8 (a : Int), .int .i64 (n : Int)] wx fun e w' => e = .returned (.int .u8 ((gpow a n : Nat) : Int)) ∧ w' = wx) := fun wx => rpow_any a n wx ha hn
  have P1 : Hid (∀ wx, Env wx → Calls Tryd.prog 11 #[.int .u8 (a : Int), .int .i64 (n : Int)] wx fun e w' => e = .returned (.tuple #[.int .u8 ((gpow a n : Nat) : Int), .nilIface]) ∧ Below wx.heap.size wx w') := fun wx hx => wfield_pow a n wx hx ha hn
  have gn : ¬ (n : Int) < 0 := by omega
  generalize a ^^^ b = sx at *
  generalize gm a b = p at *
  generalize gpow a n = u at *
  subst h0
  have hx2 : bits .xor .u8 (0 : Int) (b : Int) = (sx : Int) := hx
  clear G HH
  go_enter Tryd.func3, Tryd.ntmps3
  go_wp2_with fail
  refine (A1.out w (HE.out _ HBw.out)).mono ?_
  rintro r x101 ⟨rfl, hbx101⟩
  have HBx101 : Hid (Below w.heap.size w x101) := HBw.out.trans (hbx101.mono HBw.out.size)
  clear hbx101
  go_wp2_with fail
  refine (M1.out x101 (HE.out _ HBx101.out)).mono ?_
  rintro r x102 ⟨rfl, hbx102⟩
  have HBx102 : Hid (Below w.heap.size w x102) := HBx101.out.trans (hbx102.mono HBx101.out.size)
  clear hbx102
  go_wp2_with fail
  refine (R1.out x102).mono ?_
  rintro e x103 ⟨rfl, hq⟩
  have hq' : x102 = x103 := hq.symm
  subst hq'
  clear hq
  go_wp2_with fail
  refine (M2.out x102 (HE.out _ HBx102.out)).mono ?_
  rintro r x104 ⟨rfl, hbx104⟩
  have HBx104 : Hid (Below w.heap.size w x104) := HBx102.out.trans (hbx104.mono HBx102.out.size)
  clear hbx104
  go_wp2_with fail
  refine (I1.out x104 (HE.out _ HBx104.out)).mono ?_
  rintro r x105 ⟨rfl, hbx105⟩
  have HBx105 : Hid (Below w.heap.size w x105) := HBx104.out.trans (hbx105.mono HBx104.out.size)
  clear hbx105
  go_wp2_with fail
  refine (error_errno 2 2 x105 (HHA.out _ HBx105.out)).mono ?_
  rintro r x106 ⟨rfl, hbx106⟩
  have HBx106 : Hid (Below w.heap.size w x106) := HBx105.out.trans (hbx106.mono HBx105.out.size)
  clear hbx106
  rw [show decide ((2 : Int) = 2) = true from rfl]
  go_wp2_with fail
  refine (R3.out x106).mono ?_
  rintro e x107 ⟨rfl, hq⟩
  have hq' : x106 = x107 := hq.symm
  subst hq'
  clear hq
  go_wp2_with fail
  refine (P1.out x106 (HE.out _ HBx106.out)).mono ?_
  rintro r x108 ⟨rfl, hbx108⟩
  have HBx108 : Hid (Below w.heap.size w x108) := HBx106.out.trans (hbx108.mono HBx106.out.size)
  clear hbx108
  go_wp2_with fail
  refine (error_nil 0 x108).mono ?_
  rintro r x109 ⟨rfl, hbx109⟩
  have HBx109 : Hid (Below w.heap.size w x109) := HBx108.out.trans (hbx109.mono HBx108.out.size)
  clear hbx109
  rw [show decide ((0 : Int) = 0) = true from rfl]
  go_wp2_with fail
  go_ret
  exact ⟨rfl, HBx109.out⟩
set_option maxRecDepth 100000 in
set_option maxHeartbeats 2000000 in
theorem ftells_nneg (a b : Nat) (n : Int) (w : World) (G : Env w) (HH : Handle w) (ha : a < 256) (hb : b < 256) (n1 : -9223372036854775808 ≤ n) (hn : n < 0) (h0 : a ≠ 0) :
    Calls Tryd.prog 3 #[.int .u8 (a : Int), .int .u8 (b : Int), .int .i64 n] w fun r w' => r = .returned (.bool true) ∧ Below w.heap.size w w' := by
  have HE : Hid (∀ wx, Below w.heap.size w wx → Env wx) := fun wx hx => G.below hx
  have HHA : Hid (∀ wx, Below w.heap.size w wx → Handle wx) := fun wx hx => HH.below hx
  have HBw : Hid (Below w.heap.size w w) := Below.refl _ _
  have ls := xor_lt256 ha hb
  have lp := gm_lt a b
  have hx : bits .xor .u8 (a : Int) (b : Int) = ((a ^^^ b : Nat) : Int) := u8_xor_nat a b ha hb
  have A1 : Hid (∀ wx, Env wx → Calls Tryd.prog 4 #[.int .u8 (a : Int), .int .u8 (b : Int)] wx fun e w' => e = .returned (.int .u8 ((a ^^^ b : Nat) : Int)) ∧ Below wx.heap.size wx w') := fun wx hx => wfield_add a b wx hx ha hb
  have M1 : Hid (∀ wx, Env wx → Calls Tryd.prog 5 #[.int .u8 (a : Int), .int .u8 (b : Int)] wx fun e w' => e = .returned (.int .u8 ((gm a b : Nat) : Int)) ∧ Below wx.heap.size wx w') := fun wx hx => wfield_mul a b wx hx ha hb
  have M2 : Hid (∀ wx, Env wx → Calls Tryd.prog 5 #[.int .u8 (2 : Int), .int .u8 (128 : Int)] wx fun e w' => e = .returned (.int .u8 (27 : Int)) ∧ Below wx.heap.size wx w') := fun wx hx => by
    have h := wfield_mul 2 128 wx hx (by omega) (by omega)
    rw [show gm 2 128 = 27 by decide +kernel] at h
    exact h
  have R1 : Hid (∀ wx, Calls Tryd.prog 6 #[.int .u8 (a : Int), .int .u8 (b : Int)] wx fun e w' => e = .returned (.int .u8 ((gm a b : Nat) : Int)) ∧ w' = wx) := fun wx => rmul_any a b wx ha hb
  have lv := ginv_lt a
  have R2 : Hid (∀ wx, Calls Tryd.prog 7 #[.int .u8 (a : Int)] wx fun e w' => e = .returned (.int .u8 ((ginv a : Nat) : Int)) ∧ w' = wx) := fun wx => rinv_any a wx ha h0
  have I1 : Hid (∀ wx, Env wx → Calls Tryd.prog 8 #[.int .u8 (a : Int)] wx fun e w' => e = .returned (.tuple #[.int .u8 ((ginv a : Nat) : Int), .nilIface]) ∧ Below wx.heap.size wx w') := fun wx hx => wfield_inv a wx hx ha h0
  have P1 : Hid (∀ wx, Env wx → Calls Tryd.prog 11 #[.int .u8 (a : Int), .int .i64 n] wx fun e w' => e = .returned (.tuple #[.int .u8 0, .iface 23 (.int .i64 2)]) ∧ Below wx.heap.size wx w') := fun wx hx => wfield_powout a n wx hx ha hn n1
  generalize a ^^^ b = sx at *
  generalize gm a b = p at *
  generalize ginv a = v at *
  have ca : ((a : Int) == 0) = false := beq_eq_false_iff_ne.2 (by omega)
  clear h0
  clear G HH
  go_enter Tryd.func3, Tryd.ntmps3
  go_wp2_with fail
  refine (A1.out w (HE.out _ HBw.out)).mono ?_
  rintro r x110 ⟨rfl, hbx110⟩
  have HBx110 : Hid (Below w.heap.size w x110) := HBw.out.trans (hbx110.mono HBw.out.size)
  clear hbx110
  go_wp2_with fail
  refine (M1.out x110 (HE.out _ HBx110.out)).mono ?_
  rintro r x111 ⟨rfl, hbx111⟩
  have HBx111 : Hid (Below w.heap.size w x111) := HBx110.out.trans (hbx111.mono HBx110.out.size)
  clear hbx111
  go_wp2_with fail
  refine (R1.out x111).mono ?_
  rintro e x112 ⟨rfl, hq⟩
  have hq' : x111 = x112 := hq.symm
  subst hq'
  clear hq
  go_wp2_with fail
  refine (M2.out x111 (HE.out _ HBx111.out)).mono ?_
  rintro r x113 ⟨rfl, hbx113⟩
  have HBx113 : Hid (Below w.heap.size w x113) := HBx111.out.trans (hbx113.mono HBx111.out.size)
  clear hbx113
  go_wp2_with fail
  refine (R2.out x113).mono ?_
  rintro e x114 ⟨rfl, hq⟩
  have hq' : x113 = x114 := hq.symm
  subst hq'
  clear hq
  go_wp2_with fail
  refine (I1.out x113 (HE.out _ HBx113.out)).mono ?_
  rintro r x115 ⟨rfl, hbx115⟩
  have HBx115 : Hid (Below w.heap.size w x115) := HBx113.out.trans (hbx115.mono HBx113.out.size)
  clear hbx115
  go_wp2_with fail
  refine (error_nil 0 x115).mono ?_
  rintro r x116 ⟨rfl, hbx116⟩
  have HBx116 : Hid (Below w.heap.size w x116) := HBx115.out.trans (hbx116.mono HBx115.out.size)
  clear hbx116
  rw [show decide ((0 : Int) = 0) = true from rfl]
  go_wp2_with fail
  refine (P1.out x116 (HE.out _ HBx116.out)).mono ?_
  rintro r x117 ⟨rfl, hbx117⟩
  have HBx117 : Hid (Below w.heap.size w x117) := HBx116.out.trans (hbx117.mono HBx116.out.size)
  clear hbx117
  go_wp2_with fail
  refine (error_errno 2 2 x117 (HHA.out _ HBx117.out)).mono ?_
  rintro r x118 ⟨rfl, hbx118⟩
  have HBx118 : Hid (Below w.heap.size w x118) := HBx117.out.trans (hbx118.mono HBx117.out.size)
  clear hbx118
  rw [show decide ((2 : Int) = 2) = true from rfl]
  go_wp2_with fail
  go_ret
  exact ⟨rfl, HBx118.out⟩
set_option maxRecDepth 100000 in
set_option maxHeartbeats 2000000 in
theorem ftells_npos (a b : Nat) (n : Nat) (w : World) (G : Env w) (HH : Handle w) (ha : a < 256) (hb : b < 256) (hn : n ≤ 9223372036854775807) (h0 : a ≠ 0) :
    Calls Tryd.prog 3 #[.int .u8 (a : Int), .int .u8 (b : Int), .int .i64 (n : Int)] w fun r w' => r = .returned (.bool true) ∧ Below w.heap.size w w' := by
  have HE : Hid (∀ wx, Below w.heap.size w wx → Env wx) := fun wx hx => G.below hx
  have HHA : Hid (∀ wx, Below w.heap.size w wx → Handle wx) := fun wx hx => HH.below hx
  have HBw : Hid (Below w.heap.size w w) := Below.refl _ _
  have ls := xor_lt256 ha hb
  have lp := gm_lt a b
  have hx : bits .xor .u8 (a : Int) (b : Int) = ((a ^^^ b : Nat) : Int) := u8_xor_nat a b ha hb
  have A1 : Hid (∀ wx, Env wx → Calls Tryd.prog 4 #[.int .u8 (a : Int), .int .u8 (b : Int)] wx fun e w' => e = .returned (.int .u8 ((a ^^^ b : Nat) : Int)) ∧ Below wx.heap.size wx w') := fun wx hx => wfield_add a b wx hx ha hb
  have M1 : Hid (∀ wx, Env wx → Calls Tryd.prog 5 #[.int .u8 (a : Int), .int .u8 (b : Int)] wx fun e w' => e = .returned (.int .u8 ((gm a b : Nat) : Int)) ∧ Below wx.heap.size wx w') := fun wx hx => wfield_mul a b wx hx ha hb
  have M2 : Hid (∀ wx, Env wx → Calls Tryd.prog 5 #[.int .u8 (2 : Int), .int .u8 (128 : Int)] wx fun e w' => e = .returned (.int .u8 (27 : Int)) ∧ Below wx.heap.size wx w') := fun wx hx => by
    have h := wfield_mul 2 128 wx hx (by omega) (by omega)
    rw [show gm 2 128 = 27 by decide +kernel] at h
    exact h
  have R1 : Hid (∀ wx, Calls Tryd.prog 6 #[.int .u8 (a : Int), .int .u8 (b : Int)] wx fun e w' => e = .returned (.int .u8 ((gm a b : Nat) : Int)) ∧ w' = wx) := fun wx => rmul_any a b wx ha hb
  have lv := ginv_lt a
  have R2 : Hid (∀ wx, Calls Tryd.prog 7 #[.int .u8 (a : Int)] wx fun e w' => e = .returned (.int .u8 ((ginv a : Nat) : Int)) ∧ w' = wx) := fun wx => rinv_any a wx ha h0
  have I1 : Hid (∀ wx, Env wx → Calls Tryd.prog 8 #[.int .u8 (a : Int)] wx fun e w' => e = .returned (.tuple #[.int .u8 ((ginv a : Nat) : Int), .nilIface]) ∧ Below wx.heap.size wx w') := fun wx hx => wfield_inv a wx hx ha h0
  have lw := gpow_lt a n
  have R3 : Hid (∀ wx, Calls Tryd.prog 10 #[.int .u8 (a : Int), .int .i64 (n : Int)] wx fun e w' => e = .returned (.int .u8 ((gpow a n : Nat) : Int)) ∧ w' = wx) := fun wx => rpow_any a n wx ha hn
  have P1 : Hid (∀ wx, Env wx → Calls Tryd.prog 11 #[.int .u8 (a : Int), .int .i64 (n : Int)] wx fun e w' => e = .returned (.tuple #[.int .u8 ((gpow a n : Nat) : Int), .nilIface]) ∧ Below wx.heap.size wx w') := fun wx hx => wfield_pow a n wx hx ha hn
  have gn : ¬ (n : Int) < 0 := by omega
  generalize a ^^^ b = sx at *
  generalize gm a b = p at *
  generalize ginv a = v at *
  have ca : ((a : Int) == 0) = false := beq_eq_false_iff_ne.2 (by omega)
  clear h0
  generalize gpow a n = u at *
  clear G HH
  go_enter Tryd.func3, Tryd.ntmps3
  go_wp2_with fail
  refine (A1.out w (HE.out _ HBw.out)).mono ?_
  rintro r x119 ⟨rfl, hbx119⟩
  have HBx119 : Hid (Below w.heap.size w x119) := HBw.out.trans (hbx119.mono HBw.out.size)
  clear hbx119
  go_wp2_with fail
  refine (M1.out x119 (HE.out _ HBx119.out)).mono ?_
  rintro r x120 ⟨rfl, hbx120⟩
  have HBx120 : Hid (Below w.heap.size w x120) := HBx119.out.trans (hbx120.mono HBx119.out.size)
  clear hbx120
  go_wp2_with fail
  refine (R1.out x120).mono ?_
  rintro e x121 ⟨rfl, hq⟩
  have hq' : x120 = x121 := hq.symm
  subst hq'
  clear hq
  go_wp2_with fail
  refine (M2.out x120 (HE.out _ HBx120.out)).mono ?_
  rintro r x122 ⟨rfl, hbx122⟩
  have HBx122 : Hid (Below w.heap.size w x122) := HBx120.out.trans (hbx122.mono HBx120.out.size)
  clear hbx122
  go_wp2_with fail
  refine (R2.out x122).mono ?_
  rintro e x123 ⟨rfl, hq⟩
  have hq' : x122 = x123 := hq.symm
  subst hq'
  clear hq
  go_wp2_with fail
  refine (I1.out x122 (HE.out _ HBx122.out)).mono ?_
  rintro r x124 ⟨rfl, hbx124⟩
  have HBx124 : Hid (Below w.heap.size w x124) := HBx122.out.trans (hbx124.mono HBx122.out.size)
  clear hbx124
  go_wp2_with fail
  refine (error_nil 0 x124).mono ?_
  rintro r x125 ⟨rfl, hbx125⟩
  have HBx125 : Hid (Below w.heap.size w x125) := HBx124.out.trans (hbx125.mono HBx124.out.size)
  clear hbx125
  rw [show decide ((0 : Int) = 0) = true from rfl]
  go_wp2_with fail
  refine (R3.out x125).mono ?_
  rintro e x126 ⟨rfl, hq⟩
  have hq' : x125 = x126 := hq.symm
  subst hq'
  clear hq
  go_wp2_with fail
  refine (P1.out x125 (HE.out _ HBx125.out)).mono ?_
  rintro r x127 ⟨rfl, hbx127⟩
  have HBx127 : Hid (Below w.heap.size w x127) := HBx125.out.trans (hbx127.mono HBx125.out.size)
  clear hbx127
  go_wp2_with fail
  refine (error_nil 0 x127).mono ?_
  rintro r x128 ⟨rfl, hbx128⟩
  have HBx128 : Hid (Below w.heap.size w x128) := HBx127.out.trans (hbx128.mono HBx127.out.size)
  clear hbx128
  rw [show decide ((0 : Int) = 0) = true from rfl]
  go_wp2_with fail
  go_ret
  exact ⟨rfl, HBx128.out⟩
theorem ftells_walk (a b n : Int) (w : World) (G : Env w) (HH : Handle w) (a1 : 0 ≤ a) (a2 : a ≤ 255) (b1 : 0 ≤ b) (b2 : b ≤ 255) (n1 : -9223372036854775808 ≤ n) (n2 : n ≤ 9223372036854775807) :
    Calls Tryd.prog 3 #[.int .u8 a, .int .u8 b, .int .i64 n] w fun r w' => r = .returned (.bool true) ∧ Below w.heap.size w w' := by
  obtain ⟨x, rfl⟩ : ∃ x : Nat, a = (x : Int) := ⟨a.toNat, by omega⟩
  obtain ⟨y, rfl⟩ : ∃ x : Nat, b = (x : Int) := ⟨b.toNat, by omega⟩
  by_cases h0 : x = 0
  · by_cases hn : n < 0
    · exact ftells_zneg x y n w G HH (by omega) (by omega) n1 hn h0
    · obtain ⟨z, rfl⟩ : ∃ x : Nat, n = (x : Int) := ⟨n.toNat, by omega⟩
      exact ftells_zpos x y z w G HH (by omega) (by omega) (by omega) h0
  · by_cases hn : n < 0
    · exact ftells_nneg x y n w G HH (by omega) (by omega) n1 hn h0
    · obtain ⟨z, rfl⟩ : ∃ x : Nat, n = (x : Int) := ⟨n.toNat, by omega⟩
      exact ftells_npos x y z w G HH (by omega) (by omega) (by omega) h0
end Go.Proofs.YtfefhjnjndfchaaDoor
