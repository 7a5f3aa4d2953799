/- The law ShareTells: the program's Value and Split are the document's. -/
import Derived.Test.YtnffmegicgbinaaDoorJ13
import Derived.Test.YtnffmegicgbinaaDoorJ10
import Derived.Test.YtnffmegicgbinaaDoorJ14
import Derived.Test.YtnffmegicgbinaaDoorJ15
namespace Go.Proofs.YtnffmegicgbinaaDoor
open Go.RowKit
set_option linter.unusedVariables false
set_option linter.unusedSimpArgs false

theorem value_seven : polyv (nb [5, 1]) 2 = 7 := by decide +kernel
theorem row_two (w : World) (x y : UInt8) (t : TypeId) : Row (w.alloc (.cells #[.int .u8 (x.toNat : Int), .int .u8 (y.toNat : Int)] t)) (some ⟨w.heap.size, 0, none⟩) 2 [x, y] := by
  refine ⟨rfl, .inr ⟨_, 0, rfl, fun i hi => ?_⟩⟩
  have := cells_new w [.int .u8 (x.toNat : Int), .int .u8 (y.toNat : Int)] t i
  rw [Nat.zero_add]
  refine this.trans ?_
  rcases (show i = 0 ∨ i = 1 by omega) with h | h <;> subst h <;> rfl
set_option maxRecDepth 100000 in
set_option maxHeartbeats 2000000 in
theorem sptells_walk (a : Option Addr) (k c : Nat) (l : List UInt8) (x : Int) (a1 : Option Addr) (m c1 : Nat) (secret : List UInt8) (n : Int) (a2 : Option Addr) (n2 c2 : Nat) (ls : List (List UInt8)) (w : World) (G : Env w) (HH : Handle w)
    (R : Row w a k l) (hc : k ≤ c) (hk : k ≤ 140737488351232) (x0 : 0 ≤ x) (x1 : x ≤ 255) (R1 : Row w a1 m secret) (h1 : m ≤ c1) (hm : m ≤ 140737488351232) (k1 : -9223372036854775808 ≤ n) (k2 : n ≤ 9223372036854775807) (R2 : BRowsB w a2 n2 ls) (h2 : n2 ≤ c2) (hn2 : 24 * n2 ≤ 140737488351232) :
    Calls Tryd.prog 3 #[.slice a k c, .int .u8 x, .slice a1 m c1, .int .i64 n, .slice a2 n2 c2] w fun r w' => r = .returned (.bool true) ∧ Below w.heap.size w w' := by
  obtain ⟨X, rfl⟩ : ∃ X : Nat, x = (X : Int) := ⟨x.toNat, by omega⟩
  have hX : X < 256 := by omega
  have HALL : Hid (∀ wx, Below w.heap.size w wx → Env wx ∧ Handle wx ∧ Row wx a k l ∧ Row wx a1 m secret ∧ BRowsB wx a2 n2 ls) := fun wx hx => ⟨G.below hx, HH.below hx, R.below hx, R1.below hx, R2.below hx⟩
  have HB0 : Hid (Below w.heap.size w w) := Below.refl _ _
  have HLS : Hid (ls.length = n2) := R2.1.1
  clear G HH R R1 R2
  go_enter Tryd.func3, Tryd.ntmps3
  go_wp2_with fail
  refine (wshare_value a k c l X w (HALL.out _ HB0.out).1 (HALL.out _ HB0.out).2.2.1 hc hk hX).mono ?_
  rintro r w1 ⟨rfl, hb1⟩
  have HB1 : Hid (Below w.heap.size w w1) := hb1
  clear hb1 HB0
  generalize hV : polyv (nb l) X = V at *
  have HV : Hid (polyv (nb l) X = V) := hV
  clear hV
  go_wp2_with fail
  refine (rvalue_any a k c l X w1 (HALL.out _ HB1.out).2.2.1 hk hX).mono ?_
  rintro r wq ⟨rfl, hq⟩
  have hq' : w1 = wq := hq.symm
  subst hq'
  rw [HV.out]
  have hvv : ((V : Int) != (V : Int)) = false := by simp
  go_wp2_with fail
  refine (rsplitfault_any a1 m c1 n a2 n2 c2 ls w1 (HALL.out _ HB1.out).2.2.2.2 hm (by omega) k1 k2).mono ?_
  rintro r wq ⟨rfl, hq⟩
  have hq' : w1 = wq := hq.symm
  subst hq'
  clear hvv
  by_cases he : splitE m n ls = 0
  · have HE : Hid (splitE m n ls = 0) := he
    obtain ⟨p1, p2, p3, p4, p5⟩ := splitE_ok he
    obtain ⟨N, hN⟩ : ∃ N : Nat, n = (N : Int) := ⟨n.toNat, by omega⟩
    subst hN
    have HP5 : Hid (∀ l ∈ ls, l.length = m) := p5
    have hN20 : N ≤ 20 := by omega
    have hn20 : n2 ≤ 20 := by rw [← HLS.out]; exact p4
    rw [he]
    clear he p4 p5
    go_wp2_with fail
    refine (rsplitof_any a1 m c1 secret N a2 n2 c2 ls w1 (HALL.out _ HB1.out).2.2.2.1 (HALL.out _ HB1.out).2.2.2.2 p3 hn20 hN20 HP5.out).mono ?_
    rintro r w3 ⟨⟨aw, cw, rfl, hcw, rw3⟩, hb3⟩
    have HB3 : Hid (Below w.heap.size w w3) := HB1.out.trans (hb3.mono HB1.out.size)
    have HW3 : Hid (SRow w3 aw N (splitL secret ls N)) := rw3
    clear hb3 HB1 rw3
    go_wp2_with fail
    refine (wshare_split a1 m c1 secret N a2 n2 c2 ls w3 (HALL.out _ HB3.out).1 (HALL.out _ HB3.out).2.2.2.1 h1 (HALL.out _ HB3.out).2.2.2.2 h2 HE.out).mono ?_
    rintro r w4 ⟨⟨ag, cg, rfl, hcg, rg4⟩, hb4⟩
    have HB4 : Hid (Below w.heap.size w w4) := HB3.out.trans (hb4.mono HB3.out.size)
    have HWANT : Hid (SRow w4 aw N (splitL secret ls N)) := HW3.out.below hb4
    have HGOT : Hid (SRow w4 ag N (splitL secret ls N)) := rg4
    have hng : N ≤ 140737488351232 := by omega
    clear hb4 HB3 HW3 rg4
    generalize splitL secret ls N = SG at *
    go_wp2_with fail
    refine (error_nil 0 w4).mono ?_
    rintro r w5 ⟨rfl, hb5⟩
    rw [show decide ((0 : Int) = 0) = true from decide_eq_true rfl]
    have HB5 : Hid (Below w.heap.size w w5) := HB4.out.trans (hb5.mono HB4.out.size)
    have HGOT5 : Hid (SRow w5 ag N SG) := HGOT.out.below hb5
    have HWANT5 : Hid (SRow w5 aw N SG) := HWANT.out.below hb5
    clear hb5 HGOT HWANT HB4
    go_wp2_with fail
    refine (rshares_same ag N cg SG aw N cw SG w5 HGOT5.out HWANT5.out hcg hcw hng).mono ?_
    rintro r w6 ⟨rfl, hb6⟩
    rw [show decide (SG = SG) = true from decide_eq_true rfl]
    have HB6 : Hid (Below w.heap.size w w6) := HB5.out.trans (hb6.mono HB5.out.size)
    clear hb6 HGOT5 HWANT5 HB5
    have HL2 : Hid (Row (w6.alloc (.cells #[.int .u8 5, .int .u8 1] 5)) (some ⟨w6.heap.size, 0, none⟩) 2 [5, 1]) := row_two w6 5 1 _
    have HB7 : Hid (Below w.heap.size w (w6.alloc (.cells #[.int .u8 5, .int .u8 1] 5))) := HB6.out.alloc HB6.out.size _
    go_wp2_with fail
    refine (wshare_value (some ⟨w6.heap.size, 0, none⟩) 2 2 [5, 1] 2 (w6.alloc (.cells #[.int .u8 5, .int .u8 1] 5)) (HALL.out _ HB7.out).1 HL2.out (Nat.le_refl _) (by omega) (by omega)).mono ?_
    rintro r w8 ⟨rfl, hb8⟩
    rw [value_seven]
    have HB8 : Hid (Below w.heap.size w w8) := HB7.out.trans (hb8.mono HB7.out.size)
    clear hb8 HB7 HL2 HB6
    go_wp2_with fail
    go_ret
    exact ⟨rfl, HB8.out⟩
  · obtain ⟨E, hE⟩ : ∃ E, splitE m n ls = E := ⟨_, rfl⟩
    have HE : Hid (splitE m n ls = E) := hE
    rw [hE] at he
    rw [hE]
    have HEQ : Hid (E ≠ 0) := he
    have e1 : ¬ E = 0 := he
    clear hE
    go_wp2_with fail
    refine (wshare_splitout a1 m c1 secret n a2 n2 c2 ls E w1 (HALL.out _ HB1.out).1 (HALL.out _ HB1.out).2.2.2.1 h1 hm k1 k2 (HALL.out _ HB1.out).2.2.2.2 h2 (by omega) HE.out HEQ.out).mono ?_
    rintro r w4 ⟨⟨ag, cg, rfl⟩, hb4⟩
    have HB4 : Hid (Below w.heap.size w w4) := HB1.out.trans (hb4.mono HB1.out.size)
    have HGOT : Hid (SRow w4 ag 0 []) := SRow.nil _ _
    have HWANT : Hid (SRow w4 none 0 []) := SRow.nil _ _
    have hcg : 0 ≤ cg := Nat.zero_le _
    have hcw : 0 ≤ 0 := Nat.le_refl _
    have hng : 0 ≤ 140737488351232 := Nat.zero_le _
    clear hb4 HB1
    go_wp2_with fail
    refine (error_errno E E w4 (HALL.out _ HB4.out).2.1).mono ?_
    rintro r w5 ⟨rfl, hb5⟩
    rw [show decide ((E : Int) = E) = true from decide_eq_true rfl]
    have HB5 : Hid (Below w.heap.size w w5) := HB4.out.trans (hb5.mono HB4.out.size)
    have HGOT5 : Hid (SRow w5 ag 0 []) := HGOT.out.below hb5
    have HWANT5 : Hid (SRow w5 none 0 []) := HWANT.out.below hb5
    clear hb5 HGOT HWANT HB4
    go_wp2_with fail
    refine (rshares_same ag 0 cg [] none 0 0 [] w5 HGOT5.out HWANT5.out hcg hcw hng).mono ?_
    rintro r w6 ⟨rfl, hb6⟩
    rw [show decide (([] : List Shr) = []) = true from decide_eq_true rfl]
    have HB6 : Hid (Below w.heap.size w w6) := HB5.out.trans (hb6.mono HB5.out.size)
    clear hb6 HGOT5 HWANT5 HB5
    have HL2 : Hid (Row (w6.alloc (.cells #[.int .u8 5, .int .u8 1] 5)) (some ⟨w6.heap.size, 0, none⟩) 2 [5, 1]) := row_two w6 5 1 _
    have HB7 : Hid (Below w.heap.size w (w6.alloc (.cells #[.int .u8 5, .int .u8 1] 5))) := HB6.out.alloc HB6.out.size _
    go_wp2_with fail
    refine (wshare_value (some ⟨w6.heap.size, 0, none⟩) 2 2 [5, 1] 2 (w6.alloc (.cells #[.int .u8 5, .int .u8 1] 5)) (HALL.out _ HB7.out).1 HL2.out (Nat.le_refl _) (by omega) (by omega)).mono ?_
    rintro r w8 ⟨rfl, hb8⟩
    rw [value_seven]
    have HB8 : Hid (Below w.heap.size w w8) := HB7.out.trans (hb8.mono HB7.out.size)
    clear hb8 HB7 HL2 HB6
    go_wp2_with fail
    go_ret
    exact ⟨rfl, HB8.out⟩
end Go.Proofs.YtnffmegicgbinaaDoor
