/- The law ClockTells: what clocks are is what the document says. -/
import Derived.Test.YtanlnfcmmfmofaaDoorWclock
import Derived.Test.YtanlnfcmmfmofaaDoorSints
import Derived.Deep.DeepCutAuto
import Derived.WalkKit
import Derived.Test.YtanlnfcmmfmofaaDoorRclock
import Derived.Test.YtanlnfcmmfmofaaDoorTold
import Derived.Deep.CutBlock
namespace Go.Proofs.YtanlnfcmmfmofaaDoor
open Go.RowKit
set_option linter.unusedVariables false
set_option linter.unusedSimpArgs false

/-- An error by its number. -/
def errK (q : Int) : Value := if q = 0 then .nilIface else .iface 23 (.int .i64 q)
theorem errK_zero : errK 0 = .nilIface := if_pos rfl
theorem errK_ne {q : Int} (h : q ≠ 0) : errK q = .iface 23 (.int .i64 q) := if_neg h
theorem told_any (q : Int) (w : World) (HH : Handle w) : Calls Tryd.prog 5 #[errK q, .int .i64 q] w fun r w' => r = .returned (.bool true) ∧ Below w.heap.size w w' := by
  by_cases h : q = 0
  · subst h
    rw [errK_zero]
    refine (error_nil 0 w).mono fun r w' ⟨h1, h2⟩ => ⟨?_, h2⟩
    rw [h1, show decide ((0 : Int) = 0) = true from decide_eq_true rfl]
  · rw [errK_ne h]
    refine (error_errno q q w HH).mono fun r w' ⟨h1, h2⟩ => ⟨?_, h2⟩
    rw [h1, show decide (q = q) = true from decide_eq_true rfl]
theorem wcheck_any (a : Option Addr) (n c : Nat) (l : List Int) (w : World) (G : Env w) (R : IRow w a n l) (hc : n ≤ c) (hn : n ≤ 140737488351232) (hi : okI l) :
    Calls Tryd.prog 6 #[.slice a n c] w fun r w' => r = .returned (errK (clockE l)) ∧ Below w.heap.size w w' := by
  by_cases h : clockE l = 0
  · rw [h, errK_zero]
    exact wclock_check a n c l w G R hc hi h
  · rw [errK_ne h]
    exact wclock_checkout a n c l _ w G R hc hn hi rfl h
/-- What Tick, Join and Below tell, whatever they are asked. -/
def tickA (l : List Int) (who : Int) : List Int := if tickE l who = 0 then tickL l who.toNat else []
def joinA (a b : List Int) : List Int := if pairE a b = 0 then joinC a b else []
theorem tickA_le (l : List Int) (who : Int) : (tickA l who).length ≤ 16 := by
  unfold tickA
  split
  · exact tickL_le _ _
  · exact Nat.zero_le _
theorem joinA_le (a b : List Int) : (joinA a b).length ≤ 16 := by
  unfold joinA
  split
  · exact joinC_le _ _
  · exact Nat.zero_le _
theorem wtick_any (a : Option Addr) (n c : Nat) (l : List Int) (who : Int) (w : World) (G : Env w) (R : IRow w a n l) (hc : n ≤ c) (hn : n ≤ 140737488351232) (hi : okI l) (k1 : -9223372036854775808 ≤ who) (k2 : who ≤ 9223372036854775807) :
    Calls Tryd.prog 8 #[.slice a n c, .int .i64 who] w fun r w' => (∃ a' c', r = .returned (.tuple #[.slice a' (tickA l who).length c', errK (tickE l who)]) ∧ IRow w' a' (tickA l who).length (tickA l who)) ∧ Below w.heap.size w w' := by
  by_cases h : tickE l who = 0
  · have hw := tickE_ok h
    obtain ⟨W, rfl⟩ : ∃ W : Nat, who = (W : Int) := ⟨who.toNat, by omega⟩
    have e : tickA l (W : Int) = tickL l W := if_pos h
    rw [e, h, errK_zero]
    exact (wclock_tick a n c l W w G R hc hi h).mono fun r w' ⟨⟨a', c', h1, h2, h3⟩, hb⟩ => ⟨⟨a', c', h1, h3⟩, hb⟩
  · have e : tickA l who = [] := if_neg h
    rw [e, errK_ne h]
    exact (wclock_tickout a n c l who _ w G R hc hn hi k1 k2 rfl h).mono fun r w' ⟨⟨a', c', h1⟩, hb⟩ => ⟨⟨a', c', h1, ⟨rfl, .inl rfl⟩⟩, hb⟩
theorem wjoin_any (a1 : Option Addr) (n1 c1 : Nat) (l1 : List Int) (a2 : Option Addr) (n2 c2 : Nat) (l2 : List Int) (w : World) (G : Env w) (R1 : IRow w a1 n1 l1) (h1 : n1 ≤ c1) (m1 : n1 ≤ 140737488351232) (R2 : IRow w a2 n2 l2) (h2 : n2 ≤ c2) (m2 : n2 ≤ 140737488351232) (i1 : okI l1) (i2 : okI l2) :
    Calls Tryd.prog 11 #[.slice a1 n1 c1, .slice a2 n2 c2] w fun r w' => (∃ a' c', r = .returned (.tuple #[.slice a' (joinA l1 l2).length c', errK (pairE l1 l2)]) ∧ IRow w' a' (joinA l1 l2).length (joinA l1 l2)) ∧ Below w.heap.size w w' := by
  by_cases h : pairE l1 l2 = 0
  · have e : joinA l1 l2 = joinC l1 l2 := if_pos h
    rw [e, h, errK_zero]
    exact (wclock_join a1 n1 c1 l1 a2 n2 c2 l2 w G R1 h1 R2 h2 i1 i2 h).mono fun r w' ⟨⟨a', c', q1, q2, q3⟩, hb⟩ => ⟨⟨a', c', q1, q3⟩, hb⟩
  · have e : joinA l1 l2 = [] := if_neg h
    rw [e, errK_ne h]
    exact (wclock_joinout a1 n1 c1 l1 a2 n2 c2 l2 _ w G R1 h1 m1 R2 h2 m2 i1 i2 rfl h).mono fun r w' ⟨⟨a', c', q1⟩, hb⟩ => ⟨⟨a', c', q1, ⟨rfl, .inl rfl⟩⟩, hb⟩
theorem wbelow_any (a1 : Option Addr) (n1 c1 : Nat) (l1 : List Int) (a2 : Option Addr) (n2 c2 : Nat) (l2 : List Int) (w : World) (G : Env w) (R1 : IRow w a1 n1 l1) (h1 : n1 ≤ c1) (m1 : n1 ≤ 140737488351232) (R2 : IRow w a2 n2 l2) (h2 : n2 ≤ c2) (m2 : n2 ≤ 140737488351232) (i1 : okI l1) (i2 : okI l2) :
    Calls Tryd.prog 12 #[.slice a1 n1 c1, .slice a2 n2 c2] w fun r w' => r = .returned (.tuple #[.bool (decide (pairE l1 l2 = 0 ∧ leC l1 l2)), errK (pairE l1 l2)]) ∧ Below w.heap.size w w' := by
  by_cases h : pairE l1 l2 = 0
  · rw [show decide (pairE l1 l2 = 0 ∧ leC l1 l2) = decide (leC l1 l2) by simp [h], h, errK_zero]
    exact wclock_below a1 n1 c1 l1 a2 n2 c2 l2 w G R1 h1 R2 h2 i1 i2 h
  · rw [show decide (pairE l1 l2 = 0 ∧ leC l1 l2) = false by simp [h], errK_ne h]
    exact wclock_belowout a1 n1 c1 l1 a2 n2 c2 l2 _ w G R1 h1 m1 R2 h2 m2 i1 i2 rfl h
theorem clockE_cases (l : List Int) : clockE l = 0 ∨ clockE l = 2 ∨ clockE l = 4 := by
  unfold clockE
  split
  · exact .inr (.inr rfl)
  · split
    · exact .inl rfl
    · exact .inr (.inl rfl)
/-- What the law wants of Tick, and of Join. -/
def wantT (l : List Int) (who : Int) : List Int := if tickE l who = 0 then of16 (tickF l who.toNat) 16 else []
def wantJ (a b : List Int) : List Int := if pairE a b = 0 then of16 (joinF a b) 16 else []
theorem wantT_is (l : List Int) (who : Int) : tickA l who = shortL (wantT l who) := by
  unfold tickA wantT
  split
  · rfl
  · rfl
theorem wantJ_is (a b : List Int) : joinA a b = shortL (wantJ a b) := by
  unfold joinA wantJ
  split
  · rfl
  · rfl
theorem irowL1 (w : World) (x : Int) (t : TypeId) : IRow (w.alloc (.cells #[.int .i64 x] t)) (some ⟨w.heap.size, 0, none⟩) 1 [x] := IRow.lit w _ t [x] rfl 1 rfl
/-- Is each of the first n of a at most that of b? -/
def leN (a b : List Int) : Nat → Bool
  | 0 => true
  | n + 1 => leN a b n && decide (seenL a n ≤ seenL b n)
theorem leN_iff (a b : List Int) : ∀ n, leN a b n = true ↔ ∀ j, j < n → seenL a j ≤ seenL b j
  | 0 => ⟨fun _ j hj => absurd hj (by omega), fun _ => rfl⟩
  | n + 1 => by
    have ih := leN_iff a b n
    show (leN a b n && decide (seenL a n ≤ seenL b n)) = true ↔ _
    rw [Bool.and_eq_true, ih, decide_eq_true_iff]
    constructor
    · rintro ⟨h1, h2⟩ j hj
      by_cases e : j = n
      · rw [e]; exact h2
      · exact h1 j (by omega)
    · intro h
      exact ⟨fun j hj => h j (by omega), h n (by omega)⟩
theorem leN_leC (a b : List Int) : decide (leC a b) = leN a b 16 := by
  by_cases h : leC a b
  · rw [decide_eq_true h, (leN_iff a b 16).2 h]
  · rw [decide_eq_false h]
    cases q : leN a b 16 with
    | false => rfl
    | true => exact absurd ((leN_iff a b 16).1 q) h
set_option maxRecDepth 100000 in
set_option maxHeartbeats 4000000 in
theorem ktell_walk (a1 : Option Addr) (n1 c1 : Nat) (la : List Int) (a2 : Option Addr) (n2 c2 : Nat) (lb : List Int) (who : Int) (w : World) (G : Env w) (HH : Handle w)
    (R1 : IRow w a1 n1 la) (h1 : n1 ≤ c1) (m1 : 8 * n1 ≤ 140737488351232) (b1 : ∀ i, i < n1 → -9223372036854775808 ≤ la.getD i 0 ∧ la.getD i 0 ≤ 9223372036854775807) (R2 : IRow w a2 n2 lb) (h2 : n2 ≤ c2) (m2 : 8 * n2 ≤ 140737488351232) (b2 : ∀ i, i < n2 → -9223372036854775808 ≤ lb.getD i 0 ∧ lb.getD i 0 ≤ 9223372036854775807) (k1 : -9223372036854775808 ≤ who) (k2 : who ≤ 9223372036854775807) :
    Calls Tryd.prog 3 #[.slice a1 n1 c1, .slice a2 n2 c2, .int .i64 who] w fun r w' => r = .returned (.bool true) ∧ Below w.heap.size w w' := by
  have HALL : Hid (∀ wx, Below w.heap.size w wx → Env wx ∧ Handle wx ∧ IRow wx a1 n1 la ∧ IRow wx a2 n2 lb) := fun wx hx => ⟨G.below hx, HH.below hx, R1.below hx, R2.below hx⟩
  have HB0 : Hid (Below w.heap.size w w) := Below.refl _ _
  have HI : Hid (okI la ∧ okI lb) := ⟨okI_of R1.1 b1, okI_of R2.1 b2⟩
  have p1 : n1 ≤ 140737488351232 := by omega
  have p2 : n2 ≤ 140737488351232 := by omega
  clear G HH R1 R2 b1 b2
  go_enter Tryd.func3, Tryd.ntmps3
  go_wp2_with fail
  refine (rclockfault_any a1 n1 c1 la w (HALL.out _ HB0.out).2.2.1 h1 p1).mono ?_
  rintro r w1 ⟨rfl, hw1⟩
  have hw1' : w = w1 := hw1.symm
  subst hw1'
  obtain ⟨E1, hE1⟩ : ∃ E1, clockE la = E1 := ⟨_, rfl⟩
  have HE1 : Hid (clockE la = E1) := hE1
  have hcs := clockE_cases la
  rw [hE1] at hcs
  have e0 : 0 ≤ E1 := by omega
  have e4 : E1 ≤ 4 := by omega
  rw [hE1]
  clear hE1 hcs
  go_wp2_with fail
  refine (wcheck_any a1 n1 c1 la w (HALL.out _ HB0.out).1 (HALL.out _ HB0.out).2.2.1 h1 p1 HI.out.1).mono ?_
  rw [HE1.out]
  rintro r wk ⟨rfl, hbk⟩
  have HB : Hid (Below w.heap.size w wk) := hbk
  have HT1 : Hid (∀ wx, Handle wx → Calls Tryd.prog 5 #[errK E1, .int .i64 E1] wx fun r w' => r = .returned (.bool true) ∧ Below wx.heap.size wx w') := fun wx hx => told_any E1 wx hx
  obtain ⟨V1, hV1⟩ : ∃ V1, errK E1 = V1 := ⟨_, rfl⟩
  rw [hV1] at HT1 ⊢
  clear hbk hV1 HB0
  go_wp2_with fail
  refine (HT1.out wk (HALL.out _ HB.out).2.1).mono ?_
  rintro r wn ⟨rfl, hbn⟩
  have HBn : Hid (Below w.heap.size w wn) := HB.out.trans (hbn.mono HB.out.size)
  clear hbn HB HT1
  have HB : Hid (Below w.heap.size w wn) := HBn.out
  clear HBn
  generalize wn = wk at *
  go_upto_region 6 with fail
  go_cut [44] (fun bv wq => bv = .bool (decide (E1 = 0 ∧ tickE la who ≠ 0)) ∧ Hid (wq = wk))
  case first =>
    by_cases z1 : E1 = 0
    rotate_left
    · have z1' : (E1 == (0 : Int)) = false := beq_eq_false_iff_ne.2 z1
      have HD : Hid (decide (E1 = 0 ∧ tickE la who ≠ 0) = false) := decide_eq_false fun q => z1 q.1
      go_wp2_with fail
      go_meet
      case rel => exact ⟨by rw [HD.out], rfl⟩
    have HTE : Hid (tickE la who = if who < 0 ∨ 16 ≤ who ∨ seenL la who.toNat = 9223372036854775807 then 2 else 0) := if_neg (by rw [HE1.out, z1]; simp)
    subst z1
    by_cases d1 : who < 0
    · have HD : Hid (decide ((0 : Int) = 0 ∧ tickE la who ≠ 0) = true) := decide_eq_true ⟨rfl, by rw [HTE.out, if_pos (.inl d1)]; decide⟩
      go_wp2_with fail
      go_meet
      case rel => exact ⟨by rw [HD.out], rfl⟩
    by_cases d2 : 16 ≤ who
    · have HD : Hid (decide ((0 : Int) = 0 ∧ tickE la who ≠ 0) = true) := decide_eq_true ⟨rfl, by rw [HTE.out, if_pos (.inr (.inl d2))]; decide⟩
      go_wp2_with fail
      go_meet
      case rel => exact ⟨by rw [HD.out], rfl⟩
    obtain ⟨W, hW⟩ : ∃ W : Nat, who = (W : Int) := ⟨who.toNat, by omega⟩
    subst hW
    obtain ⟨z, hz⟩ : ∃ z, seenL la W = z := ⟨_, rfl⟩
    have HSE : Hid (Calls Tryd.prog 7 #[.slice a1 n1 c1, .int .i64 (W : Int)] wk fun r w' => r = .returned (.int .i64 z) ∧ w' = wk) := by rw [← hz]; exact rseen_any a1 n1 c1 la W wk (HALL.out _ HB.out).2.2.1 h1
    by_cases d3 : z = 9223372036854775807
    · have HD : Hid (decide ((0 : Int) = 0 ∧ tickE la (W : Int) ≠ 0) = true) := decide_eq_true ⟨rfl, by rw [HTE.out, if_pos (.inr (.inr (by rw [Int.toNat_natCast, hz]; exact d3)))]; decide⟩
      clear hz
      subst d3
      go_wp2_with fail
      refine HSE.out.mono ?_
      rintro r wx ⟨rfl, hwx⟩
      have hwx' : wk = wx := hwx.symm
      subst hwx'
      go_wp2_with fail
      go_meet
      case rel => exact ⟨by rw [HD.out], rfl⟩
    · have HD : Hid (decide ((0 : Int) = 0 ∧ tickE la (W : Int) ≠ 0) = false) := decide_eq_false fun q => q.2 (by rw [HTE.out]; exact if_neg (by rw [Int.toNat_natCast, hz]; omega))
      have d3' : (z == (9223372036854775807 : Int)) = false := beq_eq_false_iff_ne.2 d3
      clear hz
      go_wp2_with fail
      refine HSE.out.mono ?_
      rintro r wx ⟨rfl, hwx⟩
      have hwx' : wk = wx := hwx.symm
      subst hwx'
      go_wp2_with fail
      go_meet
      case rel => exact ⟨by rw [HD.out], rfl⟩
  case rest =>
  obtain ⟨rfl, hwc⟩ := hcut
  have hwc' : wk = wc := hwc.out.symm
  subst hwc'
  obtain ⟨T, hT⟩ : ∃ T, tickE la who = T := ⟨_, rfl⟩
  have HTT : Hid (tickE la who = T) := hT
  have HTC : Hid (¬ (E1 = 0 ∧ T ≠ 0) → T = E1) := fun q => by
    by_cases z : E1 = 0
    · by_cases t : T = 0
      · rw [t, z]
      · exact absurd ⟨z, t⟩ q
    · rw [← hT]
      unfold tickE
      rw [if_pos (by rw [HE1.out]; exact z), HE1.out]
  have HT2 : Hid ((E1 = 0 ∧ T ≠ 0) → T = 2) := fun q => by
    rw [← hT] at q ⊢
    have q2 := q.2
    unfold tickE at q2 ⊢
    rw [if_neg (by rw [HE1.out, q.1]; simp)] at q2 ⊢
    by_cases d : who < 0 ∨ 16 ≤ who ∨ seenL la who.toNat = 9223372036854775807
    · rw [if_pos d]
    · rw [if_neg d] at q2; exact absurd rfl q2
  rw [hT]
  clear hT
  go_upto_if 44 with fail
  go_cut [9] (fun fv wq => fv = .int .i64 T ∧ Hid (wq = wk))
  case first =>
    by_cases hq : E1 = 0 ∧ T ≠ 0
    · rw [decide_eq_true hq]
      have HQ : Hid (T = 2) := HT2.out hq
      clear hq HTC HT2
      go_wp2_with fail
      go_meet
      case rel => exact ⟨by rw [HQ.out], rfl⟩
    · rw [decide_eq_false hq]
      have HQ : Hid (T = E1) := HTC.out hq
      clear hq HTC HT2
      go_wp2_with fail
      go_meet
      case rel => exact ⟨by rw [HQ.out], rfl⟩
  case rest =>
  obtain ⟨rfl, hwc⟩ := hcut
  have hwc' : wk = wc := hwc.out.symm
  subst hwc'
  clear HTC HT2 hwc
  go_upto_block 0 with fail
  go_cut [10] (fun v wq => ∃ aw cw, v = .slice aw (wantT la who).length cw ∧ Hid (IRow wq aw (wantT la who).length (wantT la who) ∧ (wantT la who).length ≤ cw) ∧ Hid (Below w.heap.size w wq))
  case first =>
    by_cases tz : T = 0
    rotate_left
    · have HWN : Hid (wantT la who = []) := if_neg (by rw [HTT.out]; exact tz)
      have tz' : (T == (0 : Int)) = false := beq_eq_false_iff_ne.2 tz
      go_wp2_with fail
      go_loopw [10, 11] (fun v iv wr => v = .slice none 0 0 ∧ iv = .int .i64 0 ∧ Hid (wr = wk)) (fun _ _ _ => 0)
      case atStart => exact ⟨rfl, rfl, rfl⟩
      case round =>
        obtain ⟨rfl, rfl, HW⟩ := hrel
        have hw : wk = wr := HW.out.symm
        subst hw
        go_wp2_with fail
        go_meet
        case rel => rw [HWN.out]; exact ⟨none, 0, rfl, ⟨⟨rfl, .inl rfl⟩, Nat.le_refl _⟩, HB.out⟩
    subst tz
    have hok := tickE_ok HTT.out
    obtain ⟨W, hW⟩ : ∃ W : Nat, who = (W : Int) := ⟨who.toNat, by omega⟩
    subst hW
    have HWN : Hid (wantT la (W : Int) = of16 (tickF la W) 16) := if_pos HTT.out
    have hW16 : W < 16 := by omega
    have HMX : Hid (seenL la W ≠ 9223372036854775807) := hok.2.2.2
    obtain ⟨B0, hB0⟩ : ∃ B0, wk.heap.size = B0 := ⟨_, rfl⟩
    have HB00 : Hid (Below B0 wk wk) := Below.refl _ _
    have HBW : Hid (∀ wx, Below B0 wk wx → Below w.heap.size w wx ∧ B0 ≤ wx.heap.size) := fun wx hx => ⟨HB.out.trans (hx.mono (by have := HB.out.size; omega)), by have := hx.size; omega⟩
    clear hB0 hok
    go_wp2_with fail
    go_loopw [10, 11] (fun v iv wr => ∃ i : Nat, iv = .int .i64 (i : Int) ∧ i ≤ 16 ∧ Hid (OwnI wr B0 v (of16 (tickF la W) i)) ∧ Hid (Below B0 wk wr)) (fun _ iv _ => 16 - (intOf iv).toNat)
    case atStart => exact ⟨0, rfl, Nat.zero_le _, OwnI.nil _ _, HB00.out⟩
    case round =>
      obtain ⟨i, rfl, hi, HO, HBx⟩ := hrel
      by_cases hlt : i < 16
      · have HIN : Hid (i < 16) := hlt
        have g1 : (i : Int) < 16 := by omega
        have hbw := (HBW.out _ HBx.out).1
        obtain ⟨z, hz⟩ : ∃ z, seenL la i = z := ⟨_, rfl⟩
        have HSE : Hid (Calls Tryd.prog 7 #[.slice a1 n1 c1, .int .i64 (i : Int)] wr fun r w' => r = .returned (.int .i64 z) ∧ w' = wr) := by rw [← hz]; exact rseen_any a1 n1 c1 la i wr (HALL.out _ hbw).2.2.1 h1
        have hzb := okI_seen HI.out.1 i
        rw [hz] at hzb
        have z1 := hzb.1
        have z2 := hzb.2
        have HZ : Hid (seenL la i = z) := hz
        have HSC : Hid (of16 (tickF la W) i ++ [tickF la W i] = of16 (tickF la W) (i + 1)) := of16_succ _ _
        have HOL : Hid ((of16 (tickF la W) i).length = i) := of16_length _ _
        obtain ⟨U, hU⟩ : ∃ U, of16 (tickF la W) i = U := ⟨_, rfl⟩
        rw [hU] at HSC HOL HO
        clear hz hzb hU hbw hlt hi
        by_cases cw : i = W
        · subst cw
          have z3 : z < 9223372036854775807 := by have := HMX.out; rw [HZ.out] at this; omega
          have HTF : Hid (tickF la i i = z + 1) := by unfold Hid tickF; rw [if_pos rfl, HZ.out]
          rw [HTF.out] at HSC
          go_wp2_with fail
          refine HSE.out.mono ?_
          rintro r wx ⟨rfl, hwx⟩
          have hwx' : wr = wx := hwx.symm
          subst hwx'
          clear hwx HSE
          go_wp2_with (at_builtin; refine wpList_append_ints (by rfl) (.tmp 61) (.tmp 63) (by rfl) B0 u10 U (by rfl) (OwnI.alloc HO.out _) ⟨wr.heap.size, 0, none⟩ 1 1 [z + 1] (by rfl) (irowL1 wr (z + 1) _) (by omega) (by rw [HOL.out]; have := HIN.out; omega) (by have := (HBW.out _ HBx.out).2; simp; omega) ?_; intro v7 w7 ho7 hg7 ha7)
          have q7 : OwnI w7 B0 v7 (of16 (tickF la i) (i + 1)) := by rw [← HSC.out]; exact ho7
          have B7 := OwnI.grown (OwnI.alloc HO.out _) (HBx.out.alloc (HBW.out _ HBx.out).2 _) hg7 (Nat.le_refl _) (by have := (HBW.out _ HBx.out).2; simp; omega)
          have hin := HIN.out
          go_roundw
          case rel => exact ⟨i + 1, by go_num, by omega, q7, B7⟩
          case measure => simp [intOf]; omega
        · have cw' : ((i : Int) == (W : Int)) = false := beq_eq_false_iff_ne.2 (by omega)
          have HTF : Hid (tickF la W i = z) := by unfold Hid tickF; rw [if_neg cw, HZ.out]
          rw [HTF.out] at HSC
          go_wp2_with fail
          refine HSE.out.mono ?_
          rintro r wx ⟨rfl, hwx⟩
          have hwx' : wr = wx := hwx.symm
          subst hwx'
          clear hwx HSE
          go_wp2_with (at_builtin; refine wpList_append_ints (by rfl) (.tmp 61) (.tmp 63) (by rfl) B0 u10 U (by rfl) (OwnI.alloc HO.out _) ⟨wr.heap.size, 0, none⟩ 1 1 [z] (by rfl) (irowL1 wr (z) _) (by omega) (by rw [HOL.out]; have := HIN.out; omega) (by have := (HBW.out _ HBx.out).2; simp; omega) ?_; intro v7 w7 ho7 hg7 ha7)
          have q7 : OwnI w7 B0 v7 (of16 (tickF la W) (i + 1)) := by rw [← HSC.out]; exact ho7
          have B7 := OwnI.grown (OwnI.alloc HO.out _) (HBx.out.alloc (HBW.out _ HBx.out).2 _) hg7 (Nat.le_refl _) (by have := (HBW.out _ HBx.out).2; simp; omega)
          have hin := HIN.out
          go_roundw
          case rel => exact ⟨i + 1, by go_num, by omega, q7, B7⟩
          case measure => simp [intOf]; omega
      · have hi16 : i = 16 := by omega
        subst hi16
        obtain ⟨aw, cw, hu, rw6, hcw⟩ := HO.out.form
        have HRW : Hid (IRow wr aw (of16 (tickF la W) 16).length (of16 (tickF la W) 16)) := rw6
        have HCW : Hid ((of16 (tickF la W) 16).length ≤ cw) := hcw
        subst hu
        clear rw6 hcw HO hlt
        go_wp2_with fail
        go_meet
        case rel => rw [HWN.out]; exact ⟨aw, cw, rfl, ⟨HRW.out, HCW.out⟩, (HBW.out _ HBx.out).1⟩
  case rest =>
  obtain ⟨aw, cw, rfl, hrw, hbc⟩ := hcut
  have HB1 : Hid (Below w.heap.size w wc) := hbc.out
  have HRW : Hid (IRow wc aw (wantT la who).length (wantT la who)) := hrw.out.1
  have hcw : (wantT la who).length ≤ cw := hrw.out.2
  clear hrw hbc HB
  have HB : Hid (Below w.heap.size w wc) := HB1.out
  clear HB1
  generalize wc = wk at *
  have HWI : Hid (tickA la who = shortL (wantT la who)) := wantT_is la who
  have hsle := shortL_le (wantT la who)
  have hw47 : (wantT la who).length ≤ 140737488351232 := by
    have : (wantT la who).length ≤ 16 := by
      unfold wantT
      split
      · rw [of16_length]; exact Nat.le_refl _
      · exact Nat.zero_le _
    omega
  go_wp2_with fail
  refine (wtick_any a1 n1 c1 la who wk (HALL.out _ HB.out).1 (HALL.out _ HB.out).2.2.1 h1 p1 HI.out.1 k1 k2).mono ?_
  rw [HTT.out, HWI.out]
  generalize wantT la who = WT at *
  rintro r wn ⟨⟨ag, cg, rfl, rg⟩, hbn⟩
  have HRG : Hid (IRow wn ag (shortL WT).length (shortL WT)) := rg
  have HT1 : Hid (∀ wx, Handle wx → Calls Tryd.prog 5 #[errK T, .int .i64 T] wx fun r w' => r = .returned (.bool true) ∧ Below wx.heap.size wx w') := fun wx hx => told_any T wx hx
  obtain ⟨V2, hV2⟩ : ∃ V2, errK T = V2 := ⟨_, rfl⟩
  rw [hV2] at HT1 ⊢
  clear rg hV2 HTT HWI
  have HBn : Hid (Below w.heap.size w wn) := HB.out.trans (hbn.mono HB.out.size)
  have HRWn : Hid (IRow wn aw WT.length WT) := HRW.out.below hbn
  clear HRW
  clear hbn HB
  have HB : Hid (Below w.heap.size w wn) := HBn.out
  clear HBn
  have HRW : Hid (IRow wn aw WT.length WT) := HRWn.out
  clear HRWn
  have HRG2 : Hid (IRow wn ag (shortL WT).length (shortL WT)) := HRG.out
  clear HRG
  have HRG : Hid (IRow wn ag (shortL WT).length (shortL WT)) := HRG2.out
  clear HRG2
  generalize wn = wk at *
  go_wp2_with fail
  refine (HT1.out wk (HALL.out _ HB.out).2.1).mono ?_
  rintro r wn ⟨rfl, hbn⟩
  clear HT1
  have HBn : Hid (Below w.heap.size w wn) := HB.out.trans (hbn.mono HB.out.size)
  have HRWn : Hid (IRow wn aw WT.length WT) := HRW.out.below hbn
  clear HRW
  have HRGn : Hid (IRow wn ag (shortL WT).length (shortL WT)) := HRG.out.below hbn
  clear HRG
  clear hbn HB
  have HB : Hid (Below w.heap.size w wn) := HBn.out
  clear HBn
  have HRW : Hid (IRow wn aw WT.length WT) := HRWn.out
  clear HRWn
  have HRG : Hid (IRow wn ag (shortL WT).length (shortL WT)) := HRGn.out
  clear HRGn
  generalize wn = wk at *
  go_wp2_with fail
  refine (rshort_any aw WT.length cw WT wk HRW.out hcw hw47).mono ?_
  rintro r wn ⟨rfl, hwn⟩
  have hwn' : wk = wn := hwn.symm
  subst hwn'
  clear hwn
  go_wp2_with fail
  refine (sints_any ag aw (shortL WT).length (shortL WT).length cg cw (shortL WT) (shortL WT) wk HRG.out HRW.out.short (by omega)).mono ?_
  rintro r wn ⟨rfl, q5, hq5⟩
  rw [show decide (shortL WT = shortL WT) = true from decide_eq_true rfl]
  have hbn : Below wk.heap.size wk wn := by rw [hq5]; exact below_drewN wk q5
  clear hq5 HRG HRW hcw hsle hw47
  have HBn : Hid (Below w.heap.size w wn) := HB.out.trans (hbn.mono HB.out.size)
  clear hbn HB
  have HB : Hid (Below w.heap.size w wn) := HBn.out
  clear HBn
  generalize wn = wk at *
  generalize (shortL WT).length = wtl at *
  generalize WT.length = wl at *
  clear WT
  go_upto_region 21 with fail
  go_cut [85] (fun bv wq => bv = .bool (decide (E1 = 0)) ∧ Hid (wq = wk))
  case first =>
    by_cases z1 : E1 = 0
    · have HD : Hid (decide (E1 = 0) = true) := decide_eq_true z1
      have z1' : (E1 == (0 : Int)) = true := by simp [z1]
      go_wp2_with fail
      go_meet
      case rel => exact ⟨by rw [HD.out], rfl⟩
    · have HD : Hid (decide (E1 = 0) = false) := decide_eq_false z1
      have z1' : (E1 == (0 : Int)) = false := beq_eq_false_iff_ne.2 z1
      go_wp2_with fail
      go_meet
      case rel => exact ⟨by rw [HD.out], rfl⟩
  case rest =>
  obtain ⟨rfl, hwc⟩ := hcut
  have hwc' : wk = wc := hwc.out.symm
  subst hwc'
  clear hwc
  go_upto_if 85 with fail
  go_cut [7] (fun ev wq => ev = .int .i64 (pairE la lb) ∧ Hid (wq = wk))
  case first =>
    by_cases z1 : E1 = 0
    · rw [decide_eq_true z1]
      have HPE : Hid (pairE la lb = clockE lb) := if_neg (by rw [HE1.out, z1]; simp)
      subst z1
      go_wp2_with fail
      refine (rclockfault_any a2 n2 c2 lb wk (HALL.out _ HB.out).2.2.2 h2 p2).mono ?_
      rintro r wx ⟨rfl, hwx⟩
      have hwx' : wk = wx := hwx.symm
      subst hwx'
      clear hwx
      go_wp2_with fail
      go_meet
      case rel => exact ⟨by rw [HPE.out], rfl⟩
    · rw [decide_eq_false z1]
      have HPE : Hid (pairE la lb = E1) := by
        unfold Hid pairE
        rw [if_pos (by rw [HE1.out]; exact z1), HE1.out]
      go_wp2_with fail
      go_meet
      case rel => exact ⟨by rw [HPE.out], rfl⟩
  case rest =>
  obtain ⟨rfl, hwc⟩ := hcut
  have hwc' : wk = wc := hwc.out.symm
  subst hwc'
  obtain ⟨Pq, hPq⟩ : ∃ Pq, pairE la lb = Pq := ⟨_, rfl⟩
  have HPP : Hid (pairE la lb = Pq) := hPq
  rw [hPq]
  clear hwc hPq
  go_upto_block 2 with fail
  try simp only [Act.put, List.setIfInBounds_toArray, List.set_cons_zero, List.set_cons_succ]
  generalize hbz : (Pq == (0 : Int)) = bz
  have HBZ : Hid ((Pq == (0 : Int)) = bz) := hbz
  clear hbz
  go_cut [10, 16] (fun v sv wq => ∃ aw cw, v = .slice aw (wantJ la lb).length cw ∧ sv = .bool (decide (pairE la lb = 0 ∧ leC la lb)) ∧ Hid (IRow wq aw (wantJ la lb).length (wantJ la lb) ∧ (wantJ la lb).length ≤ cw) ∧ Hid (Below w.heap.size w wq))
  case first =>
    by_cases tz : Pq = 0
    rotate_left
    · have HWN : Hid (wantJ la lb = []) := if_neg (by rw [HPP.out]; exact tz)
      have HDC : Hid (decide (pairE la lb = 0 ∧ leC la lb) = false) := decide_eq_false fun q => tz (by rw [← HPP.out]; exact q.1)
      have tz' : (Pq == (0 : Int)) = false := beq_eq_false_iff_ne.2 tz
      have HT0 : Hid ((Pq == (0 : Int)) = false) := tz'
      go_wp2_with fail
      go_loopw [10, 16, 17] (fun v sv iv wr => v = .slice none 0 0 ∧ sv = .bool bz ∧ iv = .int .i64 0 ∧ Hid (wr = wk)) (fun _ _ _ _ => 0)
      case atStart => exact ⟨rfl, rfl, rfl, rfl⟩
      case round =>
        obtain ⟨rfl, rfl, rfl, HW⟩ := hrel
        have hw : wk = wr := HW.out.symm
        subst hw
        go_wp2_with fail
        go_meet
        case rel => rw [HWN.out, HDC.out]; exact ⟨none, 0, rfl, by rw [← HBZ.out, HT0.out], ⟨⟨rfl, .inl rfl⟩, Nat.le_refl _⟩, HB.out⟩
    subst tz
    have HWN : Hid (wantJ la lb = of16 (joinF la lb) 16) := if_pos HPP.out
    have HDC : Hid (decide (pairE la lb = 0 ∧ leC la lb) = leN la lb 16) := by
      unfold Hid
      rw [← leN_leC]
      by_cases q : leC la lb
      · rw [decide_eq_true q]; exact decide_eq_true ⟨HPP.out, q⟩
      · rw [decide_eq_false q]; exact decide_eq_false fun r => q r.2
    obtain ⟨B0, hB0⟩ : ∃ B0, wk.heap.size = B0 := ⟨_, rfl⟩
    have HB00 : Hid (Below B0 wk wk) := Below.refl _ _
    have HBW : Hid (∀ wx, Below B0 wk wx → Below w.heap.size w wx ∧ B0 ≤ wx.heap.size) := fun wx hx => ⟨HB.out.trans (hx.mono (by have := HB.out.size; omega)), by have := hx.size; omega⟩
    clear hB0
    go_wp2_with fail
    go_loopw [10, 16, 17] (fun v sv iv wr => ∃ (i : Nat) (s : Bool), iv = .int .i64 (i : Int) ∧ sv = .bool s ∧ i ≤ 16 ∧ Hid (leN la lb i = s) ∧ Hid (OwnI wr B0 v (of16 (joinF la lb) i)) ∧ Hid (Below B0 wk wr)) (fun _ _ iv _ => 16 - (intOf iv).toNat)
    case atStart => exact ⟨0, bz, rfl, rfl, Nat.zero_le _, (by rw [← HBZ.out]; rfl), OwnI.nil _ _, HB00.out⟩
    case round =>
      obtain ⟨i, s, rfl, rfl, hi, HS, HO, HBx⟩ := hrel
      by_cases hlt : i < 16
      · have HIN : Hid (i < 16) := hlt
        have g1 : (i : Int) < 16 := by omega
        obtain ⟨x, hx⟩ : ∃ x, seenL la i = x := ⟨_, rfl⟩
        obtain ⟨y, hy⟩ : ∃ y, seenL lb i = y := ⟨_, rfl⟩
        have HSA : Hid (∀ wx, Below B0 wk wx → Calls Tryd.prog 7 #[.slice a1 n1 c1, .int .i64 (i : Int)] wx fun r w' => r = .returned (.int .i64 x) ∧ w' = wx) := fun wx hbx => by rw [← hx]; exact rseen_any a1 n1 c1 la i wx (HALL.out _ (HBW.out _ hbx).1).2.2.1 h1
        have HSB : Hid (∀ wx, Below B0 wk wx → Calls Tryd.prog 7 #[.slice a2 n2 c2, .int .i64 (i : Int)] wx fun r w' => r = .returned (.int .i64 y) ∧ w' = wx) := fun wx hbx => by rw [← hy]; exact rseen_any a2 n2 c2 lb i wx (HALL.out _ (HBW.out _ hbx).1).2.2.2 h2
        have HSC : Hid (of16 (joinF la lb) i ++ [maxI x y] = of16 (joinF la lb) (i + 1)) := by rw [← hx, ← hy]; exact of16_succ _ _
        have HS2 : Hid (leN la lb (i + 1) = (s && decide (x ≤ y))) := by unfold Hid; rw [show leN la lb (i + 1) = (leN la lb i && decide (seenL la i ≤ seenL lb i)) from rfl, HS.out, hx, hy]
        have HOL : Hid ((of16 (joinF la lb) i).length = i) := of16_length _ _
        obtain ⟨U, hU⟩ : ∃ U, of16 (joinF la lb) i = U := ⟨_, rfl⟩
        rw [hU] at HSC HOL HO
        have HMX : Hid (maxI x y = if x < y then y else x) := rfl
        clear hx hy hU hlt hi HS
        go_wp2_with fail
        refine (HSA.out wr HBx.out).mono ?_
        rintro r wx ⟨rfl, hwx⟩
        have hwx' : wr = wx := hwx.symm
        subst hwx'
        clear hwx
        go_wp2_with fail
        refine (HSB.out wr HBx.out).mono ?_
        rintro r wx ⟨rfl, hwx⟩
        have hwx' : wr = wx := hwx.symm
        subst hwx'
        clear hwx
        by_cases sc : s = true
        · subst sc
          by_cases mxy : x < y
          · have lxy : x ≤ y := by omega
            have HMV : Hid (maxI x y = y) := by rw [HMX.out]; exact if_pos mxy
            rw [HMV.out] at HSC
            go_wp2_with (at_builtin; refine wpList_append_ints (by rfl) (.tmp 98) (.tmp 106) (by rfl) B0 u10 U (by rfl) (OwnI.alloc HO.out _) ⟨wr.heap.size, 0, none⟩ 1 1 [y] (by rfl) (irowL1 wr (y) _) (by omega) (by rw [HOL.out]; have := HIN.out; omega) (by have := (HBW.out _ HBx.out).2; simp; omega) ?_; intro v7 w7 ho7 hg7 ha7)
            have q7 : OwnI w7 B0 v7 (of16 (joinF la lb) (i + 1)) := by rw [← HSC.out]; exact ho7
            have B7 := OwnI.grown (OwnI.alloc HO.out _) (HBx.out.alloc (HBW.out _ HBx.out).2 _) hg7 (Nat.le_refl _) (by have := (HBW.out _ HBx.out).2; simp; omega)
            have HBy : Hid (Below B0 wk w7) := B7
            have HQ7 : Hid (OwnI w7 B0 v7 (of16 (joinF la lb) (i + 1))) := q7
            clear q7 B7 ho7 hg7 ha7
            refine (HSA.out w7 HBy.out).mono ?_
            rintro r wx ⟨rfl, hwx⟩
            have hwx' : w7 = wx := hwx.symm
            subst hwx'
            clear hwx
            go_wp2_with fail
            refine (HSB.out w7 HBy.out).mono ?_
            rintro r wx ⟨rfl, hwx⟩
            have hwx' : w7 = wx := hwx.symm
            subst hwx'
            clear hwx
            have HSN : Hid (leN la lb (i + 1) = true) := by rw [HS2.out, decide_eq_true lxy]; rfl
            have hdx : decide (x ≤ y) = true := decide_eq_true lxy
            go_wp2_with fail
            have hin := HIN.out
            go_roundw
            case rel => exact ⟨i + 1, true, by go_num, by first | rfl | rw [hdx], by omega, HSN.out, HQ7.out, HBy.out⟩
            case measure => simp [intOf]; omega
          by_cases lxy : x ≤ y
          · have HMV : Hid (maxI x y = x) := by rw [HMX.out]; exact if_neg mxy
            rw [HMV.out] at HSC
            go_wp2_with (at_builtin; refine wpList_append_ints (by rfl) (.tmp 98) (.tmp 106) (by rfl) B0 u10 U (by rfl) (OwnI.alloc HO.out _) ⟨wr.heap.size, 0, none⟩ 1 1 [x] (by rfl) (irowL1 wr (x) _) (by omega) (by rw [HOL.out]; have := HIN.out; omega) (by have := (HBW.out _ HBx.out).2; simp; omega) ?_; intro v7 w7 ho7 hg7 ha7)
            have q7 : OwnI w7 B0 v7 (of16 (joinF la lb) (i + 1)) := by rw [← HSC.out]; exact ho7
            have B7 := OwnI.grown (OwnI.alloc HO.out _) (HBx.out.alloc (HBW.out _ HBx.out).2 _) hg7 (Nat.le_refl _) (by have := (HBW.out _ HBx.out).2; simp; omega)
            have HBy : Hid (Below B0 wk w7) := B7
            have HQ7 : Hid (OwnI w7 B0 v7 (of16 (joinF la lb) (i + 1))) := q7
            clear q7 B7 ho7 hg7 ha7
            refine (HSA.out w7 HBy.out).mono ?_
            rintro r wx ⟨rfl, hwx⟩
            have hwx' : w7 = wx := hwx.symm
            subst hwx'
            clear hwx
            go_wp2_with fail
            refine (HSB.out w7 HBy.out).mono ?_
            rintro r wx ⟨rfl, hwx⟩
            have hwx' : w7 = wx := hwx.symm
            subst hwx'
            clear hwx
            have HSN : Hid (leN la lb (i + 1) = true) := by rw [HS2.out, decide_eq_true lxy]; rfl
            have hdx : decide (x ≤ y) = true := decide_eq_true lxy
            go_wp2_with fail
            have hin := HIN.out
            go_roundw
            case rel => exact ⟨i + 1, true, by go_num, by first | rfl | rw [hdx], by omega, HSN.out, HQ7.out, HBy.out⟩
            case measure => simp [intOf]; omega
          · have HMV : Hid (maxI x y = x) := by rw [HMX.out]; exact if_neg mxy
            rw [HMV.out] at HSC
            go_wp2_with (at_builtin; refine wpList_append_ints (by rfl) (.tmp 98) (.tmp 106) (by rfl) B0 u10 U (by rfl) (OwnI.alloc HO.out _) ⟨wr.heap.size, 0, none⟩ 1 1 [x] (by rfl) (irowL1 wr (x) _) (by omega) (by rw [HOL.out]; have := HIN.out; omega) (by have := (HBW.out _ HBx.out).2; simp; omega) ?_; intro v7 w7 ho7 hg7 ha7)
            have q7 : OwnI w7 B0 v7 (of16 (joinF la lb) (i + 1)) := by rw [← HSC.out]; exact ho7
            have B7 := OwnI.grown (OwnI.alloc HO.out _) (HBx.out.alloc (HBW.out _ HBx.out).2 _) hg7 (Nat.le_refl _) (by have := (HBW.out _ HBx.out).2; simp; omega)
            have HBy : Hid (Below B0 wk w7) := B7
            have HQ7 : Hid (OwnI w7 B0 v7 (of16 (joinF la lb) (i + 1))) := q7
            clear q7 B7 ho7 hg7 ha7
            refine (HSA.out w7 HBy.out).mono ?_
            rintro r wx ⟨rfl, hwx⟩
            have hwx' : w7 = wx := hwx.symm
            subst hwx'
            clear hwx
            go_wp2_with fail
            refine (HSB.out w7 HBy.out).mono ?_
            rintro r wx ⟨rfl, hwx⟩
            have hwx' : w7 = wx := hwx.symm
            subst hwx'
            clear hwx
            have HSN : Hid (leN la lb (i + 1) = false) := by rw [HS2.out, decide_eq_false (Int.not_le.2 lxy)]; rfl
            have hdx : decide (x ≤ y) = false := decide_eq_false (Int.not_le.2 lxy)
            go_wp2_with fail
            have hin := HIN.out
            go_roundw
            case rel => exact ⟨i + 1, false, by go_num, by first | rfl | rw [hdx], by omega, HSN.out, HQ7.out, HBy.out⟩
            case measure => simp [intOf]; omega
        · have sf : s = false := by simpa using sc
          subst sf
          by_cases mxy : x < y
          · have HMV : Hid (maxI x y = y) := by rw [HMX.out]; exact if_pos mxy
            rw [HMV.out] at HSC
            go_wp2_with (at_builtin; refine wpList_append_ints (by rfl) (.tmp 98) (.tmp 106) (by rfl) B0 u10 U (by rfl) (OwnI.alloc HO.out _) ⟨wr.heap.size, 0, none⟩ 1 1 [y] (by rfl) (irowL1 wr (y) _) (by omega) (by rw [HOL.out]; have := HIN.out; omega) (by have := (HBW.out _ HBx.out).2; simp; omega) ?_; intro v7 w7 ho7 hg7 ha7)
            have q7 : OwnI w7 B0 v7 (of16 (joinF la lb) (i + 1)) := by rw [← HSC.out]; exact ho7
            have B7 := OwnI.grown (OwnI.alloc HO.out _) (HBx.out.alloc (HBW.out _ HBx.out).2 _) hg7 (Nat.le_refl _) (by have := (HBW.out _ HBx.out).2; simp; omega)
            have HBy : Hid (Below B0 wk w7) := B7
            have HQ7 : Hid (OwnI w7 B0 v7 (of16 (joinF la lb) (i + 1))) := q7
            clear q7 B7 ho7 hg7 ha7
            have HSN : Hid (leN la lb (i + 1) = false) := by rw [HS2.out]; rfl
            have hin := HIN.out
            go_roundw
            case rel => exact ⟨i + 1, false, by go_num, rfl, by omega, HSN.out, HQ7.out, HBy.out⟩
            case measure => simp [intOf]; omega
          · have HMV : Hid (maxI x y = x) := by rw [HMX.out]; exact if_neg mxy
            rw [HMV.out] at HSC
            go_wp2_with (at_builtin; refine wpList_append_ints (by rfl) (.tmp 98) (.tmp 106) (by rfl) B0 u10 U (by rfl) (OwnI.alloc HO.out _) ⟨wr.heap.size, 0, none⟩ 1 1 [x] (by rfl) (irowL1 wr (x) _) (by omega) (by rw [HOL.out]; have := HIN.out; omega) (by have := (HBW.out _ HBx.out).2; simp; omega) ?_; intro v7 w7 ho7 hg7 ha7)
            have q7 : OwnI w7 B0 v7 (of16 (joinF la lb) (i + 1)) := by rw [← HSC.out]; exact ho7
            have B7 := OwnI.grown (OwnI.alloc HO.out _) (HBx.out.alloc (HBW.out _ HBx.out).2 _) hg7 (Nat.le_refl _) (by have := (HBW.out _ HBx.out).2; simp; omega)
            have HBy : Hid (Below B0 wk w7) := B7
            have HQ7 : Hid (OwnI w7 B0 v7 (of16 (joinF la lb) (i + 1))) := q7
            clear q7 B7 ho7 hg7 ha7
            have HSN : Hid (leN la lb (i + 1) = false) := by rw [HS2.out]; rfl
            have hin := HIN.out
            go_roundw
            case rel => exact ⟨i + 1, false, by go_num, rfl, by omega, HSN.out, HQ7.out, HBy.out⟩
            case measure => simp [intOf]; omega
      · have hi16 : i = 16 := by omega
        subst hi16
        obtain ⟨aw, cw, hu, rw6, hcw⟩ := HO.out.form
        have HRW : Hid (IRow wr aw (of16 (joinF la lb) 16).length (of16 (joinF la lb) 16)) := rw6
        have HCW : Hid ((of16 (joinF la lb) 16).length ≤ cw) := hcw
        subst hu
        clear rw6 hcw HO hlt
        go_wp2_with fail
        go_meet
        case rel => rw [HWN.out, HDC.out]; exact ⟨aw, cw, rfl, by rw [HS.out], ⟨HRW.out, HCW.out⟩, (HBW.out _ HBx.out).1⟩
  case rest =>
  obtain ⟨aw, cw, rfl, rfl, hrw, hbc⟩ := hcut
  have HB1 : Hid (Below w.heap.size w wc) := hbc.out
  have HRW : Hid (IRow wc aw (wantJ la lb).length (wantJ la lb)) := hrw.out.1
  have hcw : (wantJ la lb).length ≤ cw := hrw.out.2
  clear hrw hbc HB
  have HB : Hid (Below w.heap.size w wc) := HB1.out
  clear HB1
  generalize wc = wk at *
  have HWI : Hid (joinA la lb = shortL (wantJ la lb)) := wantJ_is la lb
  have hsle := shortL_le (wantJ la lb)
  have hw47 : (wantJ la lb).length ≤ 140737488351232 := by
    have : (wantJ la lb).length ≤ 16 := by
      unfold wantJ
      split
      · rw [of16_length]; exact Nat.le_refl _
      · exact Nat.zero_le _
    omega
  obtain ⟨sb, hsb⟩ : ∃ sb, decide (pairE la lb = 0 ∧ leC la lb) = sb := ⟨_, rfl⟩
  have HSB : Hid (decide (pairE la lb = 0 ∧ leC la lb) = sb) := hsb
  rw [hsb]
  clear hsb
  go_wp2_with fail
  refine (wjoin_any a1 n1 c1 la a2 n2 c2 lb wk (HALL.out _ HB.out).1 (HALL.out _ HB.out).2.2.1 h1 p1 (HALL.out _ HB.out).2.2.2 h2 p2 HI.out.1 HI.out.2).mono ?_
  rw [HPP.out, HWI.out]
  generalize wantJ la lb = WT at *
  rintro r wn ⟨⟨ag, cg, rfl, rg⟩, hbn⟩
  have HRG : Hid (IRow wn ag (shortL WT).length (shortL WT)) := rg
  have HT1 : Hid (∀ wx, Handle wx → Calls Tryd.prog 5 #[errK Pq, .int .i64 Pq] wx fun r w' => r = .returned (.bool true) ∧ Below wx.heap.size wx w') := fun wx hx => told_any Pq wx hx
  have HBL : Hid (∀ wx, Below w.heap.size w wx → Calls Tryd.prog 12 #[.slice a1 n1 c1, .slice a2 n2 c2] wx fun r w' => r = .returned (.tuple #[.bool sb, errK Pq]) ∧ Below wx.heap.size wx w') := fun wx hx => by
    have q := wbelow_any a1 n1 c1 la a2 n2 c2 lb wx (HALL.out _ hx).1 (HALL.out _ hx).2.2.1 h1 p1 (HALL.out _ hx).2.2.2 h2 p2 HI.out.1 HI.out.2
    rw [HSB.out, HPP.out] at q
    exact q
  obtain ⟨V2, hV2⟩ : ∃ V2, errK Pq = V2 := ⟨_, rfl⟩
  rw [hV2] at HT1 HBL ⊢
  clear rg hV2 HPP HWI HSB
  have HBn : Hid (Below w.heap.size w wn) := HB.out.trans (hbn.mono HB.out.size)
  have HRWn : Hid (IRow wn aw WT.length WT) := HRW.out.below hbn
  clear HRW
  clear hbn HB
  have HB : Hid (Below w.heap.size w wn) := HBn.out
  clear HBn
  have HRW : Hid (IRow wn aw WT.length WT) := HRWn.out
  clear HRWn
  have HRG2 : Hid (IRow wn ag (shortL WT).length (shortL WT)) := HRG.out
  clear HRG
  have HRG : Hid (IRow wn ag (shortL WT).length (shortL WT)) := HRG2.out
  clear HRG2
  generalize wn = wk at *
  go_wp2_with fail
  refine (HT1.out wk (HALL.out _ HB.out).2.1).mono ?_
  rintro r wn ⟨rfl, hbn⟩
  have HBn : Hid (Below w.heap.size w wn) := HB.out.trans (hbn.mono HB.out.size)
  have HRWn : Hid (IRow wn aw WT.length WT) := HRW.out.below hbn
  clear HRW
  have HRGn : Hid (IRow wn ag (shortL WT).length (shortL WT)) := HRG.out.below hbn
  clear HRG
  clear hbn HB
  have HB : Hid (Below w.heap.size w wn) := HBn.out
  clear HBn
  have HRW : Hid (IRow wn aw WT.length WT) := HRWn.out
  clear HRWn
  have HRG : Hid (IRow wn ag (shortL WT).length (shortL WT)) := HRGn.out
  clear HRGn
  generalize wn = wk at *
  go_wp2_with fail
  refine (rshort_any aw WT.length cw WT wk HRW.out hcw hw47).mono ?_
  rintro r wn ⟨rfl, hwn⟩
  have hwn' : wk = wn := hwn.symm
  subst hwn'
  clear hwn
  go_wp2_with fail
  refine (sints_any ag aw (shortL WT).length (shortL WT).length cg cw (shortL WT) (shortL WT) wk HRG.out HRW.out.short (by omega)).mono ?_
  rintro r wn ⟨rfl, q5, hq5⟩
  rw [show decide (shortL WT = shortL WT) = true from decide_eq_true rfl]
  have hbn : Below wk.heap.size wk wn := by rw [hq5]; exact below_drewN wk q5
  clear hq5 HRG HRW hcw hsle hw47
  have HBn : Hid (Below w.heap.size w wn) := HB.out.trans (hbn.mono HB.out.size)
  clear hbn HB
  have HB : Hid (Below w.heap.size w wn) := HBn.out
  clear HBn
  generalize wn = wk at *
  go_wp2_with fail
  refine (HBL.out wk HB.out).mono ?_
  rintro r wn ⟨rfl, hbn⟩
  have HBn : Hid (Below w.heap.size w wn) := HB.out.trans (hbn.mono HB.out.size)
  clear hbn HB
  have HB : Hid (Below w.heap.size w wn) := HBn.out
  clear HBn
  generalize wn = wk at *
  go_wp2_with fail
  refine (HT1.out wk (HALL.out _ HB.out).2.1).mono ?_
  rintro r wn ⟨rfl, hbn⟩
  have HBn : Hid (Below w.heap.size w wn) := HB.out.trans (hbn.mono HB.out.size)
  clear hbn HB
  have HB : Hid (Below w.heap.size w wn) := HBn.out
  clear HBn
  generalize wn = wk at *
  go_wp2_with fail
  go_ret
  exact ⟨by simp, HB.out⟩
end Go.Proofs.YtanlnfcmmfmofaaDoor
