/- The law ClockJoins: who meets whom first is no matter. -/
import Derived.Test.YtanlnfcmmfmofaaWclock
import Derived.Test.YtanlnfcmmfmofaaSints
import Derived.Deep.DeepCutAuto
import Derived.WalkKit
import Derived.Test.YtanlnfcmmfmofaaRclock
namespace Go.Proofs.Ytanlnfcmmfmofaa
open Go.RowKit
set_option linter.unusedVariables false
set_option linter.unusedSimpArgs false

/-- What Join tells, whatever it is asked. -/
theorem wclock_join_any (a1 : Option Addr) (n1 c1 : Nat) (l1 : List Int) (a2 : Option Addr) (n2 c2 : Nat) (l2 : List Int) (w : World) (G : Env w) (R1 : IRow w a1 n1 l1) (h1 : n1 ≤ c1) (m1 : n1 ≤ 140737488351232) (R2 : IRow w a2 n2 l2) (h2 : n2 ≤ c2) (m2 : n2 ≤ 140737488351232) (i1 : okI l1) (i2 : okI l2) :
    Calls Try.prog 7 #[.slice a1 n1 c1, .slice a2 n2 c2] w fun r w' => ((pairE l1 l2 = 0 ∧ ∃ a' c', r = .returned (.tuple #[.slice a' (joinC l1 l2).length c', .nilIface]) ∧ (joinC l1 l2).length ≤ c' ∧ IRow w' a' (joinC l1 l2).length (joinC l1 l2)) ∨ (pairE l1 l2 ≠ 0 ∧ ∃ a' c' q, r = .returned (.tuple #[.slice a' 0 c', .iface 38 (.int .i64 q)]))) ∧ Below w.heap.size w w' := by
  by_cases h : pairE l1 l2 = 0
  · exact (wclock_join a1 n1 c1 l1 a2 n2 c2 l2 w G R1 h1 R2 h2 i1 i2 h).mono fun r w' ⟨q, hb⟩ => ⟨.inl ⟨h, q⟩, hb⟩
  · exact (wclock_joinout a1 n1 c1 l1 a2 n2 c2 l2 _ w G R1 h1 m1 R2 h2 m2 i1 i2 rfl h).mono fun r w' ⟨⟨a', c', e⟩, hb⟩ => ⟨.inr ⟨h, a', c', _, e⟩, hb⟩
theorem irow_two (w : World) (x y : Int) (t : TypeId) : IRow (w.alloc (.cells #[.int .i64 x, .int .i64 y] t)) (some ⟨w.heap.size, 0, none⟩) 2 [x, y] := IRow.lit w _ t [x, y] rfl 2 rfl
theorem irow_lit1 (w : World) (x : Int) (t : TypeId) : IRow (w.alloc (.cells #[.int .i64 x] t)) (some ⟨w.heap.size, 0, none⟩) 1 [x] := IRow.lit w _ t [x] rfl 1 rfl
set_option maxRecDepth 100000 in
set_option maxHeartbeats 4000000 in
theorem kjoin_walk (a1 : Option Addr) (n1 c1 : Nat) (la : List Int) (a2 : Option Addr) (n2 c2 : Nat) (lb : List Int) (a3 : Option Addr) (n3 c3 : Nat) (lc : List Int) (w : World) (G : Env w)
    (R1 : IRow w a1 n1 la) (h1 : n1 ≤ c1) (m1 : 8 * n1 ≤ 140737488351232) (b1 : ∀ i, i < n1 → -9223372036854775808 ≤ la.getD i 0 ∧ la.getD i 0 ≤ 9223372036854775807) (R2 : IRow w a2 n2 lb) (h2 : n2 ≤ c2) (m2 : 8 * n2 ≤ 140737488351232) (b2 : ∀ i, i < n2 → -9223372036854775808 ≤ lb.getD i 0 ∧ lb.getD i 0 ≤ 9223372036854775807) (R3 : IRow w a3 n3 lc) (h3 : n3 ≤ c3) (m3 : 8 * n3 ≤ 140737488351232) (b3 : ∀ i, i < n3 → -9223372036854775808 ≤ lc.getD i 0 ∧ lc.getD i 0 ≤ 9223372036854775807) :
    Calls Try.prog 4 #[.slice a1 n1 c1, .slice a2 n2 c2, .slice a3 n3 c3] w fun r w' => r = .returned (.bool true) ∧ Below w.heap.size w w' := by
  have HALL : Hid (∀ wx, Below w.heap.size w wx → Env wx ∧ IRow wx a1 n1 la ∧ IRow wx a2 n2 lb ∧ IRow wx a3 n3 lc) := fun wx hx => ⟨G.below hx, R1.below hx, R2.below hx, R3.below hx⟩
  have HB0 : Hid (Below w.heap.size w w) := Below.refl _ _
  have HI : Hid (okI la ∧ okI lb ∧ okI lc) := ⟨okI_of R1.1 b1, okI_of R2.1 b2, okI_of R3.1 b3⟩
  clear G R1 R2 R3 b1 b2 b3
  have HL3 : Hid (n1 ≤ 140737488351232 ∧ n2 ≤ 140737488351232 ∧ n3 ≤ 140737488351232) := ⟨by omega, by omega, by omega⟩
  obtain ⟨w1, hw1⟩ : ∃ w1, w.alloc (.cells #[.int .i64 1] 3) = w1 := ⟨_, rfl⟩
  obtain ⟨w2, hw2⟩ : ∃ w2, w1.alloc (.cells #[.int .i64 0, .int .i64 2] 3) = w2 := ⟨_, rfl⟩
  have hs1 : w1.heap.size = w.heap.size + 1 := by rw [← hw1]; simp
  have b1 : Below w.heap.size w w1 := by rw [← hw1]; exact (Below.refl _ _).alloc (Nat.le_refl _) _
  have b12 : Below w1.heap.size w1 w2 := by rw [← hw2]; exact (Below.refl _ _).alloc (Nat.le_refl _) _
  have HB2 : Hid (Below w.heap.size w w2) := b1.trans (b12.mono b1.size)
  have HI1 : Hid (IRow w2 (some ⟨w.heap.size, 0, none⟩) 1 [1]) := by
    have q : IRow w1 (some ⟨w.heap.size, 0, none⟩) 1 [1] := by rw [← hw1]; exact irow_lit1 w 1 _
    exact q.below b12
  have HI2 : Hid (IRow w2 (some ⟨w.heap.size + 1, 0, none⟩) 2 [0, 2]) := by rw [← hw2, ← hs1]; exact irow_two w1 0 2 _
  have HW : Hid ((w.alloc (.cells #[.int .i64 1] 3)).alloc (.cells #[.int .i64 0, .int .i64 2] 3) = w2) := by unfold Hid; rw [hw1, hw2]
  clear hw1 hw2 hs1 b1 b12 HB0
  go_enter Try.func4, Try.ntmps4
  go_wp2_with fail
  rw [HW.out]
  refine (wclock_join (some ⟨w.heap.size, 0, none⟩) 1 1 [1] (some ⟨w.heap.size + 1, 0, none⟩) 2 2 [0, 2] w2 (HALL.out _ HB2.out).1 HI1.out (Nat.le_refl _) HI2.out (Nat.le_refl _) (fun x hx => by simp only [List.mem_singleton] at hx; omega) (fun x hx => by simp only [List.mem_cons, List.not_mem_nil, or_false] at hx; omega) pairE_one_two).mono ?_
  rw [join_one_two]
  rintro r w3 ⟨⟨a', c', rfl, hc', r3⟩, hb3⟩
  have HB3 : Hid (Below w.heap.size w w3) := HB2.out.trans (hb3.mono HB2.out.size)
  have HR3 : Hid (IRow (w3.alloc (.cells #[.int .i64 1, .int .i64 2] 3)) a' 2 [1, 2]) := r3.below ((Below.refl _ _).alloc (Nat.le_refl _) _)
  have HR4 : Hid (IRow (w3.alloc (.cells #[.int .i64 1, .int .i64 2] 3)) (some ⟨w3.heap.size, 0, none⟩) 2 [1, 2]) := irow_two w3 1 2 _
  have HB4 : Hid (Below w.heap.size w (w3.alloc (.cells #[.int .i64 1, .int .i64 2] 3))) := HB3.out.alloc HB3.out.size _
  clear hb3 r3 HW HI1 HI2 HB2 HB3
  go_wp2_with fail
  generalize w3.alloc (.cells #[.int .i64 1, .int .i64 2] 3) = w4 at *
  refine (sints_any a' (some ⟨w3.heap.size, 0, none⟩) 2 2 c' 2 [1, 2] [1, 2] w4 HR3.out HR4.out (by omega)).mono ?_
  rintro r wk ⟨rfl, q5, hq5⟩
  rw [show decide (([1, 2] : List Int) = [1, 2]) = true from decide_eq_true rfl]
  have HB : Hid (Below w.heap.size w wk) := by rw [hq5]; exact HB4.out.trans ((below_drewN w4 q5).mono HB4.out.size)
  clear hq5 HR3 HR4 HB4 hc' w4
  go_wp2_with fail
  refine (wclock_join_any a1 n1 c1 la a2 n2 c2 lb wk (HALL.out _ HB.out).1 (HALL.out _ HB.out).2.1 h1 (by omega) (HALL.out _ HB.out).2.2.1 h2 (by omega) HI.out.1 HI.out.2.1).mono ?_
  rintro r wx ⟨hr, hb⟩
  have HBn : Hid (Below w.heap.size w wx) := HB.out.trans (hb.mono HB.out.size)
  rcases hr with ⟨hp, ax, cx, rfl, hcx, rx⟩ | ⟨hp, ax, cx, qx, rfl⟩
  · have HPx : Hid (pairE la lb = 0) := hp
    have HRx : Hid (IRow wx ax (joinC la lb).length (joinC la lb)) := rx
    clear hp rx hb HB
    have HB : Hid (Below w.heap.size w wx) := HBn.out
    clear HBn
    generalize wx = wk at *
    go_wp2_with fail
    refine (wclock_join_any a2 n2 c2 lb a1 n1 c1 la wk (HALL.out _ HB.out).1 (HALL.out _ HB.out).2.2.1 h2 (by omega) (HALL.out _ HB.out).2.1 h1 (by omega) HI.out.2.1 HI.out.1).mono ?_
    rintro r wy ⟨hr, hb⟩
    have HBn : Hid (Below w.heap.size w wy) := HB.out.trans (hb.mono HB.out.size)
    rcases hr with ⟨hp, ay, cy, rfl, hcy, ry⟩ | ⟨hp, ay, cy, qy, rfl⟩
    · have HPy : Hid (pairE lb la = 0) := hp
      have HRy : Hid (IRow wy ay (joinC lb la).length (joinC lb la)) := ry
      have HRxn : Hid (IRow wy ax (joinC la lb).length (joinC la lb)) := HRx.out.below hb
      clear HRx
      have HRx : Hid (IRow wy ax (joinC la lb).length (joinC la lb)) := HRxn.out
      clear HRxn
      clear hp ry hb HB
      have HB : Hid (Below w.heap.size w wy) := HBn.out
      clear HBn
      generalize wy = wk at *
      go_wp2_with fail
      refine (wclock_join_any a2 n2 c2 lb a3 n3 c3 lc wk (HALL.out _ HB.out).1 (HALL.out _ HB.out).2.2.1 h2 (by omega) (HALL.out _ HB.out).2.2.2 h3 (by omega) HI.out.2.1 HI.out.2.2).mono ?_
      rintro r wu ⟨hr, hb⟩
      have HBn : Hid (Below w.heap.size w wu) := HB.out.trans (hb.mono HB.out.size)
      rcases hr with ⟨hp, au, cu, rfl, hcu, ru⟩ | ⟨hp, au, cu, qu, rfl⟩
      · have HPu : Hid (pairE lb lc = 0) := hp
        have HRu : Hid (IRow wu au (joinC lb lc).length (joinC lb lc)) := ru
        have HRxn : Hid (IRow wu ax (joinC la lb).length (joinC la lb)) := HRx.out.below hb
        clear HRx
        have HRx : Hid (IRow wu ax (joinC la lb).length (joinC la lb)) := HRxn.out
        clear HRxn
        have HRyn : Hid (IRow wu ay (joinC lb la).length (joinC lb la)) := HRy.out.below hb
        clear HRy
        have HRy : Hid (IRow wu ay (joinC lb la).length (joinC lb la)) := HRyn.out
        clear HRyn
        clear hp ru hb HB
        have HB : Hid (Below w.heap.size w wu) := HBn.out
        clear HBn
        generalize wu = wk at *
        go_wp2_with fail
        have HE : Hid (clockE la = 0 ∧ clockE lb = 0 ∧ clockE lc = 0) := ⟨(pairE_ok HPx.out).1, (pairE_ok HPx.out).2, (pairE_ok HPu.out).2⟩
        have HLX : Hid ((joinC la lb).length ≤ 16 ∧ (joinC lb la).length ≤ 16 ∧ (joinC lb lc).length ≤ 16) := ⟨joinC_le _ _, joinC_le _ _, joinC_le _ _⟩
        clear HPx HPy HPu
        refine (wclock_join ax (joinC la lb).length cx (joinC la lb) a3 n3 c3 lc wk (HALL.out _ HB.out).1 HRx.out hcx (HALL.out _ HB.out).2.2.2 h3 (okI_join HI.out.1 HI.out.2.1) HI.out.2.2 (pairE_mk (joinC_ok HE.out.1) HE.out.2.2)).mono ?_
        rintro r wp ⟨⟨ap, cp, rfl, hcp, rp⟩, hb⟩
        have HB1 : Hid (Below w.heap.size w wp) := HB.out.trans (hb.mono HB.out.size)
        have HR1 : Hid (IRow wp ax (joinC la lb).length (joinC la lb) ∧ IRow wp ay (joinC lb la).length (joinC lb la) ∧ IRow wp au (joinC lb lc).length (joinC lb lc) ∧ IRow wp ap (joinC (joinC la lb) lc).length (joinC (joinC la lb) lc)) := ⟨HRx.out.below hb, HRy.out.below hb, HRu.out.below hb, rp⟩
        clear hb rp HB HRx HRy HRu
        go_wp2_with fail
        refine (wclock_join a1 n1 c1 la au (joinC lb lc).length cu (joinC lb lc) wp (HALL.out _ HB1.out).1 (HALL.out _ HB1.out).2.1 h1 HR1.out.2.2.1 hcu HI.out.1 (okI_join HI.out.2.1 HI.out.2.2) (pairE_mk HE.out.1 (joinC_ok HE.out.2.1))).mono ?_
        rintro r wq ⟨⟨aq, cq, rfl, hcq, rq⟩, hb⟩
        have HB2 : Hid (Below w.heap.size w wq) := HB1.out.trans (hb.mono HB1.out.size)
        have HR2 : Hid (IRow wq ax (joinC la lb).length (joinC la lb) ∧ IRow wq ay (joinC lb la).length (joinC lb la) ∧ IRow wq ap (joinC (joinC la lb) lc).length (joinC (joinC la lb) lc) ∧ IRow wq aq (joinC la (joinC lb lc)).length (joinC la (joinC lb lc))) := ⟨HR1.out.1.below hb, HR1.out.2.1.below hb, HR1.out.2.2.2.below hb, rq⟩
        clear hb rq HB1 HR1
        go_wp2_with fail
        refine (wclock_join a1 n1 c1 la a1 n1 c1 la wq (HALL.out _ HB2.out).1 (HALL.out _ HB2.out).2.1 h1 (HALL.out _ HB2.out).2.1 h1 HI.out.1 HI.out.1 (pairE_mk HE.out.1 HE.out.1)).mono ?_
        rintro r ws ⟨⟨as', cs, rfl, hcs, rs⟩, hb⟩
        have HB3 : Hid (Below w.heap.size w ws) := HB2.out.trans (hb.mono HB2.out.size)
        have HR3 : Hid (∀ wx, Below ws.heap.size ws wx → IRow wx ax (joinC la lb).length (joinC la lb) ∧ IRow wx ay (joinC lb la).length (joinC lb la) ∧ IRow wx ap (joinC (joinC la lb) lc).length (joinC (joinC la lb) lc) ∧ IRow wx aq (joinC la (joinC lb lc)).length (joinC la (joinC lb lc)) ∧ IRow wx as' (joinC la la).length (joinC la la)) := fun wx hx => ⟨(HR2.out.1.below hb).below hx, (HR2.out.2.1.below hb).below hx, (HR2.out.2.2.1.below hb).below hx, (HR2.out.2.2.2.below hb).below hx, rs.below hx⟩
        have HBs : Hid (Below ws.heap.size ws ws) := Below.refl _ _
        clear hb rs HB2 HR2
        go_wp2_with fail
        refine (sints_any ax ay (joinC la lb).length (joinC lb la).length cx cy (joinC la lb) (joinC lb la) ws (HR3.out _ HBs.out).1 (HR3.out _ HBs.out).2.1 (by have := HLX.out.1; omega)).mono ?_
        rintro r w4 ⟨rfl, q4, hq4⟩
        rw [show decide (joinC la lb = joinC lb la) = true from decide_eq_true (join_comm la lb)]
        have HBs4 : Hid (Below ws.heap.size ws w4) := by rw [hq4]; exact below_drewN ws q4
        clear hq4
        go_wp2_with fail
        refine (sints_any ap aq (joinC (joinC la lb) lc).length (joinC la (joinC lb lc)).length cp cq (joinC (joinC la lb) lc) (joinC la (joinC lb lc)) w4 (HR3.out _ HBs4.out).2.2.1 (HR3.out _ HBs4.out).2.2.2.1 (by have := joinC_le (joinC la lb) lc; omega)).mono ?_
        rintro r w5 ⟨rfl, q5, hq5⟩
        rw [show decide (joinC (joinC la lb) lc = joinC la (joinC lb lc)) = true from decide_eq_true (join_assoc la lb lc)]
        have HBs5 : Hid (Below ws.heap.size ws w5) := by rw [hq5]; exact HBs4.out.trans ((below_drewN w4 q5).mono HBs4.out.size)
        have HBw5 : Hid (Below w.heap.size w w5) := HB3.out.trans (HBs5.out.mono HB3.out.size)
        clear hq5
        go_wp2_with fail
        refine (rshort_any a1 n1 c1 la w5 (HALL.out _ HBw5.out).2.1 h1 (by omega)).mono ?_
        rintro r w6 ⟨rfl, hw6⟩
        have hw6' : w5 = w6 := hw6.symm
        subst hw6'
        go_wp2_with fail
        refine (sints_any as' a1 (joinC la la).length (shortL la).length cs c1 (joinC la la) (shortL la) w5 (HR3.out _ HBs5.out).2.2.2.2 (HALL.out _ HBw5.out).2.1.short (by have := joinC_le la la; omega)).mono ?_
        rintro r w7 ⟨rfl, q7, hq7⟩
        rw [show decide (joinC la la = shortL la) = true from decide_eq_true (join_self HE.out.1)]
        have HB7 : Hid (Below w.heap.size w w7) := by rw [hq7]; exact HBw5.out.trans ((below_drewN w5 q7).mono HBw5.out.size)
        clear hq7
        go_wp2_with fail
        go_ret
        exact ⟨rfl, HB7.out⟩
      · clear HRx HPx
        clear HRy HPy
        clear hp hb HB
        have HB : Hid (Below w.heap.size w wu) := HBn.out
        clear HBn
        generalize wu = wk at *
        generalize (joinC la lb).length = lenx at *
        generalize (joinC lb la).length = leny at *
        go_wp2_with fail
        go_ret
        exact ⟨rfl, HB.out⟩
    · clear HRx HPx
      clear hp hb HB
      have HB : Hid (Below w.heap.size w wy) := HBn.out
      clear HBn
      generalize wy = wk at *
      generalize (joinC la lb).length = lenx at *
      go_wp2_with fail
      refine (wclock_join_any a2 n2 c2 lb a3 n3 c3 lc wk (HALL.out _ HB.out).1 (HALL.out _ HB.out).2.2.1 h2 (by omega) (HALL.out _ HB.out).2.2.2 h3 (by omega) HI.out.2.1 HI.out.2.2).mono ?_
      rintro r wu ⟨hr, hb⟩
      have HBn : Hid (Below w.heap.size w wu) := HB.out.trans (hb.mono HB.out.size)
      rcases hr with ⟨hp, au, cu, rfl, hcu, ru⟩ | ⟨hp, au, cu, qu, rfl⟩
      · clear hp ru hcu hb
        clear HB
        have HB : Hid (Below w.heap.size w wu) := HBn.out
        clear HBn
        generalize wu = wk at *
        generalize (joinC lb lc).length = lenu at *
        go_wp2_with fail
        go_ret
        exact ⟨rfl, HB.out⟩
      · clear hp hb HB
        have HB : Hid (Below w.heap.size w wu) := HBn.out
        clear HBn
        generalize wu = wk at *
        go_wp2_with fail
        go_ret
        exact ⟨rfl, HB.out⟩
  · clear hp hb HB
    have HB : Hid (Below w.heap.size w wx) := HBn.out
    clear HBn
    generalize wx = wk at *
    go_wp2_with fail
    refine (wclock_join_any a2 n2 c2 lb a1 n1 c1 la wk (HALL.out _ HB.out).1 (HALL.out _ HB.out).2.2.1 h2 (by omega) (HALL.out _ HB.out).2.1 h1 (by omega) HI.out.2.1 HI.out.1).mono ?_
    rintro r wy ⟨hr, hb⟩
    have HBn : Hid (Below w.heap.size w wy) := HB.out.trans (hb.mono HB.out.size)
    rcases hr with ⟨hp, ay, cy, rfl, hcy, ry⟩ | ⟨hp, ay, cy, qy, rfl⟩
    · clear hp ry hcy hb
      clear HB
      have HB : Hid (Below w.heap.size w wy) := HBn.out
      clear HBn
      generalize wy = wk at *
      generalize (joinC lb la).length = leny at *
      go_wp2_with fail
      refine (wclock_join_any a2 n2 c2 lb a3 n3 c3 lc wk (HALL.out _ HB.out).1 (HALL.out _ HB.out).2.2.1 h2 (by omega) (HALL.out _ HB.out).2.2.2 h3 (by omega) HI.out.2.1 HI.out.2.2).mono ?_
      rintro r wu ⟨hr, hb⟩
      have HBn : Hid (Below w.heap.size w wu) := HB.out.trans (hb.mono HB.out.size)
      rcases hr with ⟨hp, au, cu, rfl, hcu, ru⟩ | ⟨hp, au, cu, qu, rfl⟩
      · clear hp ru hcu hb
        clear HB
        have HB : Hid (Below w.heap.size w wu) := HBn.out
        clear HBn
        generalize wu = wk at *
        generalize (joinC lb lc).length = lenu at *
        go_wp2_with fail
        go_ret
        exact ⟨rfl, HB.out⟩
      · clear hp hb HB
        have HB : Hid (Below w.heap.size w wu) := HBn.out
        clear HBn
        generalize wu = wk at *
        go_wp2_with fail
        go_ret
        exact ⟨rfl, HB.out⟩
    · clear hp hb HB
      have HB : Hid (Below w.heap.size w wy) := HBn.out
      clear HBn
      generalize wy = wk at *
      go_wp2_with fail
      refine (wclock_join_any a2 n2 c2 lb a3 n3 c3 lc wk (HALL.out _ HB.out).1 (HALL.out _ HB.out).2.2.1 h2 (by omega) (HALL.out _ HB.out).2.2.2 h3 (by omega) HI.out.2.1 HI.out.2.2).mono ?_
      rintro r wu ⟨hr, hb⟩
      have HBn : Hid (Below w.heap.size w wu) := HB.out.trans (hb.mono HB.out.size)
      rcases hr with ⟨hp, au, cu, rfl, hcu, ru⟩ | ⟨hp, au, cu, qu, rfl⟩
      · clear hp ru hcu hb
        clear HB
        have HB : Hid (Below w.heap.size w wu) := HBn.out
        clear HBn
        generalize wu = wk at *
        generalize (joinC lb lc).length = lenu at *
        go_wp2_with fail
        go_ret
        exact ⟨rfl, HB.out⟩
      · clear hp hb HB
        have HB : Hid (Below w.heap.size w wu) := HBn.out
        clear HBn
        generalize wu = wk at *
        go_wp2_with fail
        go_ret
        exact ⟨rfl, HB.out⟩
end Go.Proofs.Ytanlnfcmmfmofaa
