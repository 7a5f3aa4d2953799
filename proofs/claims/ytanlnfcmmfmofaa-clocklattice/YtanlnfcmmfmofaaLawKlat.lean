/- The law ClockLattice: the least above both. -/
import Derived.Test.YtanlnfcmmfmofaaWclock
import Derived.Test.YtanlnfcmmfmofaaSints
import Derived.Deep.DeepCutAuto
import Derived.WalkKit
namespace Go.Proofs.Ytanlnfcmmfmofaa
open Go.RowKit
set_option linter.unusedVariables false
set_option linter.unusedSimpArgs false

theorem irow_one {w : World} {a : Option Addr} {x : Int} (R : IRow w a 1 [x]) : ∃ b o, a = some ⟨b, o, none⟩ ∧ w.cell? ⟨b, o, none⟩ = some (.int .i64 x) := by
  rcases R.2 with h | ⟨b, o, e, hc⟩
  · omega
  · exact ⟨b, o, e, hc 0 (by omega)⟩
set_option maxRecDepth 100000 in
set_option maxHeartbeats 4000000 in
theorem klat_walk (a1 : Option Addr) (n1 c1 : Nat) (la : List Int) (a2 : Option Addr) (n2 c2 : Nat) (lb : List Int) (a3 : Option Addr) (n3 c3 : Nat) (lc : List Int) (who : Int) (w : World) (G : Env w)
    (R1 : IRow w a1 n1 la) (h1 : n1 ≤ c1) (m1 : 8 * n1 ≤ 140737488351232) (b1 : ∀ i, i < n1 → -9223372036854775808 ≤ la.getD i 0 ∧ la.getD i 0 ≤ 9223372036854775807) (R2 : IRow w a2 n2 lb) (h2 : n2 ≤ c2) (m2 : 8 * n2 ≤ 140737488351232) (b2 : ∀ i, i < n2 → -9223372036854775808 ≤ lb.getD i 0 ∧ lb.getD i 0 ≤ 9223372036854775807) (R3 : IRow w a3 n3 lc) (h3 : n3 ≤ c3) (m3 : 8 * n3 ≤ 140737488351232) (b3 : ∀ i, i < n3 → -9223372036854775808 ≤ lc.getD i 0 ∧ lc.getD i 0 ≤ 9223372036854775807) (k1 : -9223372036854775808 ≤ who) (k2 : who ≤ 9223372036854775807) :
    Calls Try.prog 3 #[.slice a1 n1 c1, .slice a2 n2 c2, .slice a3 n3 c3, .int .i64 who] w fun r w' => r = .returned (.bool true) ∧ Below w.heap.size w w' := by
  have HALL : Hid (∀ wx, Below w.heap.size w wx → Env wx ∧ IRow wx a1 n1 la ∧ IRow wx a2 n2 lb ∧ IRow wx a3 n3 lc) := fun wx hx => ⟨G.below hx, R1.below hx, R2.below hx, R3.below hx⟩
  have HB0 : Hid (Below w.heap.size w w) := Below.refl _ _
  have HI : Hid (okI la ∧ okI lb ∧ okI lc) := ⟨okI_of R1.1 b1, okI_of R2.1 b2, okI_of R3.1 b3⟩
  clear G R1 R2 R3 b1 b2 b3
  go_enter Try.func3, Try.ntmps3
  go_wp2_with fail
  refine (wclock_tick none 0 0 [] 0 w (HALL.out _ HB0.out).1 (IRow.nil w) (Nat.le_refl _) (fun x hx => by cases hx) tickE_nil).mono ?_
  rw [tick_nil]
  rintro r w1 ⟨⟨a', c', rfl, hc', r1⟩, hb1⟩
  obtain ⟨bf, of, rfl, kf⟩ := irow_one r1
  have HB1 : Hid (Below w.heap.size w w1) := hb1
  clear hb1 HB0 r1
  go_wp2_with fail
  by_cases ea : clockE la = 0
  rotate_left
  · refine (wclock_checkout a1 n1 c1 la (clockE la) w1 (HALL.out _ HB1.out).1 (HALL.out _ HB1.out).2.1 h1 (by omega) HI.out.1 rfl ea).mono ?_
    rintro r w2 ⟨rfl, hb2⟩
    have HB2 : Hid (Below w.heap.size w w2) := HB1.out.trans (hb2.mono HB1.out.size)
    generalize clockE la = q at *
    clear hb2 ea HB1
    go_wp2_with fail
    go_ret
    exact ⟨rfl, HB2.out⟩
  refine (wclock_check a1 n1 c1 la w1 (HALL.out _ HB1.out).1 (HALL.out _ HB1.out).2.1 h1 HI.out.1 ea).mono ?_
  rintro r w2 ⟨rfl, hb2⟩
  have HB2 : Hid (Below w.heap.size w w2) := HB1.out.trans (hb2.mono HB1.out.size)
  have HEA : Hid (clockE la = 0) := ea
  clear hb2 ea HB1 kf
  go_wp2_with fail
  by_cases eb : clockE lb = 0
  rotate_left
  · refine (wclock_checkout a2 n2 c2 lb (clockE lb) w2 (HALL.out _ HB2.out).1 (HALL.out _ HB2.out).2.2.1 h2 (by omega) HI.out.2.1 rfl eb).mono ?_
    rintro r w3 ⟨rfl, hb3⟩
    have HB3 : Hid (Below w.heap.size w w3) := HB2.out.trans (hb3.mono HB2.out.size)
    generalize clockE lb = q at *
    clear hb3 eb HB2
    go_wp2_with fail
    go_ret
    exact ⟨rfl, HB3.out⟩
  refine (wclock_check a2 n2 c2 lb w2 (HALL.out _ HB2.out).1 (HALL.out _ HB2.out).2.2.1 h2 HI.out.2.1 eb).mono ?_
  rintro r w3 ⟨rfl, hb3⟩
  have HB3 : Hid (Below w.heap.size w w3) := HB2.out.trans (hb3.mono HB2.out.size)
  have HEB : Hid (clockE lb = 0) := eb
  clear hb3 eb HB2
  go_wp2_with fail
  by_cases ec : clockE lc = 0
  rotate_left
  · refine (wclock_checkout a3 n3 c3 lc (clockE lc) w3 (HALL.out _ HB3.out).1 (HALL.out _ HB3.out).2.2.2 h3 (by omega) HI.out.2.2 rfl ec).mono ?_
    rintro r w4 ⟨rfl, hb4⟩
    have HB4 : Hid (Below w.heap.size w w4) := HB3.out.trans (hb4.mono HB3.out.size)
    generalize clockE lc = q at *
    clear hb4 ec HB3
    go_wp2_with fail
    go_ret
    exact ⟨rfl, HB4.out⟩
  refine (wclock_check a3 n3 c3 lc w3 (HALL.out _ HB3.out).1 (HALL.out _ HB3.out).2.2.2 h3 HI.out.2.2 ec).mono ?_
  rintro r w4 ⟨rfl, hb4⟩
  have HB4 : Hid (Below w.heap.size w w4) := HB3.out.trans (hb4.mono HB3.out.size)
  have HE : Hid (clockE la = 0 ∧ clockE lb = 0 ∧ clockE lc = 0) := ⟨HEA.out, HEB.out, ec⟩
  clear hb4 ec HB3 HEA HEB
  go_wp2_with fail
  refine (wclock_join a1 n1 c1 la a2 n2 c2 lb w4 (HALL.out _ HB4.out).1 (HALL.out _ HB4.out).2.1 h1 (HALL.out _ HB4.out).2.2.1 h2 HI.out.1 HI.out.2.1 (pairE_mk HE.out.1 HE.out.2.1)).mono ?_
  rintro r wj ⟨⟨aj, cj, rfl, hcj, rj⟩, hb5⟩
  have HB : Hid (Below w.heap.size w wj) := HB4.out.trans (hb5.mono HB4.out.size)
  have HJ : Hid (∀ wx, Below wj.heap.size wj wx → IRow wx aj (joinC la lb).length (joinC la lb)) := fun wx hx => rj.below hx
  have HOJ : Hid (okI (joinC la lb)) := okI_join HI.out.1 HI.out.2.1
  have HEJ : Hid (clockE (joinC la lb) = 0) := joinC_ok HE.out.1
  have HBj : Hid (Below wj.heap.size wj wj) := Below.refl _ _
  have HLT : Hid (leC (joinC la lb) lc ↔ leC la lc ∧ leC lb lc) := join_least la lb lc
  clear hb5 rj HB4
  obtain ⟨x, hx⟩ : ∃ x, decide (leC la lc) = x := ⟨_, rfl⟩
  obtain ⟨y, hy⟩ : ∃ y, decide (leC lb lc) = y := ⟨_, rfl⟩
  obtain ⟨z, hz⟩ : ∃ z, decide (leC la lb) = z := ⟨_, rfl⟩
  have HX : Hid (decide (leC la lc) = x) := hx
  have HY : Hid (decide (leC lb lc) = y) := hy
  have HZ : Hid (decide (leC la lb) = z) := hz
  have HXY : Hid (decide (leC (joinC la lb) lc) = (x && y)) := by
    unfold Hid
    rw [← hx, ← hy]
    by_cases q1 : leC la lc
    · by_cases q2 : leC lb lc
      · rw [decide_eq_true q1, decide_eq_true q2, decide_eq_true (HLT.out.2 ⟨q1, q2⟩)]; rfl
      · rw [decide_eq_true q1, decide_eq_false q2, decide_eq_false (fun q => q2 (HLT.out.1 q).2)]; rfl
    · rw [decide_eq_false q1, decide_eq_false (fun q => q1 (HLT.out.1 q).1)]; rfl
  have HTR : Hid ((z && y && !x) = false) := by
    unfold Hid
    rw [← hx, ← hy, ← hz]
    by_cases q1 : leC la lc
    · rw [decide_eq_true q1]; simp
    · by_cases q2 : leC lb lc
      · by_cases q3 : leC la lb
        · exact absurd (le_tr q3 q2) q1
        · rw [decide_eq_false q3]; rfl
      · rw [decide_eq_false q2]; simp
  clear hx hy hz HLT
  have HKK : Hid (wj = wj) := rfl
  obtain ⟨wk, hwk⟩ : ∃ wk, wj = wk := ⟨_, rfl⟩
  have HBjk : Hid (Below wj.heap.size wj wk) := by rw [← hwk]; exact HBj.out
  have HBk : Hid (Below w.heap.size w wk) := by rw [← hwk]; exact HB.out
  clear HB HBj HKK
  have HB : Hid (Below w.heap.size w wk) := HBk.out
  have HBj : Hid (Below wj.heap.size wj wk) := HBjk.out
  clear HBk HBjk
  rw [show wj = wk from hwk]
  clear hwk
  go_wp2_with fail
  refine (wclock_below a1 n1 c1 la aj (joinC la lb).length cj (joinC la lb) wk (HALL.out _ HB.out).1 (HALL.out _ HB.out).2.1 h1 (HJ.out _ HBj.out) hcj HI.out.1 HOJ.out (pairE_mk HE.out.1 HEJ.out)).mono ?_
  rintro r wn ⟨rfl, hbn⟩
  rw [show decide (leC la (joinC la lb)) = true from decide_eq_true (le_join1 la lb)]
  have HBn : Hid (Below w.heap.size w wn) := HB.out.trans (hbn.mono HB.out.size)
  have HBjn : Hid (Below wj.heap.size wj wn) := HBj.out.trans (hbn.mono HBj.out.size)
  clear hbn HB
  clear HBj
  have HB : Hid (Below w.heap.size w wn) := HBn.out
  clear HBn
  have HBj : Hid (Below wj.heap.size wj wn) := HBjn.out
  clear HBjn
  generalize wn = wk at *
  go_wp2_with fail
  refine (wclock_below a2 n2 c2 lb aj (joinC la lb).length cj (joinC la lb) wk (HALL.out _ HB.out).1 (HALL.out _ HB.out).2.2.1 h2 (HJ.out _ HBj.out) hcj HI.out.2.1 HOJ.out (pairE_mk HE.out.2.1 HEJ.out)).mono ?_
  rintro r wn ⟨rfl, hbn⟩
  rw [show decide (leC lb (joinC la lb)) = true from decide_eq_true (le_join2 la lb)]
  have HBn : Hid (Below w.heap.size w wn) := HB.out.trans (hbn.mono HB.out.size)
  have HBjn : Hid (Below wj.heap.size wj wn) := HBj.out.trans (hbn.mono HBj.out.size)
  clear hbn HB
  clear HBj
  have HB : Hid (Below w.heap.size w wn) := HBn.out
  clear HBn
  have HBj : Hid (Below wj.heap.size wj wn) := HBjn.out
  clear HBjn
  generalize wn = wk at *
  go_wp2_with fail
  refine (wclock_below a1 n1 c1 la a3 n3 c3 lc wk (HALL.out _ HB.out).1 (HALL.out _ HB.out).2.1 h1 (HALL.out _ HB.out).2.2.2 h3 HI.out.1 HI.out.2.2 (pairE_mk HE.out.1 HE.out.2.2)).mono ?_
  rintro r wn ⟨rfl, hbn⟩
  rw [show decide (leC la lc) = x from HX.out]
  have HBn : Hid (Below w.heap.size w wn) := HB.out.trans (hbn.mono HB.out.size)
  have HBjn : Hid (Below wj.heap.size wj wn) := HBj.out.trans (hbn.mono HBj.out.size)
  clear hbn HB
  clear HBj
  have HB : Hid (Below w.heap.size w wn) := HBn.out
  clear HBn
  have HBj : Hid (Below wj.heap.size wj wn) := HBjn.out
  clear HBjn
  generalize wn = wk at *
  go_wp2_with fail
  refine (wclock_below a2 n2 c2 lb a3 n3 c3 lc wk (HALL.out _ HB.out).1 (HALL.out _ HB.out).2.2.1 h2 (HALL.out _ HB.out).2.2.2 h3 HI.out.2.1 HI.out.2.2 (pairE_mk HE.out.2.1 HE.out.2.2)).mono ?_
  rintro r wn ⟨rfl, hbn⟩
  rw [show decide (leC lb lc) = y from HY.out]
  have HBn : Hid (Below w.heap.size w wn) := HB.out.trans (hbn.mono HB.out.size)
  have HBjn : Hid (Below wj.heap.size wj wn) := HBj.out.trans (hbn.mono HBj.out.size)
  clear hbn HB
  clear HBj
  have HB : Hid (Below w.heap.size w wn) := HBn.out
  clear HBn
  have HBj : Hid (Below wj.heap.size wj wn) := HBjn.out
  clear HBjn
  generalize wn = wk at *
  go_wp2_with fail
  refine (wclock_below aj (joinC la lb).length cj (joinC la lb) a3 n3 c3 lc wk (HALL.out _ HB.out).1 (HJ.out _ HBj.out) hcj (HALL.out _ HB.out).2.2.2 h3 HOJ.out HI.out.2.2 (pairE_mk HEJ.out HE.out.2.2)).mono ?_
  rintro r wn ⟨rfl, hbn⟩
  rw [show decide (leC (joinC la lb) lc) = (x && y) from HXY.out]
  have HBn : Hid (Below w.heap.size w wn) := HB.out.trans (hbn.mono HB.out.size)
  have HBjn : Hid (Below wj.heap.size wj wn) := HBj.out.trans (hbn.mono HBj.out.size)
  clear hbn HB
  clear HBj
  have HB : Hid (Below w.heap.size w wn) := HBn.out
  clear HBn
  have HBj : Hid (Below wj.heap.size wj wn) := HBjn.out
  clear HBjn
  generalize wn = wk at *
  go_wp2_with fail
  refine (wclock_below a1 n1 c1 la a2 n2 c2 lb wk (HALL.out _ HB.out).1 (HALL.out _ HB.out).2.1 h1 (HALL.out _ HB.out).2.2.1 h2 HI.out.1 HI.out.2.1 (pairE_mk HE.out.1 HE.out.2.1)).mono ?_
  rintro r wn ⟨rfl, hbn⟩
  rw [show decide (leC la lb) = z from HZ.out]
  have HBn : Hid (Below w.heap.size w wn) := HB.out.trans (hbn.mono HB.out.size)
  have HBjn : Hid (Below wj.heap.size wj wn) := HBj.out.trans (hbn.mono HBj.out.size)
  clear hbn HB
  clear HBj
  have HB : Hid (Below w.heap.size w wn) := HBn.out
  clear HBn
  have HBj : Hid (Below wj.heap.size wj wn) := HBjn.out
  clear HBjn
  generalize wn = wk at *
  clear HX HY HZ HXY HBj HJ HOJ HEJ
  go_upto_region 15 with fail
  go_cut [150] (fun bv wq => bv = .bool false ∧ Hid (wq = wk))
  case first =>
    have htr := HTR.out
    clear HTR
    cases x <;> cases y <;> cases z <;> first
      | (exfalso; revert htr; decide)
      | (go_wp2_with fail
         go_meet
         case rel => exact ⟨rfl, rfl⟩)
  case rest =>
  obtain ⟨rfl, hwc⟩ := hcut
  have hwc' : wk = wc := hwc.out.symm
  subst hwc'
  go_wp2_with fail
  by_cases et : tickE la who = 0
  rotate_left
  · refine (wclock_tickout a1 n1 c1 la who (tickE la who) wk (HALL.out _ HB.out).1 (HALL.out _ HB.out).2.1 h1 (by omega) HI.out.1 k1 k2 rfl et).mono ?_
    rintro r w5 ⟨⟨ag, cg, rfl⟩, hb5⟩
    have HB5 : Hid (Below w.heap.size w w5) := HB.out.trans (hb5.mono HB.out.size)
    generalize tickE la who = q at *
    clear hb5 et HB
    go_wp2_with fail
    go_ret
    exact ⟨rfl, HB5.out⟩
  obtain ⟨t1, t2, t3, t4⟩ := tickE_ok et
  obtain ⟨W, hW⟩ : ∃ W : Nat, who = (W : Int) := ⟨who.toNat, by omega⟩
  subst hW
  have HW16 : Hid (W < 16) := by unfold Hid; omega
  have HOT : Hid (okI (tickL la W)) := okI_tick HI.out.1 t4
  have HET : Hid (clockE (tickL la W) = 0) := tickL_ok HE.out.1
  clear t1 t2 t3 t4
  refine (wclock_tick a1 n1 c1 la W wk (HALL.out _ HB.out).1 (HALL.out _ HB.out).2.1 h1 HI.out.1 et).mono ?_
  rintro r wt ⟨⟨at_, ct, rfl, hct, rt⟩, hb5⟩
  have HBx : Hid (Below w.heap.size w wt) := HB.out.trans (hb5.mono HB.out.size)
  have HT : Hid (∀ wx, Below wt.heap.size wt wx → IRow wx at_ (tickL la W).length (tickL la W)) := fun wx hx => rt.below hx
  have HBtt : Hid (Below wt.heap.size wt wt) := Below.refl _ _
  clear hb5 rt HB et wk
  obtain ⟨wk, hwk⟩ : ∃ wk, wt = wk := ⟨_, rfl⟩
  have HB : Hid (Below w.heap.size w wk) := by rw [← hwk]; exact HBx.out
  have HBt : Hid (Below wt.heap.size wt wk) := by rw [← hwk]; exact HBtt.out
  clear HBx HBtt
  rw [show wt = wk from hwk]
  clear hwk
  go_wp2_with fail
  refine (wclock_below a1 n1 c1 la at_ (tickL la W).length ct (tickL la W) wk (HALL.out _ HB.out).1 (HALL.out _ HB.out).2.1 h1 (HT.out _ HBt.out) hct HI.out.1 HOT.out (pairE_mk HE.out.1 HET.out)).mono ?_
  rintro r wn ⟨rfl, hbn⟩
  rw [show decide (leC la (tickL la W)) = true from decide_eq_true (le_tick la W)]
  have HBn : Hid (Below w.heap.size w wn) := HB.out.trans (hbn.mono HB.out.size)
  have HBtn : Hid (Below wt.heap.size wt wn) := HBt.out.trans (hbn.mono HBt.out.size)
  clear hbn HB
  clear HBt
  have HB : Hid (Below w.heap.size w wn) := HBn.out
  clear HBn
  have HBt : Hid (Below wt.heap.size wt wn) := HBtn.out
  clear HBtn
  generalize wn = wk at *
  go_wp2_with fail
  refine (wclock_below at_ (tickL la W).length ct (tickL la W) a1 n1 c1 la wk (HALL.out _ HB.out).1 (HT.out _ HBt.out) hct (HALL.out _ HB.out).2.1 h1 HOT.out HI.out.1 (pairE_mk HET.out HE.out.1)).mono ?_
  rintro r wn ⟨rfl, hbn⟩
  rw [show decide (leC (tickL la W) la) = false from decide_eq_false (not_tick la HW16.out)]
  have HBn : Hid (Below w.heap.size w wn) := HB.out.trans (hbn.mono HB.out.size)
  have HBtn : Hid (Below wt.heap.size wt wn) := HBt.out.trans (hbn.mono HBt.out.size)
  clear hbn HB
  clear HBt
  have HB : Hid (Below w.heap.size w wn) := HBn.out
  clear HBn
  have HBt : Hid (Below wt.heap.size wt wn) := HBtn.out
  clear HBtn
  generalize wn = wk at *
  go_wp2_with fail
  go_ret
  exact ⟨rfl, HB.out⟩
end Go.Proofs.Ytanlnfcmmfmofaa
