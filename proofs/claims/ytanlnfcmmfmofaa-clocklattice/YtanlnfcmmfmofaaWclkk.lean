/- The contracts of clock.Tick. -/
import Derived.Test.YtanlnfcmmfmofaaWclke
namespace Go.Proofs.Ytanlnfcmmfmofaa
open Go.RowKit
set_option linter.unusedVariables false
set_option linter.unusedSimpArgs false

set_option maxRecDepth 100000 in
set_option maxHeartbeats 4000000 in
theorem wclock_tick (a : Option Addr) (n c : Nat) (l : List Int) (who : Nat) (w : World) (G : Env w) (R : IRow w a n l) (hc : n ≤ c) (hi : okI l) (hf : tickE l (who : Int) = 0) :
    Calls Try.prog 5 #[.slice a n c, .int .i64 (who : Int)] w fun r w' => (∃ a' c', r = .returned (.tuple #[.slice a' (tickL l who).length c', .nilIface]) ∧ (tickL l who).length ≤ c' ∧ IRow w' a' (tickL l who).length (tickL l who)) ∧ Below w.heap.size w w' := by
  obtain ⟨f1, _, hw16, hmx⟩ := tickE_ok hf
  rw [Int.toNat_natCast] at hmx
  have hle := (clockE_ok f1).1
  have hok := okI_seen hi who
  have HC1 : Hid (Calls Try.prog 6 #[.slice a n c] w fun r w' => r = .returned .nilIface ∧ Below w.heap.size w w') := wclock_check a n c l w G R hc hi f1
  have HN : Hid (∀ wx, Below w.heap.size w wx → Calls Try.prog 11 #[.slice a n c] wx fun r w' => r = .returned (numV (pad16 l)) ∧ Below wx.heap.size wx w') := fun wx hx => wclk_numbers a n c l wx (R.below hx) (by have := R.1; omega)
  have HM : Hid (∀ i, i < 16 → seenL (of16 (tickF l who) 16) i = if i = who then seenL l who + 1 else seenL (pad16 l) i) := fun i h => by
    rw [of16_seen _ _ _ h, pad16_seen l hle, tickF]
    split
    · rename_i e; rw [e]
    · rfl
  have HQ : Hid (seenL (pad16 l) who = seenL l who) := pad16_seen l hle who
  have hP := pad16_length l
  have hO : (of16 (tickF l who) 16).length = 16 := of16_length _ _
  have HTO : Hid (∀ wx, Calls Try.prog 12 #[numV (of16 (tickF l who) 16)] wx fun r w' => (∃ a' c', r = .returned (.slice a' (tickL l who).length c') ∧ (tickL l who).length ≤ c' ∧ IRow w' a' (tickL l who).length (tickL l who)) ∧ Below wx.heap.size wx w') := fun wx => wclk_told (of16 (tickF l who) 16) wx hO
  have HW : Hid (who < 16) := by unfold Hid; omega
  have j0 : (0 : Int) ≤ (who : Int) := by omega
  have j1 : (who : Int) < 16 := by omega
  obtain ⟨m, hm⟩ : ∃ m, pad16 l = m := ⟨_, rfl⟩
  obtain ⟨y, hy⟩ : ∃ y, of16 (tickF l who) 16 = y := ⟨_, rfl⟩
  obtain ⟨t, ht⟩ : ∃ t, tickL l who = t := ⟨_, rfl⟩
  obtain ⟨x, hx⟩ : ∃ x, seenL l who = x := ⟨_, rfl⟩
  rw [hm] at HN HM HQ hP
  rw [hy] at HM HTO hO
  rw [ht] at HTO ⊢
  rw [hx] at HM HQ hok hmx
  have x1 : x + 1 ≤ 9223372036854775807 := by omega
  have x0 : -9223372036854775808 ≤ x + 1 := by omega
  have xq : (x == (9223372036854775807 : Int)) = false := beq_eq_false_iff_ne.2 hmx
  have xw : IntKind.i64.wrap (x + 1) = x + 1 := by rw [IntKind.wrap_i64]; omega
  clear G R hc hi hf f1 hw16 hle hm hy ht hx hok
  go_enter Try.func5, Try.ntmps5
  go_wp2_with fail
  refine HC1.out.mono ?_
  rintro e w2 ⟨rfl, hb2⟩
  have HB2 : Hid (Below w.heap.size w w2) := hb2
  clear hb2
  go_wp2_with fail
  refine (HN.out w2 HB2.out).mono ?_
  rintro e w3 ⟨rfl, hb3⟩
  have HB3 : Hid (Below w.heap.size w w3) := below_trans HB2.out hb3
  clear hb3 HB2
  obtain ⟨g7, hg7⟩ : ∃ g7, w3.heap.size = g7 := ⟨_, rfl⟩
  obtain ⟨w4, hw4⟩ : ∃ w4, w3.alloc (.cells (cellsI z16).toArray 36) = w4 := ⟨_, rfl⟩
  obtain ⟨w5, hw5⟩ : ∃ w5, w4.setCells g7 0 (cellsI m) = w5 := ⟨_, rfl⟩
  have q5 := na_new hg7 hw4 hw5 hP
  have HT4 : Hid (w4.there g7 0 16) := q5.1
  have HT5 : Hid (w5.there g7 0 16) := q5.2.2.1
  have HA5 : Hid (NA w5 g7 m) := q5.2.1
  have HB5 : Hid (Below w.heap.size w w5) := below_trans HB3.out q5.2.2.2.1
  have HZ5 : Hid (w.heap.size ≤ g7 ∧ g7 < w5.heap.size) := ⟨by rw [← hg7]; exact HB3.out.size, q5.2.2.2.2⟩
  clear q5 HB3
  have k0 := HA5.out.at who (by rw [hP]; exact HW.out)
  rw [HQ.out] at k0
  have k1 : w5.frozen? ⟨g7, who, none⟩ = false := by
    have := (HT5.out who HW.out).2
    rwa [Nat.zero_add] at this
  have HA6 : Hid (NA (w5.setCell ⟨g7, who, none⟩ (.int .i64 (x + 1))) g7 y) := HA5.out.set HT5.out hP HW.out y hO HM.out
  have HB6 : Hid (Below w.heap.size w (w5.setCell ⟨g7, who, none⟩ (.int .i64 (x + 1)))) := HB5.out.setCell HZ5.out.1 _
  clear HC1 HN HM
  go_wp2_with (first
    | (refine wpList_allocE (by rfl) 36 (by rfl) (cellsI z16).toArray Try.zeroN16 g7 hg7 w4 hw4 ?_)
    | (refine wpList_store_mid (by rfl) 36 (.tmp 7) (.tmp 14) (by rfl) g7 0 (cellsI m).toArray (by rfl) (by rfl) (by rw [cellsN_size, hP]; exact HT4.out) (by rw [cellsN_size, hP]; exact Try.sizeN16) (all_oneCell_toArray (cellsI_one _)) ?_; rw [hw5])
    | (refine wpList_load_mid (by rfl) 36 (.tmp 7) (by rfl) g7 0 (by rfl) (cellsI y) _ HA6.out Try.underlying36 (by rfl) (by rw [cellsI_length, hO]; exact Try.sizeN16) ?_))
  refine (HTO.out _).mono ?_
  rintro e w8 ⟨⟨a', c', rfl, hc', hr'⟩, hb8⟩
  have HB8 : Hid (Below w.heap.size w w8) := below_trans HB6.out hb8
  have HR8 : Hid (t.length ≤ c' ∧ IRow w8 a' t.length t) := ⟨hc', hr'⟩
  clear hb8 hc' hr' k0 k1
  go_wp2_with fail
  go_ret2
  exact ⟨⟨a', c', rfl, HR8.out.1, HR8.out.2⟩, HB8.out⟩

set_option maxRecDepth 100000 in
set_option maxHeartbeats 4000000 in
theorem wtick_range (a : Option Addr) (n c : Nat) (l : List Int) (who : Int) (w : World) (G : Env w) (R : IRow w a n l) (hc : n ≤ c) (hi : okI l) (f1 : clockE l = 0) (hw : who < 0 ∨ 16 ≤ who ∨ seenL l who.toNat = 9223372036854775807) :
    Calls Try.prog 5 #[.slice a n c, .int .i64 who] w fun r w' => (∃ a' c', r = .returned (.tuple #[.slice a' 0 c', .iface 38 (.int .i64 2)])) ∧ Below w.heap.size w w' := by
  have hle := (clockE_ok f1).1
  have HC1 : Hid (Calls Try.prog 6 #[.slice a n c] w fun r w' => r = .returned .nilIface ∧ Below w.heap.size w w') := wclock_check a n c l w G R hc hi f1
  have HN : Hid (∀ wx, Below w.heap.size w wx → Calls Try.prog 11 #[.slice a n c] wx fun r w' => r = .returned (numV (pad16 l)) ∧ Below wx.heap.size wx w') := fun wx hx => wclk_numbers a n c l wx (R.below hx) (by have := R.1; omega)
  have HQ : Hid (∀ i, seenL (pad16 l) i = seenL l i) := pad16_seen l hle
  have hP := pad16_length l
  have HWH : Hid (who < 0 ∨ 16 ≤ who ∨ seenL l who.toNat = 9223372036854775807) := hw
  obtain ⟨m, hm⟩ : ∃ m, pad16 l = m := ⟨_, rfl⟩
  rw [hm] at HN HQ hP
  clear G R hc hi f1 hle hm hw
  go_enter Try.func5, Try.ntmps5
  go_wp2_with fail
  refine HC1.out.mono ?_
  rintro e w2 ⟨rfl, hb2⟩
  have HB2 : Hid (Below w.heap.size w w2) := hb2
  clear hb2
  go_wp2_with fail
  refine (HN.out w2 HB2.out).mono ?_
  rintro e w3 ⟨rfl, hb3⟩
  have HB3 : Hid (Below w.heap.size w w3) := below_trans HB2.out hb3
  clear hb3 HB2
  obtain ⟨g7, hg7⟩ : ∃ g7, w3.heap.size = g7 := ⟨_, rfl⟩
  obtain ⟨w4, hw4⟩ : ∃ w4, w3.alloc (.cells (cellsI z16).toArray 36) = w4 := ⟨_, rfl⟩
  obtain ⟨w5, hw5⟩ : ∃ w5, w4.setCells g7 0 (cellsI m) = w5 := ⟨_, rfl⟩
  have q5 := na_new hg7 hw4 hw5 hP
  have HT4 : Hid (w4.there g7 0 16) := q5.1
  have HT5 : Hid (w5.there g7 0 16) := q5.2.2.1
  have HA5 : Hid (NA w5 g7 m) := q5.2.1
  have HB5 : Hid (Below w.heap.size w w5) := below_trans HB3.out q5.2.2.2.1
  have HZ5 : Hid (w.heap.size ≤ g7 ∧ g7 < w5.heap.size) := ⟨by rw [← hg7]; exact HB3.out.size, q5.2.2.2.2⟩
  clear q5 HB3
  clear HC1 HN HT5
  by_cases c0 : who < 0
  · clear HA5
    go_wp2_with (first
      | (refine wpList_allocE (by rfl) 36 (by rfl) (cellsI z16).toArray Try.zeroN16 g7 hg7 w4 hw4 ?_)
      | (refine wpList_store_mid (by rfl) 36 (.tmp 7) (.tmp 14) (by rfl) g7 0 (cellsI m).toArray (by rfl) (by rfl) (by rw [cellsN_size, hP]; exact HT4.out) (by rw [cellsN_size, hP]; exact Try.sizeN16) (all_oneCell_toArray (cellsI_one _)) ?_; rw [hw5]))
    go_ret2
    exact ⟨⟨_, _, rfl⟩, HB5.out⟩
  · have g0 : ¬ who < 0 := c0
    by_cases c1 : (16 : Int) ≤ who
    · clear HA5
      go_wp2_with (first
        | (refine wpList_allocE (by rfl) 36 (by rfl) (cellsI z16).toArray Try.zeroN16 g7 hg7 w4 hw4 ?_)
        | (refine wpList_store_mid (by rfl) 36 (.tmp 7) (.tmp 14) (by rfl) g7 0 (cellsI m).toArray (by rfl) (by rfl) (by rw [cellsN_size, hP]; exact HT4.out) (by rw [cellsN_size, hP]; exact Try.sizeN16) (all_oneCell_toArray (cellsI_one _)) ?_; rw [hw5]))
      go_ret2
      exact ⟨⟨_, _, rfl⟩, HB5.out⟩
    · obtain ⟨j, rfl⟩ : ∃ j : Nat, who = (j : Int) := ⟨who.toNat, by omega⟩
      have hj : j < 16 := by omega
      have hx : seenL l j = 9223372036854775807 := by
        rcases HWH.out with h | h | h
        · omega
        · omega
        · rwa [Int.toNat_natCast] at h
      have k0 := HA5.out.at j (by rw [hP]; exact hj)
      rw [HQ.out, hx] at k0
      have j0 : (0 : Int) ≤ (j : Int) := by omega
      have j1 : (j : Int) < 16 := by omega
      clear HA5 hx
      go_wp2_with (first
        | (refine wpList_allocE (by rfl) 36 (by rfl) (cellsI z16).toArray Try.zeroN16 g7 hg7 w4 hw4 ?_)
        | (refine wpList_store_mid (by rfl) 36 (.tmp 7) (.tmp 14) (by rfl) g7 0 (cellsI m).toArray (by rfl) (by rfl) (by rw [cellsN_size, hP]; exact HT4.out) (by rw [cellsN_size, hP]; exact Try.sizeN16) (all_oneCell_toArray (cellsI_one _)) ?_; rw [hw5]))
      go_ret2
      exact ⟨⟨_, _, rfl⟩, HB5.out⟩

set_option maxRecDepth 100000 in
set_option maxHeartbeats 4000000 in
theorem wclock_tickout (a : Option Addr) (n c : Nat) (l : List Int) (who q : Int) (w : World) (G : Env w) (R : IRow w a n l) (hc : n ≤ c) (hn : n ≤ 140737488351232) (hi : okI l) (k1 : -9223372036854775808 ≤ who) (k2 : who ≤ 9223372036854775807) (hf : tickE l who = q) (hq : q ≠ 0) :
    Calls Try.prog 5 #[.slice a n c, .int .i64 who] w fun r w' => (∃ a' c', r = .returned (.tuple #[.slice a' 0 c', .iface 38 (.int .i64 q)])) ∧ Below w.heap.size w w' := by
  by_cases f1 : clockE l = 0
  · have hle := (clockE_ok f1).1
    by_cases hw : who < 0 ∨ 16 ≤ who ∨ seenL l who.toNat = 9223372036854775807
    · have e : q = 2 := by rw [← hf, tickE, if_neg (fun h => h f1), if_pos hw]
      subst e
      exact wtick_range a n c l who w G R hc hi f1 hw
    · exact absurd (by rw [← hf, tickE, if_neg (fun h => h f1), if_neg hw]) hq
  · have e : clockE l = q := by rw [← hf, tickE, if_pos f1]
    have HC1 : Hid (Calls Try.prog 6 #[.slice a n c] w fun r w' => r = .returned (.iface 38 (.int .i64 q)) ∧ Below w.heap.size w w') := wclock_checkout a n c l q w G R hc hn hi e hq
    clear G R hc hn hi hf e f1
    go_enter Try.func5, Try.ntmps5
    go_wp2_with fail
    refine HC1.out.mono ?_
    rintro e w1 ⟨rfl, hb1⟩
    have HB1 : Hid (Below w.heap.size w w1) := hb1
    clear hb1
    go_wp2_with fail
    go_ret2
    exact ⟨⟨_, _, rfl⟩, HB1.out⟩
end Go.Proofs.Ytanlnfcmmfmofaa
