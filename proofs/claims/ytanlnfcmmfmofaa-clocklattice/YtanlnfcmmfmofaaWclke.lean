/- The contracts of package clock. -/
import Derived.Test.YtanlnfcmmfmofaaWclkt
namespace Go.Proofs.Ytanlnfcmmfmofaa
open Go.RowKit
set_option linter.unusedVariables false
set_option linter.unusedSimpArgs false

theorem Try.infoClk : (Try.prog.info? 3).map (fun i => (i.zero, i.size, i.bytes)) = some (some (.int .i64 0), 1, 8) := by kernel_rfl
/-- A new variable for sixteen numbers, and what is stored there. -/
theorem na_new {w3 w4 w5 : World} {g : Nat} {l : List Int} (hg : w3.heap.size = g) (h4 : w3.alloc (.cells (cellsI z16).toArray 36) = w4) (h5 : w4.setCells g 0 (cellsI l) = w5) (hl : l.length = 16) :
    w4.there g 0 16 ∧ NA w5 g l ∧ w5.there g 0 16 ∧ Below w3.heap.size w3 w5 ∧ g < w5.heap.size := by
  have t4 : w4.there g 0 16 := by rw [← h4]; exact alloc_thereAt _ _ _ 16 _ hg z16_size.symm
  have n5 : NA w5 g l := by rw [← h5]; exact NA.stored t4 hl
  refine ⟨t4, n5, by rw [← h5]; exact World.there_setCells t4 _ _ _, ?_, n5.block (by omega)⟩
  rw [← h5, ← h4]
  exact below_setCells _ (by omega) _ _ _ ((Below.refl _ _).alloc (Nat.le_refl _) _)

set_option maxRecDepth 100000 in
set_option maxHeartbeats 4000000 in
theorem weach_any (fn g : Nat) (I : Nat → World → Prop) (a1 : Option Addr) (n1 c1 : Nat) (l1 : List Int) (a2 : Option Addr) (n2 c2 : Nat) (l2 : List Int) (w : World) (G : Env w) (R1 : IRow w a1 n1 l1) (h1 : n1 ≤ c1) (R2 : IRow w a2 n2 l2) (h2 : n2 ≤ c2) (i1 : okI l1) (i2 : okI l2) (hf : pairE l1 l2 = 0)
    (hg : g < w.heap.size) (hfn : ∀ args wx, (callFunc fn args).run Try.prog wx = .ok (.enter fn args) wx) (hI : ∀ k wx wy, I k wx → Below w.heap.size wx wy → I k wy) (h0 : I 0 w)
    (hstep : ∀ (k : Nat) wx, k < 16 → I k wx → Calls Try.prog fn #[.int .i64 (k : Int), .int .i64 (seenL l1 k), .int .i64 (seenL l2 k), .pointer (some ⟨g, 0, none⟩)] wx fun e w' => e = .returned (.tuple #[]) ∧ (∃ o v, w' = wx.setCell ⟨g, o, none⟩ v) ∧ I (k + 1) w') :
    Calls Try.prog 15 #[.slice a1 n1 c1, .slice a2 n2 c2, .func (.func fn) #[] #[.pointer (some ⟨g, 0, none⟩)]] w fun r w' => r = .returned .nilIface ∧ I 16 w' ∧ Below g w w' := by
  obtain ⟨iN, hiN, _, hN1, _⟩ := info_parts Try.infoClk
  obtain ⟨f1, f2⟩ := pairE_ok hf
  have n16 : n1 ≤ 16 ∧ n2 ≤ 16 := by have := (clockE_ok f1).1; have := (clockE_ok f2).1; have := R1.1; have := R2.1; omega
  have HLE : Hid (l1.length ≤ 16 ∧ l2.length ≤ 16) := ⟨(clockE_ok f1).1, (clockE_ok f2).1⟩
  have HG : Hid (Env w) := G
  have HR : Hid (IRow w a1 n1 l1 ∧ IRow w a2 n2 l2) := ⟨R1, R2⟩
  have HC1 : Hid (Calls Try.prog 6 #[.slice a1 n1 c1] w fun r w' => r = .returned .nilIface ∧ Below w.heap.size w w') := wclock_check a1 n1 c1 l1 w G R1 h1 i1 f1
  have HC2 : Hid (∀ wx, Below w.heap.size w wx → Calls Try.prog 6 #[.slice a2 n2 c2] wx fun r w' => r = .returned .nilIface ∧ Below wx.heap.size wx w') := fun wx hx => wclock_check a2 n2 c2 l2 wx (Env.below G hx) (R2.below hx) h2 i2 f2
  have HN1 : Hid (∀ wx, Below w.heap.size w wx → Calls Try.prog 11 #[.slice a1 n1 c1] wx fun r w' => r = .returned (numV (pad16 l1)) ∧ Below wx.heap.size wx w') := fun wx hx => wclk_numbers a1 n1 c1 l1 wx (R1.below hx) n16.1
  have HN2 : Hid (∀ wx, Below w.heap.size w wx → Calls Try.prog 11 #[.slice a2 n2 c2] wx fun r w' => r = .returned (numV (pad16 l2)) ∧ Below wx.heap.size wx w') := fun wx hx => wclk_numbers a2 n2 c2 l2 wx (R2.below hx) n16.2
  have HGW : Hid (g < w.heap.size) := hg
  have HFN : Hid (∀ args wx, (callFunc fn args).run Try.prog wx = .ok (.enter fn args) wx) := hfn
  have HI : Hid (∀ k wx wy, I k wx → Below w.heap.size wx wy → I k wy) := hI
  have HI0 : Hid (I 0 w) := h0
  have HST : Hid (∀ (k : Nat) wx, k < 16 → I k wx → Calls Try.prog fn #[.int .i64 (k : Int), .int .i64 (seenL l1 k), .int .i64 (seenL l2 k), .pointer (some ⟨g, 0, none⟩)] wx fun e w' => e = .returned (.tuple #[]) ∧ (∃ o v, w' = wx.setCell ⟨g, o, none⟩ v) ∧ I (k + 1) w') := hstep
  have HP : Hid ((pad16 l1).length = 16 ∧ (pad16 l2).length = 16 ∧ (∀ i, seenL (pad16 l1) i = seenL l1 i) ∧ ∀ i, seenL (pad16 l2) i = seenL l2 i) := ⟨pad16_length _, pad16_length _, pad16_seen _ HLE.out.1, pad16_seen _ HLE.out.2⟩
  have hP2 := HP.out.2.1
  clear G R1 R2 h1 h2 i1 i2 hf f1 f2 n16 hg hfn hI h0 hstep HLE HR
  obtain ⟨m1, hm1⟩ : ∃ m, pad16 l1 = m := ⟨_, rfl⟩
  obtain ⟨m2, hm2⟩ : ∃ m, pad16 l2 = m := ⟨_, rfl⟩
  rw [hm1] at HN1 HP
  rw [hm2] at HN2 HP hP2
  clear hm1 hm2
  go_enter Try.func15, Try.ntmps15
  go_wp2_with fail
  refine HC1.out.mono ?_
  rintro e w1 ⟨rfl, hb1⟩
  have HB1 : Hid (Below w.heap.size w w1) := hb1
  clear hb1 HC1
  go_wp2_with fail
  refine (HC2.out w1 HB1.out).mono ?_
  rintro e w2 ⟨rfl, hb2⟩
  have HB2 : Hid (Below w.heap.size w w2) := below_trans HB1.out hb2
  clear hb2 HC2 HB1
  go_wp2_with fail
  refine (HN2.out w2 HB2.out).mono ?_
  rintro e w3 ⟨rfl, hb3⟩
  have HB3 : Hid (Below w.heap.size w w3) := below_trans HB2.out hb3
  clear hb3 HN2 HB2
  obtain ⟨g9, hg9⟩ : ∃ g9, w3.heap.size = g9 := ⟨_, rfl⟩
  obtain ⟨w4, hw4⟩ : ∃ w4, w3.alloc (.cells (cellsI z16).toArray 36) = w4 := ⟨_, rfl⟩
  obtain ⟨w5, hw5⟩ : ∃ w5, w4.setCells g9 0 (cellsI m2) = w5 := ⟨_, rfl⟩
  have q5 := na_new hg9 hw4 hw5 hP2
  have HT4 : Hid (w4.there g9 0 16) := q5.1
  have HA5 : Hid (NA w5 g9 m2) := q5.2.1
  have HB5 : Hid (Below w.heap.size w w5) := below_trans HB3.out q5.2.2.2.1
  have HZ5 : Hid (w.heap.size ≤ g9 ∧ g9 < w5.heap.size) := ⟨by rw [← hg9]; exact HB3.out.size, q5.2.2.2.2⟩
  clear q5 HB3
  go_wp2_with (first
    | (refine wpList_allocE (by rfl) 36 (by rfl) (cellsI z16).toArray Try.zeroN16 g9 hg9 w4 hw4 ?_)
    | (refine wpList_store_mid (by rfl) 36 (.tmp 9) (.tmp 23) (by rfl) g9 0 (cellsI m2).toArray (by rfl) (by rfl) (by rw [cellsN_size, hP2]; exact HT4.out) (by rw [cellsN_size, hP2]; exact Try.sizeN16) (all_oneCell_toArray (cellsI_one _)) ?_; rw [hw5]))
  clear hg9 hw4 hw5 HT4
  refine (HN1.out w5 HB5.out).mono ?_
  rintro e w6 ⟨rfl, hb6⟩
  have HA6 : Hid (NA w6 g9 m2) := HA5.out.below hb6 HZ5.out.2
  have HB6 : Hid (Below w.heap.size w w6) := below_trans HB5.out hb6
  have HZ6 : Hid (w.heap.size ≤ g9 ∧ g9 < w6.heap.size) := ⟨HZ5.out.1, Nat.lt_of_lt_of_le HZ5.out.2 hb6.size⟩
  have HJ6 : Hid (I 0 w6) := HI.out 0 w w6 HI0.out HB6.out
  clear hb6 HN1 HA5 HB5 HZ5 HI0
  go_wp2_with fail
  go_loopw [26] (fun iv wr => ∃ k : Nat, k ≤ 16 ∧ iv = .int .i64 (k : Int) ∧ Hid (I k wr) ∧ Hid (NA wr g9 m2) ∧ Hid (Below g w wr) ∧ Hid (w.heap.size ≤ wr.heap.size)) (fun iv _ => 16 - (intOf iv).toNat)
  case atStart => exact ⟨0, Nat.zero_le _, rfl, HJ6.out, HA6.out, HB6.out.mono (Nat.le_of_lt HGW.out), HB6.out.size⟩
  case round =>
    have HG9 : Hid (w.heap.size ≤ g9) := HZ6.out.1
    clear HA6 HB6 HZ6 HJ6
    obtain ⟨k, hk, rfl, HJ, HA, HB, HZ⟩ := hrel
    by_cases hlt : k < 16
    · have hx : ∀ w : World, (Instr.index 36 (.agg (cellsI m1).toArray) (.int .i64 (k : Int))).run Try.prog w = .ok (.int .i64 (seenL l1 k)) w := fun w => run_index_int w _ _ 16 .i64 iN _ k _ hlt Try.underlying36 Try.underlying3 hiN hN1 (by rw [← HP.out.2.2.1 k]; simpa [seenL] using cellsI_at m1 k (by rw [HP.out.1]; exact hlt))
      have k0 := HA.out.at k (by rw [hP2]; exact hlt)
      rw [HP.out.2.2.2 k] at k0
      have j0 : (0 : Int) ≤ (k : Int) := by omega
      have j1 : (k : Int) < 16 := by omega
      have HC : Hid (Calls Try.prog fn #[.int .i64 (k : Int), .int .i64 (seenL l1 k), .int .i64 (seenL l2 k), .pointer (some ⟨g, 0, none⟩)] wr fun e w' => e = .returned (.tuple #[]) ∧ (∃ o v, w' = wr.setCell ⟨g, o, none⟩ v) ∧ I (k + 1) w') := HST.out k wr hlt HJ.out
      have HLT : Hid (k < 16) := hlt
      generalize seenL l1 k = x1 at *
      generalize seenL l2 k = x2 at *
      clear hlt hk
      go_wp2_with fail
      rw [HFN.out, Oper.upon_enter]
      refine HC.out.mono ?_
      rintro e w7 ⟨rfl, ⟨o, v, hw7⟩, hj7⟩
      have HJ7 : Hid (I (k + 1) w7) := hj7
      have HA7 : Hid (NA w7 g9 m2) := by unfold Hid; rw [hw7]; exact HA.out.aside (by have := HG9.out; have := HGW.out; omega)
      have HB7 : Hid (Below g w w7) := by unfold Hid; rw [hw7]; exact HB.out.setCell (Nat.le_refl _) _
      have HZ7 : Hid (w.heap.size ≤ w7.heap.size) := by
        unfold Hid
        rw [hw7]
        exact Nat.le_trans HZ.out ((Below.refl 0 wr).setCell (Nat.zero_le g) _ : Below 0 wr (wr.setCell ⟨g, o, none⟩ v)).size
      clear hw7 hj7 HC hx k0
      go_wp2_with fail
      go_roundw
      case rel => exact ⟨k + 1, HLT.out, by go_num, HJ7.out, HA7.out, HB7.out, HZ7.out⟩
      case measure => have := HLT.out; simp [intOf]; omega
    · obtain rfl : k = 16 := by omega
      clear hlt
      go_wp2_with fail
      go_ret
      exact ⟨rfl, HJ.out, HB.out⟩

set_option maxRecDepth 100000 in
set_option maxHeartbeats 4000000 in
theorem weach_out (f : Value) (a1 : Option Addr) (n1 c1 : Nat) (l1 : List Int) (a2 : Option Addr) (n2 c2 : Nat) (l2 : List Int) (q : Int) (w : World) (G : Env w) (R1 : IRow w a1 n1 l1) (h1 : n1 ≤ c1) (m1 : n1 ≤ 140737488351232) (R2 : IRow w a2 n2 l2) (h2 : n2 ≤ c2) (m2 : n2 ≤ 140737488351232) (i1 : okI l1) (i2 : okI l2) (hf : pairE l1 l2 = q) (hq : q ≠ 0) :
    Calls Try.prog 15 #[.slice a1 n1 c1, .slice a2 n2 c2, f] w fun r w' => r = .returned (.iface 38 (.int .i64 q)) ∧ Below w.heap.size w w' := by
  by_cases c : clockE l1 = 0
  · have e : clockE l2 = q := by rw [← hf, pairE, if_neg (fun h => h c)]
    have HC1 : Hid (Calls Try.prog 6 #[.slice a1 n1 c1] w fun r w' => r = .returned .nilIface ∧ Below w.heap.size w w') := wclock_check a1 n1 c1 l1 w G R1 h1 i1 c
    have HC2 : Hid (∀ wx, Below w.heap.size w wx → Calls Try.prog 6 #[.slice a2 n2 c2] wx fun r w' => r = .returned (.iface 38 (.int .i64 q)) ∧ Below wx.heap.size wx w') := fun wx hx => wclock_checkout a2 n2 c2 l2 q wx (Env.below G hx) (R2.below hx) h2 m2 i2 e hq
    clear G R1 h1 m1 R2 h2 m2 i1 i2 hf e c
    go_enter Try.func15, Try.ntmps15
    go_wp2_with fail
    refine HC1.out.mono ?_
    rintro e w1 ⟨rfl, hb1⟩
    have HB1 : Hid (Below w.heap.size w w1) := hb1
    clear hb1
    go_wp2_with fail
    refine (HC2.out w1 HB1.out).mono ?_
    rintro e w2 ⟨rfl, hb2⟩
    have HB2 : Hid (Below w.heap.size w w2) := below_trans HB1.out hb2
    clear hb2
    go_wp2_with fail
    go_ret
    exact ⟨rfl, HB2.out⟩
  · have e : clockE l1 = q := by rw [← hf, pairE, if_pos c]
    have HC1 : Hid (Calls Try.prog 6 #[.slice a1 n1 c1] w fun r w' => r = .returned (.iface 38 (.int .i64 q)) ∧ Below w.heap.size w w') := wclock_checkout a1 n1 c1 l1 q w G R1 h1 m1 i1 e hq
    clear G R1 h1 m1 R2 h2 m2 i1 i2 hf e c
    go_enter Try.func15, Try.ntmps15
    go_wp2_with fail
    refine HC1.out.mono ?_
    rintro e w1 ⟨rfl, hb1⟩
    have HB1 : Hid (Below w.heap.size w w1) := hb1
    clear hb1
    go_wp2_with fail
    go_ret
    exact ⟨rfl, HB1.out⟩
end Go.Proofs.Ytanlnfcmmfmofaa
