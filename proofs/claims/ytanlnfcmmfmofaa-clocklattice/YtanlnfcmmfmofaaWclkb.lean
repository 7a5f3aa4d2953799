/- The contracts of clock.Below. -/
import Derived.Test.YtanlnfcmmfmofaaWclke
namespace Go.Proofs.Ytanlnfcmmfmofaa
open Go.RowKit
set_option linter.unusedVariables false
set_option linter.unusedSimpArgs false

set_option maxRecDepth 100000 in
set_option maxHeartbeats 4000000 in
theorem wbelow1_any (k g : Nat) (x y : Int) (z : Bool) (wx : World) (hc : wx.cell? ⟨g, 0, none⟩ = some (.bool z)) (hfz : wx.frozen? ⟨g, 0, none⟩ = false) :
    Calls Try.prog 17 #[.int .i64 (k : Int), .int .i64 x, .int .i64 y, .pointer (some ⟨g, 0, none⟩)] wx fun e w' => e = .returned (.tuple #[]) ∧ w' = wx.setCell ⟨g, 0, none⟩ (.bool (z && decide (x ≤ y))) := by
  cases z with
  | false =>
    go_enter Try.func17, Try.ntmps17
    go_wp2_with fail
    go_end0
    exact ⟨rfl, by rw [Bool.false_and]⟩
  | true =>
    by_cases h : x ≤ y
    · have HE : Hid (decide (x ≤ y) = true) := decide_eq_true h
      go_enter Try.func17, Try.ntmps17
      go_wp2_with fail
      go_end0
      exact ⟨rfl, by first | rw [Bool.true_and, HE.out] | rw [HE.out]⟩
    · have HE : Hid (decide (x ≤ y) = false) := decide_eq_false h
      go_enter Try.func17, Try.ntmps17
      go_wp2_with fail
      go_end0
      exact ⟨rfl, by first | rw [Bool.true_and, HE.out] | rw [HE.out]⟩

/-- The first k are at most the other ones. -/
def leK (a b : List Int) (k : Nat) : Bool := decide (∀ i, i < k → seenL a i ≤ seenL b i)
theorem leK_succ (a b : List Int) (k : Nat) : (leK a b k && decide (seenL a k ≤ seenL b k)) = leK a b (k + 1) := by
  unfold leK
  by_cases h : ∀ i, i < k → seenL a i ≤ seenL b i
  · rw [decide_eq_true h, Bool.true_and]
    by_cases d : seenL a k ≤ seenL b k
    · rw [decide_eq_true d, decide_eq_true]
      intro i hi
      by_cases e : i = k
      · rw [e]; exact d
      · exact h i (by omega)
    · rw [decide_eq_false d, decide_eq_false]
      exact fun q => d (q k (by omega))
  · rw [decide_eq_false h, Bool.false_and, decide_eq_false]
    exact fun q => h fun i hi => q i (by omega)
def BelI (g : Nat) (a b : List Int) (k : Nat) (w : World) : Prop := w.cell? ⟨g, 0, none⟩ = some (.bool (leK a b k)) ∧ w.frozen? ⟨g, 0, none⟩ = false
theorem BelI.step {g k : Nat} {a b : List Int} {w : World} (h : BelI g a b k w) : Calls Try.prog 17 #[.int .i64 (k : Int), .int .i64 (seenL a k), .int .i64 (seenL b k), .pointer (some ⟨g, 0, none⟩)] w fun e w' => e = .returned (.tuple #[]) ∧ (∃ o v, w' = w.setCell ⟨g, o, none⟩ v) ∧ BelI g a b (k + 1) w' := by
  refine (wbelow1_any k g (seenL a k) (seenL b k) _ w h.1 h.2).mono ?_
  rintro e w' ⟨he, hw⟩
  refine ⟨he, ⟨_, _, hw⟩, ?_⟩
  rw [hw, leK_succ]
  exact ⟨World.cell?_setCells_in g [Value.bool (leK a b (k + 1))] 0 w (fun j hj => by
    obtain rfl : j = 0 := by simp at hj; exact hj
    rw [Nat.zero_add, h.1]; rfl) 0 (by simp), by rw [World.frozen?_setCell]; exact h.2⟩

set_option maxRecDepth 100000 in
set_option maxHeartbeats 4000000 in
theorem wclock_below (a1 : Option Addr) (n1 c1 : Nat) (l1 : List Int) (a2 : Option Addr) (n2 c2 : Nat) (l2 : List Int) (w : World) (G : Env w) (R1 : IRow w a1 n1 l1) (h1 : n1 ≤ c1) (R2 : IRow w a2 n2 l2) (h2 : n2 ≤ c2) (i1 : okI l1) (i2 : okI l2) (hf : pairE l1 l2 = 0) :
    Calls Try.prog 8 #[.slice a1 n1 c1, .slice a2 n2 c2] w fun r w' => r = .returned (.tuple #[.bool (decide (leC l1 l2)), .nilIface]) ∧ Below w.heap.size w w' := by
  obtain ⟨w1, hw1⟩ : ∃ w1, w.alloc (.cells #[.bool true] 4) = w1 := ⟨_, rfl⟩
  have hs1 : w1.heap.size = w.heap.size + 1 := by rw [← hw1]; simp
  have hb1 : Below w.heap.size w w1 := by rw [← hw1]; exact (Below.refl _ _).alloc (Nat.le_refl _) _
  have hj1 : BelI w.heap.size l1 l2 0 w1 := by
    have ha : (w.alloc (.cells #[.bool true] 4)).there w.heap.size 0 1 := alloc_thereAt w #[.bool true] _ 1 _ rfl rfl
    have hl : leK l1 l2 0 = true := decide_eq_true fun i h => absurd h (by omega)
    rw [← hw1]
    refine ⟨?_, (ha 0 (by omega)).2⟩
    rw [hl]
    exact box_range w [.bool true] _ 0 _ rfl
  have hcall := weach_any 17 w.heap.size (BelI w.heap.size l1 l2) a1 n1 c1 l1 a2 n2 c2 l2 w1 (Env.below G hb1) (R1.below hb1) h1 (R2.below hb1) h2 i1 i2 hf (by omega) (fun _ _ => rfl) (fun k wx wy h hb => ⟨(hb.cell (p := ⟨w.heap.size, 0, none⟩) (by show w.heap.size < w1.heap.size; omega)).trans h.1, (hb.frozen (p := ⟨w.heap.size, 0, none⟩) (by show w.heap.size < w1.heap.size; omega)).trans h.2⟩) hj1 (fun k wx hk h => BelI.step h)
  have HCL : Hid (Calls Try.prog 15 #[.slice a1 n1 c1, .slice a2 n2 c2, .func (.func 17) #[] #[.pointer (some ⟨w.heap.size, 0, none⟩)]] w1 fun r w' => r = .returned .nilIface ∧ BelI w.heap.size l1 l2 16 w' ∧ Below w.heap.size w1 w') := hcall
  have HB1 : Hid (Below w.heap.size w w1) := hb1
  have HW1 : Hid (w.alloc (.cells #[.bool true] 4) = w1) := hw1
  obtain ⟨z, hz⟩ : ∃ z, leK l1 l2 16 = z := ⟨_, rfl⟩
  have HJ : Hid (∀ wx, BelI w.heap.size l1 l2 16 wx → wx.cell? ⟨w.heap.size, 0, none⟩ = some (.bool z)) := fun wx h => by rw [← hz]; exact h.1
  have HZ : Hid (decide (leC l1 l2) = z) := hz
  clear G R1 h1 R2 h2 i1 i2 hf hcall hj1 hb1 hs1 hw1 hz
  generalize decide (leC l1 l2) = z2 at *
  go_enter Try.func8, Try.ntmps8
  go_wp2_with fail
  rw [HW1.out]
  refine HCL.out.mono ?_
  rintro e w2 ⟨rfl, hj, hb2⟩
  have k0 := HJ.out w2 hj
  have HB2 : Hid (Below w.heap.size w w2) := HB1.out.trans hb2
  clear hj hb2 HCL HB1 HW1 HJ
  go_wp2_with fail
  go_ret2
  exact ⟨by rw [HZ.out]; rfl, HB2.out⟩

set_option maxRecDepth 100000 in
set_option maxHeartbeats 4000000 in
theorem wclock_belowout (a1 : Option Addr) (n1 c1 : Nat) (l1 : List Int) (a2 : Option Addr) (n2 c2 : Nat) (l2 : List Int) (q : Int) (w : World) (G : Env w) (R1 : IRow w a1 n1 l1) (h1 : n1 ≤ c1) (m1 : n1 ≤ 140737488351232) (R2 : IRow w a2 n2 l2) (h2 : n2 ≤ c2) (m2 : n2 ≤ 140737488351232) (i1 : okI l1) (i2 : okI l2) (hf : pairE l1 l2 = q) (hq : q ≠ 0) :
    Calls Try.prog 8 #[.slice a1 n1 c1, .slice a2 n2 c2] w fun r w' => r = .returned (.tuple #[.bool false, .iface 38 (.int .i64 q)]) ∧ Below w.heap.size w w' := by
  have HCL : Hid (∀ f wx, Below w.heap.size w wx → Calls Try.prog 15 #[.slice a1 n1 c1, .slice a2 n2 c2, f] wx fun r w' => r = .returned (.iface 38 (.int .i64 q)) ∧ Below wx.heap.size wx w') := fun f wx hb1 => weach_out f a1 n1 c1 l1 a2 n2 c2 l2 q wx (Env.below G hb1) (R1.below hb1) h1 m1 (R2.below hb1) h2 m2 i1 i2 hf hq
  obtain ⟨w1, hw1⟩ : ∃ w1, w.alloc (.cells #[.bool true] 4) = w1 := ⟨_, rfl⟩
  have HB1 : Hid (Below w.heap.size w w1) := by rw [← hw1]; exact (Below.refl _ _).alloc (Nat.le_refl _) _
  have HW1 : Hid (w.alloc (.cells #[.bool true] 4) = w1) := hw1
  clear G R1 h1 m1 R2 h2 m2 i1 i2 hf hw1
  go_enter Try.func8, Try.ntmps8
  go_wp2_with fail
  rw [HW1.out]
  refine (HCL.out _ _ HB1.out).mono ?_
  rintro e w2 ⟨rfl, hb2⟩
  have HB2 : Hid (Below w.heap.size w w2) := below_trans HB1.out hb2
  clear hb2 HCL HB1 HW1
  go_wp2_with fail
  go_ret2
  exact ⟨rfl, HB2.out⟩
end Go.Proofs.Ytanlnfcmmfmofaa
