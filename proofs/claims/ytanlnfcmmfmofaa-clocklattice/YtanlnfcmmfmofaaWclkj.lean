/- The contracts of clock.Join. -/
import Derived.Test.YtanlnfcmmfmofaaWclke
namespace Go.Proofs.Ytanlnfcmmfmofaa
open Go.RowKit
set_option linter.unusedVariables false
set_option linter.unusedSimpArgs false

set_option maxRecDepth 100000 in
set_option maxHeartbeats 4000000 in
theorem wjoin1_any (k g : Nat) (x y : Int) (wx : World) (hk : k < 16) (v : Value) (hc : wx.cell? ⟨g, k, none⟩ = some v) (hfz : wx.frozen? ⟨g, k, none⟩ = false) :
    Calls Try.prog 16 #[.int .i64 (k : Int), .int .i64 x, .int .i64 y, .pointer (some ⟨g, 0, none⟩)] wx fun e w' => e = .returned (.tuple #[]) ∧ w' = wx.setCell ⟨g, k, none⟩ (.int .i64 (maxI x y)) := by
  have j0 : (0 : Int) ≤ (k : Int) := by omega
  have j1 : (k : Int) < 16 := by omega
  by_cases h : x < y
  · have HE : Hid (maxI x y = y) := if_pos h
    clear hk
    go_enter Try.func16, Try.ntmps16
    go_wp2_with fail
    go_end0
    exact ⟨rfl, by rw [HE.out]⟩
  · have HE : Hid (maxI x y = x) := if_neg h
    clear hk
    go_enter Try.func16, Try.ntmps16
    go_wp2_with fail
    go_end0
    exact ⟨rfl, by rw [HE.out]⟩

/-- The greater ones of the first k. -/
def joinK (a b : List Int) (k i : Nat) : Int := if i < k then joinF a b i else 0
theorem joinK_zero (a b : List Int) : of16 (joinK a b 0) 16 = z16 := by
  refine clock_ext (by rw [of16_length]; rfl) fun i => ?_
  rw [z16_seen]
  by_cases h : i < 16
  · rw [of16_seen _ _ _ h, joinK, if_neg (by omega)]
  · exact of16_out _ (by omega)
theorem joinK_all (a b : List Int) : of16 (joinK a b 16) 16 = of16 (joinF a b) 16 := by
  refine clock_ext (by rw [of16_length, of16_length]) fun i => ?_
  by_cases h : i < 16
  · rw [of16_seen _ _ _ h, of16_seen _ _ _ h, joinK, if_pos h]
  · rw [of16_out _ (by omega), of16_out _ (by omega)]
def JoinI (g : Nat) (a b : List Int) (k : Nat) (w : World) : Prop := NA w g (of16 (joinK a b k) 16) ∧ w.there g 0 16
theorem JoinI.step {g k : Nat} {a b : List Int} {w : World} (hk : k < 16) (h : JoinI g a b k w) : Calls Try.prog 16 #[.int .i64 (k : Int), .int .i64 (seenL a k), .int .i64 (seenL b k), .pointer (some ⟨g, 0, none⟩)] w fun e w' => e = .returned (.tuple #[]) ∧ (∃ o v, w' = w.setCell ⟨g, o, none⟩ v) ∧ JoinI g a b (k + 1) w' := by
  have hl : (of16 (joinK a b k) 16).length = 16 := of16_length _ _
  have hc := h.1.at k (by rw [hl]; exact hk)
  have hz := (h.2 k hk).2
  rw [Nat.zero_add] at hz
  refine (wjoin1_any k g (seenL a k) (seenL b k) w hk _ hc hz).mono ?_
  rintro e w' ⟨he, hw⟩
  refine ⟨he, ⟨_, _, hw⟩, ?_⟩
  rw [hw]
  refine ⟨h.1.set h.2 hl hk _ (of16_length _ _) fun i hi => ?_, there_set h.2⟩
  rw [of16_seen _ _ _ hi, of16_seen _ _ _ hi]
  unfold joinK
  by_cases e : i = k
  · rw [if_pos e, if_pos (by omega), e]
    rfl
  · rw [if_neg e]
    by_cases d : i < k
    · rw [if_pos d, if_pos (by omega)]
    · rw [if_neg d, if_neg (by omega)]

set_option maxRecDepth 100000 in
set_option maxHeartbeats 4000000 in
theorem wclock_join (a1 : Option Addr) (n1 c1 : Nat) (l1 : List Int) (a2 : Option Addr) (n2 c2 : Nat) (l2 : List Int) (w : World) (G : Env w) (R1 : IRow w a1 n1 l1) (h1 : n1 ≤ c1) (R2 : IRow w a2 n2 l2) (h2 : n2 ≤ c2) (i1 : okI l1) (i2 : okI l2) (hf : pairE l1 l2 = 0) :
    Calls Try.prog 7 #[.slice a1 n1 c1, .slice a2 n2 c2] w fun r w' => (∃ a' c', r = .returned (.tuple #[.slice a' (joinC l1 l2).length c', .nilIface]) ∧ (joinC l1 l2).length ≤ c' ∧ IRow w' a' (joinC l1 l2).length (joinC l1 l2)) ∧ Below w.heap.size w w' := by
  obtain ⟨w1, hw1⟩ : ∃ w1, w.alloc (.cells (cellsI z16).toArray 36) = w1 := ⟨_, rfl⟩
  have hs1 : w1.heap.size = w.heap.size + 1 := by rw [← hw1]; simp
  have hb1 : Below w.heap.size w w1 := by rw [← hw1]; exact (Below.refl _ _).alloc (Nat.le_refl _) _
  have hj1 : JoinI w.heap.size l1 l2 0 w1 := ⟨by rw [joinK_zero, ← hw1]; exact NA.boxed _ _, by rw [← hw1]; exact alloc_thereAt _ _ _ 16 _ rfl z16_size.symm⟩
  have hcall := weach_any 16 w.heap.size (JoinI w.heap.size l1 l2) a1 n1 c1 l1 a2 n2 c2 l2 w1 (Env.below G hb1) (R1.below hb1) h1 (R2.below hb1) h2 i1 i2 hf (by omega) (fun _ _ => rfl) (fun k wx wy h hb => ⟨h.1.below hb (by omega), there_below h.2 hb (by omega)⟩) hj1 (fun k wx hk h => JoinI.step hk h)
  have HCL : Hid (Calls Try.prog 15 #[.slice a1 n1 c1, .slice a2 n2 c2, .func (.func 16) #[] #[.pointer (some ⟨w.heap.size, 0, none⟩)]] w1 fun r w' => r = .returned .nilIface ∧ JoinI w.heap.size l1 l2 16 w' ∧ Below w.heap.size w1 w') := hcall
  have HB1 : Hid (Below w.heap.size w w1) := hb1
  have HTO : Hid (∀ wx, Calls Try.prog 12 #[numV (of16 (joinF l1 l2) 16)] wx fun r w' => (∃ a' c', r = .returned (.slice a' (joinC l1 l2).length c') ∧ (joinC l1 l2).length ≤ c' ∧ IRow w' a' (joinC l1 l2).length (joinC l1 l2)) ∧ Below wx.heap.size wx w') := fun wx => wclk_told (of16 (joinF l1 l2) 16) wx (of16_length _ _)
  have hO : (of16 (joinF l1 l2) 16).length = 16 := of16_length _ _
  have HJA : Hid (∀ wx, JoinI w.heap.size l1 l2 16 wx → NA wx w.heap.size (of16 (joinF l1 l2) 16)) := fun wx h => by rw [← joinK_all]; exact h.1
  obtain ⟨y, hy⟩ : ∃ y, of16 (joinF l1 l2) 16 = y := ⟨_, rfl⟩
  obtain ⟨t, ht⟩ : ∃ t, joinC l1 l2 = t := ⟨_, rfl⟩
  rw [hy] at HTO hO HJA
  rw [ht] at HTO ⊢
  clear G R1 h1 R2 h2 i1 i2 hf hcall hj1 hb1 hs1 hy ht
  go_enter Try.func7, Try.ntmps7
  go_wp2_with (refine wpList_allocE (by rfl) 36 (by rfl) (cellsI z16).toArray Try.zeroN16 w.heap.size rfl w1 hw1 ?_)
  refine HCL.out.mono ?_
  rintro e w2 ⟨rfl, hj, hb2⟩
  have HA2 : Hid (NA w2 w.heap.size y) := HJA.out w2 hj
  have HB2 : Hid (Below w.heap.size w w2) := HB1.out.trans hb2
  clear hj hb2 HCL HB1 hw1 HJA
  go_wp2_with (refine wpList_load_mid (by rfl) 36 (.tmp 6) (by rfl) w.heap.size 0 (by rfl) (cellsI y) _ HA2.out Try.underlying36 (by rfl) (by rw [cellsI_length, hO]; exact Try.sizeN16) ?_)
  refine (HTO.out _).mono ?_
  rintro e w8 ⟨⟨a', c', rfl, hc', hr'⟩, hb8⟩
  have HB8 : Hid (Below w.heap.size w w8) := below_trans HB2.out hb8
  have HR8 : Hid (t.length ≤ c' ∧ IRow w8 a' t.length t) := ⟨hc', hr'⟩
  clear hb8 hc' hr'
  go_wp2_with fail
  go_ret2
  exact ⟨⟨a', c', rfl, HR8.out.1, HR8.out.2⟩, HB8.out⟩

set_option maxRecDepth 100000 in
set_option maxHeartbeats 4000000 in
theorem wclock_joinout (a1 : Option Addr) (n1 c1 : Nat) (l1 : List Int) (a2 : Option Addr) (n2 c2 : Nat) (l2 : List Int) (q : Int) (w : World) (G : Env w) (R1 : IRow w a1 n1 l1) (h1 : n1 ≤ c1) (m1 : n1 ≤ 140737488351232) (R2 : IRow w a2 n2 l2) (h2 : n2 ≤ c2) (m2 : n2 ≤ 140737488351232) (i1 : okI l1) (i2 : okI l2) (hf : pairE l1 l2 = q) (hq : q ≠ 0) :
    Calls Try.prog 7 #[.slice a1 n1 c1, .slice a2 n2 c2] w fun r w' => (∃ a' c', r = .returned (.tuple #[.slice a' 0 c', .iface 38 (.int .i64 q)])) ∧ Below w.heap.size w w' := by
  obtain ⟨w1, hw1⟩ : ∃ w1, w.alloc (.cells (cellsI z16).toArray 36) = w1 := ⟨_, rfl⟩
  have hb1 : Below w.heap.size w w1 := by rw [← hw1]; exact (Below.refl _ _).alloc (Nat.le_refl _) _
  have HB1 : Hid (Below w.heap.size w w1) := hb1
  have HCL : Hid (∀ f, Calls Try.prog 15 #[.slice a1 n1 c1, .slice a2 n2 c2, f] w1 fun r w' => r = .returned (.iface 38 (.int .i64 q)) ∧ Below w1.heap.size w1 w') := fun f => weach_out f a1 n1 c1 l1 a2 n2 c2 l2 q w1 (Env.below G hb1) (R1.below hb1) h1 m1 (R2.below hb1) h2 m2 i1 i2 hf hq
  clear G R1 h1 m1 R2 h2 m2 i1 i2 hf hb1
  go_enter Try.func7, Try.ntmps7
  go_wp2_with (refine wpList_allocE (by rfl) 36 (by rfl) (cellsI z16).toArray Try.zeroN16 w.heap.size rfl w1 hw1 ?_)
  refine (HCL.out _).mono ?_
  rintro e w2 ⟨rfl, hb2⟩
  have HB2 : Hid (Below w.heap.size w w2) := below_trans HB1.out hb2
  clear hb2 HCL HB1 hw1
  go_wp2_with fail
  go_ret2
  exact ⟨⟨_, _, rfl⟩, HB2.out⟩
end Go.Proofs.Ytanlnfcmmfmofaa
