/- The contract of oathbookref1.Unhex. -/
import Derived.Test.YtdfncpljcmdieaaDoorRdigit
namespace Go.Proofs.YtdfncpljcmdieaaDoor
open Go.RowKit
set_option linter.unusedVariables false
theorem Tryd.info5u : (Tryd.prog.info? 5).map (fun i => (i.zero, i.size, i.bytes)) = some (some (.int .u8 0), 1, 1) := by kernel_rfl
theorem digR_bd (c : Int) : -1 ≤ digR c ∧ digR c < 16 := by
  have := digV_bd c
  unfold digR
  split <;> omega
theorem digR_yes {c : Int} (h : digK c = true) : digR c = digV c := by unfold digR; rw [if_pos h]
theorem digR_no {c : Int} (h : digK c = false) : digR c = -1 := by unfold digR; rw [if_neg (by rw [h]; simp)]
theorem ret_pv {a b : Value} {c d : Bool} (h : a = b) (k : c = d) : Ending.returned (.tuple #[a, .bool c]) = .returned (.tuple #[b, .bool d]) := by rw [h, k]

set_option maxRecDepth 100000 in
set_option maxHeartbeats 400000 in
theorem runhex_in (s : ByteArray) (w : World) (hs : s.size ≤ 140737488355328) :
    Calls Tryd.prog 7 #[.string s] w fun e w' =>
      ((∀ i, i < 2 * (s.size / 2) → digK (nth (bs s) i) = true) ∧ (∃ a cap, e = .returned (.tuple #[.slice a (s.size / 2) cap, .bool (decide (s.size % 2 = 0))]) ∧ Row w' a (s.size / 2) (unhL (bs s))) ∨
       (∃ i, i < s.size ∧ digK (nth (bs s) i) = false) ∧ ∃ v, e = .returned (.tuple #[v, .bool false])) ∧ Below w.heap.size w w' := by
  obtain ⟨i0, hi, hz0, hz1, hz2⟩ := info_parts Tryd.info5u
  go_enter Tryd.func7, Tryd.ntmps7
  go_wp2
  go_loopw [4, 5] (fun v i wr => ∃ k : Nat, 2 * k ≤ s.size ∧ i = .int .i64 (2 * (k : Int)) ∧ (∀ j, j < 2 * k → digK (nth (bs s) j) = true) ∧ wr.ownsRow w.heap.size 5 1 v k ((List.range k).map fun i => Value.int .u8 (unhB (bs s) i)) ∧ Below w.heap.size w wr) (fun _ i _ => s.size - (intOf i).toNat)
  case atStart => exact ⟨0, Nat.zero_le _, rfl, fun j hj => by omega, World.ownsRow_nil _ _ _ _, Below.refl _ _⟩
  case round =>
    obtain ⟨k, hk, rfl, hd, hO, hB⟩ := hrel
    have HD : Hid (∀ j, j < 2 * k → digK (nth (bs s) j) = true) := hd
    clear hd
    by_cases hlt : 2 * k + 1 < s.size
    · have b1 := nth_bd (bs s) (2 * k)
      have b2 := nth_bd (bs s) (2 * k + 1)
      have r1 := digR_bd (nth (bs s) (2 * k))
      have r2 := digR_bd (nth (bs s) (2 * k + 1))
      go_wp2_with fail
      rw [sbyte]
      refine (rdigit_any _ _ b1.1 b1.2).mono ?_
      rintro e w' ⟨rfl, rfl⟩
      go_wp2_with fail
      rw [sbyte]
      refine (rdigit_any _ _ b2.1 b2.2).mono ?_
      rintro e w' ⟨rfl, rfl⟩
      by_cases d1 : digK (nth (bs s) (2 * k)) = true
      · rw [digR_yes d1]
        have D1 : Hid (digK (nth (bs s) (2 * k)) = true) := d1
        clear d1 r1
        have v1 := digV_bd (nth (bs s) (2 * k))
        by_cases d2 : digK (nth (bs s) (2 * k + 1)) = true
        · rw [digR_yes d2]
          have D2 : Hid (digK (nth (bs s) (2 * k + 1)) = true) := d2
          clear d2 r2
          have v2 := digV_bd (nth (bs s) (2 * k + 1))
          go_wp2_with (at_builtin; refine wpList_append_own _ rfl _ _ 22 rfl w.heap.size 5 i0 (.int .u8 0) 1 1 Tryd.underlying22 hi hz0 hz1 hz2 rfl (by decide) _ _ _ rfl (hO.alloc _) ⟨w'.heap.size, 0, none⟩ 1 1 [.int .u8 (digV (nth (bs s) (2 * k)) * 16 + digV (nth (bs s) (2 * k + 1)))] rfl rfl (one_news _ _ _) (by simp [Value.oneCell']) (by unfold maxLen; omega) (by omega) (by have := hB.size; simp; omega) ?_; intro v' w1 hown' hgrow _)
          have hO2 : w1.ownsRow w.heap.size 5 1 v' (k + 1) ((List.range (k + 1)).map fun i => Value.int .u8 (unhB (bs s) i)) := by rw [← map_range_snoc]; exact hown'
          have hB2 : Below w.heap.size w w1 := (hB.alloc (by have := hB.size; omega) _).grown hgrow (by have := hB.size; simp; omega) (fun x hx => (hO.lt x hx).1)
          clear hown' hgrow hO hB
          go_wp2
          go_roundw
          case rel =>
            refine ⟨k + 1, by omega, by go_num, fun j hj => ?_, hO2, hB2⟩
            by_cases j1 : j = 2 * k
            · subst j1; exact D1.out
            · by_cases j2 : j = 2 * k + 1
              · subst j2; exact D2.out
              · exact HD.out j (by omega)
          case measure => simp [intOf]; omega
        · have d2' : digK (nth (bs s) (2 * k + 1)) = false := by simpa using d2
          rw [digR_no d2']
          have D2 : Hid (digK (nth (bs s) (2 * k + 1)) = false) := d2'
          clear d2 d2' r2
          go_wp2
          go_ret2
          exact ⟨.inr ⟨⟨2 * k + 1, by omega, D2.out⟩, _, rfl⟩, hB⟩
      · have d1' : digK (nth (bs s) (2 * k)) = false := by simpa using d1
        rw [digR_no d1']
        have D1 : Hid (digK (nth (bs s) (2 * k)) = false) := d1'
        clear d1 d1' r1
        go_wp2
        go_ret2
        exact ⟨.inr ⟨⟨2 * k, by omega, D1.out⟩, _, rfl⟩, hB⟩
    · have e : s.size / 2 = k := by omega
      have HE : Hid (s.size / 2 = k) := e
      obtain ⟨a, cap, rfl, R⟩ := own_row hO (l := unhL (bs s)) (by rw [unhL_length, bs_length]; omega) (fun i hi => by rw [nth_unhL _ _ (by rw [bs_length]; omega)])
      have HR : Hid (Row wr a k (unhL (bs s))) := R
      clear hO R e
      go_wp2
      go_ret2
      refine ⟨.inl ⟨fun i hi => HD.out i (by rw [HE.out] at hi; exact hi), a, cap, ret_pv ?_ ?_, ?_⟩, hB⟩
      · rw [HE.out]; rfl
      · rw [Bool.eq_iff_iff]; simp; omega
      · rw [HE.out]; exact HR.out

theorem runhex_some (s : ByteArray) (w : World) (hs : s.size ≤ 140737488355328) (hk : unhOk (bs s) = true) :
    Calls Tryd.prog 7 #[.string s] w fun e w' => (∃ a cap, e = .returned (.tuple #[.slice a (s.size / 2) cap, .bool true]) ∧ Row w' a (s.size / 2) (unhL (bs s))) ∧ Below w.heap.size w w' := by
  unfold unhOk at hk
  rw [decide_eq_true_iff, bs_length] at hk
  refine (runhex_in s w hs).mono fun e w' h => ?_
  obtain ⟨⟨_, h⟩ | ⟨⟨i, h1, h2⟩, _⟩, hb⟩ := h
  · rw [decide_eq_true hk.1] at h; exact ⟨h, hb⟩
  · rw [hk.2 i h1] at h2; cases h2
theorem runhex_none (s : ByteArray) (w : World) (hs : s.size ≤ 140737488355328) (hk : unhOk (bs s) = false) :
    Calls Tryd.prog 7 #[.string s] w fun e w' => (∃ v, e = .returned (.tuple #[v, .bool false])) ∧ Below w.heap.size w w' := by
  unfold unhOk at hk
  rw [decide_eq_false_iff_not, bs_length] at hk
  refine (runhex_in s w hs).mono fun e w' h => ?_
  obtain ⟨⟨h1, a, cap, he, _⟩ | ⟨_, h⟩, hb⟩ := h
  · have : ¬ s.size % 2 = 0 := fun hz => hk ⟨hz, fun i hi => h1 i (by omega)⟩
    rw [decide_eq_false this] at he
    exact ⟨⟨_, he⟩, hb⟩
  · exact ⟨h, hb⟩
end Go.Proofs.YtdfncpljcmdieaaDoor
