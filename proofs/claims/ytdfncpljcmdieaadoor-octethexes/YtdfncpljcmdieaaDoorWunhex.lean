/- The contract of octet.Unhex. -/
import Derived.Test.YtdfncpljcmdieaaDoorMath
import Derived.Test.YtdfncpljcmdieaaDoorWdigit
namespace Go.Proofs.YtdfncpljcmdieaaDoor
open Go.RowKit
set_option linter.unusedVariables false
theorem Tryd.info5' : (Tryd.prog.info? 5).map (fun i => (i.zero, i.size, i.bytes)) = some (some (.int .u8 0), 1, 1) := by kernel_rfl


set_option maxRecDepth 100000 in
set_option maxHeartbeats 400000 in
theorem unhex_in (s : ByteArray) (w : World) (hs : s.size ≤ 281474976710656) (he : s.size % 2 = 0) :
    Calls Tryd.prog 8 #[.string s] w fun e w' =>
      ((∀ i, i < (bs s).length → digK (nth (bs s) i) = true) ∧ (∃ g, e = .returned (.tuple #[.slice (some ⟨g, 0, none⟩) (s.size / 2) (s.size / 2), .nilIface]) ∧ w.heap.size ≤ g ∧ Row w' (some ⟨g, 0, none⟩) (s.size / 2) (unhL (bs s))) ∨
       (∃ i, i < (bs s).length ∧ digK (nth (bs s) i) = false) ∧ e = .returned (.tuple #[.slice none 0 0, .iface 24 (.int .i64 1)])) ∧ Below w.heap.size w w' := by
  obtain ⟨i0, hi, hz0, hz1, hz2⟩ := info_parts Tryd.info5'
  obtain ⟨n, hn⟩ : ∃ n, s.size = 2 * n := ⟨s.size / 2, by omega⟩
  have ht : ((s.size : Int) % 2 != 0) = false := by simp; omega
  have HL : Hid ((bs s).length = 2 * n) := by rw [bs_length]; exact hn
  have HN : Hid (s.size / 2 = n) := by unfold Hid; omega
  clear he
  go_enter Tryd.func8, Tryd.ntmps8
  go_wp2_with (at_make; refine wpList_make_full _ rfl _ _ 22 rfl w.heap.size 5 i0 (.int .u8 0) 1 Tryd.underlying22 hi hz0 hz1 _ _ _ _ n rfl rfl (by omega) (by omega) (by rw [hz2]; omega) (by unfold maxLen; omega) (Nat.le_refl _) ?_; intro w1 hown hgrow)
  have hO := OwnB.zero hown
  have hB : Below w.heap.size w w1 := (Below.refl _ _).grown hgrow (Nat.le_refl _) (fun _ h => by cases h)
  clear hown hgrow
  go_loopw [21] (fun i wr => ∃ k : Nat, k ≤ n ∧ i = .int .i64 (k : Int) ∧ (∀ j, j < 2 * k → digK (nth (bs s) j) = true) ∧ OwnB wr w.heap.size w.heap.size n n (fun x => if x < k then unhB (bs s) x else 0) ∧ Below w.heap.size w wr) (fun i _ => n - (intOf i).toNat)
  case atStart => exact ⟨0, Nat.zero_le _, rfl, fun j hj => by omega, hO.congr (fun i hi => by rw [if_neg (by omega)]), hB⟩
  case round =>
    clear hO hB
    obtain ⟨k, hk, rfl, hd, hO, hB⟩ := hrel
    have HD : Hid (∀ j, j < 2 * k → digK (nth (bs s) j) = true) := hd
    clear hd
    by_cases hlt : k < n
    · have hc := hO.cell k (by omega)
      have hf := hO.frozen k
      go_wp2_with fail
      rw [sbyte]
      have b1 := nth_bd (bs s) (2 * k)
      have b2 := nth_bd (bs s) (2 * k + 1)
      have v1 := digV_bd (nth (bs s) (2 * k))
      have v2 := digV_bd (nth (bs s) (2 * k + 1))
      refine (digit_any _ _ b1.1 b1.2).mono ?_
      rintro e w' ⟨rfl, rfl⟩
      go_wp2_with fail
      rw [sbyte]
      refine (digit_any _ _ b2.1 b2.2).mono ?_
      rintro e w' ⟨rfl, rfl⟩
      by_cases d1 : digK (nth (bs s) (2 * k)) = true
      · by_cases d2 : digK (nth (bs s) (2 * k + 1)) = true
        · have D1 : Hid (digK (nth (bs s) (2 * k)) = true) := d1
          have D2 : Hid (digK (nth (bs s) (2 * k + 1)) = true) := d2
          go_wp2
          go_roundw
          case rel =>
            refine ⟨k + 1, by omega, by go_num, fun j hj => ?_, ?_, hO.below hB _ _⟩
            · by_cases j1 : j = 2 * k
              · subst j1; exact D1.out
              · by_cases j2 : j = 2 * k + 1
                · subst j2; exact D2.out
                · exact HD.out j (by omega)
            · refine (hO.store k _).congr fun i hi => ?_
              by_cases hik : i = k
              · subst hik
                rw [if_pos rfl, if_pos (by omega), u8_or_add _ _ v1.1 v1.2 v2.1 v2.2]
                rfl
              · rw [if_neg hik]
                by_cases hlt2 : i < k
                · rw [if_pos hlt2, if_pos (by omega)]
                · rw [if_neg hlt2, if_neg (by omega)]
          case measure => simp [intOf]; omega
        · have d2' : digK (nth (bs s) (2 * k + 1)) = false := by simpa using d2
          have D2 : Hid (digK (nth (bs s) (2 * k + 1)) = false) := d2'
          clear d2
          go_wp2
          go_ret2
          exact ⟨.inr ⟨⟨2 * k + 1, by have := HL.out; omega, D2.out⟩, rfl⟩, hB⟩
      · have d1' : digK (nth (bs s) (2 * k)) = false := by simpa using d1
        have D1 : Hid (digK (nth (bs s) (2 * k)) = false) := d1'
        clear d1
        go_wp2
        go_ret2
        exact ⟨.inr ⟨⟨2 * k, by have := HL.out; omega, D1.out⟩, rfl⟩, hB⟩
    · obtain rfl : k = n := by omega
      have HR : Hid (Row wr (some ⟨w.heap.size, 0, none⟩) k (unhL (bs s))) := hO.row (by rw [unhL_length, HL.out]; omega) (fun i hi => by rw [if_pos hi, nth_unhL _ _ (by rw [HL.out]; omega)])
      go_wp2
      go_ret2
      refine ⟨.inl ⟨fun i hi => HD.out i (by have := HL.out; omega), w.heap.size, ?_, Nat.le_refl _, ?_⟩, hB⟩
      · rw [HN.out]; rfl
      · rw [HN.out]; exact HR.out

theorem unhex_some (s : ByteArray) (w : World) (hs : s.size ≤ 281474976710656) (hk : unhOk (bs s) = true) :
    Calls Tryd.prog 8 #[.string s] w fun e w' => (∃ g, e = .returned (.tuple #[.slice (some ⟨g, 0, none⟩) (s.size / 2) (s.size / 2), .nilIface]) ∧ w.heap.size ≤ g ∧ Row w' (some ⟨g, 0, none⟩) (s.size / 2) (unhL (bs s))) ∧ Below w.heap.size w w' := by
  unfold unhOk at hk
  rw [decide_eq_true_iff] at hk
  have hl := bs_length s
  refine (unhex_in s w hs (by omega)).mono fun e w' h => ?_
  obtain ⟨⟨_, h⟩ | ⟨⟨i, h1, h2⟩, _⟩, hb⟩ := h
  · exact ⟨h, hb⟩
  · rw [hk.2 i h1] at h2; cases h2

set_option maxRecDepth 100000 in
set_option maxHeartbeats 400000 in
theorem unhex_none (s : ByteArray) (w : World) (hs : s.size ≤ 281474976710656) (hk : unhOk (bs s) = false) :
    Calls Tryd.prog 8 #[.string s] w fun e w' => e = .returned (.tuple #[.slice none 0 0, .iface 24 (.int .i64 1)]) ∧ Below w.heap.size w w' := by
  unfold unhOk at hk
  rw [decide_eq_false_iff_not] at hk
  have hl := bs_length s
  by_cases he : s.size % 2 = 0
  · refine (unhex_in s w hs he).mono fun e w' h => ?_
    obtain ⟨⟨h, _⟩ | ⟨_, h⟩, hb⟩ := h
    · exact absurd ⟨by omega, h⟩ hk
    · exact ⟨h, hb⟩
  · have ht : ((s.size : Int) % 2 != 0) = true := by simp; omega
    clear hk hl
    go_enter Tryd.func8, Tryd.ntmps8
    go_wp2
    go_ret2
    exact ⟨rfl, Below.refl _ _⟩
end Go.Proofs.YtdfncpljcmdieaaDoor
