/- The contract of clock's numbers.told. -/
import Derived.Test.YtanlnfcmmfmofaaDoorWclkc
namespace Go.Proofs.YtanlnfcmmfmofaaDoor
open Go.RowKit
set_option linter.unusedVariables false
set_option linter.unusedSimpArgs false

theorem told_facts {w w1 w4 : World} {l m : List Int} {n : Nat} {vs : List Value} (hA : NA w1 w.heap.size l) (hl : l.length = 16) (hB : Below w.heap.size w w1) (hs : w1.heap.size = w.heap.size + 1) (hS : ∀ wx, IRow wx (some ⟨w.heap.size, 0, none⟩) 16 l → IRow wx (some ⟨w.heap.size, 0, none⟩) n m)
    (hown : w4.ownsRow w1.heap.size 3 1 (.slice (some ⟨w1.heap.size, 0, none⟩) n n) n vs) (hgrow : w1.grownBy w4 none) :
    IRow w4 (some ⟨w.heap.size, 0, none⟩) n m ∧ w4.there w1.heap.size 0 n ∧ IRow (w4.setCells w1.heap.size 0 (cellsI m)) (some ⟨w1.heap.size, 0, none⟩) n m ∧ Below w.heap.size w (w4.setCells w1.heap.size 0 (cellsI m)) := by
  have hb : Below w1.heap.size w1 w4 := (Below.refl _ _).grown hgrow (Nat.le_refl _) (fun _ h => by cases h)
  have hR := hS w4 ((hA.below hb (by omega)).irow hl)
  have ht : w4.there w1.heap.size 0 n := by
    intro j hj
    have h1 := hown.1
    rw [Nat.zero_add, World.ownsRow.cellAt hown j (by omega), World.ownsRow.frozenAt hown j, List.getElem?_eq_getElem (by omega)]
    exact ⟨rfl, rfl⟩
  refine ⟨hR, ht, ?_, below_setCells _ (by omega) _ _ _ (hB.trans (hb.mono (by omega)))⟩
  refine ⟨hR.1, .inr ⟨_, 0, rfl, fun i hi => ?_⟩⟩
  have hn : n = m.length := hR.1.symm
  have := World.cell?_setCells_in w1.heap.size (cellsI m) 0 w4 (fun j hj => by rw [cellsI_length] at hj; exact (ht j (by omega)).1) i (by rw [cellsI_length]; omega)
  rw [this]
  have := cellsI_at m i (by omega)
  rw [List.getElem?_eq_getElem (by rw [cellsI_length]; omega)] at this
  exact this

set_option maxRecDepth 100000 in
set_option maxHeartbeats 4000000 in
theorem wclk_told (l : List Int) (w : World) (hl : l.length = 16) :
    Calls Tryd.prog 17 #[numV l] w fun r w' => (∃ a' c', r = .returned (.slice a' (shortL l).length c') ∧ (shortL l).length ≤ c' ∧ IRow w' a' (shortL l).length (shortL l)) ∧ Below w.heap.size w w' := by
  obtain ⟨iN, hiN, hz0, hz1, hz2⟩ := info_parts Tryd.infoIntO
  obtain ⟨w1, hw1⟩ : ∃ w1, w.alloc (.cells (cellsI l).toArray 42) = w1 := ⟨_, rfl⟩
  have HW1 : Hid (w.alloc (.cells (cellsI l).toArray 42) = w1) := hw1
  have HA : Hid (NA w1 w.heap.size l) := by rw [← hw1]; exact NA.boxed _ _
  have HB1 : Hid (Below w.heap.size w w1 ∧ w1.heap.size = w.heap.size + 1) := by rw [← hw1]; exact ⟨(Below.refl _ _).alloc (Nat.le_refl _) _, by simp⟩
  have HS : Hid ((shortL l).length = shortN l 16) := by unfold Hid; rw [shortL_length, hl]
  have HL : Hid (l.length = 16) := hl
  clear hw1 hl
  go_enter Tryd.func17, Tryd.ntmps17
  go_wp2_with fail
  rw [HW1.out]
  go_loopw [3] (fun kv wr => ∃ k : Nat, kv = .int .i64 (k : Int) ∧ k ≤ 16 ∧ Hid (shortN l k = shortN l 16) ∧ Hid (wr = w1)) (fun kv _ => (intOf kv).toNat)
  case atStart => exact ⟨16, rfl, Nat.le_refl _, rfl, rfl⟩
  case round =>
    clear HW1
    obtain ⟨k, rfl, hk, HK, HW⟩ := hrel
    have hw : w1 = wr := HW.out.symm
    subst hw
    by_cases hz : k = 0
    · subst hz
      have HE : Hid ((shortL l).length = 0) := by rw [HS.out, ← HK.out]; rfl
      clear HK
      have hn16 : 0 ≤ 16 := by omega
      have HSL : Hid (∀ wx, IRow wx (some ⟨w.heap.size, 0, none⟩) 16 l → IRow wx (some ⟨w.heap.size, 0, none⟩) 0 (shortL l)) := fun wx h => by
        have := h.short
        rw [HE.out] at this
        exact this
      have HN : Hid (0 ≤ 16) := hn16
      go_wp2_with (first
        | (at_make; (refine wpList_make_full _ rfl _ _ 22 rfl w1.heap.size 3 iN (.int .i64 0) 1 Tryd.underlying22 hiN hz0 hz1 _ _ _ _ (0) rfl rfl rfl rfl (by rw [hz2]; have := HN.out; omega) (by unfold maxLen; have := HN.out; omega) (Nat.le_refl _) ?_); intro w4 hown hgrow; have hf := told_facts HA.out HL.out HB1.out.1 HB1.out.2 HSL.out hown hgrow)
        | (refine wpList_copy_ints (by rfl) (.tmp 18) (.tmp 20) 22 22 (by rfl) 3 Tryd.underlying22 (by rw [hiN]; exact congrArg some hz1) (some ⟨w1.heap.size, 0, none⟩) (0) (0) (by rfl) (some ⟨w.heap.size, 0, none⟩) (0) 16 (shortL l) (by rfl) hf.1 (Nat.le_refl _) w1.heap.size 0 (fun _ => rfl) hf.2.1 _ rfl ?_))
      go_ret
      exact ⟨⟨_, _, by rw [HE.out]; rfl, by rw [HE.out]; exact Nat.le_refl _, by rw [HE.out]; exact hf.2.2.1⟩, hf.2.2.2⟩
    obtain ⟨j, rfl⟩ : ∃ j, k = j + 1 := ⟨k - 1, by omega⟩
    have g1 : (0 : Int) < ((j + 1 : Nat) : Int) := by omega
    have k0 := HA.out.at j (by rw [HL.out]; omega)
    have e1 : ((j + 1 : Nat) : Int) - 1 = (j : Int) := by omega
    have j0 : (0 : Int) ≤ (j : Int) := by omega
    have j1 : (j : Int) < 16 := by omega
    have HKL : Hid (j + 1 ≤ 16) := hk
    by_cases cz : seenL l j = 0
    · have HK2 : Hid (shortN l j = shortN l 16) := by
        rw [← HK.out]
        exact (if_pos cz : shortN l (j + 1) = shortN l j).symm
      rw [cz] at k0
      clear cz HK
      go_wp2_with fail
      go_roundw
      case rel => exact ⟨j, by first | rfl | go_num, by have := HKL.out; omega, HK2.out, by first | exact True.intro | exact rfl⟩
      case measure => simp [intOf]
    · have HE : Hid ((shortL l).length = j + 1) := by
        rw [HS.out, ← HK.out]
        exact (if_neg cz : shortN l (j + 1) = j + 1)
      obtain ⟨z, hz'⟩ : ∃ z, seenL l j = z := ⟨_, rfl⟩
      rw [hz'] at k0 cz
      have cz' : (z == (0 : Int)) = false := beq_eq_false_iff_ne.2 cz
      clear hz' HK
      have hn16 : j + 1 ≤ 16 := hk
      have g2 : ((j + 1 : Nat) : Int) ≤ 16 := by omega
      have g3 : (0 : Int) ≤ ((j + 1 : Nat) : Int) := by omega
      have g4 : (j : Int) + 1 ≤ 16 := by omega
      have g5 : (0 : Int) ≤ (j : Int) + 1 := by omega
      have HSL : Hid (∀ wx, IRow wx (some ⟨w.heap.size, 0, none⟩) 16 l → IRow wx (some ⟨w.heap.size, 0, none⟩) (j + 1) (shortL l)) := fun wx h => by
        have := h.short
        rw [HE.out] at this
        exact this
      have HN : Hid ((j + 1) ≤ 16) := hn16
      go_wp2_with (first
        | (at_make; (refine wpList_make_full _ rfl _ _ 22 rfl w1.heap.size 3 iN (.int .i64 0) 1 Tryd.underlying22 hiN hz0 hz1 _ _ _ _ ((j + 1)) rfl rfl rfl rfl (by rw [hz2]; have := HN.out; omega) (by unfold maxLen; have := HN.out; omega) (Nat.le_refl _) ?_); intro w4 hown hgrow; have hf := told_facts HA.out HL.out HB1.out.1 HB1.out.2 HSL.out hown hgrow)
        | (refine wpList_copy_ints (by rfl) (.tmp 18) (.tmp 20) 22 22 (by rfl) 3 Tryd.underlying22 (by rw [hiN]; exact congrArg some hz1) (some ⟨w1.heap.size, 0, none⟩) ((j + 1)) ((j + 1)) (by rfl) (some ⟨w.heap.size, 0, none⟩) ((j + 1)) 16 (shortL l) (by rfl) hf.1 (Nat.le_refl _) w1.heap.size 0 (fun _ => rfl) hf.2.1 _ rfl ?_))
      go_ret
      exact ⟨⟨_, _, by rw [HE.out]; rfl, by rw [HE.out]; exact Nat.le_refl _, by rw [HE.out]; exact hf.2.2.1⟩, hf.2.2.2⟩
end Go.Proofs.YtanlnfcmmfmofaaDoor
