/- The contract of wots.Digits. -/
import Derived.Test.YtdplajhebapkgaaWdigs
namespace Go.Proofs.Ytdplajhebapkgaa
open Go.RowKit
set_option linter.unusedVariables false
set_option linter.unusedSimpArgs false

theorem rangeI_row {w : World} {g : Nat} {l : List Int} {n : Nat} (h : w.rangeAt g 0 (cellsI l)) (hl : l.length = n) : IRow w (some ⟨g, 0, none⟩) n l :=
  ⟨hl, .inr ⟨g, 0, rfl, fun i hi => h i _ (cellsI_at l i (by omega))⟩⟩
set_option maxRecDepth 100000 in
set_option maxHeartbeats 1000000 in
theorem wwots_digits0 (m : List UInt8) (w : World) (hm : m.length = 32) :
    Calls Try.prog 4 #[digestV m] w fun e w' => (∃ a c, e = .returned (.slice a 67 c) ∧ 67 ≤ c ∧ IRow w' a 67 (digsL m 67)) ∧ Below w.heap.size w w' := by
  obtain ⟨w2, hw2⟩ : ∃ w2, w.alloc (.cells (cellsB m).toArray 23) = w2 := ⟨_, rfl⟩
  have HB2 : Hid (Below w.heap.size w w2) := by rw [← hw2]; exact (Below.refl _ _).alloc (Nat.le_refl _) _
  have HM2 : Hid (w2.rangeAt w.heap.size 0 (cellsB m)) := by rw [← hw2]; exact box_range w (cellsB m) _
  go_enter Try.func4, Try.ntmps4
  go_wp2_with (refine wpList_load_mid (by rfl) 23 (.tmp 1) (by rfl) w.heap.size 0 (by rfl) (cellsB m) _ (by first | exact HM2.out | (rw [hw2]; exact HM2.out)) Try.underlying23 (by rfl) (by rw [cellsB_length, hm]; exact Try.sizeDg) ?_)
  try rw [hw2]
  clear hw2
  refine (wwots_digitsOf m w2 hm).mono ?_
  rintro e w3 ⟨rfl, hb3⟩
  have HB3 : Hid (Below w.heap.size w w3) := below_trans HB2.out hb3
  have h67 := digsL_len m 67
  clear hb3 HB2 HM2
  generalize hD : digsL m 67 = D at *
  have HD : Hid (digsL m 67 = D) := hD
  clear hD
  obtain ⟨w4, hw4⟩ : ∃ w4, w3.alloc (.cells (cellsI zI).toArray 28) = w4 := ⟨_, rfl⟩
  have HT4 : Hid (w4.there w3.heap.size 0 67) := by rw [← hw4]; exact alloc_thereAt _ _ _ 67 _ rfl zI_size.symm
  have HB5 : Hid (Below w.heap.size w (w4.setCells w3.heap.size 0 (cellsI D))) := below_trans HB3.out (by rw [← hw4]; exact new_stored _ _ _)
  have HR5 : Hid ((w4.setCells w3.heap.size 0 (cellsI D)).rangeAt w3.heap.size 0 (cellsI D)) := World.rangeAt_setCells_same _ _ _ _ (by rw [cellsI_length, h67]; exact HT4.out)
  go_wp2_with (first
    | (refine wpList_allocE (by rfl) 28 (by rfl) (cellsI zI).toArray Try.zeroDs w3.heap.size rfl w4 hw4 ?_)
    | (refine wpList_store_mid (by rfl) 28 (.tmp 3) (.tmp 5) (by rfl) w3.heap.size 0 (cellsI D).toArray (by rfl) (by rfl) (by rw [cellsI_size, h67]; exact HT4.out) (by rw [cellsI_size, h67]; exact Try.sizeDs) (all_oneCell_toArray (cellsI_one _)) ?_))
  go_ret
  exact ⟨⟨_, _, rfl, Nat.le_refl _, by rw [HD.out]; exact rangeI_row HR5.out h67⟩, HB5.out⟩
end Go.Proofs.Ytdplajhebapkgaa
