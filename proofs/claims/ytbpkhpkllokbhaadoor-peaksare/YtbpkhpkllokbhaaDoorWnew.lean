/- The contract of sha.New: a Hasher that has taken nothing. -/
import Derived.Test.YtbpkhpkllokbhaaDoorHasher
namespace Go.Proofs.YtbpkhpkllokbhaaDoor
open Go.RowKit
set_option linter.unusedVariables false
set_option linter.unusedSimpArgs false

/-- What a new Hasher holds. -/
def newCells : List Value := cellsW hW ++ cellsB (List.replicate 64 0) ++ [.int .i64 0]
theorem hasher_new (w : World) (t : TypeId) : Hasher (w.alloc (.cells newCells.toArray t)) w.heap.size [] := by
  have hr := box_range w newCells t
  have hlw : (cellsW hW).length = 8 := rfl
  have hlb : (cellsB (List.replicate 64 0)).length = 64 := by rw [cellsB_length]; simp
  refine ⟨hW, List.replicate 64 0, ⟨?_, ?_, ?_, ?_, rfl, by simp⟩, took_new⟩
  · intro j v hj
    refine hr j v ?_
    have := (List.getElem?_eq_some_iff.1 hj).1
    unfold newCells
    rw [List.append_assoc, List.getElem?_append_left this]
    exact hj
  · intro j v hj
    have := (List.getElem?_eq_some_iff.1 hj).1
    have h2 := hr (8 + j) v (by
      unfold newCells
      rw [List.append_assoc, List.getElem?_append_right (by omega), hlw, Nat.add_sub_cancel_left, List.getElem?_append_left this]
      exact hj)
    rwa [Nat.zero_add] at h2
  · have h2 := hr 72 (.int .i64 0) (by
      unfold newCells
      rw [List.getElem?_append_right (by rw [List.length_append, hlw, hlb]; exact Nat.le_refl _), List.length_append, hlw, hlb]
      rfl)
    rwa [Nat.zero_add] at h2
  · refine alloc_there w _ t 73 ?_
    show 73 ≤ newCells.length
    unfold newCells
    rw [List.length_append, List.length_append, hlw, hlb]
    exact Nat.le_refl _

set_option maxRecDepth 100000 in
set_option maxHeartbeats 400000 in
theorem wnew_any (w : World) :
    Calls Tryd.prog 33 #[] w fun e w' => e = .returned (.pointer (some ⟨w.heap.size, 0, none⟩)) ∧ Hasher w' w.heap.size [] ∧ Below w.heap.size w w' := by
  go_enter Tryd.func33, Tryd.ntmps33
  go_wp2_with (first
    | (refine wpList_buildC (by rfl) 82 _ (by rfl) (cellsW hW).toArray (by kernel_rfl) ?_)
    | (refine wpList_buildC (by rfl) 85 _ (by rfl) newCells.toArray (by kernel_rfl) ?_))
  go_ret
  exact ⟨rfl, hasher_new w _, (Below.refl _ _).alloc (Nat.le_refl _) _⟩
end Go.Proofs.YtbpkhpkllokbhaaDoor
