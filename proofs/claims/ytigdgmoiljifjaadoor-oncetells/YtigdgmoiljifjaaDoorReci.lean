/- What once.Recover holds between two rounds. -/
import Derived.Test.YtigdgmoiljifjaaDoorSigi
import Derived.Test.YtigdgmoiljifjaaDoorArr
import Derived.Test.YtigdgmoiljifjaaDoorWleaves
namespace Go.Proofs.YtigdgmoiljifjaaDoor
open Go.RowKit
set_option linter.unusedVariables false
set_option linter.unusedSimpArgs false

/-- Those of the places that have come. -/
def memF (F : Nat → List UInt8) (pre : List (Fin 256)) : Nat → List UInt8 := fun j => if pre.any (fun x => x.1 == j / 2) then F j else []
theorem memF_nil (F : Nat → List UInt8) : memF F [] = fun _ => [] := by funext j; simp [memF]
theorem memF_snoc (F : Nat → List UInt8) (pre : List (Fin 256)) (x : Fin 256) (t : Nat) (ht : t < 2) :
    setF (setF (memF F pre) (2 * x.1 + t) (F (2 * x.1 + t))) (2 * x.1 + 1 - t) (F (2 * x.1 + 1 - t)) = memF F (pre ++ [x]) := by
  funext j
  unfold setF memF
  rw [List.any_append]
  by_cases c : j / 2 = x.1
  · have hj : j = 2 * x.1 + t ∨ j = 2 * x.1 + 1 - t := by omega
    have hy : (pre.any (fun x => x.1 == j / 2) || [x].any (fun x => x.1 == j / 2)) = true := by simp [c]
    rw [hy, if_pos rfl]
    rcases hj with rfl | rfl
    · rw [if_neg (by omega), if_pos rfl]
    · rw [if_pos rfl]
  · have hn : ([x].any (fun x => x.1 == j / 2)) = false := by simp; omega
    rw [hn, Bool.or_false, if_neg (by omega), if_neg (by omega)]
theorem mem_places (j : Nat) (hj : j < 512) : (places 256).any (fun x => x.1 == j / 2) = true := by
  rw [List.any_eq_true]
  refine ⟨Fin.ofNat 256 (j / 2), ?_, ?_⟩
  · unfold places
    exact List.mem_map.2 ⟨j / 2, List.mem_range.2 (by omega), rfl⟩
  · have : (Fin.ofNat 256 (j / 2)).1 = j / 2 := by show j / 2 % 256 = j / 2; omega
    rw [this]
    simp
theorem memF_at (F : Nat → List UInt8) (j : Nat) (hj : j < 512) : memF F (places 256) j = F j := by
  unfold memF
  rw [mem_places j hj, if_pos rfl]
theorem memF_all (F : Nat → List UInt8) : (List.range 512).map (memF F (places 256)) = (List.range 512).map F := List.map_congr_left fun j hj => memF_at F j (List.mem_range.1 hj)
theorem onceAt_first (m : List UInt8) (sig : List (List UInt8)) (i : Nat) : onceAt m sig (2 * i + bitL m i) = onceLeafL (sig.getD (2 * i) []) := by
  have hb := bitL_lt m i
  unfold onceAt
  rw [show (2 * i + bitL m i) / 2 = i by omega, show (2 * i + bitL m i) % 2 = bitL m i by omega, if_pos rfl, show 2 * i + bitL m i - bitL m i = 2 * i by omega]
theorem onceAt_second (m : List UInt8) (sig : List (List UInt8)) (i : Nat) : onceAt m sig (2 * i + 1 - bitL m i) = sig.getD (2 * i + 1) [] := by
  have hb := bitL_lt m i
  unfold onceAt
  rw [show (2 * i + 1 - bitL m i) / 2 = i by omega, show (2 * i + 1 - bitL m i) % 2 = 1 - bitL m i by omega, if_neg (by omega), show 2 * i + 1 - bitL m i - (1 - bitL m i) + 1 = 2 * i + 1 by omega]
theorem onceAt_32 (m : List UInt8) (sig : List (List UInt8)) (h : ∀ i, i < 512 → (sig.getD i []).length = 32) (j : Nat) (hj : j < 512) : (onceAt m sig j).length = 32 := by
  unfold onceAt
  split
  · exact onceLeafL_length _
  · exact h _ (by omega)
/-- Blocks: b the digest, b + 1 the variable sig, b + 2 the answer, b + 3 the leaves. -/
def RecI (w : World) (m : List UInt8) (a : Option Addr) (c : Nat) (sig : List (List UInt8)) (pre : List (Fin 256)) (W : World) : Prop :=
  Arr W (w.heap.size + 3) (memF (onceAt m sig) pre) ∧ W.cell? ⟨w.heap.size + 1, 0, none⟩ = some (.slice a 512 c) ∧ W.there (w.heap.size + 2) 0 32 ∧ Below w.heap.size w W ∧ w.heap.size + 5 ≤ W.heap.size
theorem RecI.keep {w : World} {m : List UInt8} {a : Option Addr} {c : Nat} {sig : List (List UInt8)} {pre : List (Fin 256)} {W W' : World} (h : RecI w m a c sig pre W) (hb : Below (w.heap.size + 5) W W') : RecI w m a c sig pre W' := by
  obtain ⟨h1, h2, h3, h4, h5⟩ := h
  exact ⟨h1.below hb (by omega), (hb.cell (p := ⟨w.heap.size + 1, 0, none⟩) (by show w.heap.size + 1 < w.heap.size + 5; omega)).trans h2, there_below h3 hb (by omega), h4.trans (hb.mono (by omega)), Nat.le_trans h5 hb.size⟩
end Go.Proofs.YtigdgmoiljifjaaDoor
