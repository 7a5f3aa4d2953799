/- The contract of oathbookref1.rounds: the words that are added in each round. -/
import Derived.Test.YtigdgmoiljifjaaDoorSha
namespace Go.Proofs.YtigdgmoiljifjaaDoor
open Go.RowKit
set_option linter.unusedVariables false
set_option linter.unusedSimpArgs false

theorem RowK.lit (k : IntKind) (w : World) (l : List Nat) (cs : Array Value) (t : TypeId) (hc : cs = (l.map fun (x : Nat) => Value.int k ((x : Nat) : Int)).toArray) : RowK k (w.alloc (.cells cs t)) (some ⟨w.heap.size, 0, none⟩) l.length l := by
  subst hc
  refine ⟨rfl, .inr ⟨w.heap.size, 0, rfl, fun i hi => ?_⟩⟩
  rw [Nat.zero_add]
  have h : (w.alloc (.cells (l.map fun (x : Nat) => Value.int k ((x : Nat) : Int)).toArray t)).heap[w.heap.size]? = some (.cells (l.map fun (x : Nat) => Value.int k ((x : Nat) : Int)).toArray t) := by
    show (w.heap.push _)[w.heap.size]? = _
    simp
  unfold World.cell?
  rw [h]
  unfold at'
  simp [List.getElem?_eq_getElem hi]

set_option maxRecDepth 100000 in
theorem rrounds_any (w : World) :
    Calls Tryd.prog 31 #[] w fun e w' => e = .returned (.slice (some ⟨w.heap.size, 0, none⟩) 64 64) ∧ RowK .i64 w' (some ⟨w.heap.size, 0, none⟩) 64 kW ∧ Below w.heap.size w w' := by
  go_enter Tryd.func31, Tryd.ntmps31
  go_wp2
  go_ret
  exact ⟨rfl, RowK.lit .i64 w kW _ 3 (by kernel_rfl), (Below.refl _ _).alloc (Nat.le_refl _) _⟩
end Go.Proofs.YtigdgmoiljifjaaDoor
