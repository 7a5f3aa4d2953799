/- An array of 512 digests in memory. -/
import Derived.Test.YtigdgmoiljifjaaDoorZd
import Derived.Test.YtigdgmoiljifjaaDoorOwnD
namespace Go.Proofs.YtigdgmoiljifjaaDoor
open Go.RowKit
set_option linter.unusedVariables false
set_option linter.unusedSimpArgs false

theorem Tryd.zeroLv : ((Tryd.prog.info? 45).bind (·.zero)).map (fun v => match v with | .agg cs => cs.size | _ => 0) = some 16384 := by kernel_rfl
theorem zeroLeaves : ∃ cs : Array Value, cs.size = 16384 ∧ (Tryd.prog.info? 45).map (·.zero) = some (some (.agg cs)) := by
  have h := Tryd.zeroLv
  cases hi : Tryd.prog.info? 45 with
  | none => rw [hi] at h; cases h
  | some i =>
    rw [hi] at h
    cases hz : i.zero with
    | none => simp [hz] at h
    | some v =>
      simp only [Option.bind_some, hz, Option.map_some, Option.some.injEq] at h
      cases v with
      | agg cs => exact ⟨cs, h, by simp [hz]⟩
      | _ => simp at h
/-- Of 512 digests those that f has, at their places. -/
def Arr (w : World) (g : Nat) (f : Nat → List UInt8) : Prop := w.there g 0 16384 ∧ (∀ i, (f i).length ≤ 32) ∧ ∀ i, i < 512 → DAt w g (i * 32) (f i)
theorem Arr.block {w : World} {g : Nat} {f : Nat → List UInt8} (h : Arr w g f) : g < w.heap.size := there_block h.1 (by omega)
theorem Arr.cells {w w' : World} {g : Nat} {f : Nat → List UInt8} (h : Arr w g f) (hk : w'.heap[g]? = w.heap[g]?) : Arr w' g f := by
  have hc : ∀ j, w'.cell? ⟨g, j, none⟩ = w.cell? ⟨g, j, none⟩ := fun j => World.cell?_of_block (w := w) (a := ⟨g, j, none⟩) hk
  have hf : ∀ j, w'.frozen? ⟨g, j, none⟩ = w.frozen? ⟨g, j, none⟩ := fun j => World.frozen?_of_block (w := w) (a := ⟨g, j, none⟩) hk
  exact ⟨fun j hj => by rw [hc, hf]; exact h.1 j hj, h.2.1, fun i hi j v hj => by rw [hc]; exact h.2.2 i hi j v hj⟩
theorem Arr.below {w w' : World} {B g : Nat} {f : Nat → List UInt8} (h : Arr w g f) (hb : Below B w w') (hB : g < B) : Arr w' g f := h.cells (hb.block g hB)
theorem Arr.other {w w' : World} {g : Nat} {r : Option Nat} {f : Nat → List UInt8} (h : Arr w g f) (hb : w.grownBy w' r) (hne : some g ≠ r) : Arr w' g f := h.cells (hb.block g h.block hne)
theorem Arr.slot {w : World} {g : Nat} {f : Nat → List UInt8} (h : Arr w g f) (i : Nat) (hi : i < 512) : w.there g (i * 32) 32 := fun j hj => by
  have := h.1 (i * 32 + j) (by omega)
  rwa [Nat.zero_add] at this
def setF (f : Nat → List UInt8) (i : Nat) (d : List UInt8) : Nat → List UInt8 := fun j => if j = i then d else f j
theorem Arr.set {w : World} {g : Nat} {f : Nat → List UInt8} (h : Arr w g f) (i : Nat) (hi : i < 512) (d : List UInt8) (hd : d.length = 32) : Arr (w.setCells g (i * 32) (cellsB d)) g (setF f i d) := by
  have hs := h.slot i hi
  refine ⟨World.there_setCells h.1 _ _ _, fun j => ?_, fun j hj => ?_⟩
  · unfold setF
    by_cases c : j = i
    · rw [if_pos c]; omega
    · rw [if_neg c]; exact h.2.1 j
  · unfold setF
    by_cases c : j = i
    · subst c
      rw [if_pos rfl]
      exact dat_stored hs hd
    · rw [if_neg c]
      have := h.2.1 j
      exact World.rangeAt_setCells_apart (h.2.2 j hj) _ _ _ (by rw [cellsB_length, cellsB_length, hd]; omega)
theorem Arr.new (w : World) (cs : Array Value) (t : TypeId) (hc : cs.size = 16384) : Arr (w.alloc (.cells cs t)) w.heap.size (fun _ => []) :=
  ⟨alloc_thereAt _ _ _ _ _ rfl hc.symm, fun _ => by simp, fun i hi j v hj => by simp [cellsB] at hj⟩
/-- The first k of them. -/
def upF (F : Nat → List UInt8) (k : Nat) : Nat → List UInt8 := fun j => if j < k then F j else []
theorem upF_zero (F : Nat → List UInt8) : upF F 0 = fun _ => [] := by funext j; simp [upF]
theorem upF_succ (F : Nat → List UInt8) (k : Nat) : setF (upF F k) k (F k) = upF F (k + 1) := by
  funext j
  unfold setF upF
  by_cases c : j = k
  · subst c; simp
  · rw [if_neg c]
    by_cases d : j < k
    · rw [if_pos d, if_pos (by omega)]
    · rw [if_neg d, if_neg (by omega)]
end Go.Proofs.YtigdgmoiljifjaaDoor
