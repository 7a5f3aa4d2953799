/- Rows of integers in memory: those that came in, and those that the call itself made. -/
import Derived.Test.YtanlnfcmmfmofaaBase
namespace Go.Proofs.Ytanlnfcmmfmofaa
open Go.RowKit
set_option linter.unusedVariables false
set_option linter.unusedSimpArgs false

/-- The i-th of some numbers. -/
def at' (l : List Nat) (i : Nat) : Nat := l.getD i 0
theorem at_inj {l m : List Nat} (h : l.length = m.length) (he : ∀ j, j < l.length → at' l j = at' m j) : l = m := by
  apply List.ext_getElem h
  intro i h1 h2
  have := he i h1
  unfold at' at this
  simpa [List.getD_eq_getElem?_getD, List.getElem?_eq_getElem h1, List.getElem?_eq_getElem h2] using this
/-- A slice of n numbers at a reads as the list l. -/
def RowK (k : IntKind) (w : World) (a : Option Addr) (n : Nat) (l : List Nat) : Prop :=
  l.length = n ∧ (n = 0 ∨ ∃ b o, a = some ⟨b, o, none⟩ ∧ ∀ i, i < n → w.cell? ⟨b, o + i, none⟩ = some (.int k ((at' l i : Nat) : Int)))
theorem cell_block {w : World} {b o : Nat} {v : Value} (h : w.cell? ⟨b, o, none⟩ = some v) : b < w.heap.size := by
  by_cases hb : b < w.heap.size
  · exact hb
  · unfold World.cell? at h
    simp [Array.getElem?_eq_none (Nat.not_lt.1 hb)] at h
theorem RowK.below {k : IntKind} {w w' : World} {a : Option Addr} {n : Nat} {l : List Nat} (h : RowK k w a n l) (hb : Below w.heap.size w w') : RowK k w' a n l := by
  obtain ⟨h1, h2⟩ := h
  refine ⟨h1, ?_⟩
  rcases h2 with h2 | ⟨b, o, ha, hc⟩
  · exact .inl h2
  · exact .inr ⟨b, o, ha, fun i hi => (hb.cell (p := ⟨b, o + i, none⟩) (cell_block (hc i hi))).trans (hc i hi)⟩
/-- A row of n numbers that the call itself made, at the head of block g: the i-th is f i. -/
def OwnK (k : IntKind) (e : TypeId) (w : World) (B g n cap : Nat) (f : Nat → Int) : Prop :=
  w.ownsRow B e 1 (.slice (some ⟨g, 0, none⟩) n cap) n ((List.range n).map fun i => Value.int k (f i))
section
variable {k : IntKind} {e : TypeId} {w : World} {B g n cap : Nat} {f : Nat → Int}
theorem OwnK.cell (h : OwnK k e w B g n cap f) (i : Nat) (hi : i < n) : w.cell? ⟨g, i, none⟩ = some (.int k (f i)) := by
  rw [World.ownsRow.cellAt h i (by omega)]
  simp [hi]
theorem OwnK.frozen (h : OwnK k e w B g n cap f) (i : Nat) : w.frozen? ⟨g, i, none⟩ = false := World.ownsRow.frozenAt h i
theorem OwnK.congr {f' : Nat → Int} (h : OwnK k e w B g n cap f) (he : ∀ i, i < n → f i = f' i) : OwnK k e w B g n cap f' := by
  unfold OwnK at *
  have : ((List.range n).map fun i => Value.int k (f' i)) = ((List.range n).map fun i => Value.int k (f i)) :=
    List.map_congr_left fun i hi => by rw [he i (List.mem_range.1 hi)]
  rw [this]
  exact h
theorem OwnK.store (h : OwnK k e w B g n cap f) (j : Nat) (v : Int) :
    OwnK k e (w.setCell ⟨g, j, none⟩ (.int k v)) B g n cap (fun i => if i = j then v else f i) := by
  have s := (World.ownsRow.stored h j (.int k v)).1
  unfold OwnK
  have : ((List.range n).map fun i => Value.int k (if i = j then v else f i)) = ((List.range n).map fun i => Value.int k (f i)).set j (.int k v) := by
    apply List.ext_getElem
    · simp
    · intro i h1 h2
      simp only [List.getElem_map, List.getElem_range, List.getElem_set]
      by_cases hij : i = j
      · subst hij; simp
      · rw [if_neg hij, if_neg (fun e => hij e.symm)]
  rw [this]
  exact s
theorem OwnK.base (h : OwnK k e w B g n cap f) : B ≤ g ∧ g < w.heap.size := World.ownsRow.lt h g rfl
theorem OwnK.drewN (h : OwnK k e w B g n cap f) (q : Nat) : OwnK k e (w.drewN q) B g n cap f := by
  induction q with
  | zero => exact h
  | succ q ih => exact World.ownsRow.drew ih
theorem OwnK.kept {w' : World} {row : Option Nat} (h : OwnK k e w B g n cap f) (hg : w.grownBy w' row) (hne : some g ≠ row) : OwnK k e w' B g n cap f := World.ownsRow.kept h hg (.inr hne)
theorem OwnK.keptBelow {w' : World} {B' : Nat} (h : OwnK k e w B g n cap f) (hb : Below B' w w') (hg : g < B') : OwnK k e w' B g n cap f := by
  have hbl := hb.block g hg
  unfold OwnK World.ownsRow at *
  refine ⟨h.1, ?_⟩
  rcases h.2 with h2 | ⟨g', cap', cur, e1, e2, e3, e4⟩
  · exact .inl h2
  · simp only [Value.slice.injEq, Option.some.injEq, Addr.mk.injEq, and_true, true_and] at e1
    obtain ⟨rfl, rfl⟩ := e1
    exact .inr ⟨g, cap, cur, rfl, e2, hbl.trans e3, e4⟩
theorem OwnK.aside (h : OwnK k e w B g n cap f) (a : Addr) (v : Value) (hne : a.block ≠ g) : OwnK k e (w.setCell a v) B g n cap f := by
  have hbl := Below.heap_setCell w a v g (fun h => hne h.symm)
  unfold OwnK World.ownsRow at *
  refine ⟨h.1, ?_⟩
  rcases h.2 with h2 | ⟨g', cap', cur, e1, e2, e3, e4⟩
  · exact .inl h2
  · simp only [Value.slice.injEq, Option.some.injEq, Addr.mk.injEq, and_true, true_and] at e1
    obtain ⟨rfl, rfl⟩ := e1
    exact .inr ⟨g, cap, cur, rfl, e2, hbl.trans e3, e4⟩
theorem OwnK.row {l : List Nat} (h : OwnK k e w B g n cap f) (hl : l.length = n) (he : ∀ i, i < n → f i = ((at' l i : Nat) : Int)) : RowK k w (some ⟨g, 0, none⟩) n l := by
  refine ⟨hl, .inr ⟨g, 0, rfl, fun i hi => ?_⟩⟩
  rw [Nat.zero_add, h.cell i hi, he i hi]
end
theorem OwnK.zero {k : IntKind} {e : TypeId} {w : World} {B g n : Nat} (h : w.ownsRow B e 1 (.slice (some ⟨g, 0, none⟩) n n) n (madeCells (Value.int k 0).cells (n * 1)).toList) : OwnK k e w B g n n (fun _ => 0) := by
  unfold OwnK
  have eq : (madeCells (Value.int k 0).cells (n * 1)).toList = (List.range n).map fun _ => Value.int k 0 := by
    have : (Value.int k 0).cells = #[Value.int k 0] := rfl
    rw [this, toList_madeCells_one, Nat.mul_one]
    apply List.ext_getElem
    · simp
    · intro i h1 h2; simp
  rw [← eq]
  exact h
theorem drewN_cell (w : World) (q : Nat) (a : Addr) : (w.drewN q).cell? a = w.cell? a := by
  induction q with
  | zero => rfl
  | succ q ih => exact ih
theorem drewN_frozen (w : World) (q : Nat) (a : Addr) : (w.drewN q).frozen? a = w.frozen? a := by
  induction q with
  | zero => rfl
  | succ q ih => exact ih
end Go.Proofs.Ytanlnfcmmfmofaa
