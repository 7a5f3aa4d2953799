/- A Chain in memory: what it keeps, how many, and the place that is told next. -/
import Derived.Test.YtggkieemleibjaaDoorHasher
import Derived.Test.YtggkieemleibjaaDoorZd
import Derived.Test.YtggkieemleibjaaDoorChainm
namespace Go.Proofs.YtggkieemleibjaaDoor
open Go.RowKit
set_option linter.unusedVariables false
set_option linter.unusedSimpArgs false

theorem getD_app (l r : List (List UInt8)) (i : Nat) (h : i < l.length) : (l ++ r).getD i [] = l.getD i [] := by
  rw [List.getD_eq_getElem?_getD, List.getElem?_append_left h, List.getD_eq_getElem?_getD]
def KC (w : World) (g : Nat) (ds : List (List UInt8)) (p : Nat) : Prop :=
  (∀ i, i < ds.length → DAt w g (i * 32) (ds.getD i [])) ∧ (∀ d ∈ ds, d.length = 32) ∧ ds.length ≤ 11 ∧ w.cell? ⟨g, 352, none⟩ = some (.int .i64 (ds.length : Int)) ∧ w.cell? ⟨g, 353, none⟩ = some (.int .i64 (p : Int)) ∧ w.there g 0 354
theorem KC.block {w : World} {g p : Nat} {ds : List (List UInt8)} (h : KC w g ds p) : g < w.heap.size := cell_block h.2.2.2.1
theorem KC.cells {w w' : World} {g p : Nat} {ds : List (List UInt8)} (h : KC w g ds p) (hc : ∀ j, w'.cell? ⟨g, j, none⟩ = w.cell? ⟨g, j, none⟩) (hf : ∀ j, w'.frozen? ⟨g, j, none⟩ = w.frozen? ⟨g, j, none⟩) : KC w' g ds p := by
  obtain ⟨h1, h2, h3, h4, h5, h6⟩ := h
  refine ⟨fun i hi j v hj => by rw [hc]; exact h1 i hi j v hj, h2, h3, by rw [hc]; exact h4, by rw [hc]; exact h5, fun j hj => by rw [hc, hf]; exact h6 j hj⟩
theorem KC.below {w w' : World} {g p B : Nat} {ds : List (List UInt8)} (h : KC w g ds p) (hb : Below B w w') (hB : g < B) : KC w' g ds p :=
  h.cells (fun j => hb.cell (p := ⟨g, j, none⟩) hB) (fun j => hb.frozen (p := ⟨g, j, none⟩) hB)
theorem KC.other {w w' : World} {g g' p : Nat} {ds : List (List UInt8)} (h : KC w g ds p) (hb : w.grownBy w' (some g')) (hne : g ≠ g') : KC w' g ds p := by
  have hk := hb.block g h.block (by intro e; exact hne (Option.some.inj e))
  exact h.cells (fun j => World.cell?_of_block (w := w) (a := ⟨g, j, none⟩) hk) (fun j => World.frozen?_of_block (w := w) (a := ⟨g, j, none⟩) hk)
theorem KC.len {w : World} {g p : Nat} {ds : List (List UInt8)} (h : KC w g ds p) (i : Nat) (hi : i < ds.length) : (ds.getD i []).length = 32 := by
  have := h.2.1 (ds.getD i []) (by rw [List.getD_eq_getElem?_getD, List.getElem?_eq_getElem hi]; exact List.getElem_mem hi)
  exact this
theorem KC.slot {w : World} {g p : Nat} {ds : List (List UInt8)} (h : KC w g ds p) (i : Nat) (hi : i < 11) : w.there g (i * 32) 32 := fun j hj => by
  have := h.2.2.2.2.2 (i * 32 + j) (by omega)
  rwa [Nat.zero_add] at this
/-- One digest more. -/
theorem KC.push {w : World} {g p : Nat} {ds : List (List UInt8)} {d : List UInt8} (h : KC w g ds p) (hd : d.length = 32) (hl : ds.length < 11) :
    KC ((w.setCells g (ds.length * 32) (cellsB d)).setCell ⟨g, 352, none⟩ (.int .i64 ((ds.length : Int) + 1))) g (ds ++ [d]) p := by
  have hs := h.slot ds.length hl
  have hlen := h.len
  obtain ⟨h1, h2, h3, h4, h5, h6⟩ := h
  have hc : (cellsB d).length = 32 := by rw [cellsB_length, hd]
  have out : ∀ o, 352 ≤ o → (w.setCells g (ds.length * 32) (cellsB d)).cell? ⟨g, o, none⟩ = w.cell? ⟨g, o, none⟩ := fun o ho =>
    World.cell?_setCells_out _ _ _ _ _ (fun _ _ => Or.inr (by show ds.length * 32 + (cellsB d).length ≤ o; rw [hc]; omega))
  refine ⟨fun i hi => ?_, ?_, by simp; omega, ?_, ?_, there_set (World.there_setCells h6 _ _ _) _ _ _⟩
  · have hL : (cellsB ((ds ++ [d]).getD i [])).length = 32 := by
      rw [cellsB_length]
      by_cases c : i < ds.length
      · rw [getD_app _ _ _ c]; exact hlen i c
      · have : i = ds.length := by simp at hi; omega
        subst this
        simpa using hd
    refine World.rangeAt_setCells_apart ?_ g 352 [_] (.inr (.inl (by rw [hL]; simp at hi; omega)))
    by_cases c : i < ds.length
    · have e : (ds ++ [d]).getD i [] = ds.getD i [] := getD_app _ _ _ c
      rw [e] at hL ⊢
      exact World.rangeAt_setCells_apart (h1 i c) _ _ _ (.inr (.inl (by rw [hL]; omega)))
    · have e : i = ds.length := by simp at hi; omega
      subst e
      have e : (ds ++ [d]).getD ds.length [] = d := by simp
      rw [e]
      exact dat_stored hs hd
  · intro x hx
    rw [List.mem_append, List.mem_singleton] at hx
    rcases hx with hx | rfl
    · exact h2 x hx
    · exact hd
  · have := World.cell?_setCell_same (w.setCells g (ds.length * 32) (cellsB d)) ⟨g, 352, none⟩ (.int .i64 ((ds.length : Int) + 1)) ((out 352 (by omega)).trans h4)
    rw [this, List.length_append, List.length_singleton]
    simp
  · rw [World.cell?_setCell_other _ _ _ _ (by simp), out 353 (by omega)]
    exact h5
/-- The last one is counted no longer. -/
theorem KC.drop {w : World} {g p : Nat} {ds : List (List UInt8)} {d : List UInt8} (h : KC w g (ds ++ [d]) p) :
    KC (w.setCell ⟨g, 352, none⟩ (.int .i64 (ds.length : Int))) g ds p ∧ DAt (w.setCell ⟨g, 352, none⟩ (.int .i64 (ds.length : Int))) g (ds.length * 32) d := by
  have hlen := h.len
  obtain ⟨h1, h2, h3, h4, h5, h6⟩ := h
  have h3' : ds.length + 1 ≤ 11 := by simpa using h3
  refine ⟨⟨fun i hi => ?_, fun x hx => h2 x (List.mem_append_left _ hx), by omega, World.cell?_setCell_same _ _ _ h4, ?_, there_set h6 _ _ _⟩, ?_⟩
  · have e : (ds ++ [d]).getD i [] = ds.getD i [] := getD_app _ _ _ hi
    have hL : (cellsB (ds.getD i [])).length = 32 := by
      rw [cellsB_length, ← e]
      exact hlen i (by simp; omega)
    have q := h1 i (by simp; omega)
    rw [e] at q
    exact World.rangeAt_setCells_apart q g 352 [_] (.inr (.inl (by rw [hL]; omega)))
  · rw [World.cell?_setCell_other _ _ _ _ (by simp)]
    exact h5
  · have e : (ds ++ [d]).getD ds.length [] = d := by simp
    have q := h1 ds.length (by simp)
    rw [e] at q
    exact World.rangeAt_setCells_apart q g 352 [_] (.inr (.inl (by rw [cellsB_length, h2 d (by simp)]; omega)))
/-- Behind what is kept anything may stand. -/
theorem KC.wipe {w : World} {g p : Nat} {ds : List (List UInt8)} (h : KC w g ds p) (x : List UInt8) (hx : x.length = 32) (hl : ds.length < 11) : KC (w.setCells g (ds.length * 32) (cellsB x)) g ds p := by
  have hlen := h.len
  obtain ⟨h1, h2, h3, h4, h5, h6⟩ := h
  have hc : (cellsB x).length = 32 := by rw [cellsB_length, hx]
  have out : ∀ o, 352 ≤ o → (w.setCells g (ds.length * 32) (cellsB x)).cell? ⟨g, o, none⟩ = w.cell? ⟨g, o, none⟩ := fun o ho =>
    World.cell?_setCells_out _ _ _ _ _ (fun _ _ => Or.inr (by show ds.length * 32 + (cellsB x).length ≤ o; rw [hc]; omega))
  exact ⟨fun i hi => World.rangeAt_setCells_apart (h1 i hi) _ _ _ (.inr (.inl (by rw [cellsB_length, hlen i hi]; omega))), h2, h3, (out _ (by omega)).trans h4, (out _ (by omega)).trans h5, World.there_setCells h6 _ _ _⟩
theorem KC.free {w : World} {g p : Nat} {ds : List (List UInt8)} (h : KC w g ds p) (j : Nat) (hj : j < 354) : w.frozen? ⟨g, j, none⟩ = false := by
  have := (h.2.2.2.2.2 j hj).2
  rwa [Nat.zero_add] at this
theorem KC.count {w : World} {g p : Nat} {ds : List (List UInt8)} (h : KC w g ds p) : w.cell? ⟨g, 352, none⟩ = some (.int .i64 (ds.length : Int)) := h.2.2.2.1
theorem KC.last {w : World} {g p : Nat} {ds : List (List UInt8)} {d : List UInt8} (h : KC w g (ds ++ [d]) p) : DAt w g (ds.length * 32) d ∧ d.length = 32 := by
  have h1 := h.1 ds.length (by simp)
  have e : (ds ++ [d]).getD ds.length [] = d := by simp
  rw [e] at h1
  exact ⟨h1, h.2.1 d (by simp)⟩
theorem KC.place {w : World} {g p : Nat} {ds : List (List UInt8)} (h : KC w g ds p) (q : Nat) :
    KC (w.setCell ⟨g, 353, none⟩ (.int .i64 (q : Int))) g ds q := by
  have hlen := h.len
  obtain ⟨h1, h2, h3, h4, h5, h6⟩ := h
  refine ⟨fun i hi => World.rangeAt_setCells_apart (h1 i hi) g 353 [_] (.inr (.inl (by rw [cellsB_length, hlen i hi]; omega))), h2, h3, ?_, World.cell?_setCell_same _ _ _ h5, there_set h6 _ _ _⟩
  rw [World.cell?_setCell_other _ _ _ _ (by simp)]
  exact h4
end Go.Proofs.YtggkieemleibjaaDoor
