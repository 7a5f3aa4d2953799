/- Texts of this claim, joined: OwnRw. -/
import Derived.Test.YtnffmegicgbinabDoorJ06
import Derived.Test.YtnffmegicgbinabDoorJ07
import Derived.Test.YtnffmegicgbinabDoorJ08
/- Rows of slices of bytes that a call itself made, each with its bytes in another block: append of one. -/
namespace Go.Proofs.YtnffmegicgbinabDoor
open Go.RowKit
set_option linter.unusedVariables false
set_option linter.unusedSimpArgs false

/-- A slice of bytes as it lies. -/
abbrev RHd := Option Addr × Nat × Nat
def noR : RHd := (none, 0, 0)
def rdV (h : RHd) : Value := .slice h.1 h.2.1 h.2.2
def flatR (hs : List RHd) : List Value := hs.map rdV
theorem flatR_len (hs : List RHd) : (flatR hs).length = hs.length := by simp [flatR]
theorem flatR_at (hs : List RHd) (i : Nat) (h : i < hs.length) : (flatR hs)[i]? = some (rdV (hs.getD i noR)) := by
  unfold flatR
  rw [List.getElem?_map, List.getElem?_eq_getElem h, List.getD_eq_getElem?_getD, List.getElem?_eq_getElem h]
  rfl
/-- What lies there reads as l. -/
def DatR (w : World) (h : RHd) (l : List UInt8) : Prop := h.2.1 ≤ h.2.2 ∧ h.2.1 ≤ 140737488351232 ∧ Row w h.1 h.2.1 l
def ApartR (h : RHd) (row : Option Nat) : Prop := h.2.1 = 0 ∨ ∀ ad, h.1 = some ad → row ≠ some ad.block
theorem DatR.grown {w w' : World} {row : Option Nat} {h : RHd} {l : List UInt8} (d : DatR w h l) (hg : w.grownBy w' row) (hne : ApartR h row) : DatR w' h l := ⟨d.1, d.2.1, row_grown d.2.2 hg hne⟩
theorem DatR.below {w w' : World} {h : RHd} {l : List UInt8} (d : DatR w h l) (hb : Below w.heap.size w w') : DatR w' h l := ⟨d.1, d.2.1, d.2.2.below hb⟩
/-- What lies below a block lies apart from it. -/
theorem DatR.apart {w : World} {h : RHd} {l : List UInt8} (d : DatR w h l) (g : Nat) (hg : w.heap.size ≤ g) : ApartR h (some g) := by
  rcases d.2.2.2 with h0 | ⟨b, o, ha, hc⟩
  · exact .inl h0
  · by_cases h0 : h.2.1 = 0
    · exact .inl h0
    · refine .inr fun ad e => ?_
      rw [ha] at e
      cases e
      have := cell_block (hc 0 (by omega))
      intro e
      have := Option.some.inj e
      simp only at this
      omega
theorem DatR.next {w : World} {h : RHd} {l : List UInt8} (d : DatR w h l) : ApartR h (some w.heap.size) := d.apart _ (Nat.le_refl _)
/-- What lay there ahead of B is apart from what the call owns from B on. -/
theorem DatR.old {w0 : World} {h : RHd} {l : List UInt8} {B : Nat} {v : Value} {w : World} {e : TypeId} {k n : Nat} {fs : List Value} (d : DatR w0 h l) (hB : w0.heap.size ≤ B) (hrow : w.ownsRow B e k v n fs) : ApartR h v.ownBlock := by
  cases hv : v.ownBlock with
  | none =>
    refine .inr fun ad e q => ?_
    cases q
  | some g => exact d.apart g (by have := (World.ownsRow.lt hrow g hv).1; omega)
/-- The call's own slice of slices of bytes v reads as ls. -/
def OwnR (w : World) (B : Nat) (v : Value) (ls : List (List UInt8)) : Prop :=
  ∃ hs : List RHd, hs.length = ls.length ∧ w.ownsRow B 26 1 v ls.length (flatR hs) ∧ ∀ i, i < ls.length → DatR w (hs.getD i noR) (ls.getD i []) ∧ ApartR (hs.getD i noR) v.ownBlock
theorem OwnR.nil (w : World) (B : Nat) : OwnR w B (.slice none 0 0) [] := ⟨[], rfl, World.ownsRow_nil _ _ _ _, fun i hi => absurd hi (by simp)⟩
theorem OwnR.form {w : World} {B : Nat} {v : Value} {ls : List (List UInt8)} (h : OwnR w B v ls) : ∃ a cap, v = .slice a ls.length cap ∧ BRowsB w a ls.length ls ∧ ls.length ≤ cap := by
  obtain ⟨hs, hl, h, hd⟩ := h
  have hbd : ∀ i, i < ls.length → (ls.getD i []).length ≤ 140737488351232 := fun i hi => by
    have d := (hd i hi).1
    rw [d.2.2.1]
    exact d.2.1
  rcases h.2 with ⟨rfl, h0⟩ | ⟨g, cap, cur, rfl, h1, h2, h3, _⟩
  · exact ⟨none, 0, by rw [h0], ⟨⟨rfl, .inl h0⟩, hbd⟩, by omega⟩
  · refine ⟨_, cap, rfl, ⟨⟨rfl, .inr ⟨g, 0, rfl, fun i hi => ?_⟩⟩, hbd⟩, h3⟩
    have d := (hd i hi).1
    refine ⟨(hs.getD i noR).1, (hs.getD i noR).2.1, (hs.getD i noR).2.2, ?_, d.1, d.2.2⟩
    have q := World.ownsRow.cellAt h i (by omega)
    rw [flatR_at hs i (by omega)] at q
    rw [Nat.zero_add]
    exact q
theorem OwnR.below {w w' : World} {B : Nat} {v : Value} {ls : List (List UInt8)} (h : OwnR w B v ls) (hb : Below w.heap.size w w') : OwnR w' B v ls := by
  obtain ⟨hs, hl, h, hd⟩ := h
  refine ⟨hs, hl, ?_, fun i hi => ⟨(hd i hi).1.below hb, (hd i hi).2⟩⟩
  rcases h.2 with ⟨h1, h0⟩ | ⟨g, cap, cur, e1, e2, e3, e4⟩
  · exact ⟨h.1, .inl ⟨h1, h0⟩⟩
  · have hg : g < w.heap.size := (World.ownsRow.lt h g (by rw [e1]; rfl)).2
    exact ⟨h.1, .inr ⟨g, cap, cur, e1, e2, (hb.block g hg).trans e3, e4⟩⟩
theorem OwnR.lt {w : World} {B : Nat} {v : Value} {ls : List (List UInt8)} (h : OwnR w B v ls) (g : Nat) (hg : v.ownBlock = some g) : B ≤ g ∧ g < w.heap.size := by
  obtain ⟨hs, hl, h, hd⟩ := h
  exact World.ownsRow.lt h g hg
theorem OwnR.old {w w0 : World} {B : Nat} {v : Value} {ls : List (List UInt8)} {hd : RHd} {l : List UInt8} (h : OwnR w B v ls) (d : DatR w0 hd l) (hB : w0.heap.size ≤ B) : ApartR hd v.ownBlock := by
  obtain ⟨hs, hl, h, _⟩ := h
  exact d.old hB h
theorem OwnR.grown {w w0 w' : World} {B B0 : Nat} {v : Value} {ls : List (List UInt8)} (h : OwnR w B v ls) (hb : Below B0 w0 w) (hg : w.grownBy w' v.ownBlock) (h0 : B0 ≤ B) (hs : B0 ≤ w.heap.size) : Below B0 w0 w' :=
  hb.grown hg hs (fun k hk => Nat.le_trans h0 (h.lt k hk).1)
theorem OwnR.alloc {w : World} {B : Nat} {v : Value} {ls : List (List UInt8)} (h : OwnR w B v ls) (o : Obj) : OwnR (w.alloc o) B v ls := h.below ((Below.refl _ _).alloc (Nat.le_refl _) _)
theorem Tryd.infoBs : (Tryd.prog.info? 26).map (fun i => (i.zero, i.size, i.bytes)) = some (some (.slice none 0 0), 1, 24) := by kernel_rfl
theorem lit_row (w : World) (h : RHd) (t : TypeId) : (w.alloc (.cells #[rdV h] t)).cell? ⟨w.heap.size, 0, none⟩ = some (rdV h) := cells_new w [rdV h] t 0
/-- 'append(v, s)', v the call's own row of slices of bytes. -/
theorem wpList_append_rowB {w : World} {ops : Array Oper} {rest : List Oper} {o : Oper} {a : Act} {Q : Exit → Act → World → Prop} (hgd : o.guard = none) (s x : Operand)
    (ho : o.op = .call { callee := .builtin .append, args := #[s, x], argTypes := #[25, 25] })
    (base : Nat) (v : Value) (ls : List (List UInt8)) (hs : a.eval s = v) (hown : OwnR w base v ls)
    (b off c : Nat) (hd : RHd) (t : List UInt8) (hx : a.eval x = .slice (some ⟨b, off, none⟩) 1 c) (hr : w.cell? ⟨b, off, none⟩ = some (rdV hd)) (hdat : DatR w hd t) (hap : ApartR hd v.ownBlock) (h47 : (ls.length + 1) * 24 ≤ 140737488355328) (hbase : base ≤ w.heap.size)
    (h : ∀ v' w', OwnR w' base v' (ls ++ [t]) → w.grownBy w' v.ownBlock → (v'.ownBlock = v.ownBlock ∨ v'.ownBlock = some w.heap.size) → wpList Tryd.prog ops Q rest (a.put o.dst v') w') : wpList Tryd.prog ops Q (o :: rest) a w := by
  obtain ⟨i0, hi, hz0, hz1, hz2⟩ := info_parts Tryd.infoBs
  obtain ⟨hs', hl, hrow, hd'⟩ := hown
  refine wpList_append_own_at w hgd s x 25 ho base 26 i0 (.slice none 0 0) 1 24 Tryd.underlying25 hi hz0 hz1 hz2 rfl (by decide) v ls.length (flatR hs') hs hrow ⟨b, off, none⟩ 1 c [rdV hd] hx rfl ?_ (fun u hu => by rw [List.mem_singleton.1 hu]; rfl) (by unfold maxLen; omega) h47 hbase ?_
  · intro j u hj
    have : j = 0 := by have := (List.getElem?_eq_some_iff.1 hj).1; simpa using this
    subst this
    cases hj
    rw [Go.WideShapes.add_plain]
    exact hr
  · intro v' w' hown' hgrow _ hat
    refine h v' w' ⟨hs' ++ [hd], by simp [hl], ?_, ?_⟩ hgrow hat
    · rw [List.length_append]
      have e : flatR (hs' ++ [hd]) = flatR hs' ++ [rdV hd] := by simp [flatR]
      rw [e]
      exact hown'
    · intro i hi2
      have key : ∀ (k : RHd) (u : List UInt8), DatR w k u → ApartR k v.ownBlock → DatR w' k u ∧ ApartR k v'.ownBlock := fun k u d ap => by
        refine ⟨d.grown hgrow ap, ?_⟩
        rcases hat with e | e
        · rw [e]; exact ap
        · rw [e]; exact d.next
      rw [List.length_append, List.length_singleton] at hi2
      by_cases c1 : i < ls.length
      · have g1 : (hs' ++ [hd]).getD i noR = hs'.getD i noR := by simp only [List.getD_eq_getElem?_getD, List.getElem?_append_left (show i < hs'.length by omega)]
        have g2 : (ls ++ [t]).getD i [] = ls.getD i [] := by simp only [List.getD_eq_getElem?_getD, List.getElem?_append_left c1]
        rw [g1, g2]
        exact key _ _ (hd' i c1).1 (hd' i c1).2
      · have ei : i = ls.length := by omega
        have g1 : (hs' ++ [hd]).getD i noR = hd := by simp only [List.getD_eq_getElem?_getD]; rw [ei, ← hl]; simp
        have g2 : (ls ++ [t]).getD i [] = t := by simp only [List.getD_eq_getElem?_getD]; rw [ei]; simp
        rw [g1, g2]
        exact key _ _ hdat hap
end Go.Proofs.YtnffmegicgbinabDoor
