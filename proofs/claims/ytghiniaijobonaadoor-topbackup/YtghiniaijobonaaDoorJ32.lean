/- Texts of this claim, joined: Wbytes, Sshares, Stold. -/
import Derived.Test.YtghiniaijobonaaDoorJ01
import Derived.Deep.QuietTactic
import Derived.BigQuiet
import Derived.Test.YtghiniaijobonaaDoorJ07
import Derived.Deep.RegionHeld3
import Derived.Deep.DeepCutAuto
import Derived.Test.YtghiniaijobonaaDoorJ16
import Derived.Test.YtghiniaijobonaaDoorJ25
/- The contract of oathbooksame.Bytes: it tells whether two slices read as one list. -/
namespace Go.Proofs.YtghiniaijobonaaDoor
open Go.RowKit
set_option linter.unusedVariables false
set_option linter.unusedSimpArgs false

end Go.Proofs.YtghiniaijobonaaDoor
/- The contract of oathbooksame.Shares: it tells whether two slices of shares read as one list. -/
namespace Go.Proofs.YtghiniaijobonaaDoor
open Go.RowKit
set_option linter.unusedVariables false
set_option linter.unusedSimpArgs false

theorem SRow.head {w : World} {b o n : Nat} {ss : List Shr} (R : SRow w (some ⟨b, o, none⟩) n ss) (i : Nat) (hi : i < n) : ∃ (ai : Option Addr) (ni ci : Nat), ni ≤ 140737488351232 ∧ (ss.getD i noS).1 < 256 ∧ ni ≤ ci ∧ ∀ wx, Below w.heap.size w wx → wx.cell? ⟨b, o + i * 2, none⟩ = some (.int .u8 ((ss.getD i noS).1 : Int)) ∧ wx.cell? ⟨b, o + i * 2 + 1, none⟩ = some (.slice ai ni ci) ∧ Row wx ai ni (ss.getD i noS).2 := by
  obtain ⟨hp, c0, ai, ni, ci, c1, h4, h5, hR⟩ := R.at i hi
  exact ⟨ai, ni, ci, h5, hp, h4, fun wx hb => ⟨(hb.cell (p := ⟨b, o + i * 2, none⟩) (cell_block c0)).trans c0, (hb.cell (p := ⟨b, o + i * 2 + 1, none⟩) (cell_block c1)).trans c1, hR.below hb⟩⟩
theorem shr_ext {ss ts : List Shr} {n : Nat} (h1 : ss.length = n) (h2 : ts.length = n) (h : ∀ j, j < n → ss.getD j noS = ts.getD j noS) : ss = ts := by
  apply List.ext_getElem (by omega)
  intro j a b
  have := h j (by omega)
  rw [List.getD_eq_getElem?_getD, List.getD_eq_getElem?_getD, List.getElem?_eq_getElem a, List.getElem?_eq_getElem b] at this
  exact this
end Go.Proofs.YtghiniaijobonaaDoor
/- Digests in variables: a new variable, a store, a load, with the world that follows named. -/
namespace Go.Proofs.YtghiniaijobonaaDoor
open Go.RowKit
set_option linter.unusedVariables false
set_option linter.unusedSimpArgs false

theorem wpList_storeD {ops : Array Oper} {rest : List Oper} {o : Oper} {a : Act} {w : World} {Q : Exit → Act → World → Prop} (hg : o.guard = none) (x y : Operand) (ho : o.op = .store 23 x y)
    (b : Nat) (X : List UInt8) (hx : a.eval x = .pointer (some ⟨b, 0, none⟩)) (hy : a.eval y = .agg (cellsB X).toArray) (hX : X.length = 32) (ht : w.there b 0 32) (w1 : World) (hw : w.setCells b 0 (cellsB X) = w1)
    (h : wpList Tryd.prog ops Q rest (a.put o.dst undef) w1) : wpList Tryd.prog ops Q (o :: rest) a w := by
  subst hw
  exact wpList_store_mid hg 23 x y ho b 0 (cellsB X).toArray hx hy (by rw [cellsB_size, hX]; exact ht) (by rw [cellsB_size, hX]; exact Tryd.sizeDg) (all_oneCell_toArray (cellsB_one _)) h
theorem wpList_loadD {ops : Array Oper} {rest : List Oper} {o : Oper} {a : Act} {w : World} {Q : Exit → Act → World → Prop} (hg : o.guard = none) (x : Operand) (ho : o.op = .load 23 x)
    (b : Nat) (X : List UInt8) (hx : a.eval x = .pointer (some ⟨b, 0, none⟩)) (hX : X.length = 32) (hd : DAt w b 0 X)
    (h : wpList Tryd.prog ops Q rest (a.put o.dst (digestV X)) w) : wpList Tryd.prog ops Q (o :: rest) a w :=
  wpList_load_mid hg 23 x ho b 0 hx (cellsB X) _ hd Tryd.underlying23 (by rfl) (by rw [cellsB_length, hX]; exact Tryd.sizeDg) h
theorem wpList_loadDG {ops : Array Oper} {rest : List Oper} {o : Oper} {a : Act} {w : World} {Q : Exit → Act → World → Prop} (hg : Region.wanted o (yielded ops a.tmps) = true) (x : Operand) (ho : o.op = .load 23 x)
    (b : Nat) (X : List UInt8) (hx : a.eval x = .pointer (some ⟨b, 0, none⟩)) (hX : X.length = 32) (hd : DAt w b 0 X)
    (h : wpList Tryd.prog ops Q rest (a.put o.dst (digestV X)) w) : wpList Tryd.prog ops Q (o :: rest) a w :=
  wpList_load_midG hg 23 x ho b 0 hx (cellsB X) _ hd Tryd.underlying23 (by rfl) (by rw [cellsB_length, hX]; exact Tryd.sizeDg) h
theorem wpList_allocD {ops : Array Oper} {rest : List Oper} {o : Oper} {a : Act} {w : World} {Q : Exit → Act → World → Prop} (hg : o.guard = none) (ho : o.op = .alloc 23) (g : Nat) (hgs : w.heap.size = g) (w1 : World) (hw : w.alloc (.cells (cellsB zD).toArray 23) = w1)
    (h : wpList Tryd.prog ops Q rest (a.put o.dst (.pointer (some ⟨g, 0, none⟩))) w1) : wpList Tryd.prog ops Q (o :: rest) a w :=
  wpList_allocE hg 23 ho (cellsB zD).toArray Tryd.zeroDg g hgs w1 hw h
theorem new_var {w w1 : World} {g : Nat} (hg : w.heap.size = g) (hw : w.alloc (.cells (cellsB zD).toArray 23) = w1) : w1.there g 0 32 ∧ DAt w1 g 0 zD ∧ Below w.heap.size w w1 := by
  subst hw
  refine ⟨alloc_thereAt _ _ _ 32 _ hg zD_size.symm, ?_, (Below.refl _ _).alloc (Nat.le_refl _) _⟩
  rw [← hg]
  exact box_dat w zD _
theorem dat_else {w w1 : World} {g b : Nat} {X Y : List UInt8} (h : DAt w b 0 Y) (hne : b ≠ g) (hw : w.setCells g 0 (cellsB X) = w1) : DAt w1 b 0 Y := by
  subst hw
  exact World.rangeAt_setCells_apart h _ _ _ (.inl hne)
theorem there_else {w w1 : World} {g b : Nat} {X : List UInt8} (h : w.there b 0 32) (hw : w.setCells g 0 (cellsB X) = w1) : w1.there b 0 32 := by
  subst hw
  exact World.there_setCells h _ _ _
theorem datD_put {w w1 : World} {g : Nat} {X : List UInt8} (h : w.there g 0 32) (hX : X.length = 32) (hw : w.setCells g 0 (cellsB X) = w1) : DAt w1 g 0 X := by
  subst hw
  exact dat_stored h hX
theorem below_put {B g : Nat} {w0 w w1 : World} {X : List UInt8} (h : Below B w0 w) (hg : B ≤ g) (hw : w.setCells g 0 (cellsB X) = w1) : Below B w0 w1 := by
  subst hw
  exact below_setCells _ hg _ _ _ h
theorem size_put {w w1 : World} {g : Nat} {X : List UInt8} (hw : w.setCells g 0 (cellsB X) = w1) : w.heap.size ≤ w1.heap.size := by
  subst hw
  exact (below_setCells (B := 0) g (Nat.zero_le _) (cellsB X) 0 w (Below.refl _ _)).size
theorem dat_size {w : World} {g : Nat} {X : List UInt8} (h : DAt w g 0 X) (hX : X.length = 32) : g < w.heap.size := cell_block (h.cell 0 (by omega))
theorem dat_b {w w' : World} {g : Nat} {X : List UInt8} (h : DAt w g 0 X) (hX : X.length = 32) (hb : Below w.heap.size w w') : DAt w' g 0 X := h.below hb (dat_size h hX)
theorem there_b {w w' : World} {g : Nat} (h : w.there g 0 32) (hb : Below w.heap.size w w') : w'.there g 0 32 := there_below h hb (there_block h (by omega))
end Go.Proofs.YtghiniaijobonaaDoor
