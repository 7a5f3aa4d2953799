/- copy of digests into cells that are there; a new slice of digests. -/
import Derived.Test.YtbpkhpkllokbhaaDoorOwnD2
import Derived.Test.YtbpkhpkllokbhaaDoorZd
import Derived.Laws.IdiomCopy
import Derived.Laws.CopyOwn
namespace Go.Proofs.YtbpkhpkllokbhaaDoor
open Go.RowKit
set_option linter.unusedVariables false
set_option linter.unusedSimpArgs false

theorem own_there {w : World} {B g n cap size : Nat} {e : TypeId} {xs : List Value} (h : w.ownsRow B e size (.slice (some ⟨g, 0, none⟩) n cap) n xs) : w.there g 0 (n * size) := by
  intro j hj
  have hl := h.1
  rw [Nat.zero_add, World.ownsRow.cellAt h j hj, World.ownsRow.frozenAt h j, List.getElem?_eq_getElem (by omega)]
  exact ⟨rfl, rfl⟩
theorem DRow.flat {w : World} {b o n : Nat} {ls : List (List UInt8)} (h : DRow w (some ⟨b, o, none⟩) n ls) : DAt w b o ls.flatten := by
  refine DAt.mk fun j hj => ?_
  rw [flat_len h.2.1, h.1] at hj
  have hi : j / 32 < n := by omega
  have hd := h.at (j / 32) hi
  have hl := h.len (j / 32) hi
  have := hd.cell (j % 32) (by omega)
  rw [show o + j / 32 * 32 + j % 32 = o + j by omega] at this
  rw [this, ← nth_flat h.2.1 (j / 32) (j % 32) (by rw [h.1]; exact hi) (by omega), show 32 * (j / 32) + j % 32 = j by omega]
theorem DRow.ofFlat {w : World} {b o : Nat} {ls : List (List UInt8)} (h32 : ∀ l ∈ ls, l.length = 32) (h : DAt w b o ls.flatten) : DRow w (some ⟨b, o, none⟩) ls.length ls := by
  refine ⟨rfl, h32, .inr ⟨b, o, rfl, fun i hi => DAt.mk fun j hj => ?_⟩⟩
  have hlen : (ls.getD i []).length = 32 := by
    rw [List.getD_eq_getElem?_getD, List.getElem?_eq_getElem hi]
    exact h32 _ (List.getElem_mem _)
  rw [hlen] at hj
  have := h.cell (32 * i + j) (by rw [flat_len h32]; omega)
  rw [show o + (32 * i + j) = o + 32 * i + j by omega, nth_flat h32 i j hi hj] at this
  exact this
/-- Two writes, one behind the other, into one block. -/
theorem dat_two {w : World} {b o : Nat} {x y : List UInt8} (ht : w.there b o (x.length + y.length)) : DAt ((w.setCells b o (cellsB x)).setCells b (o + x.length) (cellsB y)) b o (x ++ y) := by
  refine DAt.mk fun i hi => ?_
  rw [List.length_append] at hi
  have h1 : ∀ j, j < (cellsB x).length → (w.cell? ⟨b, o + j, none⟩).isSome = true := fun j hj => (ht j (by rw [cellsB_length] at hj; omega)).1
  have h2 : ∀ j, j < (cellsB y).length → ((w.setCells b o (cellsB x)).cell? ⟨b, o + x.length + j, none⟩).isSome = true := fun j hj => by
    rw [cellsB_length] at hj
    rw [World.cell?_setCells_out _ _ _ _ _ (fun _ _ => Or.inr (by show o + (cellsB x).length ≤ o + x.length + j; rw [cellsB_length]; omega))]
    have := (ht (x.length + j) (by omega)).1
    rwa [show o + (x.length + j) = o + x.length + j by omega] at this
  by_cases c : i < x.length
  · rw [World.cell?_setCells_out _ _ _ _ _ (fun _ _ => Or.inl (by show o + i < o + x.length; omega)), World.cell?_setCells_in b (cellsB x) o w h1 i (by rw [cellsB_length]; exact c)]
    have e := cellsB_at x i c
    rw [List.getElem?_eq_getElem (by rw [cellsB_length]; exact c)] at e
    rw [e]
    unfold nth
    simp only [List.getD_eq_getElem?_getD, List.getElem?_append_left c]
  · have hj : i - x.length < y.length := by omega
    have := World.cell?_setCells_in b (cellsB y) (o + x.length) _ h2 (i - x.length) (by rw [cellsB_length]; exact hj)
    rw [show o + x.length + (i - x.length) = o + i by omega] at this
    rw [this]
    have e := cellsB_at y (i - x.length) hj
    rw [List.getElem?_eq_getElem (by rw [cellsB_length]; exact hj)] at e
    rw [e]
    unfold nth
    simp only [List.getD_eq_getElem?_getD, List.getElem?_append_right (show x.length ≤ i by omega)]
theorem run_copy_wide {P : Program} (w : World) (dT sT ty elem : TypeId) (size b o dLen dCap : Nat) (a : Addr) (n sCap : Nat) (cs : List Value)
    (hu : P.underlying dT = some (.slice elem)) (hs : (P.info? elem).map (·.size) = some size) (hn : n ≤ dLen) (hl : cs.length = n * size)
    (hsrc : ∀ j v, cs[j]? = some v → w.cell? (a.add j) = some v) (hc : w.there b o cs.length) (h1 : ∀ v ∈ cs, v.oneCell' = true) :
    (Builtin.copy_ #[dT, sT] ty #[.slice (some ⟨b, o, none⟩) dLen dCap, .slice (some a) n sCap]).run P w = .ok (goInt n) (w.setCells b o cs) := by
  have hld := run_loadCells_list (P := P) w a cs hsrc
  have hst := run_storeCells_cells (P := P) b o cs 0 w (fun j hj => (hc j hj).1) (fun j hj => (hc j hj).2) h1
  have hm : Nat.min n dLen = n := Nat.min_eq_left hn
  cases hq : P.info? elem with
  | none => simp [hq] at hs
  | some i =>
    have hi : i.size = size := by simpa [hq] using hs
    simp [Builtin.copy_, run_underlying hu, Builtin.lenOf, Builtin.firstCells, sizeOf, typeInfo, hq, hi, hm, ← hl, hld, hst]
theorem run_copy_zero {P : Program} (w : World) (dT sT ty elem : TypeId) (size : Nat) (d : Addr) (a : Option Addr) (dLen dCap sCap : Nat) (hu : P.underlying dT = some (.slice elem)) (hs : (P.info? elem).map (·.size) = some size) :
    (Builtin.copy_ #[dT, sT] ty #[.slice (some d) dLen dCap, .slice a 0 sCap]).run P w = .ok (goInt 0) w := by
  have hm : Nat.min 0 dLen = 0 := Nat.min_eq_left (Nat.zero_le _)
  cases hq : P.info? elem with
  | none => simp [hq] at hs
  | some i =>
    have hl : ∀ (x : Addr), (loadCells x 0).run P w = .ok #[] w := fun x => by simpa using run_loadCells_list (P := P) w x [] (by simp)
    cases a <;> simp [Builtin.copy_, run_underlying hu, Builtin.lenOf, Builtin.firstCells, sizeOf, typeInfo, hq, hm, storeCells, hl]
/-- 'copy(d, s)', s any slice of digests, d longer. -/
theorem wpList_copy_digests {w : World} {ops : Array Oper} {rest : List Oper} {o : Oper} {a : Act} {Q : Exit → Act → World → Prop} (hgd : o.guard = none) (d s : Operand)
    (ho : o.op = .call { callee := .builtin .copy, args := #[d, s], argTypes := #[22, 22] })
    (b off dLen dCap : Nat) (hd : a.eval d = .slice (some ⟨b, off, none⟩) dLen dCap) (ad : Option Addr) (n c : Nat) (ls : List (List UInt8)) (hs : a.eval s = .slice ad n c) (R : DRow w ad n ls) (hm : n ≤ dLen) (ht : w.there b off (n * 32))
    (h : wpList Tryd.prog ops Q rest (a.put o.dst (.int .i64 (n : Int))) (w.setCells b off (cellsB ls.flatten))) : wpList Tryd.prog ops Q (o :: rest) a w := by
  have hlen : (cellsB ls.flatten).length = n * 32 := by rw [cellsB_length, flat_len R.2.1, R.1]; omega
  refine wpList_plain hgd fun K hK => ?_
  by_cases h0 : n = 0
  · subst h0
    have hz : ls = [] := List.eq_nil_of_length_eq_zero R.1
    subst hz
    have hrun := run_copy_zero (P := Tryd.prog) w 22 22 o.type 24 32 ⟨b, off, none⟩ ad dLen dCap c Tryd.underlying22 Tryd.sizeDg
    unfold Oper.wp
    simp [execOp, ho, resolve, invoke, builtin, hd, hs, hrun, Result.andThen]
    exact hK _ _ h
  · obtain ⟨sb, so, rfl⟩ := R.addr (by omega)
    have hf := R.flat
    have hrun := run_copy_wide (P := Tryd.prog) w 22 22 o.type 24 32 b off dLen dCap ⟨sb, so, none⟩ n c (cellsB ls.flatten) Tryd.underlying22 Tryd.sizeDg hm hlen (fun j v hj => by
      rw [Addr.add_mid]
      exact hf j v hj) (by rw [hlen]; exact ht) (cellsB_one _)
    unfold Oper.wp
    simp [execOp, ho, resolve, invoke, builtin, hd, hs, hrun, Result.andThen]
    exact hK _ _ h
end Go.Proofs.YtbpkhpkllokbhaaDoor
