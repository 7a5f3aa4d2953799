/- copy of bytes: whatever the slice, into cells that are there. -/
import Derived.Test.YtigdgmoiljifjaaDoorHasher
import Derived.Laws.CopyOwn
namespace Go.Proofs.YtigdgmoiljifjaaDoor
open Go.RowKit
set_option linter.unusedVariables false
set_option linter.unusedSimpArgs false

theorem blkPut_len {blk : List UInt8} {r : Nat} {y : List UInt8} (hr : r + y.length ≤ blk.length) : (blkPut blk r y).length = blk.length := by
  simp [blkPut]; omega
theorem blkPut_at {blk : List UInt8} {r : Nat} {y : List UInt8} (hr : r + y.length ≤ blk.length) (i : Nat) :
    nth (blkPut blk r y) i = if i < r then nth blk i else if i < r + y.length then nth y (i - r) else nth blk i := by
  unfold nth blkPut
  have hl : (blk.take r).length = r := by simp; omega
  simp only [List.getD_eq_getElem?_getD]
  by_cases h1 : i < r
  · rw [if_pos h1, List.append_assoc, List.getElem?_append_left (by omega), List.getElem?_take, if_pos h1]
  · rw [if_neg h1]
    by_cases h2 : i < r + y.length
    · rw [if_pos h2, List.append_assoc, List.getElem?_append_right (by omega), hl, List.getElem?_append_left (by omega)]
    · rw [if_neg h2, List.append_assoc, List.getElem?_append_right (by omega), hl, List.getElem?_append_right (by omega), List.getElem?_drop]
      rw [show r + y.length + (i - r - y.length) = i by omega]
/-- Bytes put into a row that lies there. -/
theorem dat_put {w : World} {b o r : Nat} {blk y : List UInt8} (h : DAt w b o blk) (ht : w.there b o blk.length) (hr : r + y.length ≤ blk.length) : DAt (w.setCells b (o + r) (cellsB y)) b o (blkPut blk r y) := by
  have hs : ∀ j, j < (cellsB y).length → (w.cell? ⟨b, o + r + j, none⟩).isSome = true := fun j hj => by
    rw [cellsB_length] at hj
    have := (ht (r + j) (by omega)).1
    rwa [← Nat.add_assoc] at this
  refine DAt.mk fun i hi => ?_
  rw [blkPut_len hr] at hi
  rw [blkPut_at hr i]
  by_cases c1 : i < r
  · rw [if_pos c1, World.cell?_setCells_out _ _ _ _ _ (fun _ _ => Or.inl (by show o + i < o + r; omega))]
    exact DAt.cell h i (by omega)
  · rw [if_neg c1]
    by_cases c2 : i < r + y.length
    · rw [if_pos c2]
      have := World.cell?_setCells_in b (cellsB y) (o + r) w hs (i - r) (by rw [cellsB_length]; omega)
      rw [show o + r + (i - r) = o + i by omega] at this
      rw [this]
      have := cellsB_at y (i - r) (by omega)
      rw [List.getElem?_eq_getElem (by rw [cellsB_length]; omega)] at this
      exact this
    · rw [if_neg c2, World.cell?_setCells_out _ _ _ _ _ (fun _ _ => Or.inr (by show o + r + (cellsB y).length ≤ o + i; rw [cellsB_length]; omega))]
      exact DAt.cell h i (by omega)
/-- 'copy(d, s)', s any slice of bytes. -/
theorem wpList_copy_bytes {P : Program} {w : World} {ops : Array Oper} {rest : List Oper} {o : Oper} {a : Act} {Q : Exit → Act → World → Prop} (hgd : o.guard = none) (d s : Operand) (dT sT : TypeId)
    (ho : o.op = .call { callee := .builtin .copy, args := #[d, s], argTypes := #[dT, sT] }) (elem : TypeId) (hu : P.underlying dT = some (.slice elem)) (hsz : (P.info? elem).map (·.size) = some 1)
    (dp : Option Addr) (dLen dCap : Nat) (hd : a.eval d = .slice dp dLen dCap) (ad : Option Addr) (n c : Nat) (l : List UInt8) (hs : a.eval s = .slice ad n c) (R : Row w ad n l)
    (m : Nat) (hm : m = Nat.min n dLen) (b off : Nat) (hdp : 0 < m → dp = some ⟨b, off, none⟩) (ht : w.there b off m)
    (h : wpList P ops Q rest (a.put o.dst (.int .i64 (m : Int))) (w.setCells b off (cellsB (l.take m)))) : wpList P ops Q (o :: rest) a w := by
  obtain ⟨hl, hR⟩ := R
  have hmn : m ≤ n := by rw [hm]; exact Nat.min_le_left _ _
  by_cases h0 : m = 0
  · subst h0
    exact wpList_copy_nothing hgd d s dT sT ho elem hu hsz dp ad dLen dCap n c hd hs hm.symm h
  · rcases hR with h1 | ⟨sb, so, rfl, hcells⟩
    · omega
    obtain rfl := hdp (by omega)
    have hlen : (cellsB (l.take m)).length = m := by rw [cellsB_length, List.length_take]; omega
    refine wpList_plain hgd fun K hK => ?_
    have hrun := run_copy_cells (P := P) w dT sT o.type elem b off dLen dCap ⟨sb, so, none⟩ n c (cellsB (l.take m)) hu hsz (by rw [hlen, hm]) (fun j v hj => by
      have hj' : j < m := by have := (List.getElem?_eq_some_iff.1 hj).1; omega
      rw [Go.WideShapes.add_plain, hcells j (by omega), ← hj, cellsB_at _ j (by rw [List.length_take]; omega)]
      unfold nth
      simp only [List.getD_eq_getElem?_getD, List.getElem?_take, if_pos hj']) (fun j hj => (ht j (by omega)).1) (fun j hj => (ht j (by omega)).2) (cellsB_one _)
    rw [hlen] at hrun
    unfold Oper.wp
    simp [execOp, ho, resolve, invoke, builtin, hd, hs, hrun, Result.andThen]
    exact hK _ _ h
end Go.Proofs.YtigdgmoiljifjaaDoor
