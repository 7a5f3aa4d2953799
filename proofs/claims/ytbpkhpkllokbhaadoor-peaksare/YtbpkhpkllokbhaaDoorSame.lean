/- Digests compared: equal or not, as the lists of their bytes are. -/
import Derived.Test.YtbpkhpkllokbhaaDoorDigest
import Derived.ChangeKeysEq
import Derived.WalkKit
namespace Go.Proofs.YtbpkhpkllokbhaaDoor
open Go.RowKit
set_option linter.unusedVariables false
set_option linter.unusedSimpArgs false

theorem run_eqItems_bytes {P : Program} (w : World) (d : Nat) (e : TypeId) (he : P.underlying e = some (.int .u8)) (X Y : List UInt8) (n : Nat) (hX : X.length = n) (hY : Y.length = n) :
    ∀ (is : List Nat), (∀ i ∈ is, i < n) → (Op.eqItems (d + 1) e 1 (cellsB X).toArray (cellsB Y).toArray is).run P w = .ok (is.all fun i => nth X i == nth Y i) w
  | [], _ => by simp [Op.eqItems]
  | i :: r, h => by
    have hi := h i (List.mem_cons_self ..)
    have ih := run_eqItems_bytes w d e he X Y n hX hY r (fun j hj => h j (List.mem_cons_of_mem _ hj))
    have px : (cellsB X).toArray[i]? = some (.int .u8 (nth X i)) := by simpa using cellsB_at X i (by omega)
    have py : (cellsB Y).toArray[i]? = some (.int .u8 (nth Y i)) := by simpa using cellsB_at Y i (by omega)
    have p1 : (part e (cellsB X).toArray (i * 1)).run P w = .ok (.int .u8 (nth X i)) w := by
      simp only [Nat.mul_one]
      simp [part, isAgg, run_underlying he, px, Result.andThen, Sem.run_bind]
    have p2 : (part e (cellsB Y).toArray (i * 1)).run P w = .ok (.int .u8 (nth Y i)) w := by
      simp only [Nat.mul_one]
      simp [part, isAgg, run_underlying he, py, Result.andThen, Sem.run_bind]
    have p3 : (Op.equalIn (d + 1) e (.int .u8 (nth X i)) (.int .u8 (nth Y i))).run P w = .ok (nth X i == nth Y i) w := run_equalIn_int w d e .u8 .u8 _ _ he
    simp only [Op.eqItems, Sem.run_bind, p1, p2, p3, Result.andThen_ok, List.all_cons]
    cases hb : nth X i == nth Y i
    · simp
    · simpa using ih
theorem all_nth {X Y : List UInt8} {n : Nat} (hX : X.length = n) (hY : Y.length = n) : ((List.range n).all fun i => nth X i == nth Y i) = decide (X = Y) := by
  by_cases h : X = Y
  · subst h
    simp
  · rw [decide_eq_false h]
    cases hb : (List.range n).all fun i => nth X i == nth Y i
    · rfl
    · refine absurd (nth_inj (by omega) fun j hj => ?_) h
      have := List.all_eq_true.1 hb j (List.mem_range.2 (by omega))
      simpa using this
/-- Two digests compared. -/
theorem run_same (w : World) (X Y : List UInt8) (hX : X.length = 32) (hY : Y.length = 32) :
    (Op.equalIn 10000 24 (.agg (cellsB X).toArray) (.agg (cellsB Y).toArray)).run Tryd.prog w = .ok (decide (X = Y)) w := by
  have hi : ∃ i, Tryd.prog.info? 5 = some i := info_of_underlying Tryd.underlying5
  obtain ⟨i, hi⟩ := hi
  have hc : Tryd.prog.cellsOf 5 = 1 := by kernel_rfl
  rw [run_equalIn_array w 9999 (cellsB X).toArray (cellsB Y).toArray Tryd.underlying24 hi, hc, run_eqItems_bytes w 9998 _ Tryd.underlying5 X Y 32 hX hY _ (fun i hi => List.mem_range.1 hi), all_nth hX hY]
theorem run_same_true (D : List UInt8) (h : D.length = 32) (w : World) : (Op.equalIn 10000 24 (.agg (cellsB D).toArray) (.agg (cellsB D).toArray)).run Tryd.prog w = .ok true w := by
  rw [run_same w D D h h, decide_eq_true rfl]
/-! the comparisons as steps: guarded or not (walked by simp, a guarded '!=' of digests runs the kernel out of memory) -/
theorem Tryd.eqGuardDigest : Tryd.prog.eqGuardType Tryd.prog.depth 24 = false := by kernel_rfl
theorem wpList_neqD {ops : Array Oper} {rest : List Oper} {o : Oper} {a : Act} {w : World} {Q : Exit → Act → World → Prop} (x y : Operand) (ho : o.op = .binOp .neq 24 x y 24) (hw : Region.wanted o (yielded ops a.tmps) = true) (X Y : List UInt8) (hX : X.length = 32) (hY : Y.length = 32)
    (hx : a.eval x = .agg (cellsB X).toArray) (hy : a.eval y = .agg (cellsB Y).toArray) (b : Bool) (hb : (!decide (X = Y)) = b) (h : wpList Tryd.prog ops Q rest (a.put o.dst (.bool b)) w) : wpList Tryd.prog ops Q (o :: rest) a w := by
  subst hb
  refine wpList_step fun K hK => ?_
  rw [if_pos hw]
  unfold Oper.wp
  simp [execOp, ho, hx, hy, eqGuard, Tryd.eqGuardDigest, binOp, Op.equal, Op.maxDepth, run_same _ X Y hX hY, Result.andThen, Sem.run_bind, -decide_not]
  exact hK _ _ h
theorem wpList_eqD {ops : Array Oper} {rest : List Oper} {o : Oper} {a : Act} {w : World} {Q : Exit → Act → World → Prop} (x y : Operand) (ho : o.op = .binOp .eql 24 x y 24) (hw : Region.wanted o (yielded ops a.tmps) = true) (X Y : List UInt8) (hX : X.length = 32) (hY : Y.length = 32)
    (hx : a.eval x = .agg (cellsB X).toArray) (hy : a.eval y = .agg (cellsB Y).toArray) (b : Bool) (hb : decide (X = Y) = b) (h : wpList Tryd.prog ops Q rest (a.put o.dst (.bool b)) w) : wpList Tryd.prog ops Q (o :: rest) a w := by
  subst hb
  refine wpList_step fun K hK => ?_
  rw [if_pos hw]
  unfold Oper.wp
  simp [execOp, ho, hx, hy, eqGuard, Tryd.eqGuardDigest, binOp, Op.equal, Op.maxDepth, run_same _ X Y hX hY, Result.andThen, Sem.run_bind]
  exact hK _ _ h
end Go.Proofs.YtbpkhpkllokbhaaDoor
