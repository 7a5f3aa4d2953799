/- Texts of this claim, joined: Zd, Same, SameH, Stold. -/
import Derived.Test.YtbhoijnhpmkglabDoorJ02
import Derived.ChangeKeysEq
import Derived.WalkKit
import Derived.OrdersHeld
import Derived.Deep.MidRow
/- A new variable for a digest: bytes 0. -/
namespace Go.Proofs.YtbhoijnhpmkglabDoor
open Go.RowKit
set_option linter.unusedVariables false
set_option linter.unusedSimpArgs false

/-- A new variable for a digest. -/
def zD : List UInt8 := List.replicate 32 0
theorem zD_size : (cellsB zD).toArray.size = 32 := by rw [cellsB_size]; rfl
theorem Tryd.zeroDg : (Tryd.prog.info? 25).map (·.zero) = some (some (.agg (cellsB zD).toArray)) := by kernel_rfl
theorem Tryd.sizeDg : (Tryd.prog.info? 25).map (·.size) = some 32 := by kernel_rfl
theorem zD_lit : (cellsB zD).toArray = #[.int .u8 0, .int .u8 0, .int .u8 0, .int .u8 0, .int .u8 0, .int .u8 0, .int .u8 0, .int .u8 0, .int .u8 0, .int .u8 0, .int .u8 0, .int .u8 0, .int .u8 0, .int .u8 0, .int .u8 0, .int .u8 0, .int .u8 0, .int .u8 0, .int .u8 0, .int .u8 0, .int .u8 0, .int .u8 0, .int .u8 0, .int .u8 0, .int .u8 0, .int .u8 0, .int .u8 0, .int .u8 0, .int .u8 0, .int .u8 0, .int .u8 0, .int .u8 0] := by kernel_rfl
theorem there_block {w : World} {b o n : Nat} (h : w.there b o n) (hn : 0 < n) : b < w.heap.size := by
  have := (h 0 hn).1
  obtain ⟨v, hv⟩ := Option.isSome_iff_exists.1 this
  exact cell_block hv
/-- An answer of two: a digest that lies in a variable, and a value. -/
theorem run_results_row2 {P : Program} {fn : Func} {p q : Tmp} {ty : TypeId} (h : fn.results = #[.cell p ty, .tmp q]) (tmps : Array Value) (w : World) (b o : Nat) (hp : tmps.getD p undef = .pointer (some ⟨b, o, none⟩)) (v : Value) (hv : tmps.getD q undef = v)
    (cs : List Value) (hc : w.rangeAt b o cs) (d : TypeDesc) (hu : P.underlying ty = some d) (hd : d.isRow = true) (hi : (P.info? ty).map (·.size) = some cs.length) :
    (results fn tmps).run P w = .ok (.tuple #[.agg cs.toArray, v]) w := by
  have hp' : tmps[p]?.getD undef = .pointer (some ⟨b, o, none⟩) := by simpa using hp
  have hv' : tmps[q]?.getD undef = v := by simpa using hv
  simp only [results, h]
  simp [Sem.run_bind, Result.andThen, hp', hv', asAddr, run_loadVar_mid w b o ty cs d hc hu hd hi]
end Go.Proofs.YtbhoijnhpmkglabDoor
/- Digests compared: equal or not, as the lists of their bytes are. -/
namespace Go.Proofs.YtbhoijnhpmkglabDoor
open Go.RowKit
set_option linter.unusedVariables false
set_option linter.unusedSimpArgs false

theorem run_eqItems_bytes {P : Program} (w : World) (d : Nat) (e : TypeId) (he : P.underlying e = some (.int .u8)) (X Y : List UInt8) (n : Nat) (hX : X.length = n) (hY : Y.length = n) :
    ∀ (is : List Nat), (∀ i ∈ is, i < n) → (Op.eqItems (d + 1) e 1 (cellsB X).toArray (cellsB Y).toArray is).run P w = .ok (is.all fun i => nth X i == nth Y i) w
  | [], _ => by simp [Op.eqItems]
  | i :: r, h => by
    have hi := h i (List.mem_cons_self ..)
    have ih := run_eqItems_bytes w d e he X Y n hX hY r (fun j hj => h j (List.mem_cons_of_mem _ hj))
    have px : (cellsB X).toArray[i]? = some (.int .u8 (nth X i)) := by simpa using cellsB_at X i (by omega)
    have py : (cellsB Y).toArray[i]? = some (.int .u8 (nth Y i)) := by simpa using cellsB_at Y i (by omega)
    have p1 : (part e (cellsB X).toArray (i * 1)).run P w = .ok (.int .u8 (nth X i)) w := by
      simp only [Nat.mul_one]
      simp [part, isAgg, run_underlying he, px, Result.andThen, Sem.run_bind]
    have p2 : (part e (cellsB Y).toArray (i * 1)).run P w = .ok (.int .u8 (nth Y i)) w := by
      simp only [Nat.mul_one]
      simp [part, isAgg, run_underlying he, py, Result.andThen, Sem.run_bind]
    have p3 : (Op.equalIn (d + 1) e (.int .u8 (nth X i)) (.int .u8 (nth Y i))).run P w = .ok (nth X i == nth Y i) w := run_equalIn_int w d e .u8 .u8 _ _ he
    simp only [Op.eqItems, Sem.run_bind, p1, p2, p3, Result.andThen_ok, List.all_cons]
    cases hb : nth X i == nth Y i
    · simp
    · simpa using ih
theorem all_nth {X Y : List UInt8} {n : Nat} (hX : X.length = n) (hY : Y.length = n) : ((List.range n).all fun i => nth X i == nth Y i) = decide (X = Y) := by
  by_cases h : X = Y
  · subst h
    simp
  · rw [decide_eq_false h]
    cases hb : (List.range n).all fun i => nth X i == nth Y i
    · rfl
    · refine absurd (nth_inj (by omega) fun j hj => ?_) h
      have := List.all_eq_true.1 hb j (List.mem_range.2 (by omega))
      simpa using this
/-- Two digests compared. -/
theorem run_same (w : World) (X Y : List UInt8) (hX : X.length = 32) (hY : Y.length = 32) :
    (Op.equalIn 10000 25 (.agg (cellsB X).toArray) (.agg (cellsB Y).toArray)).run Tryd.prog w = .ok (decide (X = Y)) w := by
  have hi : ∃ i, Tryd.prog.info? 5 = some i := info_of_underlying Tryd.underlying5
  obtain ⟨i, hi⟩ := hi
  have hc : Tryd.prog.cellsOf 5 = 1 := by kernel_rfl
  rw [run_equalIn_array w 9999 (cellsB X).toArray (cellsB Y).toArray Tryd.underlying25 hi, hc, run_eqItems_bytes w 9998 _ Tryd.underlying5 X Y 32 hX hY _ (fun i hi => List.mem_range.1 hi), all_nth hX hY]
theorem run_same_true (D : List UInt8) (h : D.length = 32) (w : World) : (Op.equalIn 10000 25 (.agg (cellsB D).toArray) (.agg (cellsB D).toArray)).run Tryd.prog w = .ok true w := by
  rw [run_same w D D h h, decide_eq_true rfl]
/-! the comparisons as steps: guarded or not (walked by simp, a guarded '!=' of digests runs the kernel out of memory) -/
theorem Tryd.eqGuardDigest : Tryd.prog.eqGuardType Tryd.prog.depth 25 = false := by kernel_rfl
theorem wpList_neqD {ops : Array Oper} {rest : List Oper} {o : Oper} {a : Act} {w : World} {Q : Exit → Act → World → Prop} (x y : Operand) (ho : o.op = .binOp .neq 25 x y 25) (hw : Region.wanted o (yielded ops a.tmps) = true) (X Y : List UInt8) (hX : X.length = 32) (hY : Y.length = 32)
    (hx : a.eval x = .agg (cellsB X).toArray) (hy : a.eval y = .agg (cellsB Y).toArray) (b : Bool) (hb : (!decide (X = Y)) = b) (h : wpList Tryd.prog ops Q rest (a.put o.dst (.bool b)) w) : wpList Tryd.prog ops Q (o :: rest) a w := by
  subst hb
  refine wpList_step fun K hK => ?_
  rw [if_pos hw]
  unfold Oper.wp
  simp [execOp, ho, hx, hy, eqGuard, Tryd.eqGuardDigest, binOp, Op.equal, Op.maxDepth, run_same _ X Y hX hY, Result.andThen, Sem.run_bind, -decide_not]
  exact hK _ _ h
theorem wpList_eqD {ops : Array Oper} {rest : List Oper} {o : Oper} {a : Act} {w : World} {Q : Exit → Act → World → Prop} (x y : Operand) (ho : o.op = .binOp .eql 25 x y 25) (hw : Region.wanted o (yielded ops a.tmps) = true) (X Y : List UInt8) (hX : X.length = 32) (hY : Y.length = 32)
    (hx : a.eval x = .agg (cellsB X).toArray) (hy : a.eval y = .agg (cellsB Y).toArray) (b : Bool) (hb : decide (X = Y) = b) (h : wpList Tryd.prog ops Q rest (a.put o.dst (.bool b)) w) : wpList Tryd.prog ops Q (o :: rest) a w := by
  subst hb
  refine wpList_step fun K hK => ?_
  rw [if_pos hw]
  unfold Oper.wp
  simp [execOp, ho, hx, hy, eqGuard, Tryd.eqGuardDigest, binOp, Op.equal, Op.maxDepth, run_same _ X Y hX hY, Result.andThen, Sem.run_bind]
  exact hK _ _ h
end Go.Proofs.YtbhoijnhpmkglabDoor
/- Digests compared, in a region that draws its order. -/
namespace Go.Proofs.YtbhoijnhpmkglabDoor
open Go.RowKit
set_option linter.unusedVariables false
set_option linter.unusedSimpArgs false

theorem yieldsIf_eqD {ops : Array Oper} {S : World → Prop} {o : Oper} {a : Act} (hw : Region.wanted o (yielded ops a.tmps) = true) (x y : Operand) (ho : o.op = .binOp .eql 25 x y 25) (X Y : List UInt8) (hX : X.length = 32) (hY : Y.length = 32)
    (hx : a.eval x = .agg (cellsB X).toArray) (hy : a.eval y = .agg (cellsB Y).toArray) (b : Bool) (hb : decide (X = Y) = b) : YieldsIf Tryd.prog ops S o (.bool b) a := by
  subst hb
  refine .inl ⟨hw, fun w _ => ?_⟩
  simp [execOp, ho, hx, hy, eqGuard, Tryd.eqGuardDigest, binOp, Op.equal, Op.maxDepth, run_same w X Y hX hY, Result.andThen, Sem.run_bind]
theorem yieldsIf_neqD {ops : Array Oper} {S : World → Prop} {o : Oper} {a : Act} (hw : Region.wanted o (yielded ops a.tmps) = true) (x y : Operand) (ho : o.op = .binOp .neq 25 x y 25) (X Y : List UInt8) (hX : X.length = 32) (hY : Y.length = 32)
    (hx : a.eval x = .agg (cellsB X).toArray) (hy : a.eval y = .agg (cellsB Y).toArray) (b : Bool) (hb : (!decide (X = Y)) = b) : YieldsIf Tryd.prog ops S o (.bool b) a := by
  subst hb
  refine .inl ⟨hw, fun w _ => ?_⟩
  simp [execOp, ho, hx, hy, eqGuard, Tryd.eqGuardDigest, binOp, Op.equal, Op.maxDepth, run_same w X Y hX hY, Result.andThen, Sem.run_bind, -decide_not]
/-- A load of an array, guarded or not. -/
theorem wpList_load_midG {P : Program} {ops : Array Oper} {rest : List Oper} {o : Oper} {a : Act} {w : World} {Q : Exit → Act → World → Prop} (hw : Region.wanted o (yielded ops a.tmps) = true) (ty : TypeId) (x : Operand) (ho : o.op = .load ty x)
    (b p : Nat) (hx : a.eval x = .pointer (some ⟨b, p, none⟩)) (cs : List Value) (d : TypeDesc) (hc : w.rangeAt b p cs) (hu : P.underlying ty = some d) (hd : d.isRow = true) (hi : (P.info? ty).map (·.size) = some cs.length)
    (h : wpList P ops Q rest (a.put o.dst (.agg cs.toArray)) w) : wpList P ops Q (o :: rest) a w :=
  wpList_step fun K hK => by rw [if_pos hw]; exact wp_load_mid ty x ho b p hx cs d hc hu hd hi (hK _ _ h)
end Go.Proofs.YtbhoijnhpmkglabDoor
/- Digests in variables: a new variable, a store, a load, with the world that follows named. -/
namespace Go.Proofs.YtbhoijnhpmkglabDoor
open Go.RowKit
set_option linter.unusedVariables false
set_option linter.unusedSimpArgs false

theorem wpList_storeD {ops : Array Oper} {rest : List Oper} {o : Oper} {a : Act} {w : World} {Q : Exit → Act → World → Prop} (hg : o.guard = none) (x y : Operand) (ho : o.op = .store 25 x y)
    (b : Nat) (X : List UInt8) (hx : a.eval x = .pointer (some ⟨b, 0, none⟩)) (hy : a.eval y = .agg (cellsB X).toArray) (hX : X.length = 32) (ht : w.there b 0 32) (w1 : World) (hw : w.setCells b 0 (cellsB X) = w1)
    (h : wpList Tryd.prog ops Q rest (a.put o.dst undef) w1) : wpList Tryd.prog ops Q (o :: rest) a w := by
  subst hw
  exact wpList_store_mid hg 25 x y ho b 0 (cellsB X).toArray hx hy (by rw [cellsB_size, hX]; exact ht) (by rw [cellsB_size, hX]; exact Tryd.sizeDg) (all_oneCell_toArray (cellsB_one _)) h
theorem wpList_loadD {ops : Array Oper} {rest : List Oper} {o : Oper} {a : Act} {w : World} {Q : Exit → Act → World → Prop} (hg : o.guard = none) (x : Operand) (ho : o.op = .load 25 x)
    (b : Nat) (X : List UInt8) (hx : a.eval x = .pointer (some ⟨b, 0, none⟩)) (hX : X.length = 32) (hd : DAt w b 0 X)
    (h : wpList Tryd.prog ops Q rest (a.put o.dst (digestV X)) w) : wpList Tryd.prog ops Q (o :: rest) a w :=
  wpList_load_mid hg 25 x ho b 0 hx (cellsB X) _ hd Tryd.underlying25 (by rfl) (by rw [cellsB_length, hX]; exact Tryd.sizeDg) h
theorem wpList_loadDG {ops : Array Oper} {rest : List Oper} {o : Oper} {a : Act} {w : World} {Q : Exit → Act → World → Prop} (hg : Region.wanted o (yielded ops a.tmps) = true) (x : Operand) (ho : o.op = .load 25 x)
    (b : Nat) (X : List UInt8) (hx : a.eval x = .pointer (some ⟨b, 0, none⟩)) (hX : X.length = 32) (hd : DAt w b 0 X)
    (h : wpList Tryd.prog ops Q rest (a.put o.dst (digestV X)) w) : wpList Tryd.prog ops Q (o :: rest) a w :=
  wpList_load_midG hg 25 x ho b 0 hx (cellsB X) _ hd Tryd.underlying25 (by rfl) (by rw [cellsB_length, hX]; exact Tryd.sizeDg) h
theorem wpList_allocD {ops : Array Oper} {rest : List Oper} {o : Oper} {a : Act} {w : World} {Q : Exit → Act → World → Prop} (hg : o.guard = none) (ho : o.op = .alloc 25) (g : Nat) (hgs : w.heap.size = g) (w1 : World) (hw : w.alloc (.cells (cellsB zD).toArray 25) = w1)
    (h : wpList Tryd.prog ops Q rest (a.put o.dst (.pointer (some ⟨g, 0, none⟩))) w1) : wpList Tryd.prog ops Q (o :: rest) a w :=
  wpList_allocE hg 25 ho (cellsB zD).toArray Tryd.zeroDg g hgs w1 hw h
theorem new_var {w w1 : World} {g : Nat} (hg : w.heap.size = g) (hw : w.alloc (.cells (cellsB zD).toArray 25) = w1) : w1.there g 0 32 ∧ DAt w1 g 0 zD ∧ Below w.heap.size w w1 := by
  subst hw
  refine ⟨alloc_thereAt _ _ _ 32 _ hg zD_size.symm, ?_, (Below.refl _ _).alloc (Nat.le_refl _) _⟩
  rw [← hg]
  exact box_dat w zD _
theorem dat_else {w w1 : World} {g b : Nat} {X Y : List UInt8} (h : DAt w b 0 Y) (hne : b ≠ g) (hw : w.setCells g 0 (cellsB X) = w1) : DAt w1 b 0 Y := by
  subst hw
  exact World.rangeAt_setCells_apart h _ _ _ (.inl hne)
theorem there_else {w w1 : World} {g b : Nat} {X : List UInt8} (h : w.there b 0 32) (hw : w.setCells g 0 (cellsB X) = w1) : w1.there b 0 32 := by
  subst hw
  exact World.there_setCells h _ _ _
theorem dat_put {w w1 : World} {g : Nat} {X : List UInt8} (h : w.there g 0 32) (hX : X.length = 32) (hw : w.setCells g 0 (cellsB X) = w1) : DAt w1 g 0 X := by
  subst hw
  exact dat_stored h hX
theorem below_put {B g : Nat} {w0 w w1 : World} {X : List UInt8} (h : Below B w0 w) (hg : B ≤ g) (hw : w.setCells g 0 (cellsB X) = w1) : Below B w0 w1 := by
  subst hw
  exact below_setCells _ hg _ _ _ h
theorem size_put {w w1 : World} {g : Nat} {X : List UInt8} (hw : w.setCells g 0 (cellsB X) = w1) : w.heap.size ≤ w1.heap.size := by
  subst hw
  exact (below_setCells (B := 0) g (Nat.zero_le _) (cellsB X) 0 w (Below.refl _ _)).size
theorem dat_size {w : World} {g : Nat} {X : List UInt8} (h : DAt w g 0 X) (hX : X.length = 32) : g < w.heap.size := cell_block (h.cell 0 (by omega))
theorem dat_b {w w' : World} {g : Nat} {X : List UInt8} (h : DAt w g 0 X) (hX : X.length = 32) (hb : Below w.heap.size w w') : DAt w' g 0 X := h.below hb (dat_size h hX)
theorem there_b {w w' : World} {g : Nat} (h : w.there g 0 32) (hb : Below w.heap.size w w') : w'.there g 0 32 := there_below h hb (there_block h (by omega))
end Go.Proofs.YtbhoijnhpmkglabDoor
