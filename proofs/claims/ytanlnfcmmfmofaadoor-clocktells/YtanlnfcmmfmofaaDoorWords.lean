/- Arrays of words of 32 bits, as values and in memory. -/
import Derived.Test.YtanlnfcmmfmofaaDoorDigest
import Derived.Test.YtanlnfcmmfmofaaDoorSha
namespace Go.Proofs.YtanlnfcmmfmofaaDoor
open Go.RowKit
set_option linter.unusedVariables false
set_option linter.unusedSimpArgs false

def cellsW (l : List Nat) : List Value := l.map fun (x : Nat) => Value.int .u32 ((x : Nat) : Int)
theorem cellsW_length (l : List Nat) : (cellsW l).length = l.length := by simp [cellsW]
theorem cellsW_at (l : List Nat) (i : Nat) (h : i < l.length) : (cellsW l)[i]? = some (.int .u32 ((at' l i : Nat) : Int)) := by
  unfold cellsW at'
  simp [List.getElem?_eq_getElem h, List.getD_eq_getElem?_getD]
theorem cellsW_one (l : List Nat) : ∀ v ∈ cellsW l, v.oneCell' = true := by
  intro v hv
  obtain ⟨i, _, rfl⟩ := List.mem_map.1 hv
  rfl
theorem cellsW_size (l : List Nat) : (cellsW l).toArray.size = l.length := by
  show (cellsW l).length = _
  exact cellsW_length l
theorem cellsB_size (l : List UInt8) : (cellsB l).toArray.size = l.length := by
  show (cellsB l).length = _
  exact cellsB_length l
/-- Words in memory, from a place of a block on. -/
def WAt (w : World) (b o : Nat) (l : List Nat) : Prop := w.rangeAt b o (cellsW l)
theorem WAt.cell {w : World} {b o : Nat} {l : List Nat} (h : WAt w b o l) (i : Nat) (hi : i < l.length) : w.cell? ⟨b, o + i, none⟩ = some (.int .u32 ((at' l i : Nat) : Int)) := h i _ (cellsW_at l i hi)
theorem WAt.mk {w : World} {b o : Nat} {l : List Nat} (h : ∀ i, i < l.length → w.cell? ⟨b, o + i, none⟩ = some (.int .u32 ((at' l i : Nat) : Int))) : WAt w b o l := by
  intro j v hj
  have hj' : j < l.length := by have := (List.getElem?_eq_some_iff.1 hj).1; rwa [cellsW_length] at this
  rw [h j hj', ← cellsW_at l j hj', hj]
theorem range_below {w w' : World} {b o B : Nat} {cs : List Value} (h : w.rangeAt b o cs) (hb : Below B w w') (hlt : b < B) : w'.rangeAt b o cs := by
  intro j v hj
  rw [hb.cell (p := ⟨b, o + j, none⟩) hlt]
  exact h j v hj
theorem range_set {w : World} {b o : Nat} {cs : List Value} (h : w.rangeAt b o cs) (g j : Nat) (v : Value) (hne : b ≠ g) : (w.setCell ⟨g, j, none⟩ v).rangeAt b o cs := World.rangeAt_setCells_apart h g j [v] (.inl hne)
/-- What a parameter was boxed with. -/
theorem box_range (w : World) (cs : List Value) (t : TypeId) : (w.alloc (.cells cs.toArray t)).rangeAt w.heap.size 0 cs := by
  intro j v hj
  have h : (w.alloc (.cells cs.toArray t)).heap[w.heap.size]? = some (.cells cs.toArray t) := by
    show (w.heap.push _)[w.heap.size]? = _
    simp
  unfold World.cell?
  rw [h]
  simpa using hj
theorem box_rangeAt (w : World) (cs : List Value) (t : TypeId) (g : Nat) (hg : w.heap.size = g) : (w.alloc (.cells cs.toArray t)).rangeAt g 0 cs := by
  subst hg
  exact box_range w cs t
theorem alloc_range (w : World) (cs : Array Value) (t : TypeId) : (w.alloc (.cells cs t)).rangeAt w.heap.size 0 cs.toList := by
  have := box_range w cs.toList t
  simpa using this
theorem alloc_there (w : World) (cs : Array Value) (t : TypeId) (n : Nat) (hn : n ≤ cs.size) : (w.alloc (.cells cs t)).there w.heap.size 0 n := by
  intro j hj
  have h : (w.alloc (.cells cs t)).heap[w.heap.size]? = some (.cells cs t) := by
    show (w.heap.push _)[w.heap.size]? = _
    simp
  refine ⟨?_, ?_⟩
  · rw [alloc_range w cs t j cs[j] (by simp)]
    rfl
  · unfold World.frozen?
    rw [h]
    simp
/-- A new row of n numbers. -/
theorem OwnK.new {k : IntKind} (w : World) (cs : Array Value) (t : TypeId) (n : Nat) (hn : n ≤ 100000) (f : Nat → Int) (h : cs.toList = (List.range n).map fun i => Value.int k (f i)) :
    OwnK k t (w.alloc (.cells cs t)) w.heap.size w.heap.size n n f := by
  have hs : cs.size = n := by rw [← Array.length_toList, h]; simp
  have := World.ownsRow_lit (e := t) (base := w.heap.size) (size := 1) w cs n (Nat.le_refl _) (by unfold maxLen; omega) (by omega)
  rw [h] at this
  exact this
theorem OwnK.newAt {k : IntKind} (w : World) (cs : Array Value) (t : TypeId) (n : Nat) (hn : n ≤ 100000) (f : Nat → Int) (g : Nat) (hg : w.heap.size = g) (h : cs.toList = (List.range n).map fun i => Value.int k (f i)) :
    OwnK k t (w.alloc (.cells cs t)) g g n n f := by
  subst hg
  exact OwnK.new w cs t n hn f h
theorem alloc_thereAt (w : World) (cs : Array Value) (t : TypeId) (n g : Nat) (hg : w.heap.size = g) (hn : n = cs.size) : (w.alloc (.cells cs t)).there g 0 n := by
  subst hg
  exact alloc_there w cs t n (Nat.le_of_eq hn)
theorem OwnK.wat {t : TypeId} {w : World} {B g n cap : Nat} {f : Nat → Int} {l : List Nat} (h : OwnK .u32 t w B g n cap f) (hl : l.length = n) (he : ∀ i, i < n → f i = ((at' l i : Nat) : Int)) : WAt w g 0 l :=
  WAt.mk fun i hi => by rw [Nat.zero_add, h.cell i (by omega), he i (by omega)]
theorem OwnK.bat {t : TypeId} {w : World} {B g n cap : Nat} {f : Nat → Int} {l : List UInt8} (h : OwnK .u8 t w B g n cap f) (hl : l.length = n) (he : ∀ i, i < n → f i = nth l i) : DAt w g 0 l :=
  DAt.mk fun i hi => by rw [Nat.zero_add, h.cell i (by omega), he i (by omega)]
/-- An answer that lies in a variable. -/
theorem run_results_row {P : Program} {fn : Func} {p : Tmp} {ty : TypeId} (h : fn.results = #[.cell p ty]) (tmps : Array Value) (w : World) (b o : Nat) (hp : tmps.getD p undef = .pointer (some ⟨b, o, none⟩))
    (cs : List Value) (hc : w.rangeAt b o cs) (d : TypeDesc) (hu : P.underlying ty = some d) (hd : d.isRow = true) (hi : (P.info? ty).map (·.size) = some cs.length) :
    (results fn tmps).run P w = .ok (.agg cs.toArray) w := by
  have hp' : tmps[p]?.getD undef = .pointer (some ⟨b, o, none⟩) := by simpa using hp
  simp only [results, h]
  simp [Sem.run_bind, Result.andThen, hp', asAddr, run_loadVar_mid w b o ty cs d hc hu hd hi]
/-- A place of an array as a value. -/
theorem run_index_int {P : Program} (w : World) (t e : TypeId) (n : Nat) (k : IntKind) (i0 : TypeInfo) (cs : Array Value) (i : Nat) (v : Value) (hn : i < n) (ht : P.underlying t = some (.array n e)) (he : P.underlying e = some (.int k)) (hi : P.info? e = some i0) (hs : i0.size = 1) (hv : cs[i]? = some v) :
    (Instr.index t (.agg cs) (.int .i64 (i : Int))).run P w = .ok v w := by
  have h1 : (0 : Int) ≤ (i : Int) ∧ (i : Int) < (n : Int) := by omega
  simp [Instr.index, asIntOf, run_underlying ht, sizeOf, typeInfo, hi, hs, part, isAgg, run_underlying he, Result.andThen, h1, hv, hn, Sem.run_bind]
/-- A literal of an array or a struct, whose cells are told. -/
theorem wpList_buildC {P : Program} {ops : Array Oper} {rest : List Oper} {o : Oper} {a : Act} {w : World} {Q : Exit → Act → World → Prop} (hg : o.guard = none) (t : TypeId) (parts : Array (Nat × Operand)) (ho : o.op = .build t parts) (cells : Array Value)
    (hf : P.built t (parts.map fun (i, x) => (i, a.eval x)).toList = some cells)
    (h : wpList P ops Q rest (a.put o.dst (.agg cells)) w) : wpList P ops Q (o :: rest) a w :=
  wpList_build hg t parts ho (by rw [hf]; rfl) (by rw [hf]; exact h)
theorem wpList_buildE {P : Program} {ops : Array Oper} {rest : List Oper} {o : Oper} {a : Act} {w : World} {Q : Exit → Act → World → Prop} (hg : o.guard = none) (t : TypeId) (parts : Array (Nat × Operand)) (ho : o.op = .build t parts) (cells cells' : Array Value) (he : cells = cells')
    (hf : P.built t (parts.map fun (i, x) => (i, a.eval x)).toList = some cells)
    (h : wpList P ops Q rest (a.put o.dst (.agg cells')) w) : wpList P ops Q (o :: rest) a w := by
  subst he
  exact wpList_buildC hg t parts ho cells hf h
/-- A new variable, whose cells are told. -/
theorem wpList_allocE {P : Program} {ops : Array Oper} {rest : List Oper} {o : Oper} {a : Act} {w : World} {Q : Exit → Act → World → Prop} (hg : o.guard = none) (t : TypeId) (ho : o.op = .alloc t) (cells : Array Value) (hz : (P.info? t).map (·.zero) = some (some (.agg cells))) (g : Nat) (hgs : w.heap.size = g) (w1 : World) (hw : w.alloc (.cells cells t) = w1)
    (h : wpList P ops Q rest (a.put o.dst (.pointer (some ⟨g, 0, none⟩))) w1) : wpList P ops Q (o :: rest) a w := by
  subst hw hgs
  refine wpList_plain hg fun K hK => ?_
  have hK := hK _ _ h
  cases hi : P.info? t with
  | none => simp [hi] at hz
  | some i =>
    have hz' : i.zero = some (.agg cells) := by simpa [hi] using hz
    unfold Oper.wp
    simp [execOp, ho, Instr.alloc, zeroValue, typeInfo, hi, hz', newVar, newRow, newObj, Value.cells, Result.andThen, Sem.run_bind]
    exact hK
end Go.Proofs.YtanlnfcmmfmofaaDoor
