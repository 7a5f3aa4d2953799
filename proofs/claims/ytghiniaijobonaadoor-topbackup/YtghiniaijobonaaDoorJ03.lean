/- Texts of this claim, joined: Digest, Words, Wspread, Wafter. -/
import Derived.Test.YtghiniaijobonaaDoorJ02
import Derived.Deep.MidRow
import Derived.Deep.QuietTactic
import Derived.BigQuiet
import Derived.BigRegion
/- Digests: arrays of 32 bytes, as values and in memory. -/
namespace Go.Proofs.YtghiniaijobonaaDoor
open Go.RowKit
set_option linter.unusedVariables false
set_option linter.unusedSimpArgs false

/-- A digest as a value. -/
abbrev digestV (l : List UInt8) : Value := .agg (cellsB l).toArray
theorem cells32 {l : List UInt8} (h : l.length = 32) : (cellsB l).toArray.size = 32 := by
  have : (cellsB l).toArray.size = (cellsB l).length := rfl
  rw [this, cellsB_length, h]
/-- A digest in memory, from a place of a block on. -/
def DAt (w : World) (b o : Nat) (l : List UInt8) : Prop := w.rangeAt b o (cellsB l)
theorem DAt.cell {w : World} {b o : Nat} {l : List UInt8} (h : DAt w b o l) (i : Nat) (hi : i < l.length) : w.cell? ⟨b, o + i, none⟩ = some (.int .u8 (nth l i)) := h i _ (cellsB_at l i hi)
theorem DAt.mk {w : World} {b o : Nat} {l : List UInt8} (h : ∀ i, i < l.length → w.cell? ⟨b, o + i, none⟩ = some (.int .u8 (nth l i))) : DAt w b o l := by
  intro j v hj
  have hj' : j < l.length := by have := (List.getElem?_eq_some_iff.1 hj).1; rwa [cellsB_length] at this
  rw [h j hj', ← cellsB_at l j hj', hj]
theorem DAt.below {w w' : World} {b o B : Nat} {l : List UInt8} (h : DAt w b o l) (hb : Below B w w') (hlt : b < B) : DAt w' b o l := by
  intro j v hj
  rw [hb.cell (p := ⟨b, o + j, none⟩) hlt]
  exact h j v hj
theorem run_results_digest {P : Program} {fn : Func} {p : Tmp} {ty : TypeId} (h : fn.results = #[.cell p ty]) (tmps : Array Value) (w : World) (b o : Nat) (hp : tmps.getD p undef = .pointer (some ⟨b, o, none⟩))
    (l : List UInt8) (hc : DAt w b o l) (d : TypeDesc) (hu : P.underlying ty = some d) (hd : d.isRow = true) (hi : (P.info? ty).map (·.size) = some l.length) :
    (results fn tmps).run P w = .ok (digestV l) w := by
  have hp' : tmps[p]?.getD undef = .pointer (some ⟨b, o, none⟩) := by simpa using hp
  simp only [results, h]
  simp [Sem.run_bind, Result.andThen, hp', asAddr, run_loadVar_mid w b o ty (cellsB l) d hc hu hd (by rw [hi, cellsB_length])]
/-- A new digest variable. -/
def zeros32 : Array Value := #[.int .u8 0, .int .u8 0, .int .u8 0, .int .u8 0, .int .u8 0, .int .u8 0, .int .u8 0, .int .u8 0, .int .u8 0, .int .u8 0, .int .u8 0, .int .u8 0, .int .u8 0, .int .u8 0, .int .u8 0, .int .u8 0, .int .u8 0, .int .u8 0, .int .u8 0, .int .u8 0, .int .u8 0, .int .u8 0, .int .u8 0, .int .u8 0, .int .u8 0, .int .u8 0, .int .u8 0, .int .u8 0, .int .u8 0, .int .u8 0, .int .u8 0, .int .u8 0]
theorem OwnK.zero32 (w : World) (t : TypeId) : OwnK .u8 t (w.alloc (.cells #[.int .u8 0, .int .u8 0, .int .u8 0, .int .u8 0, .int .u8 0, .int .u8 0, .int .u8 0, .int .u8 0, .int .u8 0, .int .u8 0, .int .u8 0, .int .u8 0, .int .u8 0, .int .u8 0, .int .u8 0, .int .u8 0, .int .u8 0, .int .u8 0, .int .u8 0, .int .u8 0, .int .u8 0, .int .u8 0, .int .u8 0, .int .u8 0, .int .u8 0, .int .u8 0, .int .u8 0, .int .u8 0, .int .u8 0, .int .u8 0, .int .u8 0, .int .u8 0] t)) w.heap.size w.heap.size 32 32 (fun _ => 0) :=
  World.ownsRow_lit w zeros32 32 (Nat.le_refl _) (by unfold maxLen; omega) rfl
theorem OwnK.dat {t : TypeId} {w : World} {B g : Nat} {f : Nat → Int} {l : List UInt8} (h : OwnK .u8 t w B g 32 32 f) (hl : l.length = 32) (he : ∀ i, i < 32 → f i = nth l i) : DAt w g 0 l :=
  DAt.mk fun i hi => by rw [Nat.zero_add, h.cell i (by omega), he i (by omega)]
theorem below_setCells {B : Nat} {w0 : World} (b : Nat) (hb : B ≤ b) : ∀ (vs : List Value) (o : Nat) (w : World), Below B w0 w → Below B w0 (w.setCells b o vs)
  | [], _, _, h => h
  | v :: r, o, w, h => by
    rw [World.setCells]
    exact below_setCells b hb r (o + 1) _ (h.setCell hb _)
/-- The cells of a new digest variable are there, as long as nothing turns its block. -/
theorem there_digest {w w' : World} {t : TypeId} (h : Below (w.heap.size + 1) (w.alloc (.cells #[.int .u8 0, .int .u8 0, .int .u8 0, .int .u8 0, .int .u8 0, .int .u8 0, .int .u8 0, .int .u8 0, .int .u8 0, .int .u8 0, .int .u8 0, .int .u8 0, .int .u8 0, .int .u8 0, .int .u8 0, .int .u8 0, .int .u8 0, .int .u8 0, .int .u8 0, .int .u8 0, .int .u8 0, .int .u8 0, .int .u8 0, .int .u8 0, .int .u8 0, .int .u8 0, .int .u8 0, .int .u8 0, .int .u8 0, .int .u8 0, .int .u8 0, .int .u8 0] t)) w') : w'.there w.heap.size 0 32 := by
  intro j hj
  have o := OwnK.zero32 w t
  rw [Nat.zero_add, h.cell (p := ⟨w.heap.size, j, none⟩) (Nat.lt_succ_self _), h.frozen (p := ⟨w.heap.size, j, none⟩) (Nat.lt_succ_self _), o.cell j hj, o.frozen j]
  exact ⟨rfl, rfl⟩
theorem there_new (w : World) (t : TypeId) : (w.alloc (.cells #[.int .u8 0, .int .u8 0, .int .u8 0, .int .u8 0, .int .u8 0, .int .u8 0, .int .u8 0, .int .u8 0, .int .u8 0, .int .u8 0, .int .u8 0, .int .u8 0, .int .u8 0, .int .u8 0, .int .u8 0, .int .u8 0, .int .u8 0, .int .u8 0, .int .u8 0, .int .u8 0, .int .u8 0, .int .u8 0, .int .u8 0, .int .u8 0, .int .u8 0, .int .u8 0, .int .u8 0, .int .u8 0, .int .u8 0, .int .u8 0, .int .u8 0, .int .u8 0] t)).there w.heap.size 0 32 := there_digest (Below.refl _ _)
theorem dat_stored {w : World} {b o : Nat} {l : List UInt8} (ht : w.there b o 32) (hl : l.length = 32) : DAt (w.setCells b o (cellsB l)) b o l :=
  World.rangeAt_setCells_same _ _ _ _ (by rw [cellsB_length, hl]; exact ht)
theorem DAt.row {w : World} {b o : Nat} {l : List UInt8} (h : DAt w b o l) (hl : l.length = 32) : Row w (some ⟨b, o, none⟩) 32 l :=
  ⟨hl, .inr ⟨b, o, rfl, fun i hi => h.cell i (by omega)⟩⟩
theorem new_stored (w : World) (ob : Obj) (vs : List Value) : Below w.heap.size w ((w.alloc ob).setCells w.heap.size 0 vs) := below_setCells _ (Nat.le_refl _) _ _ _ ((Below.refl _ _).alloc (Nat.le_refl _) _)
/-- A digest that a parameter was boxed with. -/
theorem box_dat (w : World) (l : List UInt8) (t : TypeId) : DAt (w.alloc (.cells (cellsB l).toArray t)) w.heap.size 0 l := by
  refine DAt.mk fun i hi => ?_
  have h : (w.alloc (.cells (cellsB l).toArray t)).heap[w.heap.size]? = some (.cells (cellsB l).toArray t) := by
    show (w.heap.push _)[w.heap.size]? = _
    simp
  unfold World.cell?
  rw [h]
  have := cellsB_at l i hi
  simpa using this
theorem box_there (w : World) (l : List UInt8) (t : TypeId) (hl : l.length = 32) : (w.alloc (.cells (cellsB l).toArray t)).there w.heap.size 0 32 := by
  intro j hj
  refine ⟨by rw [(box_dat w l t).cell j (by omega)]; rfl, ?_⟩
  have h : (w.alloc (.cells (cellsB l).toArray t)).heap[w.heap.size]? = some (.cells (cellsB l).toArray t) := by
    show (w.heap.push _)[w.heap.size]? = _
    simp
  unfold World.frozen?
  rw [h]
  simp
theorem there_below {w w' : World} {B b o n : Nat} (h : w.there b o n) (hb : Below B w w') (hlt : b < B) : w'.there b o n := by
  intro j hj
  rw [hb.cell (p := ⟨b, o + j, none⟩) hlt, hb.frozen (p := ⟨b, o + j, none⟩) hlt]
  exact h j hj
end Go.Proofs.YtghiniaijobonaaDoor
/- Arrays of words of 32 bits, as values and in memory. -/
namespace Go.Proofs.YtghiniaijobonaaDoor
open Go.RowKit
set_option linter.unusedVariables false
set_option linter.unusedSimpArgs false

def cellsW (l : List Nat) : List Value := l.map fun (x : Nat) => Value.int .u32 ((x : Nat) : Int)
theorem cellsW_length (l : List Nat) : (cellsW l).length = l.length := by simp [cellsW]
theorem cellsW_at (l : List Nat) (i : Nat) (h : i < l.length) : (cellsW l)[i]? = some (.int .u32 ((at' l i : Nat) : Int)) := by
  unfold cellsW at'
  simp [List.getElem?_eq_getElem h, List.getD_eq_getElem?_getD]
theorem cellsW_one (l : List Nat) : ∀ v ∈ cellsW l, v.oneCell' = true := by
  intro v hv
  obtain ⟨i, _, rfl⟩ := List.mem_map.1 hv
  rfl
theorem cellsW_size (l : List Nat) : (cellsW l).toArray.size = l.length := by
  show (cellsW l).length = _
  exact cellsW_length l
theorem cellsB_size (l : List UInt8) : (cellsB l).toArray.size = l.length := by
  show (cellsB l).length = _
  exact cellsB_length l
/-- Words in memory, from a place of a block on. -/
def WAt (w : World) (b o : Nat) (l : List Nat) : Prop := w.rangeAt b o (cellsW l)
theorem WAt.cell {w : World} {b o : Nat} {l : List Nat} (h : WAt w b o l) (i : Nat) (hi : i < l.length) : w.cell? ⟨b, o + i, none⟩ = some (.int .u32 ((at' l i : Nat) : Int)) := h i _ (cellsW_at l i hi)
theorem WAt.mk {w : World} {b o : Nat} {l : List Nat} (h : ∀ i, i < l.length → w.cell? ⟨b, o + i, none⟩ = some (.int .u32 ((at' l i : Nat) : Int))) : WAt w b o l := by
  intro j v hj
  have hj' : j < l.length := by have := (List.getElem?_eq_some_iff.1 hj).1; rwa [cellsW_length] at this
  rw [h j hj', ← cellsW_at l j hj', hj]
theorem range_below {w w' : World} {b o B : Nat} {cs : List Value} (h : w.rangeAt b o cs) (hb : Below B w w') (hlt : b < B) : w'.rangeAt b o cs := by
  intro j v hj
  rw [hb.cell (p := ⟨b, o + j, none⟩) hlt]
  exact h j v hj
theorem range_set {w : World} {b o : Nat} {cs : List Value} (h : w.rangeAt b o cs) (g j : Nat) (v : Value) (hne : b ≠ g) : (w.setCell ⟨g, j, none⟩ v).rangeAt b o cs := World.rangeAt_setCells_apart h g j [v] (.inl hne)
/-- What a parameter was boxed with. -/
theorem box_range (w : World) (cs : List Value) (t : TypeId) : (w.alloc (.cells cs.toArray t)).rangeAt w.heap.size 0 cs := by
  intro j v hj
  have h : (w.alloc (.cells cs.toArray t)).heap[w.heap.size]? = some (.cells cs.toArray t) := by
    show (w.heap.push _)[w.heap.size]? = _
    simp
  unfold World.cell?
  rw [h]
  simpa using hj
theorem box_rangeAt (w : World) (cs : List Value) (t : TypeId) (g : Nat) (hg : w.heap.size = g) : (w.alloc (.cells cs.toArray t)).rangeAt g 0 cs := by
  subst hg
  exact box_range w cs t
theorem alloc_range (w : World) (cs : Array Value) (t : TypeId) : (w.alloc (.cells cs t)).rangeAt w.heap.size 0 cs.toList := by
  have := box_range w cs.toList t
  simpa using this
theorem alloc_there (w : World) (cs : Array Value) (t : TypeId) (n : Nat) (hn : n ≤ cs.size) : (w.alloc (.cells cs t)).there w.heap.size 0 n := by
  intro j hj
  have h : (w.alloc (.cells cs t)).heap[w.heap.size]? = some (.cells cs t) := by
    show (w.heap.push _)[w.heap.size]? = _
    simp
  refine ⟨?_, ?_⟩
  · rw [alloc_range w cs t j cs[j] (by simp)]
    rfl
  · unfold World.frozen?
    rw [h]
    simp
/-- A new row of n numbers. -/
theorem OwnK.new {k : IntKind} (w : World) (cs : Array Value) (t : TypeId) (n : Nat) (hn : n ≤ 100000) (f : Nat → Int) (h : cs.toList = (List.range n).map fun i => Value.int k (f i)) :
    OwnK k t (w.alloc (.cells cs t)) w.heap.size w.heap.size n n f := by
  have hs : cs.size = n := by rw [← Array.length_toList, h]; simp
  have := World.ownsRow_lit (e := t) (base := w.heap.size) (size := 1) w cs n (Nat.le_refl _) (by unfold maxLen; omega) (by omega)
  rw [h] at this
  exact this
theorem OwnK.newAt {k : IntKind} (w : World) (cs : Array Value) (t : TypeId) (n : Nat) (hn : n ≤ 100000) (f : Nat → Int) (g : Nat) (hg : w.heap.size = g) (h : cs.toList = (List.range n).map fun i => Value.int k (f i)) :
    OwnK k t (w.alloc (.cells cs t)) g g n n f := by
  subst hg
  exact OwnK.new w cs t n hn f h
theorem alloc_thereAt (w : World) (cs : Array Value) (t : TypeId) (n g : Nat) (hg : w.heap.size = g) (hn : n = cs.size) : (w.alloc (.cells cs t)).there g 0 n := by
  subst hg
  exact alloc_there w cs t n (Nat.le_of_eq hn)
theorem OwnK.wat {t : TypeId} {w : World} {B g n cap : Nat} {f : Nat → Int} {l : List Nat} (h : OwnK .u32 t w B g n cap f) (hl : l.length = n) (he : ∀ i, i < n → f i = ((at' l i : Nat) : Int)) : WAt w g 0 l :=
  WAt.mk fun i hi => by rw [Nat.zero_add, h.cell i (by omega), he i (by omega)]
theorem OwnK.bat {t : TypeId} {w : World} {B g n cap : Nat} {f : Nat → Int} {l : List UInt8} (h : OwnK .u8 t w B g n cap f) (hl : l.length = n) (he : ∀ i, i < n → f i = nth l i) : DAt w g 0 l :=
  DAt.mk fun i hi => by rw [Nat.zero_add, h.cell i (by omega), he i (by omega)]
/-- An answer that lies in a variable. -/
theorem run_results_row {P : Program} {fn : Func} {p : Tmp} {ty : TypeId} (h : fn.results = #[.cell p ty]) (tmps : Array Value) (w : World) (b o : Nat) (hp : tmps.getD p undef = .pointer (some ⟨b, o, none⟩))
    (cs : List Value) (hc : w.rangeAt b o cs) (d : TypeDesc) (hu : P.underlying ty = some d) (hd : d.isRow = true) (hi : (P.info? ty).map (·.size) = some cs.length) :
    (results fn tmps).run P w = .ok (.agg cs.toArray) w := by
  have hp' : tmps[p]?.getD undef = .pointer (some ⟨b, o, none⟩) := by simpa using hp
  simp only [results, h]
  simp [Sem.run_bind, Result.andThen, hp', asAddr, run_loadVar_mid w b o ty cs d hc hu hd hi]
/-- A place of an array as a value. -/
theorem run_index_int {P : Program} (w : World) (t e : TypeId) (n : Nat) (k : IntKind) (i0 : TypeInfo) (cs : Array Value) (i : Nat) (v : Value) (hn : i < n) (ht : P.underlying t = some (.array n e)) (he : P.underlying e = some (.int k)) (hi : P.info? e = some i0) (hs : i0.size = 1) (hv : cs[i]? = some v) :
    (Instr.index t (.agg cs) (.int .i64 (i : Int))).run P w = .ok v w := by
  have h1 : (0 : Int) ≤ (i : Int) ∧ (i : Int) < (n : Int) := by omega
  simp [Instr.index, asIntOf, run_underlying ht, sizeOf, typeInfo, hi, hs, part, isAgg, run_underlying he, Result.andThen, h1, hv, hn, Sem.run_bind]
/-- A literal of an array or a struct, whose cells are told. -/
theorem wpList_buildC {P : Program} {ops : Array Oper} {rest : List Oper} {o : Oper} {a : Act} {w : World} {Q : Exit → Act → World → Prop} (hg : o.guard = none) (t : TypeId) (parts : Array (Nat × Operand)) (ho : o.op = .build t parts) (cells : Array Value)
    (hf : P.built t (parts.map fun (i, x) => (i, a.eval x)).toList = some cells)
    (h : wpList P ops Q rest (a.put o.dst (.agg cells)) w) : wpList P ops Q (o :: rest) a w :=
  wpList_build hg t parts ho (by rw [hf]; rfl) (by rw [hf]; exact h)
theorem wpList_buildE {P : Program} {ops : Array Oper} {rest : List Oper} {o : Oper} {a : Act} {w : World} {Q : Exit → Act → World → Prop} (hg : o.guard = none) (t : TypeId) (parts : Array (Nat × Operand)) (ho : o.op = .build t parts) (cells cells' : Array Value) (he : cells = cells')
    (hf : P.built t (parts.map fun (i, x) => (i, a.eval x)).toList = some cells)
    (h : wpList P ops Q rest (a.put o.dst (.agg cells')) w) : wpList P ops Q (o :: rest) a w := by
  subst he
  exact wpList_buildC hg t parts ho cells hf h
/-- A new variable, whose cells are told. -/
theorem wpList_allocE {P : Program} {ops : Array Oper} {rest : List Oper} {o : Oper} {a : Act} {w : World} {Q : Exit → Act → World → Prop} (hg : o.guard = none) (t : TypeId) (ho : o.op = .alloc t) (cells : Array Value) (hz : (P.info? t).map (·.zero) = some (some (.agg cells))) (g : Nat) (hgs : w.heap.size = g) (w1 : World) (hw : w.alloc (.cells cells t) = w1)
    (h : wpList P ops Q rest (a.put o.dst (.pointer (some ⟨g, 0, none⟩))) w1) : wpList P ops Q (o :: rest) a w := by
  subst hw hgs
  refine wpList_plain hg fun K hK => ?_
  have hK := hK _ _ h
  cases hi : P.info? t with
  | none => simp [hi] at hz
  | some i =>
    have hz' : i.zero = some (.agg cells) := by simpa [hi] using hz
    unfold Oper.wp
    simp [execOp, ho, Instr.alloc, zeroValue, typeInfo, hi, hz', newVar, newRow, newObj, Value.cells, Result.andThen, Sem.run_bind]
    exact hK
end Go.Proofs.YtghiniaijobonaaDoor
/- The contract of sha.spread: a word for each round. -/
namespace Go.Proofs.YtghiniaijobonaaDoor
open Go.RowKit
set_option linter.unusedVariables false
set_option linter.unusedSimpArgs false

theorem Tryd.infoW8 : (Tryd.prog.info? 5).map (fun i => (i.zero, i.size, i.bytes)) = some (some (.int .u8 0), 1, 1) := by kernel_rfl

/-- The number of k bytes from s on. -/
def beTo (m : List UInt8) (s : Nat) : Nat → Nat
  | 0 => 0
  | k + 1 => beTo m s k * 256 + (m.getD (s + k) 0).toNat
theorem beTo_lt (m : List UInt8) (s : Nat) : ∀ k, beTo m s k < 256 ^ k
  | 0 => by simp [beTo]
  | k + 1 => by
    have h := beTo_lt m s k
    have b := (m.getD (s + k) 0).toNat_lt
    rw [beTo, Nat.pow_succ]
    omega
theorem beTo_word (m : List UInt8) (t : Nat) : beTo m (4 * t) 4 = wordB m t := by
  simp only [beTo, wordB, Nat.add_zero]
  omega
/-- Word q when i bytes were taken. -/
def pwTo (m : List UInt8) (i q : Nat) : Nat := beTo m (4 * q) (min (i - 4 * q) 4)
theorem pwTo_zero (m : List UInt8) (q : Nat) : pwTo m 0 q = 0 := by simp [pwTo, beTo]
theorem pwTo_end (m : List UInt8) (q : Nat) (h : q < 16) : pwTo m 64 q = wordB m q := by
  unfold pwTo
  rw [show min (64 - 4 * q) 4 = 4 by omega, beTo_word]
theorem pwTo_other (m : List UInt8) (i q : Nat) (h : q ≠ i / 4) : pwTo m (i + 1) q = pwTo m i q := by
  unfold pwTo
  congr 1
  omega
theorem pwTo_same (m : List UInt8) (i : Nat) : pwTo m (i + 1) (i / 4) = pwTo m i (i / 4) * 256 + (m.getD i 0).toNat ∧ pwTo m i (i / 4) < 16777216 := by
  unfold pwTo
  have e1 : min (i + 1 - 4 * (i / 4)) 4 = i % 4 + 1 := by omega
  have e2 : min (i - 4 * (i / 4)) 4 = i % 4 := by omega
  have e3 : 4 * (i / 4) + i % 4 = i := by omega
  rw [e1, e2, beTo, e3]
  refine ⟨rfl, Nat.lt_of_lt_of_le (beTo_lt m _ _) ?_⟩
  have : (256 : Nat) ^ (i % 4) ≤ 256 ^ 3 := Nat.pow_le_pow_right (by omega) (by omega)
  omega

theorem there_set {w : World} {b o n : Nat} (h : w.there b o n) (g j : Nat) (v : Value) : (w.setCell ⟨g, j, none⟩ v).there b o n := World.there_setCells h g j [v]

theorem shl8_or (x : Nat) (b : UInt8) (h : x < 16777216) : bits BinOp.or IntKind.u32 ((x : Int) * 256 % 4294967296) ((b.toNat : Nat) : Int) = ((x * 256 + b.toNat : Nat) : Int) := by
  have hb := b.toNat_lt
  have e : (x : Int) * 256 % 4294967296 = ((x * 256 : Nat) : Int) := by omega
  rw [e, u32_or_nat _ _ (by omega) (by omega)]
  have : x * 256 ||| b.toNat = x * 256 + b.toNat := by
    have := Nat.two_pow_add_eq_or_of_lt (i := 8) (b := b.toNat) (by omega) x
    rw [show (2 : Nat) ^ 8 * x = x * 256 by omega] at this
    exact this.symm
  rw [this]

/-- What the words that 64 bytes are spread to keep. -/
def WSpread (m : List UInt8) (W : List Nat) : Prop := Fit W ∧ W.length = 64 ∧ ∀ t, t < 64 → at' W t = if t < 16 then wordB m t else (ss1 (at' W (t - 2)) + at' W (t - 7) + ss0 (at' W (t - 15)) + at' W (t - 16)) % 4294967296
theorem wspread_wTo (m : List UInt8) : WSpread m (wTo m 64) := ⟨fit_wTo m 64, wTo_length m 64, fun t h => wTo_rec m t h⟩

set_option maxRecDepth 100000 in
set_option maxHeartbeats 1000000 in
theorem wspread_core (W : List Nat) (m : List UInt8) (w : World) (hl : m.length = 64) (hW : WSpread m W) :
    Calls Tryd.prog 69 #[.agg (cellsB m).toArray] w fun e w' => e = .returned (.agg (cellsW W).toArray) ∧ Below w.heap.size w w' := by
  obtain ⟨i8, hi8, _, hs8, _⟩ := info_parts Tryd.infoW8
  go_enter Tryd.func69, Tryd.ntmps69
  go_wp2_with (refine wpList_load_mid (by rfl) 98 (.tmp 1) (by rfl) w.heap.size 0 (by rfl) (cellsB m) _ (World.rangeAt_alloc (World.rangeAt_alloc (box_range w (cellsB m) _) _) _) Tryd.underlying98 (by rfl) (by rw [cellsB_length, hl]; kernel_rfl) ?_)
  go_loopw [12] (fun i wr => ∃ t : Nat, t ≤ 64 ∧ i = .int .i64 (t : Int) ∧ OwnK .u32 120 wr (w.heap.size + 1 + 1) (w.heap.size + 1 + 1) 64 64 (fun q => ((pwTo m t q : Nat) : Int)) ∧ wr.there (w.heap.size + 1) 0 64 ∧ Below w.heap.size w wr) (fun i _ => 64 - (intOf i).toNat)
  case atStart =>
    refine ⟨0, Nat.zero_le _, rfl, ?_, ?_, ?_⟩
    · refine OwnK.congr (f := fun _ => 0) ?_ (fun i hi => by rw [pwTo_zero]; rfl)
      refine OwnK.newAt _ _ 120 64 (by omega) (fun _ => 0) _ (by simp) ?_
      kernel_rfl
    · refine World.there_alloc (alloc_thereAt _ _ _ 64 _ (by simp) ?_) _
      kernel_rfl
    · exact (((Below.refl _ _).alloc (Nat.le_refl _) _).alloc (by simp) _).alloc (by simp; omega) _
  case round =>
    obtain ⟨t, ht, rfl, hO, hT, hB⟩ := hrel
    by_cases hlt : t < 64
    · have hq := hO.cell (t / 4) (by omega)
      have hz := hO.frozen (t / 4)
      have hx : ∀ w : World, (Instr.index 98 (.agg (cellsB m).toArray) (.int .i64 (t : Int))).run Tryd.prog w = .ok (.int .u8 (nth m t)) w := fun w => run_index_int w _ _ 64 .u8 i8 _ t _ hlt Tryd.underlying98 Tryd.underlying5 hi8 hs8 (by simpa using cellsB_at m t (by omega))
      have hn := nth_bd m t
      have HO : Hid (OwnK .u32 120 wr (w.heap.size + 1 + 1) (w.heap.size + 1 + 1) 64 64 (fun q => ((pwTo m t q : Nat) : Int))) := hO
      have HT : Hid (wr.there (w.heap.size + 1) 0 64) := hT
      clear hO hT
      go_wp2_with fail
      go_roundw
      case rel =>
        refine ⟨t + 1, by omega, by go_num, (OwnK.store HO.out (t / 4) _).congr fun q hq => ?_, there_set HT.out _ _ _, hB.setCell (by show w.heap.size ≤ w.heap.size + 1 + 1; omega) _⟩
        by_cases hqt : q = t / 4
        · subst hqt
          rw [if_pos rfl]
          obtain ⟨e1, e2⟩ := pwTo_same m t
          rw [e1]
          exact shl8_or _ _ e2
        · rw [if_neg hqt, pwTo_other m t q hqt]
      case measure => simp [intOf]; omega
    · obtain rfl : t = 64 := by omega
      have hO2 : OwnK .u32 120 wr (w.heap.size + 1 + 1) (w.heap.size + 1 + 1) 64 64 (fun q => if q < 16 then ((at' W q : Nat) : Int) else 0) := hO.congr fun q hq => by
        by_cases h16 : q < 16
        · rw [if_pos h16, pwTo_end m q h16, hW.2.2 q hq, if_pos h16]
        · rw [if_neg h16]
          unfold pwTo
          rw [show min (64 - 4 * q) 4 = 0 by omega]
          rfl
      clear hO
      go_wp2_with fail
      go_loopw [6] (fun i wr => ∃ t : Nat, 16 ≤ t ∧ t ≤ 64 ∧ i = .int .i64 (t : Int) ∧ OwnK .u32 120 wr (w.heap.size + 1 + 1) (w.heap.size + 1 + 1) 64 64 (fun q => if q < t then ((at' W q : Nat) : Int) else 0) ∧ wr.there (w.heap.size + 1) 0 64 ∧ Below w.heap.size w wr) (fun i _ => 64 - (intOf i).toNat)
      case atStart => exact ⟨16, by omega, by omega, rfl, hO2, hT, hB⟩
      case round =>
        clear hO2 hT hB
        obtain ⟨t, ht16, ht, rfl, hO, hT, hB⟩ := hrel
        by_cases hlt : t < 64
        · have c0 := hO.cell t hlt
          have hfz := hO.frozen t
          have c2 := hO.cell (t - 2) (by omega)
          have c7 := hO.cell (t - 7) (by omega)
          have c15 := hO.cell (t - 15) (by omega)
          have c16 := hO.cell (t - 16) (by omega)
          rw [if_pos (by omega)] at c2 c7 c15 c16
          rw [if_neg (by omega)] at c0
          have f2 := hW.1 (t - 2)
          have f7 := hW.1 (t - 7)
          have f15 := hW.1 (t - 15)
          have f16 := hW.1 (t - 16)
          have HW : Hid (at' W t = (ss1 (at' W (t - 2)) + at' W (t - 7) + ss0 (at' W (t - 15)) + at' W (t - 16)) % 4294967296) := by
            unfold Hid; rw [hW.2.2 t hlt, if_neg (by omega)]
          have HO : Hid (OwnK .u32 120 wr (w.heap.size + 1 + 1) (w.heap.size + 1 + 1) 64 64 (fun q => if q < t then ((at' W q : Nat) : Int) else 0)) := hO
          have HT : Hid (wr.there (w.heap.size + 1) 0 64) := hT
          clear hO hT
          generalize at' W (t - 2) = x2 at *
          generalize at' W (t - 7) = x7 at *
          generalize at' W (t - 15) = x15 at *
          generalize at' W (t - 16) = x16 at *
          have b15 : (0 : Int) ≤ (t : Int) - 15 := by omega
          have b15' : (t : Int) - 15 < 64 := by omega
          have b2 : (0 : Int) ≤ (t : Int) - 2 := by omega
          have b2' : (t : Int) - 2 < 64 := by omega
          go_wp2_with fail
          go_quiet (fail)
          have HO : Hid (OwnK .u32 120 (wr.drewN nq) (w.heap.size + 1 + 1) (w.heap.size + 1 + 1) 64 64 (fun q => if q < t then ((at' W q : Nat) : Int) else 0)) := OwnK.drewN HO.out nq
          have HT : Hid ((wr.drewN nq).there (w.heap.size + 1) 0 64) := there_below HT.out (below_drewN wr nq) (by have := (OwnK.base HO.out).2; simp at this; omega)
          have hB : Below w.heap.size w (wr.drewN nq) := hB.trans ((below_drewN wr _).mono hB.size)
          rw [← drewN_cell wr nq] at c0 c7 c16
          rw [← drewN_frozen wr nq] at hfz
          clear c2 c15 b15 b15' b2 b2'
          generalize wr.drewN nq = w5 at *
          have b7 : (0 : Int) ≤ (t : Int) - 7 := by omega
          have b7' : (t : Int) - 7 < 64 := by omega
          have b16 : (0 : Int) ≤ (t : Int) - 16 := by omega
          have b16' : (t : Int) - 16 < 64 := by omega
          have E0 := wss0_eq f15
          have E1 := wss1_eq f2
          have g0 := ss0_lt f15
          have g1 := ss1_lt f2
          go_wp2_with fail
          refine (wturn_any x15 7 _ _ f15 rfl (by omega) (by omega)).mono ?_
          rintro e w' ⟨rfl, rfl⟩
          go_wp2_with fail
          refine (wturn_any x15 18 _ _ f15 rfl (by omega) (by omega)).mono ?_
          rintro e w' ⟨rfl, rfl⟩
          go_wp2_with fail
          refine (wturn_any x2 17 _ _ f2 rfl (by omega) (by omega)).mono ?_
          rintro e w' ⟨rfl, rfl⟩
          go_wp2_with fail
          refine (wturn_any x2 19 _ _ f2 rfl (by omega) (by omega)).mono ?_
          rintro e w' ⟨rfl, rfl⟩
          go_wp2_with fail
          clear E0 E1
          generalize ss0 x15 = y0 at *
          generalize ss1 x2 = y1 at *
          go_region
          all_goals
            go_wp2
            go_roundw
            case rel =>
              (repeat apply Exists.intro)
              refine ⟨⟨t + 1, by omega, by omega, by go_num, (OwnK.store HO.out t _).congr fun q hq => ?_, ?_, (Below.setCell (p := ⟨w.heap.size + 1 + 1, t, none⟩) hB (by show w.heap.size ≤ w.heap.size + 1 + 1; omega) _).drew⟩, rfl⟩
              · by_cases hqt : q = t
                · subst hqt
                  rw [if_pos rfl, if_pos (by omega), HW.out]
                  omega
                · rw [if_neg hqt]
                  by_cases hlt2 : q < t
                  · rw [if_pos hlt2, if_pos (by omega)]
                  · rw [if_neg hlt2, if_neg (by omega)]
              · exact (World.there_drew _ _ _ _).2 (there_set HT.out _ _ _)
            case measure => simp [intOf]; omega
        · obtain rfl : t = 64 := by omega
          have HO : Hid (WAt wr (w.heap.size + 1 + 1) 0 W) := hO.wat hW.2.1 fun i hi => by rw [if_pos hi]
          have HT : Hid (wr.there (w.heap.size + 1) 0 64) := hT
          have h64 := hW.2.1
          clear hO hT hW
          go_wp2_with (first
            | (refine wpList_load_mid (by rfl) 120 (.tmp 3) (by rfl) (w.heap.size + 1 + 1) 0 (by rfl) (cellsW W) _ HO.out Tryd.underlying120 (by rfl) (by rw [cellsW_length, h64]; kernel_rfl) ?_)
            | (refine wpList_store_mid (by rfl) 120 (.tmp 2) (.tmp 71) (by rfl) (w.heap.size + 1) 0 (cellsW W).toArray (by rfl) (by rfl) (by rw [cellsW_size, h64]; exact HT.out) (by rw [cellsW_size, h64]; kernel_rfl) (all_oneCell_toArray (cellsW_one _)) ?_))
          refine bodyPost_ret (v := .agg (cellsW W).toArray) (run_results_row Tryd.results69 _ _ (w.heap.size + 1) 0 (by rfl) (cellsW W) (World.rangeAt_setCells_same _ _ _ _ (by rw [cellsW_length, h64]; exact HT.out)) _ Tryd.underlying120 (by rfl) (by rw [cellsW_length, h64]; kernel_rfl)) rfl ⟨rfl, ?_⟩
          exact below_setCells _ (by omega) _ _ _ hB
theorem wspread_any (m : List UInt8) (w : World) (hl : m.length = 64) :
    Calls Tryd.prog 69 #[.agg (cellsB m).toArray] w fun e w' => e = .returned (.agg (cellsW (wTo m 64)).toArray) ∧ Below w.heap.size w w' := wspread_core _ m w hl (wspread_wTo m)
end Go.Proofs.YtghiniaijobonaaDoor
/- The contract of state.after: the words that come behind 64 bytes more. -/
namespace Go.Proofs.YtghiniaijobonaaDoor
open Go.RowKit
set_option linter.unusedVariables false
set_option linter.unusedSimpArgs false
theorem Tryd.infoW32 : (Tryd.prog.info? 112).map (fun i => (i.zero, i.size, i.bytes)) = some (some (.int .u32 0), 1, 4) := by kernel_rfl

/-- The table of what is added lies where the program laid it. -/
def Tab (w : World) : Prop := ∀ t, t < 64 → w.cell? ⟨0, t, none⟩ = some (.int .u32 ((at' kW t : Nat) : Int))
theorem Tab.below {w w' : World} (h : Tab w) (hb : Below w.heap.size w w') : Tab w' := fun t ht => (hb.cell (p := ⟨0, t, none⟩) (cell_block (h t ht))).trans (h t ht)

theorem step_a (x7 y1 y2 kt wt y3 y4 : Nat) : Value.int .u32 ((((x7 : Int) + y1 + y2 + kt + wt) % 4294967296 + ((y3 : Int) + y4) % 4294967296) % 4294967296) = Value.int .u32 (((x7 + y1 + y2 + kt + wt + (y3 + y4)) % 4294967296 : Nat) : Int) := congrArg (Value.int .u32) (by omega)
theorem step_e (x3 x7 y1 y2 kt wt : Nat) : Value.int .u32 (((x3 : Int) + ((x7 : Int) + y1 + y2 + kt + wt) % 4294967296) % 4294967296) = Value.int .u32 (((x3 + (x7 + y1 + y2 + kt + wt)) % 4294967296 : Nat) : Int) := congrArg (Value.int .u32) (by omega)
theorem add_lit (x y : Nat) : ((y : Int) + (x : Int)) % 4294967296 = (((x + y) % 4294967296 : Nat) : Int) := by omega
theorem addW_lit (v h : List Nat) : (#[.int .u32 (((at' h 0 : Nat) + (at' v 0 : Nat) : Int) % 4294967296), .int .u32 (((at' h 1 : Nat) + (at' v 1 : Nat) : Int) % 4294967296), .int .u32 (((at' h 2 : Nat) + (at' v 2 : Nat) : Int) % 4294967296), .int .u32 (((at' h 3 : Nat) + (at' v 3 : Nat) : Int) % 4294967296), .int .u32 (((at' h 4 : Nat) + (at' v 4 : Nat) : Int) % 4294967296), .int .u32 (((at' h 5 : Nat) + (at' v 5 : Nat) : Int) % 4294967296), .int .u32 (((at' h 6 : Nat) + (at' v 6 : Nat) : Int) % 4294967296), .int .u32 (((at' h 7 : Nat) + (at' v 7 : Nat) : Int) % 4294967296)] : Array Value) = (cellsW (addW v h)).toArray := by
  simp only [add_lit]
  rfl
theorem addW_length (v h : List Nat) : (addW v h).length = 8 := by simp [addW]

set_option maxRecDepth 100000 in
set_option maxHeartbeats 1000000 in
theorem wafter_core (W : List Nat) (h : List Nat) (m : List UInt8) (w : World) (G : Tab w) (h8 : h.length = 8) (hf : Fit h) (hl : m.length = 64) (hW : W.length = 64) (hfW : Fit W) (hWm : wTo m 64 = W) :
    Calls Tryd.prog 66 #[.agg (cellsW h).toArray, .agg (cellsB m).toArray] w fun e w' => e = .returned (.agg (cellsW (addW (rTo h W 64) h)).toArray) ∧ Below w.heap.size w w' := by
  obtain ⟨i32, hi32, _, hs32, _⟩ := info_parts Tryd.infoW32
  go_enter Tryd.func66, Tryd.ntmps66
  go_wp2_with fail
  generalize hw3 : ((w.alloc (Obj.cells (cellsW h).toArray 116)).alloc (Obj.cells (cellsB m).toArray 98)).alloc (Obj.cells #[.int .u32 0, .int .u32 0, .int .u32 0, .int .u32 0, .int .u32 0, .int .u32 0, .int .u32 0, .int .u32 0] 116) = w3 at *
  have hh : WAt w3 w.heap.size 0 h := by rw [← hw3]; exact World.rangeAt_alloc (World.rangeAt_alloc (box_range w (cellsW h) _) _) _
  have hm : DAt w3 (w.heap.size + 1) 0 m := by
    rw [← hw3]; exact World.rangeAt_alloc (box_rangeAt _ (cellsB m) _ _ (by simp)) _
  have hT : w3.there (w.heap.size + 1 + 1) 0 8 := by rw [← hw3]; exact alloc_thereAt _ _ _ 8 _ (by simp) rfl
  have hB : Below w.heap.size w w3 := by rw [← hw3]; exact (((Below.refl _ _).alloc (Nat.le_refl _) _).alloc (by simp) _).alloc (by simp; omega) _
  have hsz : w3.heap.size = w.heap.size + 1 + 1 + 1 := by rw [← hw3]; simp
  clear hw3
  have c0 := hh.cell 0 (by omega)
  have c1 := hh.cell 1 (by omega)
  have c2 := hh.cell 2 (by omega)
  have c3 := hh.cell 3 (by omega)
  have c4 := hh.cell 4 (by omega)
  have c5 := hh.cell 5 (by omega)
  have c6 := hh.cell 6 (by omega)
  have c7 := hh.cell 7 (by omega)
  simp only [Nat.zero_add] at c0 c1 c2 c3 c4 c5 c6 c7
  have HF : Hid (Fit h ∧ Fit W) := ⟨hf, hfW⟩
  clear hf hfW
  go_quiet (fail)
  have hd := below_drewN w3 nq
  have hh := range_below hh hd (by omega)
  have hm := range_below hm hd (by omega)
  have hT := there_below hT hd (by omega)
  have hB := below_trans hB hd
  have hsz : (w3.drewN nq).heap.size = w.heap.size + 1 + 1 + 1 := by simpa using hsz
  clear hd c0 c1 c2 c3 c4 c5 c6 c7
  generalize w3.drewN nq = w4 at *
  go_wp2_with (refine wpList_load_mid (by rfl) 98 (.tmp 3) (by rfl) (w.heap.size + 1) 0 (by rfl) (cellsB m) _ hm Tryd.underlying98 (by rfl) (by rw [cellsB_length, hl]; kernel_rfl) ?_)
  refine (wspread_any m _ hl).mono ?_
  rintro e w5 ⟨rfl, hb5⟩
  rw [hWm]
  have G5 := (G.below hB).below hb5
  have hh := range_below hh hb5 (by omega)
  have hT := there_below hT hb5 (by omega)
  have hB := below_trans hB hb5
  clear hm hb5 hsz G
  go_wp2_with fail
  go_loopw [5, 6, 7, 8, 9, 10, 11, 12, 35] (fun xa xb xc xd xe xf xg xh i wr => ∃ t : Nat, t ≤ 64 ∧ i = .int .i64 (t : Int) ∧ xa = .int .u32 ((at' (rTo h W t) 0 : Nat) : Int) ∧ xb = .int .u32 ((at' (rTo h W t) 1 : Nat) : Int) ∧ xc = .int .u32 ((at' (rTo h W t) 2 : Nat) : Int) ∧ xd = .int .u32 ((at' (rTo h W t) 3 : Nat) : Int) ∧ xe = .int .u32 ((at' (rTo h W t) 4 : Nat) : Int) ∧ xf = .int .u32 ((at' (rTo h W t) 5 : Nat) : Int) ∧ xg = .int .u32 ((at' (rTo h W t) 6 : Nat) : Int) ∧ xh = .int .u32 ((at' (rTo h W t) 7 : Nat) : Int) ∧ ∃ q, wr = w5.drewN q) (fun _ _ _ _ _ _ _ _ i _ => 64 - (intOf i).toNat)
  case atStart => exact ⟨0, Nat.zero_le _, rfl, rfl, rfl, rfl, rfl, rfl, rfl, rfl, rfl, 0, rfl⟩
  case round =>
    obtain ⟨t, ht, rfl, rfl, rfl, rfl, rfl, rfl, rfl, rfl, rfl, q, hq⟩ := hrel
    have HQ : Hid (∃ q, wr = w5.drewN q) := ⟨q, hq⟩
    by_cases hlt : t < 64
    · have hx : ∀ w : World, (Instr.index 120 (.agg (cellsW W).toArray) (.int .i64 (t : Int))).run Tryd.prog w = .ok (.int .u32 ((at' W t : Nat) : Int)) w := fun w => run_index_int w _ _ 64 .u32 i32 _ t _ hlt Tryd.underlying120 Tryd.underlying112 hi32 hs32 (by simpa using cellsW_at W t (by omega))
      have hfv := fit_rTo (ws := W) HF.out.1 t
      have HS : Hid (rTo h W (t + 1) = stepW (rTo h W t) (at' kW t) (at' W t)) := rfl
      generalize rTo h W t = v at *
      have f0 := hfv 0
      have f1 := hfv 1
      have f2 := hfv 2
      have f4 := hfv 4
      have f5 := hfv 5
      have f6 := hfv 6
      have f7 := hfv 7
      have f3 := hfv 3
      have ck := G5 t hlt
      rw [← drewN_cell w5 q, ← hq] at ck
      clear hq
      have fk := fit_kW t
      have fw := HF.out.2 t
      have HP : Hid (∀ x0 x1 x2 x3 x4 x5 x6 x7 : Nat, x0 = at' v 0 → x1 = at' v 1 → x2 = at' v 2 → x3 = at' v 3 → x4 = at' v 4 → x5 = at' v 5 → x6 = at' v 6 → x7 = at' v 7 → stepW v (at' kW t) (at' W t) = [(x7 + bs1 x4 + chW x4 x5 x6 + at' kW t + at' W t + (bs0 x0 + mjW x0 x1 x2)) % 4294967296, x0, x1, x2, (x3 + (x7 + bs1 x4 + chW x4 x5 x6 + at' kW t + at' W t)) % 4294967296, x4, x5, x6]) := by
        intro x0 x1 x2 x3 x4 x5 x6 x7 h0 h1 h2 h3 h4 h5 h6 h7
        subst h0 h1 h2 h3 h4 h5 h6 h7
        rfl
      clear hfv
      generalize at' v 0 = x0 at *
      generalize at' v 1 = x1 at *
      generalize at' v 2 = x2 at *
      generalize at' v 3 = x3 at *
      generalize at' v 4 = x4 at *
      generalize at' v 5 = x5 at *
      generalize at' v 6 = x6 at *
      generalize at' v 7 = x7 at *
      generalize at' kW t = kt at *
      generalize at' W t = wt at *
      have hlt' : (t : Int) < 64 := by omega
      have ht0 : (0 : Int) ≤ (t : Int) := by omega
      have E1 := wbs1_eq f4
      have E2 := wch_eq f4 f5 f6
      have EN := wnot_eq f4
      have G1 := bs1_lt f4
      have G2 := chW_lt (e := x4) f5 f6
      have E3 := wbs0_eq f0
      have E4 := wmj_eq f0 f1 f2
      have G3 := bs0_lt f0
      have G4 := mjW_lt (a := x0) f1 f2
      go_wp2_with fail
      go_quiet ((go_at_call 70; exact Calls.quiet_of (wturn_z _ _ _ f4 (by omega) (by omega))))
      have HQ : Hid (∃ q, wr.drewN nq = w5.drewN q) := by
        obtain ⟨q', hq'⟩ := HQ.out
        exact ⟨q' + nq, by rw [hq', World.drewN_drewN]⟩
      clear ck E1 E2 EN
      generalize wr.drewN nq = w6 at *
      go_wp2_with fail
      refine (wturn_any x0 2 _ _ f0 rfl (by omega) (by omega)).mono ?_
      rintro e w' ⟨rfl, rfl⟩
      go_wp2_with fail
      refine (wturn_any x0 13 _ _ f0 rfl (by omega) (by omega)).mono ?_
      rintro e w' ⟨rfl, rfl⟩
      go_wp2_with fail
      refine (wturn_any x0 22 _ _ f0 rfl (by omega) (by omega)).mono ?_
      rintro e w' ⟨rfl, rfl⟩
      generalize hp1 : bs1 x4 = y1 at *
      generalize hp2 : chW x4 x5 x6 = y2 at *
      generalize hp3 : bs0 x0 = y3 at *
      generalize hp4 : mjW x0 x1 x2 = y4 at *
      have HP1 : Hid (_ ∧ _ ∧ _ ∧ _) := ⟨hp1, hp2, hp3, hp4⟩
      clear hp1 hp2 hp3 hp4
      go_wp2
      go_roundw
      case rel =>
        have he : rTo h W (t + 1) = [(x7 + y1 + y2 + kt + wt + (y3 + y4)) % 4294967296, x0, x1, x2, (x3 + (x7 + y1 + y2 + kt + wt)) % 4294967296, x4, x5, x6] := by
          obtain ⟨p1, p2, p3, p4⟩ := HP1.out
          rw [HS.out, HP.out x0 x1 x2 x3 x4 x5 x6 x7 rfl rfl rfl rfl rfl rfl rfl rfl, p1, p2, p3, p4]
        refine ⟨t + 1, by omega, by go_num, ?_⟩
        rw [he]
        refine ⟨?_, rfl, rfl, rfl, ?_, rfl, rfl, rfl, HQ.out⟩
        · exact step_a x7 y1 y2 kt wt y3 y4
        · exact step_e x3 x7 y1 y2 kt wt
      case measure => simp [intOf]; omega
    · obtain rfl : t = 64 := by omega
      have hd := below_drewN w5 q
      have hs5 := cell_block (WAt.cell hh 0 (by omega))
      have hs6 : w.heap.size + 1 + 1 < w5.heap.size := by
        have h0 := (hT 0 (by omega)).1
        obtain ⟨u, hu⟩ := Option.isSome_iff_exists.1 h0
        exact cell_block hu
      have hh := range_below hh hd hs5
      have HT := there_below hT hd hs6
      have HB := below_trans hB hd
      rw [← hq] at hh HT HB
      have HT : Hid (wr.there (w.heap.size + 1 + 1) 0 8) := HT
      have HB : Hid (Below w.heap.size w wr) := HB
      have hh : WAt wr w.heap.size 0 h := hh
      have c0 := hh.cell 0 (by omega)
      have c1 := hh.cell 1 (by omega)
      have c2 := hh.cell 2 (by omega)
      have c3 := hh.cell 3 (by omega)
      have c4 := hh.cell 4 (by omega)
      have c5 := hh.cell 5 (by omega)
      have c6 := hh.cell 6 (by omega)
      have c7 := hh.cell 7 (by omega)
      simp only [Nat.zero_add] at c0 c1 c2 c3 c4 c5 c6 c7
      have hfv := fit_rTo (ws := W) HF.out.1 64
      have hfh := HF.out.1
      generalize hv : rTo h W 64 = v at *
      have HV : Hid (rTo h W 64 = v) := hv
      have HE : Hid (_ = _) := addW_lit v h
      clear hh hd hs5 hs6 hq hT hB hv
      have f0 := hfv 0
      have f1 := hfv 1
      have f2 := hfv 2
      have f4 := hfv 4
      have f5 := hfv 5
      have f6 := hfv 6
      have f7 := hfv 7
      have f3 := hfv 3
      have k0 := hfh 0
      have k1 := hfh 1
      have k2 := hfh 2
      have k4 := hfh 4
      have k5 := hfh 5
      have k6 := hfh 6
      have k7 := hfh 7
      have k3 := hfh 3
      generalize at' v 0 = x0 at *
      generalize at' v 1 = x1 at *
      generalize at' v 2 = x2 at *
      generalize at' v 3 = x3 at *
      generalize at' v 4 = x4 at *
      generalize at' v 5 = x5 at *
      generalize at' v 6 = x6 at *
      generalize at' v 7 = x7 at *
      generalize at' h 0 = y0 at *
      generalize at' h 1 = y1 at *
      generalize at' h 2 = y2 at *
      generalize at' h 3 = y3 at *
      generalize at' h 4 = y4 at *
      generalize at' h 5 = y5 at *
      generalize at' h 6 = y6 at *
      generalize at' h 7 = y7 at *
      go_wp2_with (first
        | (refine wpList_buildE (by rfl) 116 _ (by rfl) _ _ HE.out (by kernel_rfl) ?_)
        | (refine wpList_store_mid (by rfl) 116 (.tmp 4) (.tmp 129) (by rfl) (w.heap.size + 1 + 1) 0 (cellsW (addW v h)).toArray (by rfl) (by rfl) (by rw [cellsW_size, addW_length]; exact HT.out) (by rw [cellsW_size, addW_length]; kernel_rfl) (all_oneCell_toArray (cellsW_one _)) ?_))
      refine bodyPost_ret (v := .agg (cellsW (addW v h)).toArray) (run_results_row Tryd.results66 _ _ (w.heap.size + 1 + 1) 0 (by rfl) (cellsW (addW v h)) (World.rangeAt_setCells_same _ _ _ _ (by rw [cellsW_length, addW_length]; exact HT.out)) _ Tryd.underlying116 (by rfl) (by rw [cellsW_length, addW_length]; kernel_rfl)) rfl ⟨by rw [HV.out], ?_⟩
      exact below_setCells _ (by omega) _ _ _ HB.out
theorem wafter_any (h : List Nat) (m : List UInt8) (w : World) (G : Tab w) (h8 : h.length = 8) (hf : Fit h) (hl : m.length = 64) :
    Calls Tryd.prog 66 #[.agg (cellsW h).toArray, .agg (cellsB m).toArray] w fun e w' => e = .returned (.agg (cellsW (blockW h m)).toArray) ∧ Below w.heap.size w w' :=
  wafter_core (wTo m 64) h m w G h8 hf hl (wTo_length m 64) (fit_wTo m 64) rfl
end Go.Proofs.YtghiniaijobonaaDoor
