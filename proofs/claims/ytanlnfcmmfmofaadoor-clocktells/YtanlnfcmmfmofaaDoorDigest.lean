/- Digests: arrays of 32 bytes, as values and in memory. -/
import Derived.Test.YtanlnfcmmfmofaaDoorBytes
import Derived.Deep.MidRow
namespace Go.Proofs.YtanlnfcmmfmofaaDoor
open Go.RowKit
set_option linter.unusedVariables false
set_option linter.unusedSimpArgs false

/-- A digest as a value. -/
abbrev digestV (l : List UInt8) : Value := .agg (cellsB l).toArray
theorem cells32 {l : List UInt8} (h : l.length = 32) : (cellsB l).toArray.size = 32 := by
  have : (cellsB l).toArray.size = (cellsB l).length := rfl
  rw [this, cellsB_length, h]
/-- A digest in memory, from a place of a block on. -/
def DAt (w : World) (b o : Nat) (l : List UInt8) : Prop := w.rangeAt b o (cellsB l)
theorem DAt.cell {w : World} {b o : Nat} {l : List UInt8} (h : DAt w b o l) (i : Nat) (hi : i < l.length) : w.cell? ⟨b, o + i, none⟩ = some (.int .u8 (nth l i)) := h i _ (cellsB_at l i hi)
theorem DAt.mk {w : World} {b o : Nat} {l : List UInt8} (h : ∀ i, i < l.length → w.cell? ⟨b, o + i, none⟩ = some (.int .u8 (nth l i))) : DAt w b o l := by
  intro j v hj
  have hj' : j < l.length := by have := (List.getElem?_eq_some_iff.1 hj).1; rwa [cellsB_length] at this
  rw [h j hj', ← cellsB_at l j hj', hj]
theorem DAt.below {w w' : World} {b o B : Nat} {l : List UInt8} (h : DAt w b o l) (hb : Below B w w') (hlt : b < B) : DAt w' b o l := by
  intro j v hj
  rw [hb.cell (p := ⟨b, o + j, none⟩) hlt]
  exact h j v hj
theorem run_results_digest {P : Program} {fn : Func} {p : Tmp} {ty : TypeId} (h : fn.results = #[.cell p ty]) (tmps : Array Value) (w : World) (b o : Nat) (hp : tmps.getD p undef = .pointer (some ⟨b, o, none⟩))
    (l : List UInt8) (hc : DAt w b o l) (d : TypeDesc) (hu : P.underlying ty = some d) (hd : d.isRow = true) (hi : (P.info? ty).map (·.size) = some l.length) :
    (results fn tmps).run P w = .ok (digestV l) w := by
  have hp' : tmps[p]?.getD undef = .pointer (some ⟨b, o, none⟩) := by simpa using hp
  simp only [results, h]
  simp [Sem.run_bind, Result.andThen, hp', asAddr, run_loadVar_mid w b o ty (cellsB l) d hc hu hd (by rw [hi, cellsB_length])]
/-- A new digest variable. -/
def zeros32 : Array Value := #[.int .u8 0, .int .u8 0, .int .u8 0, .int .u8 0, .int .u8 0, .int .u8 0, .int .u8 0, .int .u8 0, .int .u8 0, .int .u8 0, .int .u8 0, .int .u8 0, .int .u8 0, .int .u8 0, .int .u8 0, .int .u8 0, .int .u8 0, .int .u8 0, .int .u8 0, .int .u8 0, .int .u8 0, .int .u8 0, .int .u8 0, .int .u8 0, .int .u8 0, .int .u8 0, .int .u8 0, .int .u8 0, .int .u8 0, .int .u8 0, .int .u8 0, .int .u8 0]
theorem OwnK.zero32 (w : World) (t : TypeId) : OwnK .u8 t (w.alloc (.cells #[.int .u8 0, .int .u8 0, .int .u8 0, .int .u8 0, .int .u8 0, .int .u8 0, .int .u8 0, .int .u8 0, .int .u8 0, .int .u8 0, .int .u8 0, .int .u8 0, .int .u8 0, .int .u8 0, .int .u8 0, .int .u8 0, .int .u8 0, .int .u8 0, .int .u8 0, .int .u8 0, .int .u8 0, .int .u8 0, .int .u8 0, .int .u8 0, .int .u8 0, .int .u8 0, .int .u8 0, .int .u8 0, .int .u8 0, .int .u8 0, .int .u8 0, .int .u8 0] t)) w.heap.size w.heap.size 32 32 (fun _ => 0) :=
  World.ownsRow_lit w zeros32 32 (Nat.le_refl _) (by unfold maxLen; omega) rfl
theorem OwnK.dat {t : TypeId} {w : World} {B g : Nat} {f : Nat → Int} {l : List UInt8} (h : OwnK .u8 t w B g 32 32 f) (hl : l.length = 32) (he : ∀ i, i < 32 → f i = nth l i) : DAt w g 0 l :=
  DAt.mk fun i hi => by rw [Nat.zero_add, h.cell i (by omega), he i (by omega)]
theorem below_setCells {B : Nat} {w0 : World} (b : Nat) (hb : B ≤ b) : ∀ (vs : List Value) (o : Nat) (w : World), Below B w0 w → Below B w0 (w.setCells b o vs)
  | [], _, _, h => h
  | v :: r, o, w, h => by
    rw [World.setCells]
    exact below_setCells b hb r (o + 1) _ (h.setCell hb _)
/-- The cells of a new digest variable are there, as long as nothing turns its block. -/
theorem there_digest {w w' : World} {t : TypeId} (h : Below (w.heap.size + 1) (w.alloc (.cells #[.int .u8 0, .int .u8 0, .int .u8 0, .int .u8 0, .int .u8 0, .int .u8 0, .int .u8 0, .int .u8 0, .int .u8 0, .int .u8 0, .int .u8 0, .int .u8 0, .int .u8 0, .int .u8 0, .int .u8 0, .int .u8 0, .int .u8 0, .int .u8 0, .int .u8 0, .int .u8 0, .int .u8 0, .int .u8 0, .int .u8 0, .int .u8 0, .int .u8 0, .int .u8 0, .int .u8 0, .int .u8 0, .int .u8 0, .int .u8 0, .int .u8 0, .int .u8 0] t)) w') : w'.there w.heap.size 0 32 := by
  intro j hj
  have o := OwnK.zero32 w t
  rw [Nat.zero_add, h.cell (p := ⟨w.heap.size, j, none⟩) (Nat.lt_succ_self _), h.frozen (p := ⟨w.heap.size, j, none⟩) (Nat.lt_succ_self _), o.cell j hj, o.frozen j]
  exact ⟨rfl, rfl⟩
theorem there_new (w : World) (t : TypeId) : (w.alloc (.cells #[.int .u8 0, .int .u8 0, .int .u8 0, .int .u8 0, .int .u8 0, .int .u8 0, .int .u8 0, .int .u8 0, .int .u8 0, .int .u8 0, .int .u8 0, .int .u8 0, .int .u8 0, .int .u8 0, .int .u8 0, .int .u8 0, .int .u8 0, .int .u8 0, .int .u8 0, .int .u8 0, .int .u8 0, .int .u8 0, .int .u8 0, .int .u8 0, .int .u8 0, .int .u8 0, .int .u8 0, .int .u8 0, .int .u8 0, .int .u8 0, .int .u8 0, .int .u8 0] t)).there w.heap.size 0 32 := there_digest (Below.refl _ _)
theorem dat_stored {w : World} {b o : Nat} {l : List UInt8} (ht : w.there b o 32) (hl : l.length = 32) : DAt (w.setCells b o (cellsB l)) b o l :=
  World.rangeAt_setCells_same _ _ _ _ (by rw [cellsB_length, hl]; exact ht)
theorem DAt.row {w : World} {b o : Nat} {l : List UInt8} (h : DAt w b o l) (hl : l.length = 32) : Row w (some ⟨b, o, none⟩) 32 l :=
  ⟨hl, .inr ⟨b, o, rfl, fun i hi => h.cell i (by omega)⟩⟩
theorem new_stored (w : World) (ob : Obj) (vs : List Value) : Below w.heap.size w ((w.alloc ob).setCells w.heap.size 0 vs) := below_setCells _ (Nat.le_refl _) _ _ _ ((Below.refl _ _).alloc (Nat.le_refl _) _)
/-- A digest that a parameter was boxed with. -/
theorem box_dat (w : World) (l : List UInt8) (t : TypeId) : DAt (w.alloc (.cells (cellsB l).toArray t)) w.heap.size 0 l := by
  refine DAt.mk fun i hi => ?_
  have h : (w.alloc (.cells (cellsB l).toArray t)).heap[w.heap.size]? = some (.cells (cellsB l).toArray t) := by
    show (w.heap.push _)[w.heap.size]? = _
    simp
  unfold World.cell?
  rw [h]
  have := cellsB_at l i hi
  simpa using this
theorem box_there (w : World) (l : List UInt8) (t : TypeId) (hl : l.length = 32) : (w.alloc (.cells (cellsB l).toArray t)).there w.heap.size 0 32 := by
  intro j hj
  refine ⟨by rw [(box_dat w l t).cell j (by omega)]; rfl, ?_⟩
  have h : (w.alloc (.cells (cellsB l).toArray t)).heap[w.heap.size]? = some (.cells (cellsB l).toArray t) := by
    show (w.heap.push _)[w.heap.size]? = _
    simp
  unfold World.frozen?
  rw [h]
  simp
theorem there_below {w w' : World} {B b o n : Nat} (h : w.there b o n) (hb : Below B w w') (hlt : b < B) : w'.there b o n := by
  intro j hj
  rw [hb.cell (p := ⟨b, o + j, none⟩) hlt, hb.frozen (p := ⟨b, o + j, none⟩) hlt]
  exact h j hj
end Go.Proofs.YtanlnfcmmfmofaaDoor
