/- Texts of this claim, joined: Digest, OpenD, Build, Math. -/
import Derived.Test.YtnffmegicgbinabDoorJ04
import Derived.Deep.MidRow
import Derived.Test.YtnffmegicgbinabDoorJ06
import Derived.Deep.Slices
import Derived.Test.YtnffmegicgbinabDoorJ01
import Derived.Laws.BitsAllLaws
/- Digests: arrays of 32 bytes, as values and in memory. -/
namespace Go.Proofs.YtnffmegicgbinabDoor
open Go.RowKit
set_option linter.unusedVariables false
set_option linter.unusedSimpArgs false

/-- A digest as a value. -/
abbrev digestV (l : List UInt8) : Value := .agg (cellsB l).toArray
theorem cells32 {l : List UInt8} (h : l.length = 32) : (cellsB l).toArray.size = 32 := by
  have : (cellsB l).toArray.size = (cellsB l).length := rfl
  rw [this, cellsB_length, h]
/-- A digest in memory, from a place of a block on. -/
def DAt (w : World) (b o : Nat) (l : List UInt8) : Prop := w.rangeAt b o (cellsB l)
theorem DAt.cell {w : World} {b o : Nat} {l : List UInt8} (h : DAt w b o l) (i : Nat) (hi : i < l.length) : w.cell? ⟨b, o + i, none⟩ = some (.int .u8 (nth l i)) := h i _ (cellsB_at l i hi)
theorem DAt.mk {w : World} {b o : Nat} {l : List UInt8} (h : ∀ i, i < l.length → w.cell? ⟨b, o + i, none⟩ = some (.int .u8 (nth l i))) : DAt w b o l := by
  intro j v hj
  have hj' : j < l.length := by have := (List.getElem?_eq_some_iff.1 hj).1; rwa [cellsB_length] at this
  rw [h j hj', ← cellsB_at l j hj', hj]
theorem DAt.below {w w' : World} {b o B : Nat} {l : List UInt8} (h : DAt w b o l) (hb : Below B w w') (hlt : b < B) : DAt w' b o l := by
  intro j v hj
  rw [hb.cell (p := ⟨b, o + j, none⟩) hlt]
  exact h j v hj
theorem run_results_digest {P : Program} {fn : Func} {p : Tmp} {ty : TypeId} (h : fn.results = #[.cell p ty]) (tmps : Array Value) (w : World) (b o : Nat) (hp : tmps.getD p undef = .pointer (some ⟨b, o, none⟩))
    (l : List UInt8) (hc : DAt w b o l) (d : TypeDesc) (hu : P.underlying ty = some d) (hd : d.isRow = true) (hi : (P.info? ty).map (·.size) = some l.length) :
    (results fn tmps).run P w = .ok (digestV l) w := by
  have hp' : tmps[p]?.getD undef = .pointer (some ⟨b, o, none⟩) := by simpa using hp
  simp only [results, h]
  simp [Sem.run_bind, Result.andThen, hp', asAddr, run_loadVar_mid w b o ty (cellsB l) d hc hu hd (by rw [hi, cellsB_length])]
/-- A new digest variable. -/
def zeros32 : Array Value := #[.int .u8 0, .int .u8 0, .int .u8 0, .int .u8 0, .int .u8 0, .int .u8 0, .int .u8 0, .int .u8 0, .int .u8 0, .int .u8 0, .int .u8 0, .int .u8 0, .int .u8 0, .int .u8 0, .int .u8 0, .int .u8 0, .int .u8 0, .int .u8 0, .int .u8 0, .int .u8 0, .int .u8 0, .int .u8 0, .int .u8 0, .int .u8 0, .int .u8 0, .int .u8 0, .int .u8 0, .int .u8 0, .int .u8 0, .int .u8 0, .int .u8 0, .int .u8 0]
theorem OwnK.zero32 (w : World) (t : TypeId) : OwnK .u8 t (w.alloc (.cells #[.int .u8 0, .int .u8 0, .int .u8 0, .int .u8 0, .int .u8 0, .int .u8 0, .int .u8 0, .int .u8 0, .int .u8 0, .int .u8 0, .int .u8 0, .int .u8 0, .int .u8 0, .int .u8 0, .int .u8 0, .int .u8 0, .int .u8 0, .int .u8 0, .int .u8 0, .int .u8 0, .int .u8 0, .int .u8 0, .int .u8 0, .int .u8 0, .int .u8 0, .int .u8 0, .int .u8 0, .int .u8 0, .int .u8 0, .int .u8 0, .int .u8 0, .int .u8 0] t)) w.heap.size w.heap.size 32 32 (fun _ => 0) :=
  World.ownsRow_lit w zeros32 32 (Nat.le_refl _) (by unfold maxLen; omega) rfl
theorem OwnK.dat {t : TypeId} {w : World} {B g : Nat} {f : Nat → Int} {l : List UInt8} (h : OwnK .u8 t w B g 32 32 f) (hl : l.length = 32) (he : ∀ i, i < 32 → f i = nth l i) : DAt w g 0 l :=
  DAt.mk fun i hi => by rw [Nat.zero_add, h.cell i (by omega), he i (by omega)]
theorem below_setCells {B : Nat} {w0 : World} (b : Nat) (hb : B ≤ b) : ∀ (vs : List Value) (o : Nat) (w : World), Below B w0 w → Below B w0 (w.setCells b o vs)
  | [], _, _, h => h
  | v :: r, o, w, h => by
    rw [World.setCells]
    exact below_setCells b hb r (o + 1) _ (h.setCell hb _)
/-- The cells of a new digest variable are there, as long as nothing turns its block. -/
theorem there_digest {w w' : World} {t : TypeId} (h : Below (w.heap.size + 1) (w.alloc (.cells #[.int .u8 0, .int .u8 0, .int .u8 0, .int .u8 0, .int .u8 0, .int .u8 0, .int .u8 0, .int .u8 0, .int .u8 0, .int .u8 0, .int .u8 0, .int .u8 0, .int .u8 0, .int .u8 0, .int .u8 0, .int .u8 0, .int .u8 0, .int .u8 0, .int .u8 0, .int .u8 0, .int .u8 0, .int .u8 0, .int .u8 0, .int .u8 0, .int .u8 0, .int .u8 0, .int .u8 0, .int .u8 0, .int .u8 0, .int .u8 0, .int .u8 0, .int .u8 0] t)) w') : w'.there w.heap.size 0 32 := by
  intro j hj
  have o := OwnK.zero32 w t
  rw [Nat.zero_add, h.cell (p := ⟨w.heap.size, j, none⟩) (Nat.lt_succ_self _), h.frozen (p := ⟨w.heap.size, j, none⟩) (Nat.lt_succ_self _), o.cell j hj, o.frozen j]
  exact ⟨rfl, rfl⟩
theorem there_new (w : World) (t : TypeId) : (w.alloc (.cells #[.int .u8 0, .int .u8 0, .int .u8 0, .int .u8 0, .int .u8 0, .int .u8 0, .int .u8 0, .int .u8 0, .int .u8 0, .int .u8 0, .int .u8 0, .int .u8 0, .int .u8 0, .int .u8 0, .int .u8 0, .int .u8 0, .int .u8 0, .int .u8 0, .int .u8 0, .int .u8 0, .int .u8 0, .int .u8 0, .int .u8 0, .int .u8 0, .int .u8 0, .int .u8 0, .int .u8 0, .int .u8 0, .int .u8 0, .int .u8 0, .int .u8 0, .int .u8 0] t)).there w.heap.size 0 32 := there_digest (Below.refl _ _)
theorem dat_stored {w : World} {b o : Nat} {l : List UInt8} (ht : w.there b o 32) (hl : l.length = 32) : DAt (w.setCells b o (cellsB l)) b o l :=
  World.rangeAt_setCells_same _ _ _ _ (by rw [cellsB_length, hl]; exact ht)
theorem DAt.row {w : World} {b o : Nat} {l : List UInt8} (h : DAt w b o l) (hl : l.length = 32) : Row w (some ⟨b, o, none⟩) 32 l :=
  ⟨hl, .inr ⟨b, o, rfl, fun i hi => h.cell i (by omega)⟩⟩
theorem new_stored (w : World) (ob : Obj) (vs : List Value) : Below w.heap.size w ((w.alloc ob).setCells w.heap.size 0 vs) := below_setCells _ (Nat.le_refl _) _ _ _ ((Below.refl _ _).alloc (Nat.le_refl _) _)
/-- A digest that a parameter was boxed with. -/
theorem box_dat (w : World) (l : List UInt8) (t : TypeId) : DAt (w.alloc (.cells (cellsB l).toArray t)) w.heap.size 0 l := by
  refine DAt.mk fun i hi => ?_
  have h : (w.alloc (.cells (cellsB l).toArray t)).heap[w.heap.size]? = some (.cells (cellsB l).toArray t) := by
    show (w.heap.push _)[w.heap.size]? = _
    simp
  unfold World.cell?
  rw [h]
  have := cellsB_at l i hi
  simpa using this
theorem box_there (w : World) (l : List UInt8) (t : TypeId) (hl : l.length = 32) : (w.alloc (.cells (cellsB l).toArray t)).there w.heap.size 0 32 := by
  intro j hj
  refine ⟨by rw [(box_dat w l t).cell j (by omega)]; rfl, ?_⟩
  have h : (w.alloc (.cells (cellsB l).toArray t)).heap[w.heap.size]? = some (.cells (cellsB l).toArray t) := by
    show (w.heap.push _)[w.heap.size]? = _
    simp
  unfold World.frozen?
  rw [h]
  simp
theorem there_below {w w' : World} {B b o n : Nat} (h : w.there b o n) (hb : Below B w w') (hlt : b < B) : w'.there b o n := by
  intro j hj
  rw [hb.cell (p := ⟨b, o + j, none⟩) hlt, hb.frozen (p := ⟨b, o + j, none⟩) hlt]
  exact h j hj
end Go.Proofs.YtnffmegicgbinabDoor
/- How an argument that is a digest, or a slice of digests, is opened. -/
namespace Go.Proofs.YtnffmegicgbinabDoor
open Go.ChangeShapes Go.WideShapes Go.ChangeAt Go.RowKit
set_option linter.unusedVariables false
set_option linter.unusedSimpArgs false

/-- The byte that a value holds. -/
def byteOf : Value → UInt8
  | .int _ n => UInt8.ofNat n.toNat
  | _ => 0

section
variable {H : Type} {enc : TypeId × Value → H} {P : Program} {w : World} {base : Nat} {spare : Nat → Bool} {held : Bool} {t e : TypeId} {fuel : Nat}
theorem bytes_of_trod {cs : List Value} {x : DataW H × List MemPlace} (ht : P.underlying t = some (.array 32 e)) (he : P.underlying e = some (.int .u8)) (hce : P.cellsOf e = 1) (hct : P.cellsOf t = 32)
    (h : DataW.trod enc P w base spare held fuel t cs = some x) : ∃ l : List UInt8, l.length = 32 ∧ cs = cellsB l := by
  obtain ⟨xs, m, _, _, hl, hxs, hi⟩ := DataW.trod_array ht h
  rw [hct] at hl
  refine ⟨cs.map byteOf, by simp [hl], ?_⟩
  apply List.ext_getElem
  · simp [cellsB]
  · intro i h1 h2
    have hi' := hi i (by omega)
    rw [hce, Nat.mul_one, List.getElem?_eq_getElem (by omega)] at hi'
    obtain ⟨n, hn, _, hwf⟩ := DataW.trod_int he hi'
    have hb := wf_u8 hwf
    have hc : cs[i] = .int .u8 n := by
      have := congrArg List.head? hn
      simpa [List.head?_take, List.getElem?_eq_getElem h1] using this
    simp only [cellsB, List.getElem_map, hc, byteOf, UInt8.toNat_ofNat']
    congr 1
    omega
theorem open_digest {r : Reach} {b0 : Nat} {v : Value} {d : DataW H} {p : List MemPlace} (ht : P.underlying t = some (.array 32 e)) (he : P.underlying e = some (.int .u8)) (hce : P.cellsOf e = 1) (hct : P.cellsOf t = 32)
    (hv : Value.okWide P w r b0 t v) (h : DataW.Trod enc P w base spare held t v d p) : ∃ l : List UInt8, l.length = 32 ∧ v = digestV l := by
  obtain ⟨cs, rfl⟩ : ∃ cs, v = .agg cs := by
    simp only [Value.okWide, ht] at hv
    obtain ⟨cs, h1, _⟩ := hv
    exact ⟨cs, h1⟩
  obtain ⟨fuel, hf⟩ := h
  obtain ⟨l, hl, hc⟩ := bytes_of_trod ht he hce hct hf
  refine ⟨l, hl, ?_⟩
  have : cs.toList = cellsB l := hc
  show Value.agg cs = Value.agg (cellsB l).toArray
  rw [← this]
end

/-- A slice of n digests at a reads as the list ls. -/
def DRow (w : World) (a : Option Addr) (n : Nat) (ls : List (List UInt8)) : Prop :=
  ls.length = n ∧ (∀ l ∈ ls, l.length = 32) ∧ (n = 0 ∨ ∃ b o, a = some ⟨b, o, none⟩ ∧ ∀ i, i < n → DAt w b (o + 32 * i) (ls.getD i []))
theorem DRow.nil (w : World) : DRow w none 0 [] := ⟨rfl, (fun l hl => by cases hl), .inl rfl⟩
theorem DRow.len {w : World} {a : Option Addr} {n : Nat} {ls : List (List UInt8)} (h : DRow w a n ls) (i : Nat) (hi : i < n) : (ls.getD i []).length = 32 := by
  rw [List.getD_eq_getElem?_getD, List.getElem?_eq_getElem (by rw [h.1]; exact hi)]
  exact h.2.1 _ (List.getElem_mem _)
theorem DRow.below {w w' : World} {a : Option Addr} {n : Nat} {ls : List (List UInt8)} (h : DRow w a n ls) (hb : Below w.heap.size w w') : DRow w' a n ls := by
  have hlen := h.len
  obtain ⟨h1, h2, h3⟩ := h
  refine ⟨h1, h2, ?_⟩
  rcases h3 with h3 | ⟨b, o, ha, hc⟩
  · exact .inl h3
  · exact .inr ⟨b, o, ha, fun i hi => (hc i hi).below hb (cell_block ((hc i hi).cell 0 (by rw [hlen i hi]; omega)))⟩

theorem open_digests {H : Type} {enc : TypeId × Value → H} {P : Program} {w : World} {base : Nat} {held : Bool} {t e f : TypeId} {fuel : Nat} {a : Option Addr} {len cap : Nat} {d : DataW H} {p : List MemPlace}
    (ht : P.underlying t = some (.slice e)) (he : P.underlying e = some (.array 32 f)) (hf : P.underlying f = some (.int .u8)) (hcf : P.cellsOf f = 1) (hce : P.cellsOf e = 32)
    (h : DataW.trod enc P w base (fun _ => true) held fuel t [.slice a len cap] = some (d, p)) :
    ∃ ls, DRow w a len ls ∧ (len = 0 ∨ ∃ elems spare, d = .slice elems spare ∧ elems.length = len) := by
  rcases Go.Deep.open_slice ht h with ⟨hcs, _⟩ | ⟨x, l, c, m, n, D, Pl, hcs, _, hlc, hm, hmm, hx, hel⟩
  · simp at hcs
    obtain ⟨rfl, rfl, rfl⟩ := hcs
    exact ⟨[], DRow.nil w, .inl rfl⟩
  · simp at hcs
    obtain ⟨rfl, rfl, rfl⟩ := hcs
    simp only [if_true] at hmm
    subst hmm
    simp only [Prod.mk.injEq] at hx
    have each : ∀ i, i < len → ∃ q : List UInt8, q.length = 32 ∧ ∀ j, j < 32 → w.cell? ((x.add (i * 32)).add j) = some (.int .u8 (nth q j)) := by
      intro i hi
      obtain ⟨cs', hc, htr⟩ := hel i (by omega)
      obtain ⟨q, hq, rfl⟩ := bytes_of_trod he hf hcf hce htr
      refine ⟨q, hq, fun j hj => ?_⟩
      rw [hce] at hc
      have hs := World.cells?_some hc
      rw [hs.2.2 j hj, ← cellsB_at q j (by omega)]
    let ls := (List.range len).map fun i => if h : i < len then (each i h).choose else []
    have hls : ∀ i, i < len → ∃ h : i < len, ls.getD i [] = (each i h).choose := fun i hi => ⟨hi, by simp [ls, List.getD_eq_getElem?_getD, hi]⟩
    refine ⟨ls, ⟨by simp [ls], ?_, ?_⟩, .inr ⟨_, _, hx.1, by simp⟩⟩
    · intro l hl
      obtain ⟨i, hi, rfl⟩ := List.mem_map.1 hl
      have hi' := List.mem_range.1 hi
      rw [dif_pos hi']
      exact (each i hi').choose_spec.1
    · by_cases h0 : len = 0
      · exact .inl h0
      · obtain ⟨b, off, spot⟩ := x
        have hspot : spot = none := by
          obtain ⟨q, hq, hc⟩ := each 0 (by omega)
          simpa [Addr.add] using World.cell?_spot (hc 0 (by omega))
        subst hspot
        refine .inr ⟨b, off, rfl, fun i hi => ?_⟩
        obtain ⟨hi', e1⟩ := hls i hi
        rw [e1]
        have sp := (each i hi').choose_spec
        refine DAt.mk fun j hj => ?_
        have := sp.2 j (by omega)
        refine Eq.trans (congrArg w.cell? ?_) this
        rw [add_plain, add_plain, show off + 32 * i + j = off + i * 32 + j from by omega]
end Go.Proofs.YtnffmegicgbinabDoor
/- Slices of digests that a literal lays. -/
namespace Go.Proofs.YtnffmegicgbinabDoor
open Go.RowKit
set_option linter.unusedVariables false
set_option linter.unusedSimpArgs false

theorem fold_set (off : Nat) : ∀ (l : List Value) (j : Nat) (b : Array Value), off + j + l.length ≤ b.size →
    ((l.zipIdx j).foldl (fun cs (x : Value × Nat) => cs.setIfInBounds (off + x.2) x.1) b).toList = b.toList.take (off + j) ++ l ++ b.toList.drop (off + j + l.length)
  | [], j, b, h => by simp
  | c :: r, j, b, h => by
    rw [List.zipIdx_cons, List.foldl_cons, fold_set off r (j + 1) _ (by simp; simp at h; omega)]
    simp only [Array.toList_setIfInBounds]
    have hlt : off + j < b.toList.length := by simp at h ⊢; omega
    have e1 : (b.toList.set (off + j) c).take (off + (j + 1)) = b.toList.take (off + j) ++ [c] := by
      rw [show off + (j + 1) = off + j + 1 from by omega, List.take_succ_eq_append_getElem (by simpa using hlt)]
      rw [List.take_set_of_le (Nat.le_refl _)]
      simp
    have e2 : (b.toList.set (off + j) c).drop (off + (j + 1) + r.length) = b.toList.drop (off + j + (c :: r).length) := by
      rw [List.drop_set_of_lt (by omega)]
      congr 1
      simp; omega
    rw [e1, e2]
    simp
theorem fill_digests : ∀ (ls : List (List UInt8)) (k : Nat) (b : Array Value), (∀ l ∈ ls, l.length = 32) → b.size = 32 * (k + ls.length) →
    ∃ r : Array Value, Instr.fill (fun i => some (i * 32, 32)) b ((ls.zipIdx k).map fun x => (x.2, digestV x.1)) = some r ∧ r.toList = b.toList.take (32 * k) ++ cellsB ls.flatten
  | [], k, b, _, hb => ⟨b, rfl, by simp at hb; rw [List.take_of_length_le (by simp; omega)]; simp [cellsB]⟩
  | l :: ls, k, b, hl, hb => by
    have h32 : l.length = 32 := hl l (List.mem_cons_self ..)
    have hsz : (digestV l).cells.size = 32 := by
      show (cellsB l).toArray.size = 32
      exact cells32 h32
    have hlen : (cellsB l).length = 32 := by rw [cellsB_length, h32]
    let b' := (digestV l).cells.zipIdx.foldl (fun cs (x : Value × Nat) => cs.setIfInBounds (k * 32 + x.2) x.1) b
    have hb' : b'.toList = b.toList.take (k * 32) ++ cellsB l ++ b.toList.drop (k * 32 + 32) := by
      have := fold_set (k * 32) (cellsB l) 0 b (by simp at hb; omega)
      rw [Nat.add_zero, hlen] at this
      rw [← this]
      show ((cellsB l).toArray.zipIdx.foldl _ b).toList = _
      rw [← Array.foldl_toList, Array.toList_zipIdx]
    have hbs : b'.size = b.size := by
      rw [← Array.length_toList, hb']
      simp [hlen]
      simp at hb
      omega
    obtain ⟨r, hr, hrl⟩ := fill_digests ls (k + 1) b' (fun x hx => hl x (List.mem_cons_of_mem _ hx)) (by rw [hbs, hb]; simp; omega)
    refine ⟨r, ?_, ?_⟩
    · rw [List.zipIdx_cons, List.map_cons]
      unfold Instr.fill
      simp only
      rw [if_neg (by simp only [hsz]; simp; simp at hb; omega)]
      exact hr
    · rw [hrl, hb', List.flatten_cons, cellsB_append]
      have e : 32 * (k + 1) = (b.toList.take (k * 32) ++ cellsB l).length := by simp [hlen]; simp at hb; omega
      rw [e, List.take_left, List.append_assoc, Nat.mul_comm k 32]

section
variable {P : Program}
/-- 'a literal of digests': a new row that reads as they do. -/
theorem run_buildD (w : World) (t e : TypeId) (z : Value) (i : TypeInfo) (ls : List (List UInt8)) (hls : ∀ l ∈ ls, l.length = 32) (h0 : 0 < ls.length) (hn : ls.length ≤ 10000) (ht : P.underlying t = some (.slice e)) (hi : P.info? e = some i) (hz : i.zero = some z) (hzs : z.cells.size = 32) (hsize : i.size = 32) :
    (Instr.buildSlice t ls.length ((ls.zipIdx 0).map fun x => (x.2, digestV x.1)).toArray).run P w = .ok (.slice (some ⟨w.heap.size, 0, none⟩) ls.length ls.length) (w.alloc (.cells (cellsB ls.flatten).toArray e)) := by
  obtain ⟨r, hr, hrl⟩ := fill_digests ls 0 ((Array.range (ls.length * 32)).map (z.cells[· % z.cells.size]!)) hls (by simp; omega)
  have hr' : r = (cellsB ls.flatten).toArray := by
    rw [← Array.toArray_toList (xs := r), hrl]
    simp
  subst hr'
  rw [hzs] at hr
  have hne : ¬ ls.length * 32 = 0 := by omega
  simp [Instr.buildSlice, run_underlying ht, sizeOf, typeInfo, hi, hsize, zeroValue, hz, hr, newRow, hzs, show ¬ (16777216 < ls.length * 32) by omega, hne]
/-- .. as a step of a walk, of one digest. -/
theorem wpList_build1 {w : World} {ops : Array Oper} {rest : List Oper} {o : Oper} {a : Act} {Q : Exit → Act → World → Prop} (hgd : o.guard = none) (x : Operand) (t : TypeId) (ho : o.op = .buildSlice t 1 #[(0, x)])
    (e : TypeId) (z : Value) (i : TypeInfo) (l : List UInt8) (hl : l.length = 32) (hx : a.eval x = digestV l) (ht : P.underlying t = some (.slice e)) (hi : P.info? e = some i) (hz : i.zero = some z) (hzs : z.cells.size = 32) (hsize : i.size = 32)
    (h : wpList P ops Q rest (a.put o.dst (.slice (some ⟨w.heap.size, 0, none⟩) 1 1)) (w.alloc (.cells (cellsB l).toArray e))) : wpList P ops Q (o :: rest) a w := by
  have hrun := run_buildD (P := P) w t e z i [l] (by intro q hq; rw [List.mem_singleton] at hq; rw [hq]; exact hl) (by simp) (by simp) ht hi hz hzs hsize
  simp only [List.length_singleton, List.zipIdx_cons, List.zipIdx_nil, List.map_cons, List.map_nil, List.flatten_cons, List.flatten_nil, List.append_nil] at hrun
  refine wpList_plain hgd fun K hK' => ?_
  unfold Oper.wp
  simp [execOp, ho, hx, hrun, Result.andThen]
  exact hK' _ _ h
/-- .. of two. -/
theorem wpList_build2 {w : World} {ops : Array Oper} {rest : List Oper} {o : Oper} {a : Act} {Q : Exit → Act → World → Prop} (hgd : o.guard = none) (x y : Operand) (t : TypeId) (ho : o.op = .buildSlice t 2 #[(0, x), (1, y)])
    (e : TypeId) (z : Value) (i : TypeInfo) (l r : List UInt8) (hl : l.length = 32) (hr : r.length = 32) (hx : a.eval x = digestV l) (hy : a.eval y = digestV r) (ht : P.underlying t = some (.slice e)) (hi : P.info? e = some i) (hz : i.zero = some z) (hzs : z.cells.size = 32) (hsize : i.size = 32)
    (h : wpList P ops Q rest (a.put o.dst (.slice (some ⟨w.heap.size, 0, none⟩) 2 2)) (w.alloc (.cells (cellsB (l ++ r)).toArray e))) : wpList P ops Q (o :: rest) a w := by
  have hrun := run_buildD (P := P) w t e z i [l, r] (by intro q hq; simp only [List.mem_cons, List.not_mem_nil, or_false] at hq; rcases hq with rfl | rfl <;> assumption) (by simp) (by simp) ht hi hz hzs hsize
  simp only [List.length_cons, List.length_nil, List.zipIdx_cons, List.zipIdx_nil, List.map_cons, List.map_nil, List.flatten_cons, List.flatten_nil, List.append_nil, Nat.zero_add, Nat.reduceAdd] at hrun
  refine wpList_plain hgd fun K hK' => ?_
  unfold Oper.wp
  simp [execOp, ho, hx, hy, hrun, Result.andThen]
  exact hK' _ _ h
end
theorem cells_new (w : World) (cs : List Value) (t : TypeId) (j : Nat) : (w.alloc (.cells cs.toArray t)).cell? ⟨w.heap.size, j, none⟩ = cs[j]? := by
  have h : (w.alloc (.cells cs.toArray t)).heap[w.heap.size]? = some (.cells cs.toArray t) := by
    show (w.heap.push _)[w.heap.size]? = _
    simp
  unfold World.cell?
  rw [h]
  simp
theorem DRow.lit1 (w : World) (l : List UInt8) (t : TypeId) (hl : l.length = 32) : DRow (w.alloc (.cells (cellsB l).toArray t)) (some ⟨w.heap.size, 0, none⟩) 1 [l] := by
  refine ⟨rfl, by intro q hq; rw [List.mem_singleton] at hq; rw [hq]; exact hl, .inr ⟨w.heap.size, 0, rfl, fun i hi => ?_⟩⟩
  obtain rfl : i = 0 := by omega
  exact box_dat w l t
theorem DRow.lit2 (w : World) (l r : List UInt8) (t : TypeId) (hl : l.length = 32) (hr : r.length = 32) : DRow (w.alloc (.cells (cellsB (l ++ r)).toArray t)) (some ⟨w.heap.size, 0, none⟩) 2 [l, r] := by
  refine ⟨rfl, by intro q hq; simp only [List.mem_cons, List.not_mem_nil, or_false] at hq; rcases hq with rfl | rfl <;> assumption, .inr ⟨w.heap.size, 0, rfl, fun i hi => ?_⟩⟩
  have : i = 0 ∨ i = 1 := by omega
  rcases this with rfl | rfl
  · refine DAt.mk fun j hj => ?_
    have hj' : j < l.length := hj
    rw [show 0 + 32 * 0 + j = j from by omega, cells_new, cellsB_append, List.getElem?_append_left (by rw [cellsB_length]; exact hj'), cellsB_at l j hj']
    rfl
  · refine DAt.mk fun j hj => ?_
    have hj' : j < r.length := hj
    rw [show 0 + 32 * 1 + j = 32 + j from by omega, cells_new, cellsB_append, List.getElem?_append_right (by rw [cellsB_length]; omega), cellsB_length, hl, show 32 + j - 32 = j from by omega, cellsB_at r j hj']
    rfl
end Go.Proofs.YtnffmegicgbinabDoor
/- Plain arithmetic for package octet: no theorem of the program yet. -/
namespace Go.Proofs.YtnffmegicgbinabDoor
open Go.RowKit
set_option linter.unusedVariables false
set_option linter.unusedSimpArgs false

theorem i64_or_add (a b : Int) (h1 : 0 ≤ a) (h2 : a < 36028797018963968) (h3 : 0 ≤ b) (h4 : b < 256) : bits .or .i64 (a * 256) b = a * 256 + b := by
  obtain ⟨n, rfl⟩ := Int.eq_ofNat_of_zero_le h1
  obtain ⟨m, rfl⟩ := Int.eq_ofNat_of_zero_le h3
  have e : ((n : Int) * 256) = ((n * 256 : Nat) : Int) := by omega
  rw [e]
  have j : n * 256 ||| m = n * 256 + m := nat_join 8 _ _ (by omega) (by omega)
  show IntKind.i64.wrap ((BitVec.ofInt 64 ((n * 256 : Nat) : Int) ||| BitVec.ofInt 64 (m : Int)).toNat : Int) = _
  rw [BitVec.toNat_or, ofInt_u64 _ (by omega), ofInt_u64 _ (by omega), j]
  simp only [IntKind.wrap, IntKind.bits, IntKind.signed, Bool.true_and]
  rw [if_neg (by simp; omega)]
  omega

theorem u8_or_add (a b : Int) (h1 : 0 ≤ a) (h2 : a < 16) (h3 : 0 ≤ b) (h4 : b < 16) : bits .or .u8 (a * 16) b = a * 16 + b := by
  obtain ⟨n, rfl⟩ := Int.eq_ofNat_of_zero_le h1
  obtain ⟨m, rfl⟩ := Int.eq_ofNat_of_zero_le h3
  have e : ((n : Int) * 16) = ((n * 16 : Nat) : Int) := by omega
  have j : n * 16 ||| m = n * 16 + m := nat_join 4 _ _ (by omega) (by omega)
  rw [e, u8_or_nat _ _ (by omega) (by omega), j]
  omega

/-- The number that the first k bytes are, the highest one first. -/
def numTo (l : List UInt8) : Nat → Int
  | 0 => 0
  | k + 1 => numTo l k * 256 + nth l k
theorem numTo_succ (l : List UInt8) (k : Nat) : numTo l (k + 1) = numTo l k * 256 + nth l k := rfl
theorem numTo_bd (l : List UInt8) : ∀ k, 0 ≤ numTo l k ∧ numTo l k < 256 ^ k
  | 0 => by simp [numTo]
  | k + 1 => by
    have h := numTo_bd l k
    have b := nth_bd l k
    rw [numTo_succ, Int.pow_succ]
    omega
/-- .. where the first one is below 128: k bytes are below 128 * 256^(k - 1). -/
theorem numTo_lo (l : List UInt8) (h0 : nth l 0 < 128) : ∀ k, numTo l (k + 1) < 128 * 256 ^ k
  | 0 => by simp [numTo]; omega
  | k + 1 => by
    have h := numTo_lo l h0 k
    have b := nth_bd l (k + 1)
    rw [numTo_succ, Int.pow_succ]
    omega
theorem numTo_room (l : List UInt8) (n k : Nat) (hk : k < n) (hn : n ≤ 8) (h8 : n = 8 → nth l 0 < 128) : numTo l k < 36028797018963968 := by
  by_cases h7 : k = 7
  · subst h7
    have := numTo_lo l (h8 (by omega)) 6
    simpa using this
  · have h := (numTo_bd l k).2
    have : k = 0 ∨ k = 1 ∨ k = 2 ∨ k = 3 ∨ k = 4 ∨ k = 5 ∨ k = 6 := by omega
    rcases this with rfl | rfl | rfl | rfl | rfl | rfl | rfl <;> simp at h <;> omega
/-- Whether bytes are a number: there are some, no more than 8, and it is no greater than an int. -/
def numOk (l : List UInt8) : Bool := decide (1 ≤ l.length ∧ l.length ≤ 8 ∧ (l.length = 8 → nth l 0 < 128))

/-- The byte at place i of a number in so many bytes. -/
def putB (n : Int) (size i : Nat) : Int := n / 256 ^ (size - 1 - i) % 256
def putL (n : Int) (size : Nat) : List UInt8 := (List.range size).map fun i => UInt8.ofNat (putB n size i).toNat
theorem putL_length (n : Int) (size : Nat) : (putL n size).length = size := by simp [putL]
theorem putB_bd (n : Int) (size i : Nat) : 0 ≤ putB n size i ∧ putB n size i < 256 := by unfold putB; omega
theorem nth_putL (n : Int) (size i : Nat) (h : i < size) : nth (putL n size) i = putB n size i := by
  unfold putL
  rw [nth_map_range _ _ _ h]
  have := putB_bd n size i
  simp [UInt8.toNat_ofNat']
  omega
theorem put_step (n : Int) (size q : Nat) (h : q + 1 ≤ size) : n / 256 ^ (size - q) = n / 256 ^ (size - (q + 1)) / 256 := by
  have e : size - q = (size - (q + 1)) + 1 := by omega
  rw [e, Int.pow_succ, Int.ediv_ediv_of_nonneg (Int.pow_nonneg (by decide))]
theorem put_bd (n : Int) (k : Nat) (h0 : 0 ≤ n) (h1 : n ≤ 9223372036854775807) : 0 ≤ n / 256 ^ k ∧ n / 256 ^ k ≤ 9223372036854775807 := by
  have hp : (0 : Int) < 256 ^ k := Int.pow_pos (by decide)
  refine ⟨Int.ediv_nonneg h0 (Int.le_of_lt hp), Int.le_trans (Int.ediv_le_self _ h0) h1⟩
theorem putB_at (n : Int) (size q : Nat) : putB n size q = n / 256 ^ (size - (q + 1)) % 256 := by
  unfold putB
  have e : size - 1 - q = size - (q + 1) := by omega
  rw [e]
theorem ediv_zero (n m : Int) (h0 : 0 ≤ n) (hm : 0 < m) : n / m = 0 ↔ n < m := by
  constructor
  · intro h
    have := Int.lt_ediv_add_one_mul_self n hm
    rw [h] at this
    omega
  · intro h
    exact Int.ediv_eq_zero_of_lt h0 h

/-! digits -/
def digV (c : Int) : Int := if 48 ≤ c ∧ c ≤ 57 then c - 48 else if 97 ≤ c ∧ c ≤ 102 then c - 87 else 0
def digK (c : Int) : Bool := decide ((48 ≤ c ∧ c ≤ 57) ∨ (97 ≤ c ∧ c ≤ 102))
def hexd (x : Int) : Int := if x < 10 then x + 48 else x + 87
theorem digV_bd (c : Int) : 0 ≤ digV c ∧ digV c < 16 := by unfold digV; split <;> (try split) <;> omega
theorem hexd_digV (c : Int) (h : digK c = true) : hexd (digV c) = c := by
  unfold digK at h
  rw [decide_eq_true_iff] at h
  unfold hexd digV
  split <;> split <;> (try split) <;> omega
theorem digV_hexd (x : Int) (h0 : 0 ≤ x) (h1 : x < 16) : digV (hexd x) = x ∧ digK (hexd x) = true ∧ 0 ≤ hexd x ∧ hexd x ≤ 255 := by
  unfold hexd digV digK
  rw [decide_eq_true_iff]
  by_cases h : x < 10
  · rw [if_pos h, if_pos (by omega)]; omega
  · rw [if_neg h, if_neg (by omega), if_pos (by omega)]; omega
def unhB (s : List UInt8) (i : Nat) : Int := digV (nth s (2 * i)) * 16 + digV (nth s (2 * i + 1))
theorem unhB_bd (s : List UInt8) (i : Nat) : 0 ≤ unhB s i ∧ unhB s i < 256 := by
  have a := digV_bd (nth s (2 * i))
  have b := digV_bd (nth s (2 * i + 1))
  unfold unhB
  omega
def unhL (s : List UInt8) : List UInt8 := (List.range (s.length / 2)).map fun i => UInt8.ofNat (unhB s i).toNat
theorem unhL_length (s : List UInt8) : (unhL s).length = s.length / 2 := by simp [unhL]
theorem nth_unhL (s : List UInt8) (i : Nat) (h : i < s.length / 2) : nth (unhL s) i = unhB s i := by
  unfold unhL
  rw [nth_map_range _ _ _ h]
  have := unhB_bd s i
  simp [UInt8.toNat_ofNat']
  omega
def unhOk (s : List UInt8) : Bool := decide (s.length % 2 = 0 ∧ ∀ i, i < s.length → digK (nth s i) = true)
def hexB (l : List UInt8) (j : Nat) : Int := if j % 2 = 0 then hexd (nth l (j / 2) / 16) else hexd (nth l (j / 2) % 16)
theorem hexB_dig (l : List UInt8) (j : Nat) : digK (hexB l j) = true ∧ 0 ≤ hexB l j ∧ hexB l j ≤ 255 := by
  have b := nth_bd l (j / 2)
  unfold hexB
  split
  · exact (digV_hexd _ (by omega) (by omega)).2
  · exact (digV_hexd _ (by omega) (by omega)).2
def hexL (l : List UInt8) : List UInt8 := (List.range (2 * l.length)).map fun j => UInt8.ofNat (hexB l j).toNat
theorem hexL_length (l : List UInt8) : (hexL l).length = 2 * l.length := by simp [hexL]
theorem nth_hexL (l : List UInt8) (j : Nat) (h : j < 2 * l.length) : nth (hexL l) j = hexB l j := by
  unfold hexL
  rw [nth_map_range _ _ _ h]
  have := hexB_dig l j
  simp [UInt8.toNat_ofNat']
  omega
/-- Digits of bytes are digits, and they are those bytes'. -/
theorem unhOk_hexL (l : List UInt8) : unhOk (hexL l) = true := by
  unfold unhOk
  rw [decide_eq_true_iff, hexL_length]
  exact ⟨by omega, fun i hi => by rw [nth_hexL _ _ hi]; exact (hexB_dig l i).1⟩
theorem unhL_hexL (l : List UInt8) : unhL (hexL l) = l := by
  have e : (unhL (hexL l)).length = l.length := by rw [unhL_length, hexL_length]; omega
  refine nth_inj e fun j hj => ?_
  rw [nth_unhL _ _ (by rw [hexL_length]; omega)]
  unfold unhB
  rw [nth_hexL _ _ (by omega), nth_hexL _ _ (by omega)]
  have b := nth_bd l j
  unfold hexB
  rw [if_pos (by omega), if_neg (by omega)]
  have e1 : 2 * j / 2 = j := by omega
  have e2 : (2 * j + 1) / 2 = j := by omega
  rw [e1, e2, (digV_hexd _ (by omega) (by omega)).1, (digV_hexd _ (by omega) (by omega)).1]
  omega
theorem hexL_unhL (s : List UInt8) (h : unhOk s = true) : hexL (unhL s) = s := by
  unfold unhOk at h
  rw [decide_eq_true_iff] at h
  have e : (hexL (unhL s)).length = s.length := by rw [hexL_length, unhL_length]; omega
  refine nth_inj e fun j hj => ?_
  rw [nth_hexL _ _ (by rw [unhL_length]; omega)]
  have a := digV_bd (nth s (2 * (j / 2)))
  have b := digV_bd (nth s (2 * (j / 2) + 1))
  unfold hexB
  rw [nth_unhL _ _ (by omega)]
  unfold unhB
  by_cases hp : j % 2 = 0
  · rw [if_pos hp]
    have e1 : 2 * (j / 2) = j := by omega
    rw [e1] at a b ⊢
    rw [show (digV (nth s j) * 16 + digV (nth s (j + 1))) / 16 = digV (nth s j) from by omega, hexd_digV _ (h.2 j (by omega))]
  · rw [if_neg hp]
    have e1 : 2 * (j / 2) + 1 = j := by omega
    rw [e1] at b ⊢
    rw [show (digV (nth s (2 * (j / 2))) * 16 + digV (nth s j)) % 16 = digV (nth s j) from by omega, hexd_digV _ (h.2 j (by omega))]
/-- A number from its bytes, and its bytes from it. -/
theorem numTo_putL (n : Int) (size : Nat) (h0 : 0 ≤ n) : ∀ k, k ≤ size → numTo (putL n size) k = n / 256 ^ (size - k) - n / 256 ^ size * 256 ^ k
  | 0, _ => by simp [numTo]
  | k + 1, hk => by
    rw [numTo_succ, numTo_putL n size h0 k (by omega), nth_putL _ _ _ (by omega), putB_at, put_step n size k hk, Int.pow_succ, Int.sub_mul, Int.mul_assoc]
    omega
def putOk (n : Int) (size : Int) : Bool := decide (1 ≤ size ∧ size ≤ 8 ∧ 0 ≤ n ∧ n < 256 ^ size.toNat)
theorem putOk_iff (n : Int) (k : Nat) (h : putOk n k = true) : 1 ≤ k ∧ k ≤ 8 ∧ 0 ≤ n ∧ n < 256 ^ k := by
  unfold putOk at h
  rw [decide_eq_true_iff, Int.toNat_natCast] at h
  omega
theorem numTo_put (n : Int) (k : Nat) (h : putOk n k = true) : numTo (putL n k) k = n := by
  obtain ⟨h1, h8, h0, hn⟩ := putOk_iff n k h
  rw [numTo_putL n k h0 k (Nat.le_refl _), Nat.sub_self, (ediv_zero n _ h0 (Int.pow_pos (by decide))).2 hn]
  simp
theorem numOk_putL (n : Int) (k : Nat) (h : putOk n k = true) (hm : n ≤ 9223372036854775807) : numOk (putL n k) = true := by
  obtain ⟨h1, h8, h0, hn⟩ := putOk_iff n k h
  unfold numOk
  rw [decide_eq_true_iff, putL_length]
  refine ⟨h1, h8, fun e => ?_⟩
  subst e
  rw [nth_putL _ _ _ (by omega)]
  unfold putB
  simp
  omega
theorem numTo_div (l : List UInt8) (k : Nat) : ∀ d, numTo l (k + d) / 256 ^ d = numTo l k
  | 0 => by simp
  | d + 1 => by
    have b := nth_bd l (k + d)
    have e : numTo l (k + (d + 1)) / 256 = numTo l (k + d) := by
      show (numTo l (k + d) * 256 + nth l (k + d)) / 256 = _
      omega
    rw [Int.pow_succ, Int.mul_comm, ← Int.ediv_ediv_of_nonneg (by decide), e, numTo_div l k d]
theorem putL_numTo (l : List UInt8) : putL (numTo l l.length) l.length = l := by
  refine nth_inj (putL_length _ _) fun j hj => ?_
  rw [putL_length] at hj
  rw [nth_putL _ _ _ hj, putB_at]
  have e : l.length = (j + 1) + (l.length - (j + 1)) := by omega
  have d := numTo_div l (j + 1) (l.length - (j + 1))
  rw [← e] at d
  rw [d, numTo_succ]
  have b := nth_bd l j
  omega
theorem putOk_numTo (l : List UInt8) (h : numOk l = true) : putOk (numTo l l.length) l.length = true := by
  unfold numOk at h
  rw [decide_eq_true_iff] at h
  unfold putOk
  rw [decide_eq_true_iff, Int.toNat_natCast]
  have b := numTo_bd l l.length
  omega
theorem numTo_max (l : List UInt8) (h : numOk l = true) : numTo l l.length ≤ 9223372036854775807 := by
  unfold numOk at h
  rw [decide_eq_true_iff] at h
  obtain ⟨h1, h8, h7⟩ := h
  obtain ⟨k, hk⟩ : ∃ k, l.length = k + 1 := ⟨l.length - 1, by omega⟩
  have r := numTo_room l l.length k (by omega) h8 h7
  have r0 := (numTo_bd l k).1
  have b := nth_bd l k
  rw [hk, numTo_succ]
  omega
end Go.Proofs.YtnffmegicgbinabDoor
