/- Plain facts on rows of bytes in memory, for the contracts of package octet: no theorem of the program yet. -/
import Derived.Test.YtanlnfcmmfmofaaRows
import Derived.WalkKit
import Derived.WalkSpells
import Derived.WalkLawsBesides
namespace Go.Proofs.Ytanlnfcmmfmofaa
open Go.RowKit
set_option linter.unusedVariables false
set_option linter.unusedSimpArgs false

/-- The i-th byte of a list, as a number. -/
def nth (l : List UInt8) (i : Nat) : Int := ((l.getD i 0).toNat : Int)
theorem nth_bd (l : List UInt8) (i : Nat) : 0 ≤ nth l i ∧ nth l i ≤ 255 := by
  unfold nth
  have := (l.getD i 0).toNat_lt
  omega
theorem nth_inj {l m : List UInt8} (h : l.length = m.length) (he : ∀ j, j < l.length → nth l j = nth m j) : l = m := by
  apply List.ext_getElem h
  intro i h1 h2
  have := he i h1
  unfold nth at this
  simp [List.getD_eq_getElem?_getD, List.getElem?_eq_getElem h1, List.getElem?_eq_getElem h2] at this
  apply UInt8.toNat_inj.1
  omega

/-- A slice of n bytes at a reads as the list l. -/
def Row (w : World) (a : Option Addr) (n : Nat) (l : List UInt8) : Prop :=
  l.length = n ∧ (n = 0 ∨ ∃ b o, a = some ⟨b, o, none⟩ ∧ ∀ i, i < n → w.cell? ⟨b, o + i, none⟩ = some (.int .u8 (nth l i)))

theorem Row.nil (w : World) : Row w none 0 [] := ⟨rfl, .inl rfl⟩
theorem Row.block {w : World} {b o n : Nat} {l : List UInt8} (h : ∀ i, i < n → w.cell? ⟨b, o + i, none⟩ = some (.int .u8 (nth l i))) (hn : 0 < n) : b < w.heap.size := by
  have := h 0 hn
  by_cases hb : b < w.heap.size
  · exact hb
  · unfold World.cell? at this
    simp [Array.getElem?_eq_none (Nat.not_lt.1 hb)] at this
theorem Row.below {w w' : World} {a : Option Addr} {n : Nat} {l : List UInt8} (h : Row w a n l) (hb : Below w.heap.size w w') : Row w' a n l := by
  obtain ⟨h1, h2⟩ := h
  refine ⟨h1, ?_⟩
  rcases h2 with h2 | ⟨b, o, ha, hc⟩
  · exact .inl h2
  · by_cases hn : n = 0
    · exact .inl hn
    · have hlt := Row.block hc (by omega)
      exact .inr ⟨b, o, ha, fun i hi => (hb.cell (p := ⟨b, o + i, none⟩) hlt).trans (hc i hi)⟩
theorem add0 (g j : Nat) : (⟨g, 0, none⟩ : Addr).add j = ⟨g, j, none⟩ := by
  by_cases h : j = 0
  · subst h; simp [Addr.add]
  · simp [Addr.add, h]
theorem ret_bool {a b : Bool} (h : a = b) : Ending.returned (.bool a) = .returned (.bool b) := by rw [h]
theorem ret_int {k : IntKind} {a b : Int} (h : a = b) : Ending.returned (.int k a) = .returned (.int k b) := by rw [h]
theorem drewN_add (w : World) (a b : Nat) : (w.drewN a).drewN b = w.drewN (a + b) := World.drewN_drewN ..
theorem below_drewN (w : World) (n : Nat) : Below w.heap.size w (w.drewN n) := by
  induction n with
  | zero => exact Below.refl _ _
  | succ n ih => exact ih.drew
theorem Row.lit2 (w : World) (x y : UInt8) (t : TypeId) : Row (w.alloc (.cells #[.int .u8 x.toNat, .int .u8 y.toNat] t)) (some ⟨w.heap.size, 0, none⟩) 2 [x, y] := by
  refine ⟨rfl, .inr ⟨w.heap.size, 0, rfl, fun i hi => ?_⟩⟩
  rw [Nat.zero_add]
  have h : (w.alloc (.cells #[.int .u8 x.toNat, .int .u8 y.toNat] t)).heap[w.heap.size]? = some (.cells #[.int .u8 x.toNat, .int .u8 y.toNat] t) := by
    show (w.heap.push _)[w.heap.size]? = _
    simp
  have : i = 0 ∨ i = 1 := by omega
  rcases this with rfl | rfl
  · unfold World.cell?; rw [h]; rfl
  · unfold World.cell?; rw [h]; rfl
theorem Row.lit1 (w : World) (x : UInt8) (t : TypeId) : Row (w.alloc (.cells #[.int .u8 x.toNat] t)) (some ⟨w.heap.size, 0, none⟩) 1 [x] := by
  refine ⟨rfl, .inr ⟨w.heap.size, 0, rfl, fun i hi => ?_⟩⟩
  rw [Nat.zero_add]
  have h : (w.alloc (.cells #[.int .u8 x.toNat] t)).heap[w.heap.size]? = some (.cells #[.int .u8 x.toNat] t) := by
    show (w.heap.push _)[w.heap.size]? = _
    simp
  have : i = 0 := by omega
  subst this
  unfold World.cell?; rw [h]; rfl
theorem below_trans {w w1 w2 : World} (h : Below w.heap.size w w1) (k : Below w1.heap.size w1 w2) : Below w.heap.size w w2 := h.trans (k.mono h.size)

/-- A string's bytes. -/
def bs (s : ByteArray) : List UInt8 := s.data.toList
theorem bs_length (s : ByteArray) : (bs s).length = s.size := by unfold bs; rw [Array.length_toList]; rfl
theorem bs_mk (l : List UInt8) : bs ⟨l.toArray⟩ = l := rfl
theorem bs_inj {s t : ByteArray} (h : bs s = bs t) : s = t := by
  cases s; cases t; unfold bs at h; simp at h; rw [h]
theorem sbyte (s : ByteArray) (i : Nat) (h : i < s.size) : ((s[i]'h).toNat : Int) = nth (bs s) i := by
  unfold nth bs
  have h' : i < s.data.toList.length := by simpa using h
  simp only [List.getD_eq_getElem?_getD, List.getElem?_eq_getElem h', Option.getD_some]
  rfl
/-- A row of n bytes that the call itself made, at the head of block g: byte i is f i. -/
def OwnB (w : World) (B g n cap : Nat) (f : Nat → Int) : Prop :=
  w.ownsRow B 5 1 (.slice (some ⟨g, 0, none⟩) n cap) n ((List.range n).map fun i => Value.int .u8 (f i))
theorem OwnB.cell {w : World} {B g n cap : Nat} {f : Nat → Int} (h : OwnB w B g n cap f) (i : Nat) (hi : i < n) : w.cell? ⟨g, i, none⟩ = some (.int .u8 (f i)) := by
  rw [World.ownsRow.cellAt h i (by omega)]
  simp [hi]
theorem OwnB.frozen {w : World} {B g n cap : Nat} {f : Nat → Int} (h : OwnB w B g n cap f) (i : Nat) : w.frozen? ⟨g, i, none⟩ = false := World.ownsRow.frozenAt h i
theorem OwnB.congr {w : World} {B g n cap : Nat} {f f' : Nat → Int} (h : OwnB w B g n cap f) (he : ∀ i, i < n → f i = f' i) : OwnB w B g n cap f' := by
  unfold OwnB at *
  have : ((List.range n).map fun i => Value.int .u8 (f' i)) = ((List.range n).map fun i => Value.int .u8 (f i)) :=
    List.map_congr_left fun i hi => by rw [he i (List.mem_range.1 hi)]
  rw [this]
  exact h
theorem OwnB.store {w : World} {B g n cap : Nat} {f : Nat → Int} (h : OwnB w B g n cap f) (j : Nat) (v : Int) :
    OwnB (w.setCell ⟨g, j, none⟩ (.int .u8 v)) B g n cap (fun i => if i = j then v else f i) := by
  have k := (World.ownsRow.stored h j (.int .u8 v)).1
  unfold OwnB
  have : ((List.range n).map fun i => Value.int .u8 (if i = j then v else f i)) = ((List.range n).map fun i => Value.int .u8 (f i)).set j (.int .u8 v) := by
    apply List.ext_getElem
    · simp
    · intro i h1 h2
      simp only [List.getElem_map, List.getElem_range, List.getElem_set]
      by_cases hij : i = j
      · subst hij; simp
      · rw [if_neg hij, if_neg (fun e => hij e.symm)]
  rw [this]
  exact k
theorem OwnB.base {w : World} {B g n cap : Nat} {f : Nat → Int} (h : OwnB w B g n cap f) : B ≤ g ∧ g < w.heap.size := World.ownsRow.lt h g rfl
theorem OwnB.below {w w0 : World} {B g n cap : Nat} {f : Nat → Int} (h : OwnB w B g n cap f) (hb : Below B w0 w) (j : Nat) (v : Int) : Below B w0 (w.setCell ⟨g, j, none⟩ (.int .u8 v)) :=
  hb.setCell (h.base.1) _
theorem OwnB.zero {w : World} {B g n : Nat} (h : w.ownsRow B 5 1 (.slice (some ⟨g, 0, none⟩) n n) n (madeCells (Value.int .u8 0).cells (n * 1)).toList) : OwnB w B g n n (fun _ => 0) := by
  unfold OwnB
  have e : (madeCells (Value.int .u8 0).cells (n * 1)).toList = (List.range n).map fun _ => Value.int .u8 0 := by
    have : (Value.int .u8 0).cells = #[Value.int .u8 0] := rfl
    rw [this, toList_madeCells_one, Nat.mul_one]
    apply List.ext_getElem
    · simp
    · intro i h1 h2; simp
  rw [← e]
  exact h
theorem nth_map_range (f : Nat → UInt8) (n i : Nat) (h : i < n) : nth ((List.range n).map f) i = ((f i).toNat : Int) := by
  unfold nth
  simp [List.getD_eq_getElem?_getD, h]
theorem OwnB.row {w : World} {B g n cap : Nat} {f : Nat → Int} {l : List UInt8} (h : OwnB w B g n cap f) (hl : l.length = n) (he : ∀ i, i < n → f i = nth l i) : Row w (some ⟨g, 0, none⟩) n l := by
  refine ⟨hl, .inr ⟨g, 0, rfl, fun i hi => ?_⟩⟩
  rw [Nat.zero_add, h.cell i hi, he i hi]
theorem own_row {w : World} {B n : Nat} {v : Value} {f : Nat → Int} {l : List UInt8} (h : w.ownsRow B 5 1 v n ((List.range n).map fun i => Value.int .u8 (f i))) (hl : l.length = n) (he : ∀ i, i < n → f i = nth l i) :
    ∃ a cap, v = .slice a n cap ∧ Row w a n l := by
  rcases h.2 with ⟨rfl, rfl⟩ | ⟨g, cap, cur, rfl, _⟩
  · exact ⟨none, 0, rfl, hl, .inl rfl⟩
  · exact ⟨_, cap, rfl, OwnB.row (B := B) h hl he⟩
theorem one_news (w : World) (a : Value) (t : TypeId) : ∀ j u, [a][j]? = some u → (w.alloc (.cells #[a] t)).cell? ((⟨w.heap.size, 0, none⟩ : Addr).add j) = some u := by
  intro j u hj
  have h0 : j = 0 := by
    rcases j with _ | j
    · rfl
    · simp at hj
  subst h0
  have : (w.alloc (.cells #[a] t)).heap[w.heap.size]? = some (.cells #[a] t) := by
    show (w.heap.push _)[w.heap.size]? = _
    simp
  rw [add0]
  unfold World.cell?
  rw [this]
  simpa using hj
theorem map_range_snoc (k : Nat) (f : Nat → Value) : ((List.range k).map f) ++ [f k] = (List.range (k + 1)).map f := by
  rw [List.range_succ, List.map_append]; rfl
theorem Row.take {w : World} {a : Option Addr} {n : Nat} {l : List UInt8} (h : Row w a n l) (m : Nat) (hm : m ≤ n) : Row w a m (l.take m) := by
  obtain ⟨h1, h2⟩ := h
  refine ⟨by simp; omega, ?_⟩
  rcases h2 with h2 | ⟨b, o, ha, hc⟩
  · exact .inl (by omega)
  · refine .inr ⟨b, o, ha, fun i hi => ?_⟩
    rw [hc i (by omega)]
    unfold nth
    simp [List.getD_eq_getElem?_getD, List.getElem?_take, hi]
theorem Row.lit1v (w : World) (x : UInt8) (t : TypeId) (v : Int) (hv : v = (x.toNat : Int)) : Row (w.alloc (.cells #[.int .u8 v] t)) (some ⟨w.heap.size, 0, none⟩) 1 [x] := by
  subst hv
  exact Row.lit1 w x t
end Go.Proofs.Ytanlnfcmmfmofaa
