/- Texts of this claim, joined: Base, Wround, Ints, Wback. -/
import Derived.Test.YtghiniaijobonaaDoorRows
import Derived.WalkKit
import Derived.WalkSpells
import Derived.WalkLawsBesides
import Derived.RangeFuncNested
import Derived.RangeFuncBound
import Derived.RangeFuncCalls
import Derived.RangeFuncLeaves
import Derived.Shelf.Abstract
import Derived.Shelf.RegionOpen
import Derived.OwnWalkIn
import Derived.TacticsInMore
import Derived.LoopNIn
import Derived.LoopIn
import Derived.OrdersHeld
/- Plain facts on rows of bytes in memory, for the contracts of package octet: no theorem of the program yet. -/
namespace Go.Proofs.YtghiniaijobonaaDoor
open Go.RowKit
set_option linter.unusedVariables false
set_option linter.unusedSimpArgs false

/-- The i-th byte of a list, as a number. -/
def nth (l : List UInt8) (i : Nat) : Int := ((l.getD i 0).toNat : Int)
theorem nth_bd (l : List UInt8) (i : Nat) : 0 ≤ nth l i ∧ nth l i ≤ 255 := by
  unfold nth
  have := (l.getD i 0).toNat_lt
  omega
theorem nth_inj {l m : List UInt8} (h : l.length = m.length) (he : ∀ j, j < l.length → nth l j = nth m j) : l = m := by
  apply List.ext_getElem h
  intro i h1 h2
  have := he i h1
  unfold nth at this
  simp [List.getD_eq_getElem?_getD, List.getElem?_eq_getElem h1, List.getElem?_eq_getElem h2] at this
  apply UInt8.toNat_inj.1
  omega

/-- A slice of n bytes at a reads as the list l. -/
def Row (w : World) (a : Option Addr) (n : Nat) (l : List UInt8) : Prop :=
  l.length = n ∧ (n = 0 ∨ ∃ b o, a = some ⟨b, o, none⟩ ∧ ∀ i, i < n → w.cell? ⟨b, o + i, none⟩ = some (.int .u8 (nth l i)))

theorem Row.nil (w : World) : Row w none 0 [] := ⟨rfl, .inl rfl⟩
theorem Row.block {w : World} {b o n : Nat} {l : List UInt8} (h : ∀ i, i < n → w.cell? ⟨b, o + i, none⟩ = some (.int .u8 (nth l i))) (hn : 0 < n) : b < w.heap.size := by
  have := h 0 hn
  by_cases hb : b < w.heap.size
  · exact hb
  · unfold World.cell? at this
    simp [Array.getElem?_eq_none (Nat.not_lt.1 hb)] at this
theorem Row.below {w w' : World} {a : Option Addr} {n : Nat} {l : List UInt8} (h : Row w a n l) (hb : Below w.heap.size w w') : Row w' a n l := by
  obtain ⟨h1, h2⟩ := h
  refine ⟨h1, ?_⟩
  rcases h2 with h2 | ⟨b, o, ha, hc⟩
  · exact .inl h2
  · by_cases hn : n = 0
    · exact .inl hn
    · have hlt := Row.block hc (by omega)
      exact .inr ⟨b, o, ha, fun i hi => (hb.cell (p := ⟨b, o + i, none⟩) hlt).trans (hc i hi)⟩
theorem add0 (g j : Nat) : (⟨g, 0, none⟩ : Addr).add j = ⟨g, j, none⟩ := by
  by_cases h : j = 0
  · subst h; simp [Addr.add]
  · simp [Addr.add, h]
theorem ret_bool {a b : Bool} (h : a = b) : Ending.returned (.bool a) = .returned (.bool b) := by rw [h]
theorem ret_int {k : IntKind} {a b : Int} (h : a = b) : Ending.returned (.int k a) = .returned (.int k b) := by rw [h]
theorem drewN_add (w : World) (a b : Nat) : (w.drewN a).drewN b = w.drewN (a + b) := World.drewN_drewN ..
theorem below_drewN (w : World) (n : Nat) : Below w.heap.size w (w.drewN n) := by
  induction n with
  | zero => exact Below.refl _ _
  | succ n ih => exact ih.drew
theorem Row.lit2 (w : World) (x y : UInt8) (t : TypeId) : Row (w.alloc (.cells #[.int .u8 x.toNat, .int .u8 y.toNat] t)) (some ⟨w.heap.size, 0, none⟩) 2 [x, y] := by
  refine ⟨rfl, .inr ⟨w.heap.size, 0, rfl, fun i hi => ?_⟩⟩
  rw [Nat.zero_add]
  have h : (w.alloc (.cells #[.int .u8 x.toNat, .int .u8 y.toNat] t)).heap[w.heap.size]? = some (.cells #[.int .u8 x.toNat, .int .u8 y.toNat] t) := by
    show (w.heap.push _)[w.heap.size]? = _
    simp
  have : i = 0 ∨ i = 1 := by omega
  rcases this with rfl | rfl
  · unfold World.cell?; rw [h]; rfl
  · unfold World.cell?; rw [h]; rfl
theorem Row.lit1 (w : World) (x : UInt8) (t : TypeId) : Row (w.alloc (.cells #[.int .u8 x.toNat] t)) (some ⟨w.heap.size, 0, none⟩) 1 [x] := by
  refine ⟨rfl, .inr ⟨w.heap.size, 0, rfl, fun i hi => ?_⟩⟩
  rw [Nat.zero_add]
  have h : (w.alloc (.cells #[.int .u8 x.toNat] t)).heap[w.heap.size]? = some (.cells #[.int .u8 x.toNat] t) := by
    show (w.heap.push _)[w.heap.size]? = _
    simp
  have : i = 0 := by omega
  subst this
  unfold World.cell?; rw [h]; rfl
theorem below_trans {w w1 w2 : World} (h : Below w.heap.size w w1) (k : Below w1.heap.size w1 w2) : Below w.heap.size w w2 := h.trans (k.mono h.size)

/-- A string's bytes. -/
def bs (s : ByteArray) : List UInt8 := s.data.toList
theorem bs_length (s : ByteArray) : (bs s).length = s.size := by unfold bs; rw [Array.length_toList]; rfl
theorem bs_mk (l : List UInt8) : bs ⟨l.toArray⟩ = l := rfl
theorem bs_inj {s t : ByteArray} (h : bs s = bs t) : s = t := by
  cases s; cases t; unfold bs at h; simp at h; rw [h]
theorem sbyte (s : ByteArray) (i : Nat) (h : i < s.size) : ((s[i]'h).toNat : Int) = nth (bs s) i := by
  unfold nth bs
  have h' : i < s.data.toList.length := by simpa using h
  simp only [List.getD_eq_getElem?_getD, List.getElem?_eq_getElem h', Option.getD_some]
  rfl
/-- A row of n bytes that the call itself made, at the head of block g: byte i is f i. -/
def OwnB (w : World) (B g n cap : Nat) (f : Nat → Int) : Prop :=
  w.ownsRow B 5 1 (.slice (some ⟨g, 0, none⟩) n cap) n ((List.range n).map fun i => Value.int .u8 (f i))
theorem OwnB.cell {w : World} {B g n cap : Nat} {f : Nat → Int} (h : OwnB w B g n cap f) (i : Nat) (hi : i < n) : w.cell? ⟨g, i, none⟩ = some (.int .u8 (f i)) := by
  rw [World.ownsRow.cellAt h i (by omega)]
  simp [hi]
theorem OwnB.frozen {w : World} {B g n cap : Nat} {f : Nat → Int} (h : OwnB w B g n cap f) (i : Nat) : w.frozen? ⟨g, i, none⟩ = false := World.ownsRow.frozenAt h i
theorem OwnB.congr {w : World} {B g n cap : Nat} {f f' : Nat → Int} (h : OwnB w B g n cap f) (he : ∀ i, i < n → f i = f' i) : OwnB w B g n cap f' := by
  unfold OwnB at *
  have : ((List.range n).map fun i => Value.int .u8 (f' i)) = ((List.range n).map fun i => Value.int .u8 (f i)) :=
    List.map_congr_left fun i hi => by rw [he i (List.mem_range.1 hi)]
  rw [this]
  exact h
theorem OwnB.store {w : World} {B g n cap : Nat} {f : Nat → Int} (h : OwnB w B g n cap f) (j : Nat) (v : Int) :
    OwnB (w.setCell ⟨g, j, none⟩ (.int .u8 v)) B g n cap (fun i => if i = j then v else f i) := by
  have k := (World.ownsRow.stored h j (.int .u8 v)).1
  unfold OwnB
  have : ((List.range n).map fun i => Value.int .u8 (if i = j then v else f i)) = ((List.range n).map fun i => Value.int .u8 (f i)).set j (.int .u8 v) := by
    apply List.ext_getElem
    · simp
    · intro i h1 h2
      simp only [List.getElem_map, List.getElem_range, List.getElem_set]
      by_cases hij : i = j
      · subst hij; simp
      · rw [if_neg hij, if_neg (fun e => hij e.symm)]
  rw [this]
  exact k
theorem OwnB.base {w : World} {B g n cap : Nat} {f : Nat → Int} (h : OwnB w B g n cap f) : B ≤ g ∧ g < w.heap.size := World.ownsRow.lt h g rfl
theorem OwnB.below {w w0 : World} {B g n cap : Nat} {f : Nat → Int} (h : OwnB w B g n cap f) (hb : Below B w0 w) (j : Nat) (v : Int) : Below B w0 (w.setCell ⟨g, j, none⟩ (.int .u8 v)) :=
  hb.setCell (h.base.1) _
theorem OwnB.zero {w : World} {B g n : Nat} (h : w.ownsRow B 5 1 (.slice (some ⟨g, 0, none⟩) n n) n (madeCells (Value.int .u8 0).cells (n * 1)).toList) : OwnB w B g n n (fun _ => 0) := by
  unfold OwnB
  have e : (madeCells (Value.int .u8 0).cells (n * 1)).toList = (List.range n).map fun _ => Value.int .u8 0 := by
    have : (Value.int .u8 0).cells = #[Value.int .u8 0] := rfl
    rw [this, toList_madeCells_one, Nat.mul_one]
    apply List.ext_getElem
    · simp
    · intro i h1 h2; simp
  rw [← e]
  exact h
theorem nth_map_range (f : Nat → UInt8) (n i : Nat) (h : i < n) : nth ((List.range n).map f) i = ((f i).toNat : Int) := by
  unfold nth
  simp [List.getD_eq_getElem?_getD, h]
theorem OwnB.row {w : World} {B g n cap : Nat} {f : Nat → Int} {l : List UInt8} (h : OwnB w B g n cap f) (hl : l.length = n) (he : ∀ i, i < n → f i = nth l i) : Row w (some ⟨g, 0, none⟩) n l := by
  refine ⟨hl, .inr ⟨g, 0, rfl, fun i hi => ?_⟩⟩
  rw [Nat.zero_add, h.cell i hi, he i hi]
theorem own_row {w : World} {B n : Nat} {v : Value} {f : Nat → Int} {l : List UInt8} (h : w.ownsRow B 5 1 v n ((List.range n).map fun i => Value.int .u8 (f i))) (hl : l.length = n) (he : ∀ i, i < n → f i = nth l i) :
    ∃ a cap, v = .slice a n cap ∧ Row w a n l := by
  rcases h.2 with ⟨rfl, rfl⟩ | ⟨g, cap, cur, rfl, _⟩
  · exact ⟨none, 0, rfl, hl, .inl rfl⟩
  · exact ⟨_, cap, rfl, OwnB.row (B := B) h hl he⟩
theorem one_news (w : World) (a : Value) (t : TypeId) : ∀ j u, [a][j]? = some u → (w.alloc (.cells #[a] t)).cell? ((⟨w.heap.size, 0, none⟩ : Addr).add j) = some u := by
  intro j u hj
  have h0 : j = 0 := by
    rcases j with _ | j
    · rfl
    · simp at hj
  subst h0
  have : (w.alloc (.cells #[a] t)).heap[w.heap.size]? = some (.cells #[a] t) := by
    show (w.heap.push _)[w.heap.size]? = _
    simp
  rw [add0]
  unfold World.cell?
  rw [this]
  simpa using hj
theorem map_range_snoc (k : Nat) (f : Nat → Value) : ((List.range k).map f) ++ [f k] = (List.range (k + 1)).map f := by
  rw [List.range_succ, List.map_append]; rfl
theorem Row.take {w : World} {a : Option Addr} {n : Nat} {l : List UInt8} (h : Row w a n l) (m : Nat) (hm : m ≤ n) : Row w a m (l.take m) := by
  obtain ⟨h1, h2⟩ := h
  refine ⟨by simp; omega, ?_⟩
  rcases h2 with h2 | ⟨b, o, ha, hc⟩
  · exact .inl (by omega)
  · refine .inr ⟨b, o, ha, fun i hi => ?_⟩
    rw [hc i (by omega)]
    unfold nth
    simp [List.getD_eq_getElem?_getD, List.getElem?_take, hi]
theorem Row.lit1v (w : World) (x : UInt8) (t : TypeId) (v : Int) (hv : v = (x.toNat : Int)) : Row (w.alloc (.cells #[.int .u8 v] t)) (some ⟨w.heap.size, 0, none⟩) 1 [x] := by
  subst hv
  exact Row.lit1 w x t
end Go.Proofs.YtghiniaijobonaaDoor
/- A region in a round of a range over a function: as anywhere, under the wide fence. -/
namespace Go.Proofs.YtghiniaijobonaaDoor
open Go.RowKit
set_option linter.unusedVariables false
set_option linter.unusedSimpArgs false

theorem rows_wide {P : Program} {row : String} {args : Array Value} {w : World} {R : Value → World → Prop} (l n : Nat) (h : Rows P row args w R) : RowsIn (Fence.wide.inRound l) n P row args w R :=
  fun c cs _ => let ⟨v, w', r, s⟩ := h c cs; ⟨v, w', r, stepsIn_wide.2 s⟩
theorem uponIn_round_wide {P : Program} {o : Oper} {a : Act} {K K' : Act → World → Prop} {Q : Exit → Act → World → Prop} (l n : Nat) (hK : ∀ a w, K a w → K' a w) (r : Result Next) (h : o.upon P a K Q r) :
    o.uponIn (Fence.wide.inRound l) n P a K' Q r := by
  unfold Oper.upon at h
  unfold Oper.uponIn
  split at h
  · exact hK _ _ h
  · exact hK _ _ h
  · exact hK _ _ h
  · refine ⟨fun hd => (by cases hd), CallsIn.inRound l (callsIn_wide.2 (h.mono ?_))⟩
    intro e w' he
    cases e with
    | returned v => exact hK _ _ he
    | panicked c => exact he
    | outgrown => exact he
  · exact ⟨fun hd => (by cases hd), rows_wide l _ (h.mono fun v w' hv => hK _ _ hv)⟩
  · exact h
  · exact h.elim
/-- No statement in it is a 'defer'. -/
def noDefer (ops : Array Oper) : Bool := ops.toList.all fun o => match o.op with | .defer _ => false | _ => true
theorem noDefer_spec {ops : Array Oper} (h : noDefer ops = true) {i : Nat} {o : Oper} (ho : ops[i]? = some o) : ∀ c, o.op ≠ .defer c := by
  intro c hc
  have hm : o ∈ ops.toList := by
    have := (Array.getElem?_eq_some_iff.1 ho).2
    have hi := (Array.getElem?_eq_some_iff.1 ho).1
    rw [← this]
    exact Array.mem_toList_iff.2 (Array.getElem_mem hi)
  have := List.all_eq_true.1 h o hm
  rw [hc] at this
  cases this
theorem wpOps_round {P : Program} {ops : Array Oper} {Q : Exit → Act → World → Prop} (l n : Nat) (hd : noDefer ops = true) (hQ : ¬ LetsOut Q) :
    ∀ (js : List Nat) (a : Act) (w : World), wpOps P ops Q js a w → wpOpsIn (Fence.wide.inRound l) n P ops Q js a w
  | [], _, _, h => h
  | i :: rest, a, w, h => by
    have ih := wpOps_round (P := P) l n hd hQ rest
    unfold wpOps at h
    unfold wpOpsIn
    cases ho : ops[i]? with
    | none =>
      rw [ho] at h
      exact ih a w h
    | some o =>
      rw [ho] at h
      simp only at h ⊢
      by_cases hw : Region.wanted o (yielded ops a.tmps) = true
      · rw [if_pos hw] at h ⊢
        rcases h with h | ⟨_, h⟩
        · refine ⟨fun _ _ => trivial, ?_⟩
          rw [Oper.semAt_eq _ _ _ (noDefer_spec hd ho)]
          exact uponIn_round_wide l n ih _ h
        · exact absurd h hQ
      · rw [if_neg hw] at h ⊢
        exact ⟨fun _ _ => trivial, ih _ _ h⟩
theorem wpIn_round_list {P : Program} {ops : Array Oper} {Q : Exit → Act → World → Prop} {id : Nat} {a : Act} {w : World} (l n : Nat) (hd : noDefer ops = true) (hQ : ¬ LetsOut Q) (h : wpList P ops Q ops.toList a w) :
    (Code.region id ops false).wpIn (Fence.wide.inRound l) n P Q a w := by
  refine wpIn_region (wpOps_round l n hd hQ _ _ _ ?_)
  rw [List.range_eq_range', show ops.size = ops.toList.length from rfl, wpOps_eq_wpList ops.toList 0 (by simp)]
  exact h
theorem wpIn_round_held {P : Program} {ops : Array Oper} {Q : Exit → Act → World → Prop} {S : World → Prop} {id : Nat} {a : Act} {w : World} (l n : Nat) (hm : P.follows .mixedOrders = true) (hd : noDefer ops = true) (hQ : ¬ LetsOut Q)
    (h : wpAnyH P .any ops Q S ops.size (Array.replicate ops.size false) a { w with drawn := w.drawn + 1 }) : (Code.region id ops true).wpIn (Fence.wide.inRound l) n P Q a w :=
  wpIn_region_draw fun t => by
    refine wpOps_round l n hd hQ _ _ _ ?_
    simp only [Region.schedule, hm, Bool.true_or, if_true]
    exact wpAny_sound ops.size t _ a _ (wpAny_of_held _ _ _ _ h)
end Go.Proofs.YtghiniaijobonaaDoor
/- Rows of integers in memory: those that came in, and those that the call itself made. -/
namespace Go.Proofs.YtghiniaijobonaaDoor
open Go.RowKit
set_option linter.unusedVariables false
set_option linter.unusedSimpArgs false

/-- The i-th of some numbers. -/
def at' (l : List Nat) (i : Nat) : Nat := l.getD i 0
theorem at_inj {l m : List Nat} (h : l.length = m.length) (he : ∀ j, j < l.length → at' l j = at' m j) : l = m := by
  apply List.ext_getElem h
  intro i h1 h2
  have := he i h1
  unfold at' at this
  simpa [List.getD_eq_getElem?_getD, List.getElem?_eq_getElem h1, List.getElem?_eq_getElem h2] using this
/-- A slice of n numbers at a reads as the list l. -/
def RowK (k : IntKind) (w : World) (a : Option Addr) (n : Nat) (l : List Nat) : Prop :=
  l.length = n ∧ (n = 0 ∨ ∃ b o, a = some ⟨b, o, none⟩ ∧ ∀ i, i < n → w.cell? ⟨b, o + i, none⟩ = some (.int k ((at' l i : Nat) : Int)))
theorem cell_block {w : World} {b o : Nat} {v : Value} (h : w.cell? ⟨b, o, none⟩ = some v) : b < w.heap.size := by
  by_cases hb : b < w.heap.size
  · exact hb
  · unfold World.cell? at h
    simp [Array.getElem?_eq_none (Nat.not_lt.1 hb)] at h
theorem RowK.below {k : IntKind} {w w' : World} {a : Option Addr} {n : Nat} {l : List Nat} (h : RowK k w a n l) (hb : Below w.heap.size w w') : RowK k w' a n l := by
  obtain ⟨h1, h2⟩ := h
  refine ⟨h1, ?_⟩
  rcases h2 with h2 | ⟨b, o, ha, hc⟩
  · exact .inl h2
  · exact .inr ⟨b, o, ha, fun i hi => (hb.cell (p := ⟨b, o + i, none⟩) (cell_block (hc i hi))).trans (hc i hi)⟩
/-- A row of n numbers that the call itself made, at the head of block g: the i-th is f i. -/
def OwnK (k : IntKind) (e : TypeId) (w : World) (B g n cap : Nat) (f : Nat → Int) : Prop :=
  w.ownsRow B e 1 (.slice (some ⟨g, 0, none⟩) n cap) n ((List.range n).map fun i => Value.int k (f i))
section
variable {k : IntKind} {e : TypeId} {w : World} {B g n cap : Nat} {f : Nat → Int}
theorem OwnK.cell (h : OwnK k e w B g n cap f) (i : Nat) (hi : i < n) : w.cell? ⟨g, i, none⟩ = some (.int k (f i)) := by
  rw [World.ownsRow.cellAt h i (by omega)]
  simp [hi]
theorem OwnK.frozen (h : OwnK k e w B g n cap f) (i : Nat) : w.frozen? ⟨g, i, none⟩ = false := World.ownsRow.frozenAt h i
theorem OwnK.congr {f' : Nat → Int} (h : OwnK k e w B g n cap f) (he : ∀ i, i < n → f i = f' i) : OwnK k e w B g n cap f' := by
  unfold OwnK at *
  have : ((List.range n).map fun i => Value.int k (f' i)) = ((List.range n).map fun i => Value.int k (f i)) :=
    List.map_congr_left fun i hi => by rw [he i (List.mem_range.1 hi)]
  rw [this]
  exact h
theorem OwnK.store (h : OwnK k e w B g n cap f) (j : Nat) (v : Int) :
    OwnK k e (w.setCell ⟨g, j, none⟩ (.int k v)) B g n cap (fun i => if i = j then v else f i) := by
  have s := (World.ownsRow.stored h j (.int k v)).1
  unfold OwnK
  have : ((List.range n).map fun i => Value.int k (if i = j then v else f i)) = ((List.range n).map fun i => Value.int k (f i)).set j (.int k v) := by
    apply List.ext_getElem
    · simp
    · intro i h1 h2
      simp only [List.getElem_map, List.getElem_range, List.getElem_set]
      by_cases hij : i = j
      · subst hij; simp
      · rw [if_neg hij, if_neg (fun e => hij e.symm)]
  rw [this]
  exact s
theorem OwnK.base (h : OwnK k e w B g n cap f) : B ≤ g ∧ g < w.heap.size := World.ownsRow.lt h g rfl
theorem OwnK.drewN (h : OwnK k e w B g n cap f) (q : Nat) : OwnK k e (w.drewN q) B g n cap f := by
  induction q with
  | zero => exact h
  | succ q ih => exact World.ownsRow.drew ih
theorem OwnK.kept {w' : World} {row : Option Nat} (h : OwnK k e w B g n cap f) (hg : w.grownBy w' row) (hne : some g ≠ row) : OwnK k e w' B g n cap f := World.ownsRow.kept h hg (.inr hne)
theorem OwnK.keptBelow {w' : World} {B' : Nat} (h : OwnK k e w B g n cap f) (hb : Below B' w w') (hg : g < B') : OwnK k e w' B g n cap f := by
  have hbl := hb.block g hg
  unfold OwnK World.ownsRow at *
  refine ⟨h.1, ?_⟩
  rcases h.2 with h2 | ⟨g', cap', cur, e1, e2, e3, e4⟩
  · exact .inl h2
  · simp only [Value.slice.injEq, Option.some.injEq, Addr.mk.injEq, and_true, true_and] at e1
    obtain ⟨rfl, rfl⟩ := e1
    exact .inr ⟨g, cap, cur, rfl, e2, hbl.trans e3, e4⟩
theorem OwnK.aside (h : OwnK k e w B g n cap f) (a : Addr) (v : Value) (hne : a.block ≠ g) : OwnK k e (w.setCell a v) B g n cap f := by
  have hbl := Below.heap_setCell w a v g (fun h => hne h.symm)
  unfold OwnK World.ownsRow at *
  refine ⟨h.1, ?_⟩
  rcases h.2 with h2 | ⟨g', cap', cur, e1, e2, e3, e4⟩
  · exact .inl h2
  · simp only [Value.slice.injEq, Option.some.injEq, Addr.mk.injEq, and_true, true_and] at e1
    obtain ⟨rfl, rfl⟩ := e1
    exact .inr ⟨g, cap, cur, rfl, e2, hbl.trans e3, e4⟩
theorem OwnK.row {l : List Nat} (h : OwnK k e w B g n cap f) (hl : l.length = n) (he : ∀ i, i < n → f i = ((at' l i : Nat) : Int)) : RowK k w (some ⟨g, 0, none⟩) n l := by
  refine ⟨hl, .inr ⟨g, 0, rfl, fun i hi => ?_⟩⟩
  rw [Nat.zero_add, h.cell i hi, he i hi]
end
theorem OwnK.zero {k : IntKind} {e : TypeId} {w : World} {B g n : Nat} (h : w.ownsRow B e 1 (.slice (some ⟨g, 0, none⟩) n n) n (madeCells (Value.int k 0).cells (n * 1)).toList) : OwnK k e w B g n n (fun _ => 0) := by
  unfold OwnK
  have eq : (madeCells (Value.int k 0).cells (n * 1)).toList = (List.range n).map fun _ => Value.int k 0 := by
    have : (Value.int k 0).cells = #[Value.int k 0] := rfl
    rw [this, toList_madeCells_one, Nat.mul_one]
    apply List.ext_getElem
    · simp
    · intro i h1 h2; simp
  rw [← eq]
  exact h
theorem drewN_cell (w : World) (q : Nat) (a : Addr) : (w.drewN q).cell? a = w.cell? a := by
  induction q with
  | zero => rfl
  | succ q ih => exact ih
theorem drewN_frozen (w : World) (q : Nat) (a : Addr) : (w.drewN q).frozen? a = w.frozen? a := by
  induction q with
  | zero => rfl
  | succ q ih => exact ih
end Go.Proofs.YtghiniaijobonaaDoor
/- The contract of slices.Backward over bytes: it goes through them from the last one to the first. -/
namespace Go.Proofs.YtghiniaijobonaaDoor
open Go.RowKit Go.Shelf
set_option linter.unusedVariables false
set_option linter.unusedSimpArgs false
attribute [local go_sem] Oper.semAt_some

/-- The places below n, from the last one to m. -/
def backs (n m : Nat) : List Nat := (List.range' m (n - m)).reverse
theorem backs_none (n : Nat) : backs n n = [] := by simp [backs]
theorem backs_succ {n m : Nat} (h : m < n) : backs n m = backs n (m + 1) ++ [m] := by
  unfold backs
  rw [show n - m = (n - (m + 1)) + 1 by omega, List.range'_succ, List.reverse_cons]
theorem backs_len (n m : Nat) : (backs n m).length = n - m := by simp [backs]
abbrev byteA (l : List UInt8) (i : Nat) : Array Value := #[.int .i64 (i : Int), .int .u8 (nth l i)]
/-- The boxed slice, and what lies there, stay. -/
def BKp (B : Nat) (a : Option Addr) (n c : Nat) (l : List UInt8) (W W' : World) : Prop :=
  (W.cell? ⟨B, 0, none⟩ = some (.slice a n c) ∧ Row W a n l) → W'.cell? ⟨B, 0, none⟩ = some (.slice a n c) ∧ Row W' a n l
set_option maxRecDepth 100000 in
set_option maxHeartbeats 2000000 in
theorem wback_any (a : Option Addr) (n c : Nat) (w : World) :
    CallsIn Fence.wide 3 Tryd.prog 43 #[.slice a n c] w fun e w' => e = .returned (.func (.func 55) #[] #[.pointer (some ⟨w.heap.size, 0, none⟩)]) ∧ w' = w.alloc (.cells #[.slice a n c] 33) := by
  refine callsIn_wide.2 ?_
  go_enter Tryd.func43, Tryd.ntmps43
  go_wp2
  go_ret
  exact ⟨rfl, rfl⟩

set_option maxRecDepth 100000 in
set_option maxHeartbeats 2000000 in
theorem wback1 (k0 : Nat) (hk0 : 1 ≤ k0) (L B : Nat) (a : Option Addr) (n c : Nat) (l : List UInt8) (hn : n ≤ 140737488351232) (J Jx : List Nat → World → Prop)
    (hY : ∀ pre x W, J pre W → pre.length < n → YieldAt Fence.wide (k0 - 1) Tryd.prog L (byteA l x) W fun e W' =>
      (e = .returned (.bool true) ∧ J (pre ++ [x]) W' ∧ BKp B a n c l W W') ∨ (e = .returned (.bool false) ∧ Jx (pre ++ [x]) W'))
    (W : World) (hD : W.cell? ⟨B, 0, none⟩ = some (.slice a n c) ∧ Row W a n l) (h0 : J [] W) :
    CallsIn Fence.wide k0 Tryd.prog 55 #[.func (.yield L) #[] #[], .pointer (some ⟨B, 0, none⟩)] W fun e W' => (∃ v, e = .returned v) ∧
      ((∃ ys, ys = backs n 0 ∧ J ys W') ∨ (∃ pre, True ∧ Jx pre W')) := by
  refine callsIn_of_wp Tryd.func55 rfl trivial ?_ rfl
  simp only [Tryd.ntmps55, List.size_toArray, List.length_cons, List.length_nil, Nat.reduceAdd, Nat.reduceSub, Array.replicate_succ, Array.replicate_zero, List.push_toArray, List.append_toArray, List.nil_append, List.cons_append]
  have hwr : IntKind.i64.wrap ((n : Int) - 1) = (n : Int) - 1 := by rw [IntKind.wrap_i64]; omega
  have hc0 := hD.1
  gi_wp2
  clear hc0
  gi_loopw [3] (fun i wr => ∃ k : Nat, k ≤ n ∧ i = .int .i64 ((k : Int) - 1) ∧ J (backs n k) wr ∧ (wr.cell? ⟨B, 0, none⟩ = some (.slice a n c) ∧ Row wr a n l)) (fun i _ => (intOf i + 1).toNat)
  case atStart => exact ⟨n, Nat.le_refl _, rfl, by rw [backs_none]; exact h0, hD⟩
  case round =>
    obtain ⟨k, hk, rfl, hJs, hDr⟩ := hrel
    by_cases hlt : 0 < k
    · obtain ⟨q, rfl⟩ : ∃ q, k = q + 1 := ⟨k - 1, by omega⟩
      obtain ⟨fn, tmps, assign, body, hy, hR⟩ := hY _ q wr hJs (by rw [backs_len]; omega)
      have hq1 : ((q + 1 : Nat) : Int) - 1 = (q : Int) := by omega
      have q0 : (0 : Int) ≤ (q : Int) := by omega
      have q1 : (q : Int) < (n : Int) := by omega
      have hw2 : IntKind.i64.wrap ((q : Int) - 1) = (q : Int) - 1 := by rw [IntKind.wrap_i64]; omega
      obtain ⟨b, o, rfl, hcell⟩ : ∃ b o, a = some ⟨b, o, none⟩ ∧ wr.cell? ⟨b, o + q, none⟩ = some (.int .u8 (nth l q)) := by
        rcases hDr.2.2 with h | ⟨b, o, e, hc⟩
        · omega
        · exact ⟨b, o, e, hc q (by omega)⟩
      have hb := hDr.1
      simp only [byteA] at hy
      rw [hq1]
      generalize nth l q = z at *
      gi_wp2
      refine hR.mono ?_
      rintro e W3 (⟨rfl, hJ3, hk3⟩ | ⟨rfl, hJx3⟩)
      · gi_wp2
        go_roundw
        case rel => exact ⟨q, by omega, rfl, by rw [backs_succ (by omega)]; exact hJ3, hk3 hDr⟩
        case measure => simp [intOf]
      · gi_wp2
        refine bodyPost_ret (results_none rfl _ _ _) rfl ?_
        exact ⟨⟨_, rfl⟩, .inr ⟨_, trivial, hJx3⟩⟩
    · obtain rfl : k = 0 := by omega
      have hz : ((0 : Nat) : Int) - 1 = -1 := by omega
      rw [hz]
      gi_wp2
      go_end0
      exact ⟨⟨_, rfl⟩, .inl ⟨_, rfl, hJs⟩⟩

/-- What Backward hands back goes through all places, as long as the bytes stay. -/
theorem wback_stops (k0 : Nat) (hk0 : 1 ≤ k0) (B : Nat) (a : Option Addr) (n c : Nat) (l : List UInt8) (hn : n ≤ 140737488351232) (w : World) (hB : B < w.heap.size) (hD : w.cell? ⟨B, 0, none⟩ = some (.slice a n c) ∧ Row w a n l) :
    SeqStopsK Fence.wide k0 Tryd.prog 55 #[.pointer (some ⟨B, 0, none⟩)] (byteA l) (BKp B a n c l) (fun ys => ys = backs n 0) (fun _ => True) n w := fun L J Jx W hW _ _ hY h0 =>
  wback1 k0 hk0 L B a n c l hn J Jx hY W ⟨(hW.cell (p := ⟨B, 0, none⟩) hB).trans hD.1, hD.2.below hW⟩ h0
end Go.Proofs.YtghiniaijobonaaDoor
