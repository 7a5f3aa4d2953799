/- Texts of this claim, joined: Codep, Open, OpenR, OpenSh. -/
import Derived.Test.YtnffmegicgbinabDoorJ05
import Derived.Test.YtnffmegicgbinabDoorJ01
import Derived.ProofKit
import Derived.OpenShut
import Derived.ShutString
import Derived.ChangeOld
import Derived.SizedLaws
import Derived.Deep.Slices
/- Any so many are enough: plain facts (no theorem of the program). -/
namespace Go.Proofs.YtnffmegicgbinabDoor
open Go.RowKit
set_option linter.unusedVariables false
set_option linter.unusedSimpArgs false

/-- Rows with their places. -/
def placedL (ls : List (List UInt8)) : List Shr := (List.range ls.length).map fun i => (i, ls.getD i [])
theorem placedL_length (ls : List (List UInt8)) : (placedL ls).length = ls.length := by simp [placedL]
theorem placedL_places (ls : List (List UInt8)) : (placedL ls).map (·.1) = List.range ls.length := by
  unfold placedL
  rw [List.map_map]
  exact List.map_id' _
theorem placedL_at {ls : List (List UInt8)} {i : Nat} (h : i < ls.length) : (placedL ls).getD i noS = (i, ls.getD i []) := by
  unfold placedL
  rw [List.getD_eq_getElem?_getD, List.getElem?_map, List.getElem?_range h]
  rfl
theorem range_getD {n i : Nat} (h : i < n) : (List.range n).getD i 0 = i := by
  rw [List.getD_eq_getElem?_getD, List.getElem?_range h]
  rfl
theorem colN_at {ss : List Shr} {k i : Nat} (h : i < ss.length) : (colN ss k).getD i 0 = ((ss.getD i noS).2.getD k 0).toNat := by
  unfold colN
  rw [List.getD_eq_getElem?_getD, List.getElem?_map, List.getElem?_eq_getElem h, List.getD_eq_getElem?_getD (l := ss), List.getElem?_eq_getElem h]
  rfl
theorem mapfst_at {ss : List Shr} {i : Nat} (h : i < ss.length) : (ss.map (·.1)).getD i 0 = (ss.getD i noS).1 := by
  rw [List.getD_eq_getElem?_getD, List.getElem?_map, List.getElem?_eq_getElem h, List.getD_eq_getElem?_getD, List.getElem?_eq_getElem h]
  rfl

/-- What is wrong with rows that are to be spread. -/
def spreadE (ls : List (List UInt8)) (n : Int) : Int :=
  if ls.length < 1 ∨ n < ls.length ∨ 20 < n then 2 else if 100 < (ls.getD 0 []).length then 4 else if ∀ l ∈ ls, l.length = (ls.getD 0 []).length then 0 else 3
theorem spreadE_ok {ls : List (List UInt8)} {n : Int} (h : spreadE ls n = 0) : 1 ≤ ls.length ∧ (ls.length : Int) ≤ n ∧ n ≤ 20 ∧ (ls.getD 0 []).length ≤ 100 ∧ ∀ l ∈ ls, l.length = (ls.getD 0 []).length := by
  unfold spreadE at h
  by_cases c1 : ls.length < 1 ∨ n < ls.length ∨ 20 < n
  · rw [if_pos c1] at h; omega
  rw [if_neg c1] at h
  by_cases c2 : 100 < (ls.getD 0 []).length
  · rw [if_pos c2] at h; omega
  rw [if_neg c2] at h
  by_cases c3 : ∀ l ∈ ls, l.length = (ls.getD 0 []).length
  · exact ⟨by omega, by omega, by omega, by omega, c3⟩
  · rw [if_neg c3] at h; omega
/-- What rows are, spread. -/
def spreadP (ls : List (List UInt8)) (N : Nat) (rows : List (List UInt8)) : Prop :=
  rows.length = N ∧ (∀ i, i < ls.length → rows.getD i [] = ls.getD i []) ∧ ∀ i, ls.length ≤ i → i < N → joinedP (placedL ls) i (rows.getD i [])
/-- What is wrong with shares that are to be gathered. -/
def gatherE (ss : List Shr) (k : Int) : Int := if k < 1 ∨ 20 < k then 2 else if (ss.length : Int) < k then 3 else sfault 0 19 (ss.take k.toNat)
theorem gatherE_ok {ss : List Shr} {k : Int} (h : gatherE ss k = 0) : 1 ≤ k ∧ k ≤ 20 ∧ k ≤ ss.length ∧ sfault 0 19 (ss.take k.toNat) = 0 := by
  unfold gatherE at h
  by_cases c1 : k < 1 ∨ 20 < k
  · rw [if_pos c1] at h; omega
  rw [if_neg c1] at h
  by_cases c2 : (ss.length : Int) < k
  · rw [if_pos c2] at h; omega
  rw [if_neg c2] at h
  exact ⟨by omega, by omega, by omega, h⟩
/-- What is gathered. -/
def gatherP (ss : List Shr) (k : Nat) (rows : List (List UInt8)) : Prop := rows.length = k ∧ ∀ j, j < k → joinedP (ss.take k) j (rows.getD j [])

/-- At each place one polynomial has what all rows have. -/
theorem spread_poly {ls rows : List (List UInt8)} {N : Nat} (hk : 1 ≤ ls.length) (hN : N ≤ 20) (hK : ls.length ≤ N) (h : spreadP ls N rows) (p : Nat) (hp : p < (ls.getD 0 []).length) :
    ∃ c, bys c ∧ c.length ≤ ls.length ∧ ∀ m, m < N → ((rows.getD m []).getD p 0).toNat = polyv c m := by
  have hlen := placedL_length ls
  have hpl := placedL_places ls
  have hb : bys ((placedL ls).map (·.1)) := by rw [hpl]; exact fun y hy => by have := List.mem_range.1 hy; omega
  have hps : ∀ s ∈ placedL ls, s.1 < 256 := fun s hs => hb _ (List.mem_map.2 ⟨s, hs, rfl⟩)
  have hd : ((placedL ls).map (·.1)).Nodup := by rw [hpl]; exact List.nodup_range
  obtain ⟨c, hc, lc, vc, _⟩ := thrS_interp (ss := placedL ls) (x := 0) (by omega) hps hd (by omega) p
  rw [hpl, List.length_range] at lc
  have hv : ∀ i, i < ls.length → polyv c i = ((ls.getD i []).getD p 0).toNat := fun i hi => by
    have q := vc i (by rw [hpl, List.length_range]; exact hi)
    rw [hpl, range_getD hi, colN_at (by omega), placedL_at hi] at q
    exact q
  refine ⟨c, hc, lc, fun m hm => ?_⟩
  by_cases hmk : m < ls.length
  · rw [h.2.1 m hmk, hv m hmk]
  · obtain ⟨hl, hi⟩ := h.2.2 m (by omega) hm
    have h0 : ((placedL ls).getD 0 noS).2 = ls.getD 0 [] := by rw [placedL_at (by omega)]
    rw [h0] at hl
    obtain ⟨d, hd', ld, vd, e⟩ := hi p (by omega)
    rw [nb_at] at e
    rw [e]
    refine poly_unique hd hb hd' hc (by rw [hpl, List.length_range] at *; omega) (by rw [hpl, List.length_range]; exact lc) (fun x hx => ?_) m (by omega)
    rw [hpl] at hx
    have hxk := List.mem_range.1 hx
    have q := vd x (by rw [hpl, List.length_range]; exact hxk)
    rw [hpl, range_getD hxk, colN_at (by omega), placedL_at hxk] at q
    rw [q, hv x hxk]
theorem spread_len {ls rows : List (List UInt8)} {N : Nat} (hk : 1 ≤ ls.length) (he : ∀ l ∈ ls, l.length = (ls.getD 0 []).length) (h : spreadP ls N rows) (m : Nat) (hm : m < N) : (rows.getD m []).length = (ls.getD 0 []).length := by
  by_cases hmk : m < ls.length
  · rw [h.2.1 m hmk]
    refine he _ ?_
    rw [List.getD_eq_getElem?_getD, List.getElem?_eq_getElem hmk]
    exact List.getElem_mem hmk
  · obtain ⟨hl, _⟩ := h.2.2 m (by omega) hm
    rw [placedL_at (by omega)] at hl
    exact hl
theorem rows_ext {us vs : List (List UInt8)} {n : Nat} (h1 : us.length = n) (h2 : vs.length = n) (h : ∀ j, j < n → us.getD j [] = vs.getD j []) : us = vs := by
  apply List.ext_getElem (by omega)
  intro j a b
  have := h j (by omega)
  rw [List.getD_eq_getElem?_getD, List.getD_eq_getElem?_getD, List.getElem?_eq_getElem a, List.getElem?_eq_getElem b] at this
  exact this
theorem bytes_ext {a b : List UInt8} {n : Nat} (h1 : a.length = n) (h2 : b.length = n) (h : ∀ p, p < n → (a.getD p 0).toNat = (b.getD p 0).toNat) : a = b := by
  apply List.ext_getElem (by omega)
  intro j x y
  have := h j (by omega)
  rw [List.getD_eq_getElem?_getD, List.getD_eq_getElem?_getD, List.getElem?_eq_getElem x, List.getElem?_eq_getElem y] at this
  exact UInt8.toNat_inj.1 this
/-- REED AND SOLOMON: of the rows that some were spread to any as many as those tell those again. -/
theorem reed {ls rows got : List (List UInt8)} {N : Nat} {ss : List Shr} (hk : 1 ≤ ls.length) (hN : N ≤ 20) (hK : ls.length ≤ N) (he : ∀ l ∈ ls, l.length = (ls.getD 0 []).length) (h : spreadP ls N rows)
    (hs : ss.length = ls.length) (hss : ∀ s ∈ ss, s.1 < N ∧ s.2 = rows.getD s.1 []) (hd : (ss.map (·.1)).Nodup) (hg : gatherP ss ls.length got) : got = ls := by
  have ht : ss.take ls.length = ss := by rw [← hs]; exact List.take_length
  have hat : ∀ i, i < ss.length → (ss.getD i noS).1 < N ∧ (ss.getD i noS).2 = rows.getD (ss.getD i noS).1 [] := fun i hi => by
    refine hss _ ?_
    rw [List.getD_eq_getElem?_getD, List.getElem?_eq_getElem hi]
    exact List.getElem_mem hi
  have hb : bys (ss.map (·.1)) := fun y hy => by
    obtain ⟨s, h1, rfl⟩ := List.mem_map.1 hy
    have := (hss s h1).1
    omega
  refine rows_ext hg.1 rfl fun j hj => ?_
  obtain ⟨hl, hi⟩ := hg.2 j hj
  rw [ht] at hl hi
  rw [(hat 0 (by omega)).2, spread_len hk he h _ (hat 0 (by omega)).1] at hl
  have lj : (ls.getD j []).length = (ls.getD 0 []).length := by rw [← h.2.1 j hj]; exact spread_len hk he h j (by omega)
  refine bytes_ext hl lj fun p hp => ?_
  obtain ⟨c, hc, lc, vc⟩ := spread_poly hk hN hK h p hp
  have r := shamir (at' := ss.map (·.1)) (v := colN ss p) (c := c) (x := j) hb hd (by omega) hc (by rw [List.length_map]; omega) (fun i hi => ?_) (hi p (by omega))
  · rw [nb_at] at r
    rw [r, ← vc j (by omega), h.2.1 j hj]
  · rw [List.length_map] at hi
    rw [colN_at hi, mapfst_at hi, (hat i hi).2, vc _ (hat i hi).1]
/-- SINGLETON: two that differ differ in as many rows as were added, and one. -/
theorem far_eq {a b x y : List (List UInt8)} {N : Nat} (hk : 1 ≤ a.length) (hN : N ≤ 20) (hK : a.length ≤ N) (hab : a.length = b.length) (ha : ∀ l ∈ a, l.length = (a.getD 0 []).length) (hb : ∀ l ∈ b, l.length = (b.getD 0 []).length)
    (hF : (a.getD 0 []).length = (b.getD 0 []).length) (hx : spreadP a N x) (hy : spreadP b N y) (hne : a ≠ b) :
    ((List.range N).filter fun m => decide (x.getD m [] = y.getD m [])).length < a.length := by
  refine Nat.lt_of_not_le fun hge => hne ?_
  refine rows_ext rfl hab.symm fun j hj => ?_
  have la : (a.getD j []).length = (a.getD 0 []).length := by rw [← hx.2.1 j hj]; exact spread_len hk ha hx j (by omega)
  have lb : (b.getD j []).length = (a.getD 0 []).length := by rw [hF, ← hy.2.1 j (by omega)]; exact spread_len (by omega) hb hy j (by omega)
  refine bytes_ext la lb fun p hp => ?_
  obtain ⟨c, hc, lc, vc⟩ := spread_poly hk hN hK hx p hp
  obtain ⟨d, hd, ld, vd⟩ := spread_poly (by omega) hN (by omega) hy p (by omega)
  have hnd : ((List.range N).filter fun m => decide (x.getD m [] = y.getD m [])).Nodup := List.nodup_range.filter _
  have hbs : bys ((List.range N).filter fun m => decide (x.getD m [] = y.getD m [])) := fun m hm => by
    have := List.mem_range.1 (List.mem_filter.1 hm).1
    omega
  have key := poly_unique hnd hbs hc hd (by omega) (by omega) (fun m hm => ?_) j (by omega)
  · rw [← hx.2.1 j hj, ← hy.2.1 j (by omega), vc j (by omega), vd j (by omega), key]
  · obtain ⟨h1, h2⟩ := List.mem_filter.1 hm
    have hmN := List.mem_range.1 h1
    have e := of_decide_eq_true h2
    rw [← vc m hmN, ← vd m hmN, e]
/-- How many of the first rows differ. -/
def apartN (x y : List (List UInt8)) : Nat → Nat
  | 0 => 0
  | m + 1 => if x.getD m [] = y.getD m [] then apartN x y m else apartN x y m + 1
theorem apartN_sum (x y : List (List UInt8)) : ∀ m, apartN x y m + ((List.range m).filter fun m => decide (x.getD m [] = y.getD m [])).length = m
  | 0 => rfl
  | m + 1 => by
    have ih := apartN_sum x y m
    rw [List.range_succ, List.filter_append, List.length_append]
    by_cases c : x.getD m [] = y.getD m []
    · have e : apartN x y (m + 1) = apartN x y m := if_pos c
      rw [e, show ([m].filter fun m => decide (x.getD m [] = y.getD m [])) = [m] from List.filter_cons_of_pos (by simpa using c)]
      simp only [List.length_singleton]
      omega
    · have e : apartN x y (m + 1) = apartN x y m + 1 := if_neg c
      rw [e, show ([m].filter fun m => decide (x.getD m [] = y.getD m [])) = [] from List.filter_cons_of_neg (by simpa using c)]
      simp only [List.length_nil]
      omega
theorem apartN_le (x y : List (List UInt8)) (m : Nat) : apartN x y m ≤ m := by have := apartN_sum x y m; omega
theorem far {a b x y : List (List UInt8)} {N : Nat} (hk : 1 ≤ a.length) (hN : N ≤ 20) (hK : a.length ≤ N) (hab : a.length = b.length) (ha : ∀ l ∈ a, l.length = (a.getD 0 []).length) (hb : ∀ l ∈ b, l.length = (b.getD 0 []).length)
    (hF : (a.getD 0 []).length = (b.getD 0 []).length) (hx : spreadP a N x) (hy : spreadP b N y) (hne : a ≠ b) : N - a.length + 1 ≤ apartN x y N := by
  have h1 := far_eq hk hN hK hab ha hb hF hx hy hne
  have h2 := apartN_sum x y N
  omega
end Go.Proofs.YtnffmegicgbinabDoor
/- How an argument that is a slice of bytes is opened: it reads as a list of bytes. -/
namespace Go.Proofs.YtnffmegicgbinabDoor
open Go.ChangeShapes Go.WideShapes Go.ChangeAt Go.RowKit
open Go.ChangeMaps (open_string shut_string)
set_option linter.unusedVariables false
set_option linter.unusedSimpArgs false

theorem wf_u8 {n : Int} (h : (Lit.int .u8 n).wf = true) : 0 ≤ n ∧ n ≤ 255 := by
  have hmin : IntKind.u8.min = 0 := rfl
  have hmax : IntKind.u8.max = 255 := rfl
  simp only [Lit.wf, Bool.and_eq_true, decide_eq_true_eq] at h
  omega
theorem wf_i64 {n : Int} (h : (Lit.int .i64 n).wf = true) : -9223372036854775808 ≤ n ∧ n ≤ 9223372036854775807 := by
  have hmin : IntKind.i64.min = -9223372036854775808 := rfl
  have hmax : IntKind.i64.max = 9223372036854775807 := rfl
  simp only [Lit.wf, Bool.and_eq_true, decide_eq_true_eq] at h
  omega

theorem open_bytes {H : Type} {enc : TypeId × Value → H} {P : Program} {w : World} {base : Nat} {held : Bool} {t e : TypeId} {fuel : Nat} {a : Option Addr} {len cap : Nat} {d : DataW H} {p : List MemPlace}
    (ht : P.underlying t = some (.slice e)) (he : P.underlying e = some (.int .u8)) (hc : P.cellsOf e = 1)
    (h : DataW.trod enc P w base (fun _ => true) held fuel t [.slice a len cap] = some (d, p)) :
    ∃ l, Row w a len l ∧ (len = 0 ∨ ∃ elems spare, d = .slice elems spare ∧ elems.length = len) := by
  rcases open_ints ht he hc h with ⟨hcs, _⟩ | ⟨x, l, c, zs, hcs, _, hl, hm, hz, hx, hcell, hwz⟩
  · simp at hcs
    obtain ⟨rfl, rfl, rfl⟩ := hcs
    exact ⟨[], Row.nil w, .inl rfl⟩
  · simp at hcs
    obtain ⟨rfl, rfl, rfl⟩ := hcs
    simp only [Prod.mk.injEq] at hx
    simp at hz
    refine ⟨(zs.take len).map fun z => UInt8.ofNat z.toNat, ⟨by simp; omega, ?_⟩, .inr ⟨_, _, hx.1, by simp [lits]; omega⟩⟩
    by_cases h0 : len = 0
    · exact .inl h0
    · obtain ⟨b, off, spot⟩ := x
      have hspot : spot = none := by simpa [Addr.add] using World.cell?_spot (hcell 0 (by omega))
      subst hspot
      refine .inr ⟨b, off, rfl, fun i hi => ?_⟩
      rw [← add_plain, hcell i (by omega)]
      have hb := wf_u8 (hwz (zs.getD i 0) (by
        have : zs.getD i 0 = zs[i]'(by omega) := by simp [List.getD_eq_getElem?_getD, List.getElem?_eq_getElem (show i < zs.length by omega)]
        rw [this]
        exact List.getElem_mem _))
      have e : nth ((zs.take len).map fun z => UInt8.ofNat z.toNat) i = zs.getD i 0 := by
        unfold nth
        have h1 : i < zs.length := by omega
        simp only [List.getD_eq_getElem?_getD, List.getElem?_map, List.getElem?_take, if_pos hi, List.getElem?_eq_getElem h1, Option.map_some, Option.getD_some] at hb ⊢
        rw [UInt8.toNat_ofNat']
        omega
      rw [e]
end Go.Proofs.YtnffmegicgbinabDoor
/- How an argument that is a slice of slices of bytes is opened, and how its bulk bounds it. -/
namespace Go.Proofs.YtnffmegicgbinabDoor
open Go.ChangeShapes Go.WideShapes Go.ChangeAt Go.RowKit
set_option linter.unusedVariables false
set_option linter.unusedSimpArgs false

theorem bulk_ge {H : Type} (l : List (DataW H)) : l.length ≤ Rows.uptoBulkAll l := by
  induction l with
  | nil => exact Nat.zero_le _
  | cons d r ih =>
    have : 1 ≤ Rows.uptoBulk d := by cases d with
      | lit x => cases x <;> simp [Rows.uptoBulk]
      | _ => simp [Rows.uptoBulk]
    simp only [Rows.uptoBulkAll, List.length_cons]
    omega
theorem open_cap {H : Type} {enc : TypeId × Value → H} {P : Program} {w : World} {base : Nat} {held : Bool} {t e : TypeId} {fuel : Nat} {a : Option Addr} {len cap : Nat} {x : DataW H × List MemPlace}
    (ht : P.underlying t = some (.slice e)) (h : DataW.trod enc P w base (fun _ => true) held fuel t [.slice a len cap] = some x) : len ≤ cap := by
  rcases Go.Deep.open_slice ht h with ⟨hcs, _⟩ | ⟨y, l, c, m, n, D, Pl, hcs, _, hlc, _⟩
  · simp at hcs
    omega
  · simp at hcs
    omega
theorem open_bytes_any {H : Type} {enc : TypeId × Value → H} {P : Program} {w : World} {base : Nat} {held : Bool} {t e : TypeId} {fuel : Nat} {cs : List Value} {d : DataW H} {p : List MemPlace}
    (ht : P.underlying t = some (.slice e)) (he : P.underlying e = some (.int .u8)) (hc : P.cellsOf e = 1)
    (h : DataW.trod enc P w base (fun _ => true) held fuel t cs = some (d, p)) :
    ∃ a len cap l, cs = [.slice a len cap] ∧ Row w a len l ∧ len ≤ cap ∧ len ≤ Rows.uptoBulk d := by
  have key : ∃ a len cap, cs = [.slice a len cap] := by
    rcases open_ints ht he hc h with ⟨hcs, _⟩ | ⟨x, l, c, zs, hcs, _⟩
    · exact ⟨_, _, _, hcs⟩
    · exact ⟨_, _, _, hcs⟩
  obtain ⟨a, len, cap, rfl⟩ := key
  obtain ⟨l, hl, hd⟩ := open_bytes ht he hc h
  refine ⟨a, len, cap, l, rfl, hl, open_cap ht h, ?_⟩
  rcases hd with h0 | ⟨es, sp, rfl, h1⟩
  · omega
  · have := bulk_ge es
    simp only [Rows.uptoBulk]
    omega

/-- A slice of n slices of bytes at a reads as the list ls. -/
def BRows (w : World) (a : Option Addr) (n : Nat) (ls : List (List UInt8)) : Prop :=
  ls.length = n ∧ (n = 0 ∨ ∃ b o, a = some ⟨b, o, none⟩ ∧ ∀ i, i < n → ∃ (ai : Option Addr) (ni ci : Nat), w.cell? ⟨b, o + i, none⟩ = some (.slice ai ni ci) ∧ ni ≤ ci ∧ Row w ai ni (ls.getD i []))
theorem BRows.nil (w : World) : BRows w none 0 [] := ⟨rfl, .inl rfl⟩
theorem BRows.below {w w' : World} {a : Option Addr} {n : Nat} {ls : List (List UInt8)} (h : BRows w a n ls) (hb : Below w.heap.size w w') : BRows w' a n ls := by
  obtain ⟨h1, h3⟩ := h
  refine ⟨h1, ?_⟩
  rcases h3 with h3 | ⟨b, o, ha, hc⟩
  · exact .inl h3
  · refine .inr ⟨b, o, ha, fun i hi => ?_⟩
    obtain ⟨ai, ni, ci, e1, e3, e2⟩ := hc i hi
    exact ⟨ai, ni, ci, (hb.cell (p := ⟨b, o + i, none⟩) (cell_block e1)).trans e1, e3, e2.below hb⟩

theorem bulk_map {H : Type} (D : Nat → DataW H) (f : Nat → List UInt8) : ∀ n, (∀ i, i < n → (f i).length ≤ Rows.uptoBulk (D i)) → (((List.range n).map f).flatten).length ≤ Rows.uptoBulkAll ((List.range n).map D)
  | 0, _ => by simp
  | n + 1, h => by
    have ih := bulk_map D f n (fun i hi => h i (by omega))
    have hn := h n (by omega)
    have app : ∀ (x y : List (DataW H)), Rows.uptoBulkAll (x ++ y) = Rows.uptoBulkAll x + Rows.uptoBulkAll y := by
      intro x y
      induction x with
      | nil => simp [Rows.uptoBulkAll]
      | cons a r ih => simp only [List.cons_append, Rows.uptoBulkAll, ih]; omega
    rw [List.range_succ, List.map_append, List.map_append, List.flatten_append, List.length_append, app]
    simp only [List.map_cons, List.map_nil, List.flatten_cons, List.flatten_nil, List.append_nil, Rows.uptoBulkAll]
    omega
theorem open_rows {H : Type} {enc : TypeId × Value → H} {P : Program} {w : World} {base : Nat} {held : Bool} {t e f : TypeId} {fuel : Nat} {a : Option Addr} {len cap : Nat} {d : DataW H} {p : List MemPlace}
    (ht : P.underlying t = some (.slice e)) (he : P.underlying e = some (.slice f)) (hf : P.underlying f = some (.int .u8)) (hcf : P.cellsOf f = 1) (hce : P.cellsOf e = 1)
    (h : DataW.trod enc P w base (fun _ => true) held fuel t [.slice a len cap] = some (d, p)) :
    ∃ ls, BRows w a len ls ∧ ls.flatten.length + len ≤ 2 * Rows.uptoBulk d := by
  rcases Go.Deep.open_slice ht h with ⟨hcs, _⟩ | ⟨x, l, c, m, n, D, Pl, hcs, _, hlc, hm, hmm, hx, hel⟩
  · simp at hcs
    obtain ⟨rfl, rfl, rfl⟩ := hcs
    exact ⟨[], BRows.nil w, by simp⟩
  · simp at hcs
    obtain ⟨rfl, rfl, rfl⟩ := hcs
    simp only [if_true] at hmm
    subst hmm
    simp only [Prod.mk.injEq] at hx
    have each : ∀ i, i < len → ∃ q : List UInt8, q.length ≤ Rows.uptoBulk (D i) ∧ ∃ (ai : Option Addr) (ni ci : Nat), w.cell? (x.add i) = some (.slice ai ni ci) ∧ ni ≤ ci ∧ Row w ai ni q := by
      intro i hi
      obtain ⟨cs', hc, htr⟩ := hel i (by omega)
      obtain ⟨ai, ni, ci, q, rfl, hR, hcc, hb⟩ := open_bytes_any he hf hcf htr
      refine ⟨q, by rw [hR.1]; exact hb, ai, ni, ci, ?_, hcc, hR⟩
      rw [hce, Nat.mul_one] at hc
      have hs := World.cells?_some hc
      have := hs.2.2 0 (by omega)
      simpa [Addr.add] using this
    let g : Nat → List UInt8 := fun i => if h : i < len then (each i h).choose else []
    have hg : ∀ i (hi : i < len), g i = (each i hi).choose := fun i hi => by simp [g, hi]
    refine ⟨(List.range len).map g, ⟨by simp, ?_⟩, ?_⟩
    · by_cases h0 : len = 0
      · exact .inl h0
      · obtain ⟨b, off, spot⟩ := x
        have hspot : spot = none := by
          obtain ⟨q, _, ai, ni, ci, hc, _, _⟩ := each 0 (by omega)
          simpa [Addr.add] using World.cell?_spot hc
        subst hspot
        refine .inr ⟨b, off, rfl, fun i hi => ?_⟩
        obtain ⟨_, ai, ni, ci, hc, hcc, hR⟩ := (each i hi).choose_spec
        refine ⟨ai, ni, ci, ?_, hcc, ?_⟩
        · rw [← add_plain]; exact hc
        · have : ((List.range len).map g).getD i [] = (each i hi).choose := by
            rw [← hg i hi]; simp [List.getD_eq_getElem?_getD, hi]
          rw [this]; exact hR
    · have h1 := bulk_map D g len (fun i hi => by rw [hg i hi]; exact (each i hi).choose_spec.1)
      have h2 := bulk_ge ((List.range len).map D)
      simp only [List.length_map, List.length_range] at h2
      rw [hx.1]
      simp only [Rows.uptoBulk]
      omega
end Go.Proofs.YtnffmegicgbinabDoor
/- How slices of shares, and of slices of bytes, are opened as arguments, and how the reach bounds each of their rows. -/
namespace Go.Proofs.YtnffmegicgbinabDoor
open Go.ChangeShapes Go.WideShapes Go.ChangeAt Go.RowKit
set_option linter.unusedVariables false
set_option linter.unusedSimpArgs false

section
variable {H : Type} {enc : TypeId × Value → H} {P : Program} {w : World} {base : Nat} {held : Bool} {fuel : Nat}
theorem weightsAll_mem {e : TypeId} {m : Nat} : ∀ {l : List (DataW H)} {d : DataW H}, d ∈ l → m ∈ d.weights P e → m ∈ DataW.weightsAll P e l
  | [], d, h, _ => by cases h
  | x :: r, d, h, hm => by
    rw [DataW.weightsAll, List.mem_append]
    rcases List.mem_cons.1 h with rfl | h
    · exact .inl hm
    · exact .inr (weightsAll_mem h hm)
theorem weights_elem {s t : TypeId} {elems spare : List (DataW H)} {d : DataW H} {m : Nat} (hs : P.underlying s = some (.slice t)) (hd : d ∈ elems) (hm : m ∈ d.weights P t) : m ∈ (DataW.slice elems spare).weights P s := by
  simp only [DataW.weights, hs]
  exact List.mem_cons_of_mem _ (List.mem_append.2 (.inl (weightsAll_mem hd hm)))
theorem weights_len {s t : TypeId} {elems spare : List (DataW H)} (hs : P.underlying s = some (.slice t)) : (elems.length + spare.length) * P.bytesOf t ∈ (DataW.slice elems spare).weights P s := by
  simp only [DataW.weights, hs]
  exact List.mem_cons_self ..
theorem open_bytes_cs {t e : TypeId} {cs : List Value} {d : DataW H} {p : List MemPlace} (ht : P.underlying t = some (.slice e)) (he : P.underlying e = some (.int .u8)) (hc : P.cellsOf e = 1)
    (h : DataW.trod enc P w base (fun _ => true) held fuel t cs = some (d, p)) :
    ∃ a len cap l, cs = [.slice a len cap] ∧ Row w a len l ∧ len ≤ cap ∧ (len = 0 ∨ ∃ elems spare, d = .slice elems spare ∧ elems.length = len) := by
  obtain ⟨a, len, cap, rfl⟩ : ∃ a len cap, cs = [.slice a len cap] := by
    rcases open_ints ht he hc h with ⟨hcs, _⟩ | ⟨x, l, c, zs, hcs, _⟩
    · exact ⟨_, _, _, hcs⟩
    · exact ⟨_, _, _, hcs⟩
  obtain ⟨l, hl, hd⟩ := open_bytes ht he hc h
  exact ⟨a, len, cap, l, rfl, hl, open_cap ht h, hd⟩
theorem bytes_bound {t e : TypeId} {d : DataW H} {n : Nat} (ht : P.underlying t = some (.slice e)) (hb : P.bytesOf e = 1) (hw : ∀ m ∈ d.weights P t, m ≤ reachBytes) (h : n = 0 ∨ ∃ elems spare, d = .slice elems spare ∧ elems.length = n) : n ≤ 140737488351232 := by
  rcases h with h | ⟨el, sp, rfl, h⟩
  · omega
  · have := hw _ (weights_len ht)
    rw [hb] at this
    simp only [reachBytes] at this
    omega
/-- A slice of n slices of bytes, each of a length that a machine can hold. -/
def BRowsB (w : World) (a : Option Addr) (n : Nat) (ls : List (List UInt8)) : Prop := BRows w a n ls ∧ ∀ i, i < n → (ls.getD i []).length ≤ 140737488351232
theorem BRowsB.below {w w' : World} {a : Option Addr} {n : Nat} {ls : List (List UInt8)} (h : BRowsB w a n ls) (hb : Below w.heap.size w w') : BRowsB w' a n ls := ⟨h.1.below hb, h.2⟩
theorem open_rowsB {t e f : TypeId} {a : Option Addr} {len cap : Nat} {d : DataW H} {p : List MemPlace}
    (ht : P.underlying t = some (.slice e)) (he : P.underlying e = some (.slice f)) (hf : P.underlying f = some (.int .u8)) (hcf : P.cellsOf f = 1) (hce : P.cellsOf e = 1) (hbf : P.bytesOf f = 1)
    (hw : ∀ m ∈ d.weights P t, m ≤ reachBytes)
    (h : DataW.trod enc P w base (fun _ => true) held fuel t [.slice a len cap] = some (d, p)) :
    ∃ ls, BRowsB w a len ls ∧ (len = 0 ∨ ∃ elems spare, d = .slice elems spare ∧ elems.length = len) := by
  rcases Go.Deep.open_slice ht h with ⟨hcs, _⟩ | ⟨x, l, c, m, n, D, Pl, hcs, _, hlc, hm, hmm, hx, hel⟩
  · simp at hcs
    obtain ⟨rfl, rfl, rfl⟩ := hcs
    exact ⟨[], ⟨BRows.nil w, fun i hi => by omega⟩, .inl rfl⟩
  · simp at hcs
    obtain ⟨rfl, rfl, rfl⟩ := hcs
    simp only [if_true] at hmm
    subst hmm
    simp only [Prod.mk.injEq] at hx
    have each : ∀ i, i < len → ∃ q : List UInt8, q.length ≤ 140737488351232 ∧ ∃ (ai : Option Addr) (ni ci : Nat), w.cell? (x.add i) = some (.slice ai ni ci) ∧ ni ≤ ci ∧ Row w ai ni q := by
      intro i hi
      obtain ⟨cs', hc, htr⟩ := hel i (by omega)
      obtain ⟨ai, ni, ci, q, rfl, hR, hcc, hb⟩ := open_bytes_cs he hf hcf htr
      have hDi : D i ∈ (List.range len).map D := List.mem_map.2 ⟨i, List.mem_range.2 hi, rfl⟩
      have hbd := bytes_bound he hbf (fun m hm => hw m (by rw [hx.1]; exact weights_elem ht hDi hm)) hb
      refine ⟨q, by rw [hR.1]; exact hbd, ai, ni, ci, ?_, hcc, hR⟩
      rw [hce, Nat.mul_one] at hc
      have hs := World.cells?_some hc
      have := hs.2.2 0 (by omega)
      simpa [Addr.add] using this
    let g : Nat → List UInt8 := fun i => if h : i < len then (each i h).choose else []
    have hg : ∀ i (hi : i < len), ((List.range len).map g).getD i [] = (each i hi).choose := fun i hi => by simp [g, hi, List.getD_eq_getElem?_getD]
    refine ⟨(List.range len).map g, ⟨⟨by simp, ?_⟩, fun i hi => by rw [hg i hi]; exact (each i hi).choose_spec.1⟩, .inr ⟨_, _, hx.1, by simp⟩⟩
    by_cases h0 : len = 0
    · exact .inl h0
    · obtain ⟨b, off, spot⟩ := x
      have hspot : spot = none := by
        obtain ⟨q, _, ai, ni, ci, hc, _, _⟩ := each 0 (by omega)
        simpa [Addr.add] using World.cell?_spot hc
      subst hspot
      refine .inr ⟨b, off, rfl, fun i hi => ?_⟩
      rw [hg i hi]
      obtain ⟨_, ai, ni, ci, hc, hcc, hR⟩ := (each i hi).choose_spec
      refine ⟨ai, ni, ci, ?_, hcc, hR⟩
      rw [← add_plain]; exact hc
variable {t f : TypeId} {f0 f1 : Field}
theorem share_of_trod {cs : List Value} {x : DataW H × List MemPlace} (ht : P.underlying t = some (.struct #[f0, f1])) (hct : P.cellsOf t = 2) (o0 : f0.offset = 0) (o1 : f1.offset = 1)
    (h0 : P.underlying f0.type = some (.int .u8)) (c0 : P.cellsOf f0.type = 1) (h1 : P.underlying f1.type = some (.slice f)) (c1 : P.cellsOf f1.type = 1) (hf : P.underlying f = some (.int .u8)) (hcf : P.cellsOf f = 1) (hbf : P.bytesOf f = 1)
    (hw : ∀ m ∈ x.1.weights P t, m ≤ reachBytes)
    (h : DataW.trod enc P w base (fun _ => true) held fuel t cs = some x) : ∃ (s : Shr) (a : Option Addr) (n c : Nat), cs = [.int .u8 (s.1 : Int), .slice a n c] ∧ s.1 < 256 ∧ n ≤ c ∧ n ≤ 140737488351232 ∧ Row w a n s.2 := by
  obtain ⟨xs, n, _, rfl, hl, hlen, hfd⟩ := DataW.trod_struct ht h
  have u0 := hfd 0 f0 rfl
  have u1 := hfd 1 f1 rfl
  obtain ⟨y0, y1, rfl⟩ : ∃ y0 y1, xs = [y0, y1] := by
    have hlen' : xs.length = 2 := hlen
    match xs, hlen' with
    | [y0, y1], _ => exact ⟨y0, y1, rfl⟩
  rw [hct] at hl
  rw [o0, c0] at u0
  rw [o1, c1] at u1
  obtain ⟨z0, z1, rfl⟩ : ∃ z0 z1, cs = [z0, z1] := by
    match cs, hl with
    | [z0, z1], _ => exact ⟨z0, z1, rfl⟩
  simp only [List.drop_zero, List.take_succ_cons, List.take_zero, List.drop_succ_cons] at u0 u1
  obtain ⟨m, hm, _, hwf⟩ := DataW.trod_int h0 (show DataW.trod enc P w base (fun _ => true) held n f0.type [z0] = some y0 from by simpa using u0)
  obtain ⟨a, k, c, l, hcs, hR, hkc, hd⟩ := open_bytes_cs h1 hf hcf (show DataW.trod enc P w base (fun _ => true) held n f1.type [z1] = some (y1.1, y1.2) from by simpa using u1)
  cases hm
  cases hcs
  have hb := wf_u8 hwf
  have hk := bytes_bound h1 hbf (fun m hm => hw m (by
    show m ∈ (DataW.agg [y0.1, y1.1]).weights P t
    simp only [DataW.weights, ht, DataW.weightsEach, List.map_cons, List.map_nil, List.mem_append]
    exact .inr (.inl hm))) hd
  refine ⟨(m.toNat, l), a, k, c, ?_, by show m.toNat < 256; omega, hkc, hk, hR⟩
  rw [show (((m.toNat, l) : Shr).1 : Int) = m by show (m.toNat : Int) = m; omega]
theorem open_shares {s : TypeId} {a : Option Addr} {len cap : Nat} {d : DataW H} {p : List MemPlace} (hs : P.underlying s = some (.slice t)) (ht : P.underlying t = some (.struct #[f0, f1])) (hct : P.cellsOf t = 2) (o0 : f0.offset = 0) (o1 : f1.offset = 1)
    (h0 : P.underlying f0.type = some (.int .u8)) (c0 : P.cellsOf f0.type = 1) (h1 : P.underlying f1.type = some (.slice f)) (c1 : P.cellsOf f1.type = 1) (hf : P.underlying f = some (.int .u8)) (hcf : P.cellsOf f = 1) (hbf : P.bytesOf f = 1)
    (hw : ∀ m ∈ d.weights P s, m ≤ reachBytes)
    (h : DataW.trod enc P w base (fun _ => true) held fuel s [.slice a len cap] = some (d, p)) :
    ∃ ss, SRow w a len ss ∧ (len = 0 ∨ ∃ elems spare, d = .slice elems spare ∧ elems.length = len) := by
  rcases Go.Deep.open_slice hs h with ⟨hcs, _⟩ | ⟨x, l, c, m, n, D, Pl, hcs, _, hlc, hm, hmm, hx, hel⟩
  · simp at hcs
    obtain ⟨rfl, rfl, rfl⟩ := hcs
    exact ⟨[], SRow.nil w _, .inl rfl⟩
  · simp at hcs
    obtain ⟨rfl, rfl, rfl⟩ := hcs
    simp only [if_true] at hmm
    subst hmm
    simp only [Prod.mk.injEq] at hx
    have each : ∀ i, i < len → ∃ s : Shr, s.1 < 256 ∧ w.cell? (x.add (i * 2)) = some (.int .u8 (s.1 : Int)) ∧ ∃ (a : Option Addr) (n c : Nat), w.cell? ((x.add (i * 2)).add 1) = some (.slice a n c) ∧ n ≤ c ∧ n ≤ 140737488351232 ∧ Row w a n s.2 := by
      intro i hi
      obtain ⟨cs', hc, htr⟩ := hel i (by omega)
      have hDi : D i ∈ (List.range len).map D := List.mem_map.2 ⟨i, List.mem_range.2 hi, rfl⟩
      obtain ⟨s, a, k, c, rfl, hs1, hkc, hk, hR⟩ := share_of_trod ht hct o0 o1 h0 c0 h1 c1 hf hcf hbf (fun m hm => hw m (by rw [hx.1]; exact weights_elem hs hDi hm)) htr
      rw [hct] at hc
      have hsm := World.cells?_some hc
      have q0 := hsm.2.2 0 (by omega)
      have q1 := hsm.2.2 1 (by omega)
      refine ⟨s, hs1, ?_, a, k, c, ?_, hkc, hk, hR⟩
      · simpa [Addr.add] using q0
      · simpa using q1
    let g : Nat → Shr := fun i => if h : i < len then (each i h).choose else noS
    have hg : ∀ i (hi : i < len), ((List.range len).map g).getD i noS = (each i hi).choose := fun i hi => by simp [g, hi, List.getD_eq_getElem?_getD]
    refine ⟨(List.range len).map g, ⟨by simp, ?_⟩, .inr ⟨_, _, hx.1, by simp⟩⟩
    by_cases h0 : len = 0
    · exact .inl h0
    · obtain ⟨b, off, spot⟩ := x
      have hspot : spot = none := by
        obtain ⟨q, _, hc, _⟩ := each 0 (by omega)
        simpa [Addr.add] using World.cell?_spot hc
      subst hspot
      refine .inr ⟨b, off, rfl, fun i hi => ?_⟩
      rw [hg i hi]
      have sp := (each i hi).choose_spec
      generalize (each i hi).choose = s at sp
      obtain ⟨h1, h2, a, k, c, h3, h4, h5, h6⟩ := sp
      rw [add_plain] at h2 h3
      rw [add_plain] at h3
      exact ⟨h1, h2, a, k, c, h3, h4, h5, h6⟩
end
end Go.Proofs.YtnffmegicgbinabDoor
