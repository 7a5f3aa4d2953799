/- Clocks: plain facts (no theorem of the program). -/
import Derived.Test.YtanlnfcmmfmofaaDoorOwnI
namespace Go.Proofs.YtanlnfcmmfmofaaDoor
open Go.RowKit
set_option linter.unusedVariables false
set_option linter.unusedSimpArgs false

/-- What somebody has seen. -/
def seenL (l : List Int) (i : Nat) : Int := l.getD i 0
theorem seenL_out {l : List Int} {i : Nat} (h : l.length ≤ i) : seenL l i = 0 := by
  unfold seenL
  rw [List.getD_eq_getElem?_getD, List.getElem?_eq_none h]
  rfl
theorem seenL_mem {l : List Int} {i : Nat} (h : i < l.length) : seenL l i ∈ l := by
  unfold seenL
  rw [List.getD_eq_getElem?_getD, List.getElem?_eq_getElem h]
  exact List.getElem_mem h
theorem clock_ext {l m : List Int} (h : l.length = m.length) (he : ∀ i, seenL l i = seenL m i) : l = m := by
  apply List.ext_getElem h
  intro i h1 h2
  have := he i
  unfold seenL at this
  rw [List.getD_eq_getElem?_getD, List.getD_eq_getElem?_getD, List.getElem?_eq_getElem h1, List.getElem?_eq_getElem h2] at this
  exact this
/-- How many are left of the first n, without zeros at the end. -/
def shortN (l : List Int) : Nat → Nat
  | 0 => 0
  | n + 1 => if seenL l n = 0 then shortN l n else n + 1
theorem shortN_le (l : List Int) : ∀ n, shortN l n ≤ n
  | 0 => Nat.le_refl _
  | n + 1 => by
    show (if _ then _ else _) ≤ _
    split
    · exact Nat.le_succ_of_le (shortN_le l n)
    · exact Nat.le_refl _
theorem shortN_zero (l : List Int) : ∀ n i, shortN l n ≤ i → i < n → seenL l i = 0
  | 0, i, _, h => absurd h (by omega)
  | n + 1, i, h, hi => by
    by_cases c : seenL l n = 0
    · have e : shortN l (n + 1) = shortN l n := if_pos c
      rw [e] at h
      by_cases q : i = n
      · rw [q]; exact c
      · exact shortN_zero l n i h (by omega)
    · have e : shortN l (n + 1) = n + 1 := if_neg c
      rw [e] at h
      omega
theorem shortN_last (l : List Int) : ∀ n, 0 < shortN l n → seenL l (shortN l n - 1) ≠ 0
  | 0, h => absurd h (by show ¬ 0 < 0; omega)
  | n + 1, h => by
    by_cases c : seenL l n = 0
    · have e : shortN l (n + 1) = shortN l n := if_pos c
      rw [e] at h ⊢
      exact shortN_last l n h
    · have e : shortN l (n + 1) = n + 1 := if_neg c
      rw [e]
      exact c
/-- A clock without zeros at its end. -/
def shortL (l : List Int) : List Int := l.take (shortN l l.length)
theorem shortL_length (l : List Int) : (shortL l).length = shortN l l.length := by
  unfold shortL
  rw [List.length_take]
  have := shortN_le l l.length
  omega
theorem shortL_le (l : List Int) : (shortL l).length ≤ l.length := by rw [shortL_length]; exact shortN_le _ _
theorem seen_short (l : List Int) (i : Nat) : seenL (shortL l) i = seenL l i := by
  by_cases c : i < shortN l l.length
  · unfold seenL shortL
    rw [List.getD_eq_getElem?_getD, List.getElem?_take_of_lt c, List.getD_eq_getElem?_getD]
  · rw [seenL_out (by rw [shortL_length]; omega)]
    by_cases d : i < l.length
    · exact (shortN_zero l l.length i (by omega) d).symm
    · exact (seenL_out (by omega)).symm
theorem short_congr {l m : List Int} (h : ∀ i, seenL l i = seenL m i) : shortL l = shortL m := by
  have key : ∀ {l m : List Int}, (∀ i, seenL l i = seenL m i) → shortN l l.length ≤ shortN m m.length := fun {l m} h => by
    refine Nat.le_of_not_lt fun q => ?_
    have h1 := shortN_last l l.length (by omega)
    rw [h] at h1
    refine h1 ?_
    by_cases d : shortN l l.length - 1 < m.length
    · exact shortN_zero m m.length _ (by omega) d
    · exact seenL_out (by omega)
  refine clock_ext ?_ fun i => by rw [seen_short, seen_short, h]
  rw [shortL_length, shortL_length]
  exact Nat.le_antisymm (key h) (key fun i => (h i).symm)

/-- What is wrong with a clock. -/
def clockE (l : List Int) : Int := if 16 < l.length then 4 else if ∀ x ∈ l, 0 ≤ x then 0 else 2
theorem clockE_ok {l : List Int} (h : clockE l = 0) : l.length ≤ 16 ∧ ∀ x ∈ l, 0 ≤ x := by
  unfold clockE at h
  by_cases c : 16 < l.length
  · rw [if_pos c] at h; omega
  rw [if_neg c] at h
  by_cases d : ∀ x ∈ l, 0 ≤ x
  · exact ⟨by omega, d⟩
  · rw [if_neg d] at h; omega
theorem clockE_mk {l : List Int} (h1 : l.length ≤ 16) (h2 : ∀ x ∈ l, 0 ≤ x) : clockE l = 0 := by
  unfold clockE
  rw [if_neg (by omega), if_pos h2]
theorem clockE_seen {l : List Int} (h : clockE l = 0) (i : Nat) : 0 ≤ seenL l i := by
  by_cases c : i < l.length
  · exact (clockE_ok h).2 _ (seenL_mem c)
  · rw [seenL_out (by omega)]
    exact Int.le_refl _
theorem clockE_out {l : List Int} (h : clockE l = 0) {i : Nat} (hi : 16 ≤ i) : seenL l i = 0 := seenL_out (by have := (clockE_ok h).1; omega)
/-- A clock of sixteen, told one by one. -/
def of16 (f : Nat → Int) (n : Nat) : List Int := (List.range n).map f
theorem of16_length (f : Nat → Int) (n : Nat) : (of16 f n).length = n := by simp [of16]
theorem of16_succ (f : Nat → Int) (n : Nat) : of16 f n ++ [f n] = of16 f (n + 1) := by
  unfold of16
  rw [List.range_succ, List.map_append]
  rfl
theorem of16_seen (f : Nat → Int) (n i : Nat) (h : i < n) : seenL (of16 f n) i = f i := by
  unfold seenL of16
  rw [List.getD_eq_getElem?_getD, List.getElem?_map, List.getElem?_range h]
  rfl
theorem of16_out (f : Nat → Int) {n i : Nat} (h : n ≤ i) : seenL (of16 f n) i = 0 := seenL_out (by rw [of16_length]; exact h)
theorem of16_ok {f : Nat → Int} (h : ∀ i, i < 16 → 0 ≤ f i) : clockE (shortL (of16 f 16)) = 0 := by
  refine clockE_mk (Nat.le_trans (shortL_le _) (by rw [of16_length]; exact Nat.le_refl _)) fun x hx => ?_
  have hx' := List.mem_of_mem_take hx
  obtain ⟨i, hi, rfl⟩ := List.mem_map.1 hx'
  exact h i (List.mem_range.1 hi)
theorem of16_all {f : Nat → Int} {i : Nat} (h : i < 16) : seenL (shortL (of16 f 16)) i = f i := by rw [seen_short, of16_seen _ _ _ h]
/-! one more; the greater ones; below -/
def tickF (l : List Int) (who i : Nat) : Int := if i = who then seenL l i + 1 else seenL l i
def maxI (x y : Int) : Int := if x < y then y else x
theorem maxI_assoc (x y z : Int) : maxI (maxI x y) z = maxI x (maxI y z) := by
  unfold maxI
  (repeat' split) <;> omega
def joinF (a b : List Int) (i : Nat) : Int := maxI (seenL a i) (seenL b i)
def tickL (l : List Int) (who : Nat) : List Int := shortL (of16 (tickF l who) 16)
def joinC (a b : List Int) : List Int := shortL (of16 (joinF a b) 16)
def leC (a b : List Int) : Prop := ∀ i, i < 16 → seenL a i ≤ seenL b i
instance leC_dec (a b : List Int) : Decidable (leC a b) := by unfold leC; exact inferInstance
theorem joinF_ok {a b : List Int} (ha : clockE a = 0) (i : Nat) : 0 ≤ joinF a b i := by
  have := clockE_seen ha i
  unfold joinF maxI
  split <;> omega
theorem joinC_ok {a b : List Int} (ha : clockE a = 0) : clockE (joinC a b) = 0 := of16_ok fun i _ => joinF_ok ha i
theorem tickL_ok {a : List Int} {who : Nat} (ha : clockE a = 0) : clockE (tickL a who) = 0 := of16_ok fun i _ => by
  have := clockE_seen ha i
  unfold tickF
  split <;> omega
theorem joinC_seen {a b : List Int} {i : Nat} (h : i < 16) : seenL (joinC a b) i = maxI (seenL a i) (seenL b i) := of16_all h
theorem joinC_out {a b : List Int} {i : Nat} (h : 16 ≤ i) : seenL (joinC a b) i = 0 := by
  unfold joinC
  rw [seen_short]
  exact of16_out _ h
theorem tickL_seen {a : List Int} {who i : Nat} (h : i < 16) : seenL (tickL a who) i = if i = who then seenL a i + 1 else seenL a i := of16_all h
theorem le_join1 (a b : List Int) : leC a (joinC a b) := fun i hi => by
  rw [joinC_seen hi]
  unfold maxI
  split <;> omega
theorem le_join2 (a b : List Int) : leC b (joinC a b) := fun i hi => by
  rw [joinC_seen hi]
  unfold maxI
  split <;> omega
theorem join_least (a b c : List Int) : leC (joinC a b) c ↔ leC a c ∧ leC b c := by
  constructor
  · intro h
    exact ⟨fun i hi => Int.le_trans (le_join1 a b i hi) (h i hi), fun i hi => Int.le_trans (le_join2 a b i hi) (h i hi)⟩
  · rintro ⟨h1, h2⟩ i hi
    rw [joinC_seen hi]
    have := h1 i hi
    have := h2 i hi
    unfold maxI
    split <;> omega
theorem le_tr {a b c : List Int} (h1 : leC a b) (h2 : leC b c) : leC a c := fun i hi => Int.le_trans (h1 i hi) (h2 i hi)
theorem le_tick (a : List Int) (who : Nat) : leC a (tickL a who) := fun i hi => by
  rw [tickL_seen hi]
  split <;> omega
theorem not_tick (a : List Int) {who : Nat} (h : who < 16) : ¬ leC (tickL a who) a := fun q => by
  have := q who h
  rw [tickL_seen h, if_pos rfl] at this
  omega
theorem join_comm (a b : List Int) : joinC a b = joinC b a := short_congr fun i => by
  by_cases h : i < 16
  · rw [of16_seen _ _ _ h, of16_seen _ _ _ h]
    unfold joinF maxI
    split <;> split <;> omega
  · rw [of16_out _ (by omega), of16_out _ (by omega)]
theorem join_assoc (a b c : List Int) : joinC (joinC a b) c = joinC a (joinC b c) := short_congr fun i => by
  by_cases h : i < 16
  · rw [of16_seen _ _ _ h, of16_seen _ _ _ h]
    unfold joinF
    rw [joinC_seen h, joinC_seen h]
    exact maxI_assoc _ _ _
  · rw [of16_out _ (by omega), of16_out _ (by omega)]
theorem join_self {a : List Int} (h : clockE a = 0) : joinC a a = shortL a := short_congr fun i => by
  by_cases c : i < 16
  · rw [of16_seen _ _ _ c]
    unfold joinF maxI
    split <;> rfl
  · rw [of16_out _ (by omega), clockE_out h (by omega)]
theorem joinE_pair (a b : List Int) : (if clockE a ≠ 0 then clockE a else clockE b) = 0 ↔ clockE a = 0 ∧ clockE b = 0 := by
  by_cases c : clockE a = 0
  · rw [if_neg (by simp [c])]
    simp [c]
  · rw [if_pos c]
    simp [c]
def pairE (a b : List Int) : Int := if clockE a ≠ 0 then clockE a else clockE b
/-- What is wrong with one more for who. -/
def tickE (l : List Int) (who : Int) : Int := if clockE l ≠ 0 then clockE l else if who < 0 ∨ 16 ≤ who ∨ seenL l who.toNat = 9223372036854775807 then 2 else 0
theorem tickE_ok {l : List Int} {who : Int} (h : tickE l who = 0) : clockE l = 0 ∧ 0 ≤ who ∧ who < 16 ∧ seenL l who.toNat ≠ 9223372036854775807 := by
  unfold tickE at h
  by_cases c : clockE l = 0
  · rw [if_neg (by simp [c])] at h
    by_cases d : who < 0 ∨ 16 ≤ who ∨ seenL l who.toNat = 9223372036854775807
    · rw [if_pos d] at h; omega
    · exact ⟨c, by omega, by omega, fun e => d (.inr (.inr e))⟩
  · rw [if_pos c] at h
    exact absurd h c
theorem tick_nil : tickL [] 0 = [1] := by decide
theorem tickE_nil : tickE [] 0 = 0 := by decide
theorem join_one_two : joinC [1] [0, 2] = [1, 2] := by decide
theorem pairE_one_two : pairE [1] [0, 2] = 0 := by decide
/-- All are numbers of 64 bits. -/
def okI (l : List Int) : Prop := ∀ x ∈ l, -9223372036854775808 ≤ x ∧ x ≤ 9223372036854775807
theorem okI_of {l : List Int} {n : Nat} (hl : l.length = n) (h : ∀ i, i < n → -9223372036854775808 ≤ l.getD i 0 ∧ l.getD i 0 ≤ 9223372036854775807) : okI l := fun x hx => by
  obtain ⟨i, hi, rfl⟩ := List.mem_iff_getElem.1 hx
  have := h i (by omega)
  rw [List.getD_eq_getElem?_getD, List.getElem?_eq_getElem hi] at this
  exact this
theorem okI_seen {l : List Int} (h : okI l) (i : Nat) : -9223372036854775808 ≤ seenL l i ∧ seenL l i ≤ 9223372036854775807 := by
  by_cases c : i < l.length
  · exact h _ (seenL_mem c)
  · rw [seenL_out (by omega)]
    omega
theorem okI_short {f : Nat → Int} (h : ∀ i, i < 16 → -9223372036854775808 ≤ f i ∧ f i ≤ 9223372036854775807) : okI (shortL (of16 f 16)) := fun x hx => by
  obtain ⟨i, hi, rfl⟩ := List.mem_map.1 (List.mem_of_mem_take hx)
  exact h i (List.mem_range.1 hi)
theorem okI_join {a b : List Int} (ha : okI a) (hb : okI b) : okI (joinC a b) := okI_short fun i _ => by
  have := okI_seen ha i
  have := okI_seen hb i
  unfold joinF maxI
  split <;> omega
theorem okI_tick {a : List Int} {who : Nat} (ha : okI a) (h : seenL a who ≠ 9223372036854775807) : okI (tickL a who) := okI_short fun i _ => by
  have := okI_seen ha i
  unfold tickF
  split
  · rename_i e
    subst e
    omega
  · omega
theorem joinC_le (a b : List Int) : (joinC a b).length ≤ 16 := Nat.le_trans (shortL_le _) (by rw [of16_length]; exact Nat.le_refl _)
theorem tickL_le (a : List Int) (who : Nat) : (tickL a who).length ≤ 16 := Nat.le_trans (shortL_le _) (by rw [of16_length]; exact Nat.le_refl _)
theorem pairE_ok {a b : List Int} (h : pairE a b = 0) : clockE a = 0 ∧ clockE b = 0 := (joinE_pair a b).1 h
theorem pairE_mk {a b : List Int} (ha : clockE a = 0) (hb : clockE b = 0) : pairE a b = 0 := (joinE_pair a b).2 ⟨ha, hb⟩
/-- A clock as it lies, shorter. -/
theorem IRow.take {w : World} {a : Option Addr} {n k : Nat} {l : List Int} (R : IRow w a n l) (hk : k ≤ n) : IRow w a k (l.take k) := by
  refine ⟨by rw [List.length_take, R.1]; omega, ?_⟩
  rcases R.2 with h0 | ⟨b, o, e, hc⟩
  · exact .inl (by omega)
  · refine .inr ⟨b, o, e, fun i hi => ?_⟩
    have := hc i (by omega)
    rw [List.getD_eq_getElem?_getD, List.getElem?_take_of_lt hi, ← List.getD_eq_getElem?_getD]
    exact this
theorem IRow.short {w : World} {a : Option Addr} {n : Nat} {l : List Int} (R : IRow w a n l) : IRow w a (shortL l).length (shortL l) := by
  rw [shortL_length]
  exact R.take (by have := shortN_le l l.length; have := R.1; omega)
end Go.Proofs.YtanlnfcmmfmofaaDoor
