/- Plain definitions for peaks: no theorem of the program yet. -/
import Derived.Test.YtbpkhpkllokbhaaDoorJ02
namespace Go.Proofs.YtbpkhpkllokbhaaDoor
set_option linter.unusedVariables false
set_option linter.unusedSimpArgs false

/-- How many bits of n are 1. -/
def onesT (n : Nat) : Nat := if h : n = 0 then 0 else n % 2 + onesT (n / 2)
termination_by n
decreasing_by omega
theorem onesT_zero : onesT 0 = 0 := by rw [onesT, dif_pos rfl]
theorem onesT_step {n : Nat} (h : n ≠ 0) : onesT n = n % 2 + onesT (n / 2) := by rw [onesT, dif_neg h]
theorem onesT_le : ∀ n, onesT n ≤ n := by
  intro n
  induction n using Nat.strongRecOn with
  | ind n ih =>
    by_cases h : n = 0
    · subst h; rw [onesT_zero]; omega
    · rw [onesT_step h]; have := ih (n / 2) (by omega); omega
theorem onesT_pow : ∀ e n, n < 2 ^ e → onesT n ≤ e
  | 0, n, h => by have : n = 0 := by simp at h; exact h
                  subst this; rw [onesT_zero]; omega
  | e + 1, n, h => by
    by_cases c : n = 0
    · subst c; rw [onesT_zero]; omega
    · rw [onesT_step c]
      have := onesT_pow e (n / 2) (by rw [Nat.pow_succ] at h; omega)
      omega
theorem onesT_30 {n : Nat} (h : n ≤ 1073741824) : onesT n ≤ 31 := onesT_pow 31 n (by omega)
theorem onesT_top : ∀ e r, r < 2 ^ e → onesT (2 ^ e + r) = 1 + onesT r
  | 0, r, h => by
    have : r = 0 := by simp at h; exact h
    subst this
    rw [onesT_zero, show (2 : Nat) ^ 0 + 0 = 1 from rfl, onesT_step (by omega), show 1 / 2 = 0 from rfl, onesT_zero]
  | e + 1, r, h => by
    have hp : 0 < 2 ^ e := Nat.pow_pos (by omega)
    rw [Nat.pow_succ] at h ⊢
    rw [onesT_step (by omega), show (2 ^ e * 2 + r) % 2 = r % 2 by omega, show (2 ^ e * 2 + r) / 2 = 2 ^ e + r / 2 by omega, onesT_top e (r / 2) (by omega)]
    by_cases c : r = 0
    · subst c; rw [onesT_zero]
    · rw [onesT_step c]; omega
/-- The greatest power of 2 that is not above n. -/
theorem top_is {n k : Nat} (hp : ∃ e, k = 2 ^ e) (h1 : k ≤ n) (h2 : n < 2 * k) (hn : 1 ≤ n) : halfT (n + 1) = k := halfT_is hp (by omega) (by omega) (by omega)
theorem top_le {n : Nat} (hn : 1 ≤ n) : halfT (n + 1) ≤ n := by have := halfT_lt (n := n + 1) (by omega); omega
theorem top_two (n : Nat) : n < 2 * halfT (n + 1) := by have := halfT_two (n + 1); omega
theorem onesT_peak {n : Nat} (hn : 1 ≤ n) : onesT n = 1 + onesT (n - halfT (n + 1)) := by
  obtain ⟨e, he⟩ := halfT_pow (n + 1)
  have h1 := top_le hn
  have h2 := top_two n
  have := onesT_top e (n - halfT (n + 1)) (by rw [he] at h2 h1 ⊢; omega)
  rw [← he, show halfT (n + 1) + (n - halfT (n + 1)) = n by omega] at this
  exact this
/-- The peaks of leaves. -/
def peaksT (ls : List (List UInt8)) : List (List UInt8) :=
  if h : 1 ≤ ls.length then rootT (ls.take (halfT (ls.length + 1))) :: peaksT (ls.drop (halfT (ls.length + 1))) else []
termination_by ls.length
decreasing_by
  have := halfT_pos (ls.length + 1)
  rw [List.length_drop]; omega
theorem peaksT_nil {ls : List (List UInt8)} (h : ls.length = 0) : peaksT ls = [] := by rw [peaksT, dif_neg (by omega)]
theorem peaksT_cons {ls : List (List UInt8)} (h : 1 ≤ ls.length) : peaksT ls = rootT (ls.take (halfT (ls.length + 1))) :: peaksT (ls.drop (halfT (ls.length + 1))) := by rw [peaksT, dif_pos h]
theorem peaksT_at {ls : List (List UInt8)} {k : Nat} (h : 1 ≤ ls.length) (hk : halfT (ls.length + 1) = k) : peaksT ls = rootT (ls.take k) :: peaksT (ls.drop k) := by rw [peaksT_cons h, hk]
theorem peaksT_length : ∀ (n : Nat) (ls : List (List UInt8)), ls.length = n → (peaksT ls).length = onesT n := by
  intro n
  induction n using Nat.strongRecOn with
  | ind n ih =>
    intro ls hl
    by_cases h : 1 ≤ n
    · have k2 := halfT_pos (n + 1)
      rw [peaksT_cons (by omega), hl, List.length_cons, ih (n - halfT (n + 1)) (by omega) _ (by rw [List.length_drop, hl]), onesT_peak h]
      omega
    · rw [peaksT_nil (by omega), show n = 0 by omega, onesT_zero]
      rfl
theorem peaksT_32 : ∀ (n : Nat) (ls : List (List UInt8)), ls.length = n → (∀ l ∈ ls, l.length = 32) → ∀ p ∈ peaksT ls, p.length = 32 := by
  intro n
  induction n using Nat.strongRecOn with
  | ind n ih =>
    intro ls hl h32 p hp
    by_cases h : 1 ≤ n
    · have k2 := halfT_pos (n + 1)
      rw [peaksT_cons (by omega), hl] at hp
      rcases List.mem_cons.1 hp with rfl | hp
      · exact rootT_length (fun l hl => h32 l (List.mem_of_mem_take hl))
      · exact ih (n - halfT (n + 1)) (by omega) _ (by rw [List.length_drop, hl]) (fun l hl => h32 l (List.mem_of_mem_drop hl)) p hp
    · rw [peaksT_nil (by omega)] at hp
      cases hp
/-- The root that peaks have. -/
def bagT : List (List UInt8) → List UInt8
  | [] => shaL []
  | [p] => p
  | p :: q :: r => nodeT p (bagT (q :: r))
theorem bagT_cons {p : List UInt8} {r : List (List UInt8)} (h : r ≠ []) : bagT (p :: r) = nodeT p (bagT r) := by
  cases r with
  | nil => exact absurd rfl h
  | cons q r => rfl
theorem bagT_length {ps : List (List UInt8)} (h : ∀ p ∈ ps, p.length = 32) : (bagT ps).length = 32 := by
  match ps, h with
  | [], _ => exact shaL_length _
  | [p], h => exact h p (by simp)
  | p :: q :: r, _ => exact nodeT_length _ _
theorem bag_peaks : ∀ (n : Nat) (ls : List (List UInt8)), ls.length = n → bagT (peaksT ls) = rootT ls := by
  intro n
  induction n using Nat.strongRecOn with
  | ind n ih =>
    intro ls hl
    by_cases h : 1 ≤ n
    · have k1 := top_le h
      have k2 := top_two n
      have k3 := halfT_pos (n + 1)
      rw [peaksT_cons (by omega), hl]
      by_cases c : halfT (n + 1) = n
      · rw [c, List.take_of_length_le (by omega), peaksT_nil (by rw [List.length_drop]; omega)]
        rfl
      · have hh : halfT n = halfT (n + 1) := halfT_is (halfT_pow (n + 1)) (by omega) (by omega) (by omega)
        rw [bagT_cons (fun e => by
          have := peaksT_cons (ls := ls.drop (halfT (n + 1))) (by rw [List.length_drop]; omega)
          rw [e] at this
          cases this), ih (n - halfT (n + 1)) (by omega) _ (by rw [List.length_drop, hl]), rootT_two (ls := ls) (by omega), hl, hh]
    · rw [peaksT_nil (by omega), rootT_none (by omega)]
      rfl
theorem peaks_app : ∀ (n a : Nat) (ls x : List (List UInt8)), ls.length = n → (∃ q, n = q * 2 ^ a) → x.length < 2 ^ a → peaksT (ls ++ x) = peaksT ls ++ peaksT x := by
  intro n
  induction n using Nat.strongRecOn with
  | ind n ih =>
    intro a ls x hl hq hx
    by_cases h : 1 ≤ n
    · have k1 := top_le h
      have k2 := top_two n
      have k3 := halfT_pos (n + 1)
      obtain ⟨e, he⟩ := halfT_pow (n + 1)
      obtain ⟨q, hq⟩ := hq
      have hq1 : 1 ≤ q := by
        apply Classical.byContradiction
        intro c
        have : q = 0 := by omega
        subst this
        omega
      have hae : a ≤ e := by
        apply Classical.byContradiction
        intro c
        have h1 := Nat.pow_le_pow_right (n := 2) (by omega) (show e + 1 ≤ a by omega)
        rw [Nat.pow_succ] at h1
        have h2 : 2 ^ a ≤ q * 2 ^ a := Nat.le_mul_of_pos_left _ (by omega)
        omega
      obtain ⟨d, rfl⟩ : ∃ d, e = a + d := ⟨e - a, by omega⟩
      have hk : halfT (n + 1) = 2 ^ d * 2 ^ a := by rw [he, Nat.pow_add, Nat.mul_comm]
      have hp : 0 < 2 ^ a := Nat.pow_pos (by omega)
      have hqd : q < 2 * 2 ^ d := by
        apply Classical.byContradiction
        intro c
        have := Nat.mul_le_mul_right (2 ^ a) (show 2 * 2 ^ d ≤ q by omega)
        rw [Nat.mul_assoc, ← hk, ← hq] at this
        omega
      have hnx : n + x.length < 2 * halfT (n + 1) := by
        have := Nat.mul_le_mul_right (2 ^ a) (show q + 1 ≤ 2 * 2 ^ d by omega)
        rw [Nat.mul_assoc, ← hk, Nat.add_mul, ← hq] at this
        omega
      have ht : halfT ((ls ++ x).length + 1) = halfT (n + 1) := top_is ⟨_, he⟩ (by rw [List.length_append]; omega) (by rw [List.length_append]; omega) (by rw [List.length_append]; omega)
      rw [peaksT_at (ls := ls ++ x) (by rw [List.length_append]; omega) ht, peaksT_cons (ls := ls) (by omega), hl, List.take_append_of_le_length (by omega), List.drop_append_of_le_length (by omega), List.cons_append]
      rw [ih (n - halfT (n + 1)) (by omega) a _ x (by rw [List.length_drop, hl]) ⟨q - 2 ^ d, by rw [Nat.sub_mul, ← hk, ← hq]⟩ hx]
    · have : ls = [] := List.length_eq_zero_iff.1 (by omega)
      subst this
      rw [List.nil_append, peaksT_nil (ls := []) rfl, List.nil_append]
/-- The peaks of n leaves, with one more. -/
def grownT (n : Nat) (ps : List (List UInt8)) (l : List UInt8) : List (List UInt8) :=
  if h : n % 2 = 1 then grownT (n / 2) (ps.take (ps.length - 1)) (nodeT (ps.getD (ps.length - 1) []) l) else ps ++ [l]
termination_by n
decreasing_by omega
theorem grownT_odd {n : Nat} {ps : List (List UInt8)} {l : List UInt8} (h : n % 2 = 1) : grownT n ps l = grownT (n / 2) (ps.take (ps.length - 1)) (nodeT (ps.getD (ps.length - 1) []) l) := by rw [grownT, dif_pos h]
theorem grownT_even {n : Nat} {ps : List (List UInt8)} {l : List UInt8} (h : ¬ n % 2 = 1) : grownT n ps l = ps ++ [l] := by rw [grownT, dif_neg h]
theorem peaks_pow (e : Nat) (x : List (List UInt8)) (h : x.length = 2 ^ e) : peaksT x = [rootT x] := by
  have hp : 0 < 2 ^ e := Nat.pow_pos (by omega)
  rw [peaksT_at (k := 2 ^ e) (by omega) (by rw [h]; exact top_is ⟨e, rfl⟩ (Nat.le_refl _) (by omega) (by omega)), List.take_of_length_le (by omega), peaksT_nil (by rw [List.length_drop]; omega)]
theorem peaks_grow : ∀ (n e : Nat) (ls x : List (List UInt8)), ls.length = n * 2 ^ e → x.length = 2 ^ e → grownT n (peaksT ls) (rootT x) = peaksT (ls ++ x) := by
  intro n
  induction n using Nat.strongRecOn with
  | ind n ih =>
    intro e ls x hl hx
    have hp : 0 < 2 ^ e := Nat.pow_pos (by omega)
    by_cases h : n % 2 = 1
    · have hn : n = 2 * (n / 2) + 1 := by omega
      have hl2 : ls.length = n / 2 * 2 ^ (e + 1) + 2 ^ e := by
        rw [hl, Nat.pow_succ]
        conv => lhs; rw [hn]
        rw [Nat.add_mul, Nat.one_mul, Nat.mul_comm 2 (n / 2), Nat.mul_assoc, Nat.mul_comm 2 (2 ^ e)]
      obtain ⟨y, hy⟩ : ∃ y, ls.drop (n / 2 * 2 ^ (e + 1)) = y := ⟨_, rfl⟩
      obtain ⟨z, hz⟩ : ∃ z, ls.take (n / 2 * 2 ^ (e + 1)) = z := ⟨_, rfl⟩
      have hls : ls = z ++ y := by rw [← hy, ← hz, List.take_append_drop]
      have hyl : y.length = 2 ^ e := by rw [← hy, List.length_drop]; omega
      have hzl : z.length = n / 2 * 2 ^ (e + 1) := by rw [← hz, List.length_take]; omega
      have hpe : peaksT ls = peaksT z ++ [rootT y] := by
        rw [hls, peaks_app _ (e + 1) z y hzl ⟨_, rfl⟩ (by rw [hyl, Nat.pow_succ]; omega), peaks_pow e y hyl]
      have hnode : nodeT (rootT y) (rootT x) = rootT (y ++ x) := by
        have hlen : (y ++ x).length = 2 ^ (e + 1) := by rw [List.length_append, hyl, hx, Nat.pow_succ]; omega
        have hh : halfT (y ++ x).length = 2 ^ e := by rw [hlen]; exact halfT_is ⟨e, rfl⟩ (by rw [Nat.pow_succ]; omega) (by rw [Nat.pow_succ]; omega) (by rw [Nat.pow_succ]; omega)
        rw [rootT_two (ls := y ++ x) (by rw [hlen, Nat.pow_succ]; omega), hh, ← hyl, List.take_left, List.drop_left]
      rw [grownT_odd h, hpe, show (peaksT z ++ [rootT y]).length - 1 = (peaksT z).length by simp, List.take_left, show (peaksT z ++ [rootT y]).getD (peaksT z).length [] = rootT y by simp, hnode, ih (n / 2) (by omega) (e + 1) z (y ++ x) hzl (by rw [List.length_append, hyl, hx, Nat.pow_succ]; omega), hls, List.append_assoc]
    · rw [grownT_even h, peaks_app _ (e + 1) ls x hl ⟨n / 2, by rw [Nat.pow_succ, ← Nat.mul_assoc, Nat.mul_right_comm, show n / 2 * 2 = n by omega]⟩ (by rw [hx, Nat.pow_succ]; omega), peaks_pow e x hx]
theorem peaks_add (ls : List (List UInt8)) (l : List UInt8) : grownT ls.length (peaksT ls) l = peaksT (ls ++ [l]) := by
  have := peaks_grow ls.length 0 ls [l] (by simp) rfl
  rw [rootT_one rfl] at this
  exact this
theorem grownT_length : ∀ (n : Nat) (ps : List (List UInt8)) (l : List UInt8), ps.length = onesT n → (grownT n ps l).length = onesT (n + 1) := by
  intro n
  induction n using Nat.strongRecOn with
  | ind n ih =>
    intro ps l hp
    by_cases h : n % 2 = 1
    · rw [onesT_step (by omega)] at hp
      rw [grownT_odd h, ih (n / 2) (by omega) _ _ (by rw [List.length_take]; omega), onesT_step (n := n + 1) (by omega), show (n + 1) % 2 = 0 by omega, show (n + 1) / 2 = n / 2 + 1 by omega, Nat.zero_add]
    · rw [grownT_even h, List.length_append, hp, onesT_step (n := n + 1) (by omega), show (n + 1) % 2 = 1 by omega, show (n + 1) / 2 = n / 2 by omega]
      by_cases c : n = 0
      · subst c; rw [onesT_zero]; rfl
      · rw [onesT_step c, show n % 2 = 0 by omega]
        simp
        omega
theorem grownT_32 : ∀ (n : Nat) (ps : List (List UInt8)) (l : List UInt8), (∀ p ∈ ps, p.length = 32) → l.length = 32 → ∀ p ∈ grownT n ps l, p.length = 32 := by
  intro n
  induction n using Nat.strongRecOn with
  | ind n ih =>
    intro ps l h32 hl p hp
    by_cases h : n % 2 = 1
    · rw [grownT_odd h] at hp
      exact ih (n / 2) (by omega) _ _ (fun q hq => h32 q (List.mem_of_mem_take hq)) (nodeT_length _ _) p hp
    · rw [grownT_even h] at hp
      rcases List.mem_append.1 hp with hp | hp
      · exact h32 p hp
      · rw [List.mem_singleton.1 hp]; exact hl
end Go.Proofs.YtbpkhpkllokbhaaDoor
