/- Plain definitions for trees of digests: no theorem of the program yet. -/
import Derived.Test.YtbpkhpkllokbhaaDoorSha
namespace Go.Proofs.YtbpkhpkllokbhaaDoor
set_option linter.unusedVariables false
set_option linter.unusedSimpArgs false

def leafT (b : List UInt8) : List UInt8 := shaL (0 :: b)
def nodeT (l r : List UInt8) : List UInt8 := shaL (1 :: (l ++ r))
theorem leafT_length (b : List UInt8) : (leafT b).length = 32 := shaL_length _
theorem nodeT_length (l r : List UInt8) : (nodeT l r).length = 32 := shaL_length _
/-- The greatest power of 2 below n, from k on. -/
def halfF : Nat → Nat → Nat → Nat
  | 0, k, _ => k
  | f + 1, k, n => if 2 * k < n then halfF f (2 * k) n else k
def halfT (n : Nat) : Nat := halfF n 1 n
theorem halfF_lt : ∀ f k n, k < n → halfF f k n < n
  | 0, k, n, h => h
  | f + 1, k, n, h => by
    rw [halfF]
    by_cases c : 2 * k < n
    · rw [if_pos c]; exact halfF_lt f (2 * k) n c
    · rw [if_neg c]; exact h
theorem halfF_ge : ∀ f k n, k ≤ halfF f k n
  | 0, k, n => Nat.le_refl _
  | f + 1, k, n => by
    rw [halfF]
    by_cases c : 2 * k < n
    · rw [if_pos c]; have := halfF_ge f (2 * k) n; omega
    · rw [if_neg c]; exact Nat.le_refl _
theorem halfF_two : ∀ f k n, 0 < k → n ≤ k + f → n ≤ 2 * halfF f k n
  | 0, k, n, h0, h => by rw [halfF]; omega
  | f + 1, k, n, h0, h => by
    rw [halfF]
    by_cases c : 2 * k < n
    · rw [if_pos c]; exact halfF_two f (2 * k) n (by omega) (by omega)
    · rw [if_neg c]; omega
theorem halfT_lt {n : Nat} (h : 2 ≤ n) : halfT n < n := halfF_lt n 1 n (by omega)
theorem halfT_pos (n : Nat) : 0 < halfT n := halfF_ge n 1 n
theorem halfT_two (n : Nat) : n ≤ 2 * halfT n := halfF_two n 1 n (by omega) (by omega)
/-- The Root of leaves. -/
def rootT (ls : List (List UInt8)) : List UInt8 :=
  if h : 2 ≤ ls.length then nodeT (rootT (ls.take (halfT ls.length))) (rootT (ls.drop (halfT ls.length)))
  else if ls.length = 0 then shaL [] else ls.getD 0 []
termination_by ls.length
decreasing_by
  · have := halfT_lt h
    rw [List.length_take]; omega
  · have := halfT_pos ls.length
    rw [List.length_drop]; omega
theorem rootT_two {ls : List (List UInt8)} (h : 2 ≤ ls.length) : rootT ls = nodeT (rootT (ls.take (halfT ls.length))) (rootT (ls.drop (halfT ls.length))) := by
  rw [rootT, dif_pos h]
theorem rootT_one {ls : List (List UInt8)} (h : ls.length = 1) : rootT ls = ls.getD 0 [] := by
  rw [rootT, dif_neg (by omega), if_neg (by omega)]
theorem rootT_none {ls : List (List UInt8)} (h : ls.length = 0) : rootT ls = shaL [] := by
  rw [rootT, dif_neg (by omega), if_pos h]
theorem rootT_length {ls : List (List UInt8)} (h : ∀ l ∈ ls, l.length = 32) : (rootT ls).length = 32 := by
  by_cases h2 : 2 ≤ ls.length
  · rw [rootT_two h2]; exact nodeT_length _ _
  · by_cases h0 : ls.length = 0
    · rw [rootT_none h0]; exact shaL_length _
    · rw [rootT_one (by omega)]
      have : 0 < ls.length := by omega
      rw [List.getD_eq_getElem?_getD, List.getElem?_eq_getElem this]
      exact h _ (List.getElem_mem _)
/-- The Path of leaf i. -/
def pathT (ls : List (List UInt8)) (i : Nat) : List (List UInt8) :=
  if h : 2 ≤ ls.length then
    if i < halfT ls.length then pathT (ls.take (halfT ls.length)) i ++ [rootT (ls.drop (halfT ls.length))]
    else pathT (ls.drop (halfT ls.length)) (i - halfT ls.length) ++ [rootT (ls.take (halfT ls.length))]
  else []
termination_by ls.length
decreasing_by
  · have := halfT_lt h
    rw [List.length_take]; omega
  · have := halfT_pos ls.length
    rw [List.length_drop]; omega
theorem pathT_lo {ls : List (List UInt8)} {i : Nat} (h : 2 ≤ ls.length) (hi : i < halfT ls.length) : pathT ls i = pathT (ls.take (halfT ls.length)) i ++ [rootT (ls.drop (halfT ls.length))] := by
  rw [pathT, dif_pos h, if_pos hi]
theorem pathT_hi {ls : List (List UInt8)} {i : Nat} (h : 2 ≤ ls.length) (hi : ¬ i < halfT ls.length) : pathT ls i = pathT (ls.drop (halfT ls.length)) (i - halfT ls.length) ++ [rootT (ls.take (halfT ls.length))] := by
  rw [pathT, dif_pos h, if_neg hi]
theorem pathT_one {ls : List (List UInt8)} {i : Nat} (h : ¬ 2 ≤ ls.length) : pathT ls i = [] := by
  rw [pathT, dif_neg h]
/-- How long the path of leaf i of n is. -/
def longT (i n : Nat) : Nat :=
  if h : 2 ≤ n then if i < halfT n then 1 + longT i (halfT n) else 1 + longT (i - halfT n) (n - halfT n) else 0
termination_by n
decreasing_by
  · exact halfT_lt h
  · have := halfT_pos n; omega
theorem longT_lo {i n : Nat} (h : 2 ≤ n) (hi : i < halfT n) : longT i n = 1 + longT i (halfT n) := by rw [longT, dif_pos h, if_pos hi]
theorem longT_hi {i n : Nat} (h : 2 ≤ n) (hi : ¬ i < halfT n) : longT i n = 1 + longT (i - halfT n) (n - halfT n) := by rw [longT, dif_pos h, if_neg hi]
theorem longT_one {i n : Nat} (h : ¬ 2 ≤ n) : longT i n = 0 := by rw [longT, dif_neg h]
theorem longT_le : ∀ (n i : Nat), longT i n ≤ n := by
  intro n
  induction n using Nat.strongRecOn with
  | ind n ih =>
    intro i
    by_cases h : 2 ≤ n
    · have h1 := halfT_lt h
      have h2 := halfT_pos n
      by_cases hi : i < halfT n
      · rw [longT_lo h hi]; have := ih (halfT n) h1 i; omega
      · rw [longT_hi h hi]; have := ih (n - halfT n) (by omega) (i - halfT n); omega
    · rw [longT_one h]; omega
/-- The root that a leaf and a path have. -/
def foldT (l : List UInt8) (i n : Nat) (path : List (List UInt8)) : List UInt8 :=
  if h : 2 ≤ n then
    if i < halfT n then nodeT (foldT l i (halfT n) (path.take (path.length - 1))) (path.getD (path.length - 1) [])
    else nodeT (path.getD (path.length - 1) []) (foldT l (i - halfT n) (n - halfT n) (path.take (path.length - 1)))
  else l
termination_by n
decreasing_by
  · exact halfT_lt h
  · have := halfT_pos n; omega
theorem foldT_lo {l : List UInt8} {i n : Nat} {path : List (List UInt8)} (h : 2 ≤ n) (hi : i < halfT n) : foldT l i n path = nodeT (foldT l i (halfT n) (path.take (path.length - 1))) (path.getD (path.length - 1) []) := by rw [foldT, dif_pos h, if_pos hi]
theorem foldT_hi {l : List UInt8} {i n : Nat} {path : List (List UInt8)} (h : 2 ≤ n) (hi : ¬ i < halfT n) : foldT l i n path = nodeT (path.getD (path.length - 1) []) (foldT l (i - halfT n) (n - halfT n) (path.take (path.length - 1))) := by rw [foldT, dif_pos h, if_neg hi]
theorem foldT_one {l : List UInt8} {i n : Nat} {path : List (List UInt8)} (h : ¬ 2 ≤ n) : foldT l i n path = l := by rw [foldT, dif_neg h]
theorem foldT_length {l : List UInt8} (hl : l.length = 32) (i n : Nat) (path : List (List UInt8)) : (foldT l i n path).length = 32 := by
  by_cases h : 2 ≤ n
  · by_cases hi : i < halfT n
    · rw [foldT_lo h hi]; exact nodeT_length _ _
    · rw [foldT_hi h hi]; exact nodeT_length _ _
  · rw [foldT_one h]; exact hl
theorem snoc_last (p : List (List UInt8)) (x : List UInt8) : (p ++ [x]).getD ((p ++ [x]).length - 1) [] = x := by
  rw [List.length_append, List.length_singleton, Nat.add_sub_cancel, List.getD_eq_getElem?_getD, List.getElem?_append_right (Nat.le_refl _), Nat.sub_self]
  rfl
theorem snoc_init (p : List (List UInt8)) (x : List UInt8) : (p ++ [x]).take ((p ++ [x]).length - 1) = p := by
  rw [List.length_append, List.length_singleton, Nat.add_sub_cancel, List.take_left']
  rfl
theorem getD_take {ls : List (List UInt8)} {i k : Nat} (h : i < k) : (ls.take k).getD i [] = ls.getD i [] := by
  rw [List.getD_eq_getElem?_getD, List.getD_eq_getElem?_getD, List.getElem?_take_of_lt h]
theorem getD_drop (ls : List (List UInt8)) (i k : Nat) : (ls.drop k).getD i [] = ls.getD (k + i) [] := by
  rw [List.getD_eq_getElem?_getD, List.getD_eq_getElem?_getD, List.getElem?_drop]
/-- A leaf and its path are the root; the path is as long as it must be. -/
theorem fold_path : ∀ (n : Nat) (ls : List (List UInt8)) (i : Nat), ls.length = n → i < n → foldT (ls.getD i []) i n (pathT ls i) = rootT ls ∧ (pathT ls i).length = longT i n := by
  intro n
  induction n using Nat.strongRecOn with
  | ind n ih =>
    intro ls i hl hi
    subst hl
    by_cases h : 2 ≤ ls.length
    · have h1 := halfT_lt h
      have h2 := halfT_pos ls.length
      by_cases c : i < halfT ls.length
      · obtain ⟨e1, e2⟩ := ih (halfT ls.length) h1 (ls.take (halfT ls.length)) i (by rw [List.length_take]; omega) c
        rw [foldT_lo h c, rootT_two h, longT_lo h c, pathT_lo h c, snoc_last, snoc_init]
        rw [getD_take c] at e1
        refine ⟨by rw [e1], ?_⟩
        rw [List.length_append, e2, List.length_singleton]; omega
      · obtain ⟨e1, e2⟩ := ih (ls.length - halfT ls.length) (by omega) (ls.drop (halfT ls.length)) (i - halfT ls.length) (by rw [List.length_drop]) (by omega)
        rw [foldT_hi h c, rootT_two h, longT_hi h c, pathT_hi h c, snoc_last, snoc_init]
        rw [getD_drop, show halfT ls.length + (i - halfT ls.length) = i by omega] at e1
        refine ⟨by rw [e1], ?_⟩
        rw [List.length_append, e2, List.length_singleton]; omega
    · obtain rfl : i = 0 := by omega
      rw [foldT_one h, longT_one h, pathT_one h, rootT_one (by omega)]
      exact ⟨rfl, rfl⟩
theorem pathT_32 : ∀ (n : Nat) (ls : List (List UInt8)) (i : Nat), ls.length = n → (∀ l ∈ ls, l.length = 32) → ∀ l ∈ pathT ls i, l.length = 32 := by
  intro n
  induction n using Nat.strongRecOn with
  | ind n ih =>
    intro ls i hl h32
    subst hl
    by_cases h : 2 ≤ ls.length
    · have h1 := halfT_lt h
      have h2 := halfT_pos ls.length
      have ht : ∀ l ∈ ls.take (halfT ls.length), l.length = 32 := fun l hl => h32 l (List.mem_of_mem_take hl)
      have hd : ∀ l ∈ ls.drop (halfT ls.length), l.length = 32 := fun l hl => h32 l (List.mem_of_mem_drop hl)
      by_cases c : i < halfT ls.length
      · rw [pathT_lo h c]
        intro l hl
        rcases List.mem_append.1 hl with h' | h'
        · exact ih (halfT ls.length) h1 _ i (by rw [List.length_take]; omega) ht l h'
        · rw [List.mem_singleton.1 h']; exact rootT_length hd
      · rw [pathT_hi h c]
        intro l hl
        rcases List.mem_append.1 hl with h' | h'
        · exact ih (ls.length - halfT ls.length) (by omega) _ _ (by rw [List.length_drop]) hd l h'
        · rw [List.mem_singleton.1 h']; exact rootT_length ht
    · rw [pathT_one h]; intro l hl; cases hl
/-- How often a number can be halved: the bits of it. -/
def bitsT : Nat → Nat → Nat
  | 0, _ => 0
  | f + 1, n => if 0 < n then 1 + bitsT f (n / 2) else 0
theorem bitsT_mono : ∀ f a b, a ≤ b → b ≤ f → bitsT f a ≤ bitsT f b
  | 0, a, b, _, _ => Nat.le_refl _
  | f + 1, a, b, h, hb => by
    rw [bitsT, bitsT]
    by_cases c : 0 < a
    · rw [if_pos c, if_pos (by omega)]
      have := bitsT_mono f (a / 2) (b / 2) (by omega) (by omega)
      omega
    · rw [if_neg c]; omega
theorem bitsT_fuel : ∀ f g a, a ≤ f → a ≤ g → bitsT f a = bitsT g a
  | 0, 0, a, _, _ => rfl
  | 0, g + 1, a, h, _ => by rw [bitsT, bitsT, if_neg (by omega)]
  | f + 1, 0, a, _, h => by rw [bitsT, bitsT, if_neg (by omega)]
  | f + 1, g + 1, a, h1, h2 => by
    rw [bitsT, bitsT]
    by_cases c : 0 < a
    · rw [if_pos c, if_pos c, bitsT_fuel f g (a / 2) (by omega) (by omega)]
    · rw [if_neg c, if_neg c]
theorem bitsT_gt : ∀ f m, m ≤ f → m < 2 ^ bitsT f m
  | 0, m, h => by rw [bitsT]; omega
  | f + 1, m, h => by
    rw [bitsT]
    by_cases c : 0 < m
    · rw [if_pos c, Nat.pow_add]
      have := bitsT_gt f (m / 2) (by omega)
      omega
    · rw [if_neg c]; omega
theorem halfF_pow : ∀ f a n, ∃ e, halfF f (2 ^ a) n = 2 ^ e
  | 0, a, n => ⟨a, rfl⟩
  | f + 1, a, n => by
    rw [halfF]
    by_cases c : 2 * 2 ^ a < n
    · rw [if_pos c, show 2 * 2 ^ a = 2 ^ (a + 1) by rw [Nat.pow_succ]; omega]; exact halfF_pow f (a + 1) n
    · rw [if_neg c]; exact ⟨a, rfl⟩
theorem halfT_pow (n : Nat) : ∃ e, halfT n = 2 ^ e := halfF_pow n 0 n
theorem longT_pow : ∀ e i n, n ≤ 2 ^ e → longT i n ≤ e
  | 0, i, n, h => by rw [longT_one (by simp at h; omega)]; omega
  | e + 1, i, n, h => by
    by_cases h2 : 2 ≤ n
    · obtain ⟨a, ha⟩ := halfT_pow n
      have h1 := halfT_lt h2
      have h3 := halfT_two n
      have hk : halfT n ≤ 2 ^ e := by
        rw [ha] at h1 ⊢
        have : a < e + 1 := by
          apply Classical.byContradiction
          intro hc
          have := Nat.pow_le_pow_right (n := 2) (by omega) (show e + 1 ≤ a by omega)
          omega
        exact Nat.pow_le_pow_right (by omega) (by omega)
      by_cases c : i < halfT n
      · rw [longT_lo h2 c]; have := longT_pow e i (halfT n) hk; omega
      · rw [longT_hi h2 c]; have := longT_pow e (i - halfT n) (n - halfT n) (by omega); omega
    · rw [longT_one h2]; omega
/-- A path is no longer than the bits of how many leaves there are beside it. -/
theorem longT_bits (i n : Nat) : longT i n ≤ bitsT n (n - 1) := by
  refine longT_pow _ i n ?_
  have := bitsT_gt n (n - 1) (by omega)
  omega
/-- For at most 256 leaves a path has at most 8. -/
theorem longT_256 (i n : Nat) (h : n ≤ 256) : longT i n ≤ 8 := longT_pow 8 i n h
end Go.Proofs.YtbpkhpkllokbhaaDoor
