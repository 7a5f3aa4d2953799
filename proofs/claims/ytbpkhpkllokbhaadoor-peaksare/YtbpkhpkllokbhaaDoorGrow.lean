/- Plain definitions for proofs that only more came: no theorem of the program yet. -/
import Derived.Test.YtbpkhpkllokbhaaDoorTree
namespace Go.Proofs.YtbpkhpkllokbhaaDoor
set_option linter.unusedVariables false
set_option linter.unusedSimpArgs false

/-- A power of 2 below m, whose double is not, is the greatest one. -/
theorem halfT_is {m k : Nat} (hp : ∃ e, k = 2 ^ e) (h1 : k < m) (h2 : m ≤ 2 * k) (hm : 2 ≤ m) : halfT m = k := by
  obtain ⟨e, rfl⟩ := hp
  obtain ⟨f, hf⟩ := halfT_pow m
  have g1 := halfT_lt hm
  have g2 := halfT_two m
  rw [hf] at g1 g2 ⊢
  have mono : ∀ a b : Nat, a < b → 2 * 2 ^ a ≤ 2 ^ b := fun a b h => by
    have := Nat.pow_le_pow_right (n := 2) (by omega) (show a + 1 ≤ b by omega)
    rw [Nat.pow_succ] at this
    omega
  rcases Nat.lt_trichotomy e f with h | h | h
  · have := mono e f h; omega
  · rw [h]
  · have := mono f e h; omega
/-- The proof that the first m are there. -/
def proofT (ls : List (List UInt8)) (m : Nat) (own : Bool) : List (List UInt8) :=
  if h : 2 ≤ ls.length ∧ m < ls.length then
    if m ≤ halfT ls.length then proofT (ls.take (halfT ls.length)) m own ++ [rootT (ls.drop (halfT ls.length))]
    else proofT (ls.drop (halfT ls.length)) (m - halfT ls.length) false ++ [rootT (ls.take (halfT ls.length))]
  else if own then [] else [rootT ls]
termination_by ls.length
decreasing_by
  · have := halfT_lt h.1
    rw [List.length_take]; omega
  · have := halfT_pos ls.length
    rw [List.length_drop]; omega
theorem proofT_lo {ls : List (List UInt8)} {m : Nat} {own : Bool} (h : 2 ≤ ls.length) (hm : m < ls.length) (hk : m ≤ halfT ls.length) : proofT ls m own = proofT (ls.take (halfT ls.length)) m own ++ [rootT (ls.drop (halfT ls.length))] := by rw [proofT, dif_pos ⟨h, hm⟩, if_pos hk]
theorem proofT_hi {ls : List (List UInt8)} {m : Nat} {own : Bool} (h : 2 ≤ ls.length) (hm : m < ls.length) (hk : ¬ m ≤ halfT ls.length) : proofT ls m own = proofT (ls.drop (halfT ls.length)) (m - halfT ls.length) false ++ [rootT (ls.take (halfT ls.length))] := by rw [proofT, dif_pos ⟨h, hm⟩, if_neg hk]
theorem proofT_own {ls : List (List UInt8)} {m : Nat} (hm : ls.length ≤ m) : proofT ls m true = [] := by rw [proofT, dif_neg (by omega), if_pos rfl]
theorem proofT_all {ls : List (List UInt8)} {m : Nat} (hm : ls.length ≤ m) : proofT ls m false = [rootT ls] := by rw [proofT, dif_neg (by omega)]; rfl
/-- How long it is. -/
def plongT (m n : Nat) (own : Bool) : Nat :=
  if h : 2 ≤ n ∧ m < n then if m ≤ halfT n then 1 + plongT m (halfT n) own else 1 + plongT (m - halfT n) (n - halfT n) false
  else if own then 0 else 1
termination_by n
decreasing_by
  · exact halfT_lt h.1
  · have := halfT_pos n; omega
theorem plongT_lo {m n : Nat} {own : Bool} (h : 2 ≤ n) (hm : m < n) (hk : m ≤ halfT n) : plongT m n own = 1 + plongT m (halfT n) own := by rw [plongT, dif_pos ⟨h, hm⟩, if_pos hk]
theorem plongT_hi {m n : Nat} {own : Bool} (h : 2 ≤ n) (hm : m < n) (hk : ¬ m ≤ halfT n) : plongT m n own = 1 + plongT (m - halfT n) (n - halfT n) false := by rw [plongT, dif_pos ⟨h, hm⟩, if_neg hk]
theorem plongT_own {m n : Nat} (hm : n ≤ m) : plongT m n true = 0 := by rw [plongT, dif_neg (by omega), if_pos rfl]
theorem plongT_all {m n : Nat} (hm : n ≤ m) : plongT m n false = 1 := by rw [plongT, dif_neg (by omega)]; rfl
theorem plongT_pow : ∀ e m n own, n ≤ 2 ^ e → plongT m n own ≤ e + 1
  | 0, m, n, own, h => by
    rw [plongT, dif_neg (by simp at h; omega)]
    cases own <;> simp
  | e + 1, m, n, own, h => by
    by_cases c : 2 ≤ n ∧ m < n
    · obtain ⟨a, ha⟩ := halfT_pow n
      have h1 := halfT_lt c.1
      have h3 := halfT_two n
      have hk : halfT n ≤ 2 ^ e := by
        rw [ha] at h1 ⊢
        have : a < e + 1 := by
          apply Classical.byContradiction
          intro hc
          have := Nat.pow_le_pow_right (n := 2) (by omega) (show e + 1 ≤ a by omega)
          omega
        exact Nat.pow_le_pow_right (by omega) (by omega)
      by_cases d : m ≤ halfT n
      · rw [plongT_lo c.1 c.2 d]; have := plongT_pow e m (halfT n) own hk; omega
      · rw [plongT_hi c.1 c.2 d]; have := plongT_pow e (m - halfT n) (n - halfT n) false (by omega); omega
    · rw [plongT, dif_neg c]
      cases own <;> simp
theorem plongT_256 (m n : Nat) (own : Bool) (h : n ≤ 256) : plongT m n own ≤ 9 := plongT_pow 8 m n own h
/-- The roots that a proof tells: of the first m, and of all. -/
def rootsT (m n : Nat) (own : Bool) (old : List UInt8) (pf : List (List UInt8)) : List UInt8 × List UInt8 :=
  if h : 2 ≤ n ∧ m < n then
    if m ≤ halfT n then ((rootsT m (halfT n) own old (pf.take (pf.length - 1))).1, nodeT (rootsT m (halfT n) own old (pf.take (pf.length - 1))).2 (pf.getD (pf.length - 1) []))
    else (nodeT (pf.getD (pf.length - 1) []) (rootsT (m - halfT n) (n - halfT n) false old (pf.take (pf.length - 1))).1, nodeT (pf.getD (pf.length - 1) []) (rootsT (m - halfT n) (n - halfT n) false old (pf.take (pf.length - 1))).2)
  else if own then (old, old) else (pf.getD (pf.length - 1) [], pf.getD (pf.length - 1) [])
termination_by n
decreasing_by
  · exact halfT_lt h.1
  · have := halfT_pos n; omega
theorem rootsT_lo {m n : Nat} {own : Bool} {old : List UInt8} {pf : List (List UInt8)} (h : 2 ≤ n) (hm : m < n) (hk : m ≤ halfT n) : rootsT m n own old pf = ((rootsT m (halfT n) own old (pf.take (pf.length - 1))).1, nodeT (rootsT m (halfT n) own old (pf.take (pf.length - 1))).2 (pf.getD (pf.length - 1) [])) := by rw [rootsT, dif_pos ⟨h, hm⟩, if_pos hk]
theorem rootsT_hi {m n : Nat} {own : Bool} {old : List UInt8} {pf : List (List UInt8)} (h : 2 ≤ n) (hm : m < n) (hk : ¬ m ≤ halfT n) : rootsT m n own old pf = (nodeT (pf.getD (pf.length - 1) []) (rootsT (m - halfT n) (n - halfT n) false old (pf.take (pf.length - 1))).1, nodeT (pf.getD (pf.length - 1) []) (rootsT (m - halfT n) (n - halfT n) false old (pf.take (pf.length - 1))).2) := by rw [rootsT, dif_pos ⟨h, hm⟩, if_neg hk]
theorem rootsT_own {m n : Nat} {old : List UInt8} {pf : List (List UInt8)} (hm : n ≤ m) : rootsT m n true old pf = (old, old) := by rw [rootsT, dif_neg (by omega), if_pos rfl]
theorem rootsT_all {m n : Nat} {old : List UInt8} {pf : List (List UInt8)} (hm : n ≤ m) : rootsT m n false old pf = (pf.getD (pf.length - 1) [], pf.getD (pf.length - 1) []) := by rw [rootsT, dif_neg (by omega)]; rfl
/-- The root of the first m, m above k. -/
theorem rootT_first {ls : List (List UInt8)} {m : Nat} (h : 2 ≤ ls.length) (hm : m ≤ ls.length) (hk : halfT ls.length < m) : rootT (ls.take m) = nodeT (rootT (ls.take (halfT ls.length))) (rootT ((ls.drop (halfT ls.length)).take (m - halfT ls.length))) := by
  have hl : (ls.take m).length = m := by rw [List.length_take]; omega
  have hp := halfT_pos ls.length
  have ht := halfT_two ls.length
  have e : halfT m = halfT ls.length := halfT_is (halfT_pow ls.length) hk (by omega) (by omega)
  rw [rootT_two (by omega), hl, e, List.take_take, Nat.min_eq_left (by omega), List.drop_take]
/-- A proof that the first leaves were there before tells both roots. -/
theorem grow_ok : ∀ (n : Nat) (ls : List (List UInt8)) (m : Nat) (own : Bool) (old : List UInt8), ls.length = n → 1 ≤ m → m ≤ n → (own = true → old = rootT (ls.take m)) →
    rootsT m n own old (proofT ls m own) = (rootT (ls.take m), rootT ls) ∧ (proofT ls m own).length = plongT m n own := by
  intro n
  induction n using Nat.strongRecOn with
  | ind n ih =>
    intro ls m own old hl h1 hm ho
    subst hl
    by_cases c : m < ls.length
    · have h2 : 2 ≤ ls.length := by omega
      have k1 := halfT_lt h2
      have k2 := halfT_pos ls.length
      by_cases d : m ≤ halfT ls.length
      · have et : (ls.take (halfT ls.length)).take m = ls.take m := by rw [List.take_take, Nat.min_eq_left d]
        obtain ⟨e1, e2⟩ := ih (halfT ls.length) k1 (ls.take (halfT ls.length)) m own old (by rw [List.length_take]; omega) h1 d (fun h => by rw [et]; exact ho h)
        rw [rootsT_lo h2 c d, proofT_lo h2 c d, snoc_last, snoc_init, e1, plongT_lo h2 c d, rootT_two h2, et]
        refine ⟨rfl, ?_⟩
        rw [List.length_append, e2, List.length_singleton]; omega
      · obtain ⟨e1, e2⟩ := ih (ls.length - halfT ls.length) (by omega) (ls.drop (halfT ls.length)) (m - halfT ls.length) false old (by rw [List.length_drop]) (by omega) (by omega) (fun h => by cases h)
        rw [rootsT_hi h2 c d, proofT_hi h2 c d, snoc_last, snoc_init, e1, plongT_hi h2 c d, rootT_first h2 hm (by omega), rootT_two h2]
        refine ⟨rfl, ?_⟩
        rw [List.length_append, e2, List.length_singleton]; omega
    · have em : ls.take m = ls := List.take_of_length_le (by omega)
      cases own with
      | true =>
        rw [rootsT_own (by omega), proofT_own (by omega), plongT_own (by omega), ho rfl, em]
        exact ⟨rfl, rfl⟩
      | false =>
        rw [rootsT_all (by omega), proofT_all (by omega), plongT_all (by omega), em]
        exact ⟨rfl, rfl⟩
/-- Where a proof has the root of all, and not that of the first m: what is seen on the way down. -/
theorem grow_lo {ls : List (List UInt8)} {m : Nat} {own : Bool} {old : List UInt8} {pf : List (List UInt8)} (h2 : 2 ≤ ls.length) (c : m < ls.length) (d : m ≤ halfT ls.length)
    (hr : (rootsT m ls.length own old pf).2 = rootT ls) (hne : (rootsT m ls.length own old pf).1 ≠ rootT (ls.take m)) :
    nodeT (rootsT m (halfT ls.length) own old (pf.take (pf.length - 1))).2 (pf.getD (pf.length - 1) []) = nodeT (rootT (ls.take (halfT ls.length))) (rootT (ls.drop (halfT ls.length))) ∧
    (rootsT m (halfT ls.length) own old (pf.take (pf.length - 1))).1 ≠ rootT ((ls.take (halfT ls.length)).take m) := by
  rw [rootsT_lo h2 c d] at hr hne
  rw [rootT_two h2] at hr
  exact ⟨hr, by rw [List.take_take, Nat.min_eq_left d]; exact hne⟩
theorem grow_hi {ls : List (List UInt8)} {m : Nat} {own : Bool} {old : List UInt8} {pf : List (List UInt8)} (h2 : 2 ≤ ls.length) (c : m < ls.length) (d : ¬ m ≤ halfT ls.length)
    (hr : (rootsT m ls.length own old pf).2 = rootT ls) (hne : (rootsT m ls.length own old pf).1 ≠ rootT (ls.take m)) :
    nodeT (pf.getD (pf.length - 1) []) (rootsT (m - halfT ls.length) (ls.length - halfT ls.length) false old (pf.take (pf.length - 1))).2 = nodeT (rootT (ls.take (halfT ls.length))) (rootT (ls.drop (halfT ls.length))) ∧
    (pf.getD (pf.length - 1) [] = rootT (ls.take (halfT ls.length)) → (rootsT (m - halfT ls.length) (ls.length - halfT ls.length) false old (pf.take (pf.length - 1))).1 ≠ rootT ((ls.drop (halfT ls.length)).take (m - halfT ls.length))) := by
  rw [rootsT_hi h2 c d] at hr hne
  rw [rootT_two h2] at hr
  refine ⟨hr, fun hp h => hne ?_⟩
  rw [rootT_first h2 (by omega) (by omega), hp, h]
/-- Where m is all of them, both are one. -/
theorem grow_end {ls : List (List UInt8)} {m : Nat} {own : Bool} {old : List UInt8} {pf : List (List UInt8)} (c : ls.length ≤ m)
    (hr : (rootsT m ls.length own old pf).2 = rootT ls) : (rootsT m ls.length own old pf).1 = rootT (ls.take m) := by
  rw [List.take_of_length_le c, ← hr]
  cases own with
  | true => rw [rootsT_own c]
  | false => rw [rootsT_all c]
theorem rootsT_length : ∀ (n m : Nat) (own : Bool) (old : List UInt8) (pf : List (List UInt8)), old.length = 32 → (∀ l ∈ pf, l.length = 32) → pf.length = plongT m n own → (rootsT m n own old pf).1.length = 32 ∧ (rootsT m n own old pf).2.length = 32 := by
  intro n
  induction n using Nat.strongRecOn with
  | ind n ih =>
    intro m own old pf ho h32 hl
    by_cases c : 2 ≤ n ∧ m < n
    · have k1 := halfT_lt c.1
      have k2 := halfT_pos n
      have hi : ∀ l ∈ pf.take (pf.length - 1), l.length = 32 := fun l hl => h32 l (List.mem_of_mem_take hl)
      by_cases d : m ≤ halfT n
      · rw [plongT_lo c.1 c.2 d] at hl
        rw [rootsT_lo c.1 c.2 d]
        exact ⟨(ih (halfT n) k1 m own old _ ho hi (by rw [List.length_take]; omega)).1, nodeT_length _ _⟩
      · rw [rootsT_hi c.1 c.2 d]
        exact ⟨nodeT_length _ _, nodeT_length _ _⟩
    · rw [rootsT, dif_neg c]
      cases own with
      | true => exact ⟨ho, ho⟩
      | false =>
        rw [plongT, dif_neg c] at hl
        have hl' : pf.length = 1 := hl
        have : (pf.getD (pf.length - 1) []).length = 32 := by
          rw [List.getD_eq_getElem?_getD, List.getElem?_eq_getElem (by omega)]
          exact h32 _ (List.getElem_mem _)
        exact ⟨this, this⟩
end Go.Proofs.YtbpkhpkllokbhaaDoor
