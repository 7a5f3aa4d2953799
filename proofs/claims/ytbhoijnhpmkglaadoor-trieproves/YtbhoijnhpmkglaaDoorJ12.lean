/- Texts of this claim, joined: Tree, Dsub, Wtrief, Wlayer. -/
import Derived.Test.YtbhoijnhpmkglaaDoorJ01
import Derived.Test.YtbhoijnhpmkglaaDoorJ10
import Derived.Test.YtbhoijnhpmkglaaDoorJ08
import Derived.Test.YtbhoijnhpmkglaaDoorJ11
/- Plain definitions for trees of digests: no theorem of the program yet. -/
namespace Go.Proofs.YtbhoijnhpmkglaaDoor
set_option linter.unusedVariables false
set_option linter.unusedSimpArgs false

def leafT (b : List UInt8) : List UInt8 := shaL (0 :: b)
def nodeT (l r : List UInt8) : List UInt8 := shaL (1 :: (l ++ r))
theorem leafT_length (b : List UInt8) : (leafT b).length = 32 := shaL_length _
theorem nodeT_length (l r : List UInt8) : (nodeT l r).length = 32 := shaL_length _
/-- The greatest power of 2 below n, from k on. -/
def halfF : Nat → Nat → Nat → Nat
  | 0, k, _ => k
  | f + 1, k, n => if 2 * k < n then halfF f (2 * k) n else k
def halfT (n : Nat) : Nat := halfF n 1 n
theorem halfF_lt : ∀ f k n, k < n → halfF f k n < n
  | 0, k, n, h => h
  | f + 1, k, n, h => by
    rw [halfF]
    by_cases c : 2 * k < n
    · rw [if_pos c]; exact halfF_lt f (2 * k) n c
    · rw [if_neg c]; exact h
theorem halfF_ge : ∀ f k n, k ≤ halfF f k n
  | 0, k, n => Nat.le_refl _
  | f + 1, k, n => by
    rw [halfF]
    by_cases c : 2 * k < n
    · rw [if_pos c]; have := halfF_ge f (2 * k) n; omega
    · rw [if_neg c]; exact Nat.le_refl _
theorem halfF_two : ∀ f k n, 0 < k → n ≤ k + f → n ≤ 2 * halfF f k n
  | 0, k, n, h0, h => by rw [halfF]; omega
  | f + 1, k, n, h0, h => by
    rw [halfF]
    by_cases c : 2 * k < n
    · rw [if_pos c]; exact halfF_two f (2 * k) n (by omega) (by omega)
    · rw [if_neg c]; omega
theorem halfT_lt {n : Nat} (h : 2 ≤ n) : halfT n < n := halfF_lt n 1 n (by omega)
theorem halfT_pos (n : Nat) : 0 < halfT n := halfF_ge n 1 n
theorem halfT_two (n : Nat) : n ≤ 2 * halfT n := halfF_two n 1 n (by omega) (by omega)
/-- The Root of leaves. -/
def rootT (ls : List (List UInt8)) : List UInt8 :=
  if h : 2 ≤ ls.length then nodeT (rootT (ls.take (halfT ls.length))) (rootT (ls.drop (halfT ls.length)))
  else if ls.length = 0 then shaL [] else ls.getD 0 []
termination_by ls.length
decreasing_by
  · have := halfT_lt h
    rw [List.length_take]; omega
  · have := halfT_pos ls.length
    rw [List.length_drop]; omega
theorem rootT_two {ls : List (List UInt8)} (h : 2 ≤ ls.length) : rootT ls = nodeT (rootT (ls.take (halfT ls.length))) (rootT (ls.drop (halfT ls.length))) := by
  rw [rootT, dif_pos h]
theorem rootT_one {ls : List (List UInt8)} (h : ls.length = 1) : rootT ls = ls.getD 0 [] := by
  rw [rootT, dif_neg (by omega), if_neg (by omega)]
theorem rootT_none {ls : List (List UInt8)} (h : ls.length = 0) : rootT ls = shaL [] := by
  rw [rootT, dif_neg (by omega), if_pos h]
theorem rootT_length {ls : List (List UInt8)} (h : ∀ l ∈ ls, l.length = 32) : (rootT ls).length = 32 := by
  by_cases h2 : 2 ≤ ls.length
  · rw [rootT_two h2]; exact nodeT_length _ _
  · by_cases h0 : ls.length = 0
    · rw [rootT_none h0]; exact shaL_length _
    · rw [rootT_one (by omega)]
      have : 0 < ls.length := by omega
      rw [List.getD_eq_getElem?_getD, List.getElem?_eq_getElem this]
      exact h _ (List.getElem_mem _)
/-- The Path of leaf i. -/
def pathT (ls : List (List UInt8)) (i : Nat) : List (List UInt8) :=
  if h : 2 ≤ ls.length then
    if i < halfT ls.length then pathT (ls.take (halfT ls.length)) i ++ [rootT (ls.drop (halfT ls.length))]
    else pathT (ls.drop (halfT ls.length)) (i - halfT ls.length) ++ [rootT (ls.take (halfT ls.length))]
  else []
termination_by ls.length
decreasing_by
  · have := halfT_lt h
    rw [List.length_take]; omega
  · have := halfT_pos ls.length
    rw [List.length_drop]; omega
theorem pathT_lo {ls : List (List UInt8)} {i : Nat} (h : 2 ≤ ls.length) (hi : i < halfT ls.length) : pathT ls i = pathT (ls.take (halfT ls.length)) i ++ [rootT (ls.drop (halfT ls.length))] := by
  rw [pathT, dif_pos h, if_pos hi]
theorem pathT_hi {ls : List (List UInt8)} {i : Nat} (h : 2 ≤ ls.length) (hi : ¬ i < halfT ls.length) : pathT ls i = pathT (ls.drop (halfT ls.length)) (i - halfT ls.length) ++ [rootT (ls.take (halfT ls.length))] := by
  rw [pathT, dif_pos h, if_neg hi]
theorem pathT_one {ls : List (List UInt8)} {i : Nat} (h : ¬ 2 ≤ ls.length) : pathT ls i = [] := by
  rw [pathT, dif_neg h]
/-- How long the path of leaf i of n is. -/
def longT (i n : Nat) : Nat :=
  if h : 2 ≤ n then if i < halfT n then 1 + longT i (halfT n) else 1 + longT (i - halfT n) (n - halfT n) else 0
termination_by n
decreasing_by
  · exact halfT_lt h
  · have := halfT_pos n; omega
theorem longT_lo {i n : Nat} (h : 2 ≤ n) (hi : i < halfT n) : longT i n = 1 + longT i (halfT n) := by rw [longT, dif_pos h, if_pos hi]
theorem longT_hi {i n : Nat} (h : 2 ≤ n) (hi : ¬ i < halfT n) : longT i n = 1 + longT (i - halfT n) (n - halfT n) := by rw [longT, dif_pos h, if_neg hi]
theorem longT_one {i n : Nat} (h : ¬ 2 ≤ n) : longT i n = 0 := by rw [longT, dif_neg h]
theorem longT_le : ∀ (n i : Nat), longT i n ≤ n := by
  intro n
  induction n using Nat.strongRecOn with
  | ind n ih =>
    intro i
    by_cases h : 2 ≤ n
    · have h1 := halfT_lt h
      have h2 := halfT_pos n
      by_cases hi : i < halfT n
      · rw [longT_lo h hi]; have := ih (halfT n) h1 i; omega
      · rw [longT_hi h hi]; have := ih (n - halfT n) (by omega) (i - halfT n); omega
    · rw [longT_one h]; omega
/-- The root that a leaf and a path have. -/
def foldT (l : List UInt8) (i n : Nat) (path : List (List UInt8)) : List UInt8 :=
  if h : 2 ≤ n then
    if i < halfT n then nodeT (foldT l i (halfT n) (path.take (path.length - 1))) (path.getD (path.length - 1) [])
    else nodeT (path.getD (path.length - 1) []) (foldT l (i - halfT n) (n - halfT n) (path.take (path.length - 1)))
  else l
termination_by n
decreasing_by
  · exact halfT_lt h
  · have := halfT_pos n; omega
theorem foldT_lo {l : List UInt8} {i n : Nat} {path : List (List UInt8)} (h : 2 ≤ n) (hi : i < halfT n) : foldT l i n path = nodeT (foldT l i (halfT n) (path.take (path.length - 1))) (path.getD (path.length - 1) []) := by rw [foldT, dif_pos h, if_pos hi]
theorem foldT_hi {l : List UInt8} {i n : Nat} {path : List (List UInt8)} (h : 2 ≤ n) (hi : ¬ i < halfT n) : foldT l i n path = nodeT (path.getD (path.length - 1) []) (foldT l (i - halfT n) (n - halfT n) (path.take (path.length - 1))) := by rw [foldT, dif_pos h, if_neg hi]
theorem foldT_one {l : List UInt8} {i n : Nat} {path : List (List UInt8)} (h : ¬ 2 ≤ n) : foldT l i n path = l := by rw [foldT, dif_neg h]
theorem foldT_length {l : List UInt8} (hl : l.length = 32) (i n : Nat) (path : List (List UInt8)) : (foldT l i n path).length = 32 := by
  by_cases h : 2 ≤ n
  · by_cases hi : i < halfT n
    · rw [foldT_lo h hi]; exact nodeT_length _ _
    · rw [foldT_hi h hi]; exact nodeT_length _ _
  · rw [foldT_one h]; exact hl
theorem snoc_last (p : List (List UInt8)) (x : List UInt8) : (p ++ [x]).getD ((p ++ [x]).length - 1) [] = x := by
  rw [List.length_append, List.length_singleton, Nat.add_sub_cancel, List.getD_eq_getElem?_getD, List.getElem?_append_right (Nat.le_refl _), Nat.sub_self]
  rfl
theorem snoc_init (p : List (List UInt8)) (x : List UInt8) : (p ++ [x]).take ((p ++ [x]).length - 1) = p := by
  rw [List.length_append, List.length_singleton, Nat.add_sub_cancel, List.take_left']
  rfl
theorem getD_take {ls : List (List UInt8)} {i k : Nat} (h : i < k) : (ls.take k).getD i [] = ls.getD i [] := by
  rw [List.getD_eq_getElem?_getD, List.getD_eq_getElem?_getD, List.getElem?_take_of_lt h]
theorem getD_drop (ls : List (List UInt8)) (i k : Nat) : (ls.drop k).getD i [] = ls.getD (k + i) [] := by
  rw [List.getD_eq_getElem?_getD, List.getD_eq_getElem?_getD, List.getElem?_drop]
/-- A leaf and its path are the root; the path is as long as it must be. -/
theorem fold_path : ∀ (n : Nat) (ls : List (List UInt8)) (i : Nat), ls.length = n → i < n → foldT (ls.getD i []) i n (pathT ls i) = rootT ls ∧ (pathT ls i).length = longT i n := by
  intro n
  induction n using Nat.strongRecOn with
  | ind n ih =>
    intro ls i hl hi
    subst hl
    by_cases h : 2 ≤ ls.length
    · have h1 := halfT_lt h
      have h2 := halfT_pos ls.length
      by_cases c : i < halfT ls.length
      · obtain ⟨e1, e2⟩ := ih (halfT ls.length) h1 (ls.take (halfT ls.length)) i (by rw [List.length_take]; omega) c
        rw [foldT_lo h c, rootT_two h, longT_lo h c, pathT_lo h c, snoc_last, snoc_init]
        rw [getD_take c] at e1
        refine ⟨by rw [e1], ?_⟩
        rw [List.length_append, e2, List.length_singleton]; omega
      · obtain ⟨e1, e2⟩ := ih (ls.length - halfT ls.length) (by omega) (ls.drop (halfT ls.length)) (i - halfT ls.length) (by rw [List.length_drop]) (by omega)
        rw [foldT_hi h c, rootT_two h, longT_hi h c, pathT_hi h c, snoc_last, snoc_init]
        rw [getD_drop, show halfT ls.length + (i - halfT ls.length) = i by omega] at e1
        refine ⟨by rw [e1], ?_⟩
        rw [List.length_append, e2, List.length_singleton]; omega
    · obtain rfl : i = 0 := by omega
      rw [foldT_one h, longT_one h, pathT_one h, rootT_one (by omega)]
      exact ⟨rfl, rfl⟩
theorem pathT_32 : ∀ (n : Nat) (ls : List (List UInt8)) (i : Nat), ls.length = n → (∀ l ∈ ls, l.length = 32) → ∀ l ∈ pathT ls i, l.length = 32 := by
  intro n
  induction n using Nat.strongRecOn with
  | ind n ih =>
    intro ls i hl h32
    subst hl
    by_cases h : 2 ≤ ls.length
    · have h1 := halfT_lt h
      have h2 := halfT_pos ls.length
      have ht : ∀ l ∈ ls.take (halfT ls.length), l.length = 32 := fun l hl => h32 l (List.mem_of_mem_take hl)
      have hd : ∀ l ∈ ls.drop (halfT ls.length), l.length = 32 := fun l hl => h32 l (List.mem_of_mem_drop hl)
      by_cases c : i < halfT ls.length
      · rw [pathT_lo h c]
        intro l hl
        rcases List.mem_append.1 hl with h' | h'
        · exact ih (halfT ls.length) h1 _ i (by rw [List.length_take]; omega) ht l h'
        · rw [List.mem_singleton.1 h']; exact rootT_length hd
      · rw [pathT_hi h c]
        intro l hl
        rcases List.mem_append.1 hl with h' | h'
        · exact ih (ls.length - halfT ls.length) (by omega) _ _ (by rw [List.length_drop]) hd l h'
        · rw [List.mem_singleton.1 h']; exact rootT_length ht
    · rw [pathT_one h]; intro l hl; cases hl
/-- How often a number can be halved: the bits of it. -/
def bitsT : Nat → Nat → Nat
  | 0, _ => 0
  | f + 1, n => if 0 < n then 1 + bitsT f (n / 2) else 0
theorem bitsT_mono : ∀ f a b, a ≤ b → b ≤ f → bitsT f a ≤ bitsT f b
  | 0, a, b, _, _ => Nat.le_refl _
  | f + 1, a, b, h, hb => by
    rw [bitsT, bitsT]
    by_cases c : 0 < a
    · rw [if_pos c, if_pos (by omega)]
      have := bitsT_mono f (a / 2) (b / 2) (by omega) (by omega)
      omega
    · rw [if_neg c]; omega
theorem bitsT_fuel : ∀ f g a, a ≤ f → a ≤ g → bitsT f a = bitsT g a
  | 0, 0, a, _, _ => rfl
  | 0, g + 1, a, h, _ => by rw [bitsT, bitsT, if_neg (by omega)]
  | f + 1, 0, a, _, h => by rw [bitsT, bitsT, if_neg (by omega)]
  | f + 1, g + 1, a, h1, h2 => by
    rw [bitsT, bitsT]
    by_cases c : 0 < a
    · rw [if_pos c, if_pos c, bitsT_fuel f g (a / 2) (by omega) (by omega)]
    · rw [if_neg c, if_neg c]
theorem bitsT_gt : ∀ f m, m ≤ f → m < 2 ^ bitsT f m
  | 0, m, h => by rw [bitsT]; omega
  | f + 1, m, h => by
    rw [bitsT]
    by_cases c : 0 < m
    · rw [if_pos c, Nat.pow_add]
      have := bitsT_gt f (m / 2) (by omega)
      omega
    · rw [if_neg c]; omega
theorem halfF_pow : ∀ f a n, ∃ e, halfF f (2 ^ a) n = 2 ^ e
  | 0, a, n => ⟨a, rfl⟩
  | f + 1, a, n => by
    rw [halfF]
    by_cases c : 2 * 2 ^ a < n
    · rw [if_pos c, show 2 * 2 ^ a = 2 ^ (a + 1) by rw [Nat.pow_succ]; omega]; exact halfF_pow f (a + 1) n
    · rw [if_neg c]; exact ⟨a, rfl⟩
theorem halfT_pow (n : Nat) : ∃ e, halfT n = 2 ^ e := halfF_pow n 0 n
theorem longT_pow : ∀ e i n, n ≤ 2 ^ e → longT i n ≤ e
  | 0, i, n, h => by rw [longT_one (by simp at h; omega)]; omega
  | e + 1, i, n, h => by
    by_cases h2 : 2 ≤ n
    · obtain ⟨a, ha⟩ := halfT_pow n
      have h1 := halfT_lt h2
      have h3 := halfT_two n
      have hk : halfT n ≤ 2 ^ e := by
        rw [ha] at h1 ⊢
        have : a < e + 1 := by
          apply Classical.byContradiction
          intro hc
          have := Nat.pow_le_pow_right (n := 2) (by omega) (show e + 1 ≤ a by omega)
          omega
        exact Nat.pow_le_pow_right (by omega) (by omega)
      by_cases c : i < halfT n
      · rw [longT_lo h2 c]; have := longT_pow e i (halfT n) hk; omega
      · rw [longT_hi h2 c]; have := longT_pow e (i - halfT n) (n - halfT n) (by omega); omega
    · rw [longT_one h2]; omega
/-- A path is no longer than the bits of how many leaves there are beside it. -/
theorem longT_bits (i n : Nat) : longT i n ≤ bitsT n (n - 1) := by
  refine longT_pow _ i n ?_
  have := bitsT_gt n (n - 1) (by omega)
  omega
/-- For at most 256 leaves a path has at most 8. -/
theorem longT_256 (i n : Nat) (h : n ≤ 256) : longT i n ≤ 8 := longT_pow 8 i n h
end Go.Proofs.YtbhoijnhpmkglaaDoor
/- Parts of slices of digests. -/
namespace Go.Proofs.YtbhoijnhpmkglaaDoor
open Go.RowKit
set_option linter.unusedVariables false
set_option linter.unusedSimpArgs false

theorem DRow.take {w : World} {a : Option Addr} {n : Nat} {ls : List (List UInt8)} (h : DRow w a n ls) (k : Nat) (hk : k ≤ n) : DRow w a k (ls.take k) := by
  obtain ⟨h1, h2, h3⟩ := h
  refine ⟨by rw [List.length_take]; omega, fun l hl => h2 l (List.mem_of_mem_take hl), ?_⟩
  rcases h3 with h3 | ⟨b, o, ha, hc⟩
  · exact .inl (by omega)
  · exact .inr ⟨b, o, ha, fun i hi => by rw [getD_take hi]; exact hc i (by omega)⟩
theorem DRow.drop {w : World} {b o : Nat} {n : Nat} {ls : List (List UInt8)} (h : DRow w (some ⟨b, o, none⟩) n ls) (k : Nat) (hk : k ≤ n) : DRow w (some ⟨b, o + k * 32, none⟩) (n - k) (ls.drop k) := by
  obtain ⟨h1, h2, h3⟩ := h
  refine ⟨by rw [List.length_drop]; omega, fun l hl => h2 l (List.mem_of_mem_drop hl), ?_⟩
  rcases h3 with h3 | ⟨b', o', ha, hc⟩
  · exact .inl (by omega)
  · cases ha
    refine .inr ⟨b, o + k * 32, rfl, fun i hi => ?_⟩
    rw [getD_drop]
    have := hc (k + i) (by omega)
    rwa [show o + k * 32 + 32 * i = o + 32 * (k + i) by omega]
theorem DRow.addr {w : World} {a : Option Addr} {n : Nat} {ls : List (List UInt8)} (h : DRow w a n ls) (hn : 0 < n) : ∃ b o, a = some ⟨b, o, none⟩ := by
  rcases h.2.2 with h3 | ⟨b, o, ha, hc⟩
  · omega
  · exact ⟨b, o, ha⟩
theorem DRow.at {w : World} {b o : Nat} {n : Nat} {ls : List (List UInt8)} (h : DRow w (some ⟨b, o, none⟩) n ls) (i : Nat) (hi : i < n) : DAt w b (o + i * 32) (ls.getD i []) := by
  rcases h.2.2 with h3 | ⟨b', o', ha, hc⟩
  · omega
  · cases ha
    rw [show o + i * 32 = o + 32 * i by omega]
    exact hc i hi
end Go.Proofs.YtbhoijnhpmkglaaDoor
/- The contracts of trie.Fold (written by gwtrie.py). -/
namespace Go.Proofs.YtbhoijnhpmkglaaDoor
open Go.RowKit
set_option linter.unusedVariables false
set_option linter.unusedSimpArgs false

/-- What is wrong with a key and a path. -/
def foldE (k : Int) (p : Nat) : Int := if isKey k = false then 2 else if p ≠ 32 then 3 else 0
set_option maxRecDepth 100000 in
set_option maxHeartbeats 1000000 in
theorem wtrie_fold (k : Nat) (l : List UInt8) (a : Option Addr) (c : Nat) (path : List (List UInt8)) (w : World) (G : Env w) (hk : k < 4294967296) (hl : l.length = 32) (R : DRow w a 32 path) (hc : 32 ≤ c) :
    Calls Tryd.prog 22 #[.int .i64 (k : Int), digestV l, .slice a 32 c] w fun r w' => r = .returned (.tuple #[digestV (foldM k l path), .nilIface]) ∧ Below w.heap.size w w' := by
  obtain ⟨w2, hw2⟩ : ∃ w2, (w.alloc (.cells (cellsB l).toArray 24)).alloc (.cells (cellsB zD).toArray 24) = w2 := ⟨_, rfl⟩
  have hs1 : (w.alloc (.cells (cellsB l).toArray 24)).heap.size = w.heap.size + 1 := by simp
  have HS2 : Hid (w2.heap.size = w.heap.size + 1 + 1) := by unfold Hid; rw [← hw2]; simp
  have HB2 : Hid (Below w.heap.size w w2) := by rw [← hw2]; exact ((Below.refl _ _).alloc (Nat.le_refl _) _).alloc (by simp) _
  have HL2 : Hid (DAt w2 w.heap.size 0 l) := by rw [← hw2]; exact World.rangeAt_alloc (box_dat w l _) _
  have HT2 : Hid (w2.there (w.heap.size + 1) 0 32) := by rw [← hw2]; exact alloc_thereAt _ _ _ 32 _ hs1 zD_size.symm
  have HALL : Hid (∀ wx, Below w.heap.size w wx → DRow wx a 32 path ∧ Env wx) := fun wx hx => ⟨R.below hx, G.below hx⟩
  have HPL : Hid (path.length = 32) := R.1
  have hik : isKey (k : Int) = true := decide_eq_true ⟨by omega, by omega⟩
  clear R G
  go_enter Tryd.func22, Tryd.ntmps22
  go_wp2_with (refine wpList_allocD (by rfl) (by rfl) (w.heap.size + 1) hs1 w2 hw2 ?_)
  refine (wiskey_any (k : Int) w2 (by omega) (by omega)).mono ?_
  rintro r wq ⟨rfl, hq⟩
  have hq' : w2 = wq := hq.symm
  subst hq'
  rw [hik]
  clear hw2 hs1 hik
  obtain ⟨g, hg⟩ : ∃ g, w2.heap.size = g := ⟨_, rfl⟩
  obtain ⟨w3, hw3⟩ : ∃ w3, w2.alloc (.cells (cellsB zD).toArray 24) = w3 := ⟨_, rfl⟩
  have q3 := new_var hg hw3
  have HT3 : Hid (w3.there g 0 32) := q3.1
  obtain ⟨w4, hw4⟩ : ∃ w4, w3.setCells g 0 (cellsB l) = w4 := ⟨_, rfl⟩
  have HD4 : Hid (DAt w4 g 0 l) := dat_put HT3.out hl hw4
  have HU4 : Hid (w4.there g 0 32) := there_else HT3.out hw4
  have hb4 : Below w2.heap.size w2 w4 := below_put q3.2.2 (by rw [hg]; exact Nat.le_refl _) hw4
  have HB4 : Hid (Below w.heap.size w w4) := HB2.out.trans (hb4.mono HB2.out.size)
  have HT4 : Hid (w4.there (w.heap.size + 1) 0 32) := there_b HT2.out hb4
  have HGN : Hid (w.heap.size + 1 < g) := by have := HS2.out; unfold Hid; omega
  have HL3 : Hid (DAt w3 w.heap.size 0 l) := dat_b HL2.out hl q3.2.2
  clear q3 hb4
  go_wp2_with (first
    | (refine wpList_loadD (by rfl) (.tmp 4) (by rfl) (w.heap.size) l (by rfl) hl HL2.out ?_)
    | (refine wpList_loadD (by rfl) (.tmp 4) (by rfl) (w.heap.size) l (by rfl) hl HL3.out ?_)
    | (refine wpList_allocD (by rfl) (by rfl) (g) hg w3 hw3 ?_)
    | (refine wpList_storeD (by rfl) (.tmp 8) (.tmp 21) (by rfl) g l (by rfl) (by rfl) hl HT3.out w4 hw4 ?_))
  clear hg hw3 hw4 HT3 HT2 HL2 HL3 HB2 HS2
  go_loopw [0, 24] (fun kv iv wr => ∃ (i k' : Nat) (x : List UInt8), i ≤ 32 ∧ iv = .int .i64 (i : Int) ∧ kv = .int .i64 (k' : Int) ∧ k' ≤ k ∧ x.length = 32 ∧ Hid (DAt wr g 0 x ∧ wr.there g 0 32 ∧ wr.there (w.heap.size + 1) 0 32 ∧ Below w.heap.size w wr) ∧ Hid (foldM k' x (path.drop i) = foldM k l path)) (fun _ iv _ => 32 - (intOf iv).toNat)
  case atStart => exact ⟨0, k, l, Nat.zero_le _, rfl, rfl, Nat.le_refl _, hl, ⟨HD4.out, HU4.out, HT4.out, HB4.out⟩, rfl⟩
  case round =>
    clear HD4 HU4 HT4 HB4
    obtain ⟨i, k', x, hi, rfl, rfl, hk', hx, HS, HE⟩ := hrel
    by_cases hlt : i < 32
    · obtain ⟨b, o, ha⟩ := (HALL.out _ HS.out.2.2.2).1.addr (by omega)
      subst ha
      have lD := (HALL.out _ HS.out.2.2.2).1.len i hlt
      have HFC := fold_cons (k := k') (x := x) (path := path) (i := i) (by rw [HPL.out]; exact hlt)
      rw [HE.out] at HFC
      have HP : Hid (DAt wr b (o + i * 32) (path.getD i [])) := (HALL.out _ HS.out.2.2.2).1.at i hlt
      have i0 : (0 : Int) ≤ (i : Int) := by omega
      have i1 : (i : Int) < (32 : Int) := by omega
      have E2 : (k' : Int) / 2 = ((k' / 2 : Nat) : Int) := by omega
      have E1 := i64_and_one k' (by omega)
      have HK2 : Hid (k' / 2 ≤ k) := by unfold Hid; omega
      obtain ⟨D, hD⟩ : ∃ D, path.getD i [] = D := ⟨_, rfl⟩
      rw [hD] at HFC lD HP
      clear hD HE
      -- the digest beside, in a variable
      obtain ⟨g2, hg2⟩ : ∃ g2, wr.heap.size = g2 := ⟨_, rfl⟩
      obtain ⟨w5, hw5⟩ : ∃ w5, wr.alloc (.cells (cellsB zD).toArray 24) = w5 := ⟨_, rfl⟩
      have q5 := new_var hg2 hw5
      have HT5 : Hid (w5.there g2 0 32) := q5.1
      obtain ⟨w6, hw6⟩ : ∃ w6, w5.setCells g2 0 (cellsB D) = w6 := ⟨_, rfl⟩
      have HD6 : Hid (DAt w6 g2 0 D) := dat_put HT5.out lD hw6
      have hb6 : Below wr.heap.size wr w6 := below_put q5.2.2 (by rw [hg2]; exact Nat.le_refl _) hw6
      have HX6 : Hid (DAt w6 g 0 x) := dat_b HS.out.1 hx hb6
      have HKK : Hid (∀ wx, Below w6.heap.size w6 wx → wx.there g 0 32 ∧ wx.there (w.heap.size + 1) 0 32 ∧ Below w.heap.size w wx ∧ Env wx) := fun wx hb => by
        have h2 : Below wr.heap.size wr wx := hb6.trans (hb.mono hb6.size)
        have h3 : Below w.heap.size w wx := HS.out.2.2.2.trans (h2.mono HS.out.2.2.2.size)
        exact ⟨there_b HS.out.2.1 h2, there_b HS.out.2.2.1 h2, h3, (HALL.out _ h3).2⟩
      clear q5 hb6 HS
      by_cases hodd : k' % 2 = 1
      · have HE2 : Hid (foldM (k' / 2) (mnode D x) (path.drop (i + 1)) = foldM k l path) := by rw [if_pos hodd] at HFC; exact HFC.symm
        rw [hodd] at E1
        clear HFC hodd
        generalize k' / 2 = k2 at *
        go_wp2_with (first
          | (refine wpList_load_mid (by rfl) 24 (.tmp 26) (by rfl) b (o + i * 32) (by rfl) (cellsB D) _ HP.out Tryd.underlying24 (by rfl) (by rw [cellsB_length, lD]; exact Tryd.sizeDg) ?_)
          | (refine wpList_allocD (by rfl) (by rfl) (g2) hg2 w5 hw5 ?_)
          | (refine wpList_storeD (by rfl) (.tmp 10) (.tmp 27) (by rfl) g2 D (by rfl) (by rfl) lD HT5.out w6 hw6 ?_)
          | (refine wpList_loadD (by rfl) (.tmp 8) (by rfl) (g) x (by rfl) hx HX6.out ?_)
          | (refine wpList_loadD (by rfl) (.tmp 10) (by rfl) (g2) D (by rfl) lD HD6.out ?_))
        refine (wtrie_node D x w6 (HKK.out _ (Below.refl _ _)).2.2.2 lD hx).mono ?_
        rintro r w7 ⟨rfl, hb7⟩
        have HB7 : Hid (Below w6.heap.size w6 w7) := hb7
        have lN := mnode_length D x
        generalize mnode D x = N at *
        have HT7 : Hid (w7.there g 0 32) := (HKK.out _ HB7.out).1
        obtain ⟨w8, hw8⟩ : ∃ w8, w7.setCells g 0 (cellsB N) = w8 := ⟨_, rfl⟩
        have HD8 : Hid (DAt w8 g 0 N) := dat_put HT7.out lN hw8
        have HR8 : Hid (w8.there g 0 32 ∧ w8.there (w.heap.size + 1) 0 32 ∧ Below w.heap.size w w8) := ⟨there_else HT7.out hw8, there_else (HKK.out _ HB7.out).2.1 hw8, below_put (HKK.out _ HB7.out).2.2.1 (by have := HGN.out; omega) hw8⟩
        clear hb7 hg2 hw5 hw6 HT5 HD6 HX6 HP
        go_wp2_with (refine wpList_storeD (by rfl) (.tmp 8) (.tmp 36) (by rfl) g N (by rfl) (by rfl) lN HT7.out w8 hw8 ?_)
        clear hw8
        go_roundw
        case rel => exact ⟨i + 1, k2, N, by omega, by go_num, rfl, HK2.out, lN, ⟨HD8.out, HR8.out.1, HR8.out.2.1, HR8.out.2.2⟩, HE2.out⟩
        case measure => simp [intOf]; omega
      · have HE2 : Hid (foldM (k' / 2) (mnode x D) (path.drop (i + 1)) = foldM k l path) := by rw [if_neg hodd] at HFC; exact HFC.symm
        rw [show k' % 2 = 0 by omega] at E1
        clear HFC hodd
        generalize k' / 2 = k2 at *
        go_wp2_with (first
          | (refine wpList_load_mid (by rfl) 24 (.tmp 26) (by rfl) b (o + i * 32) (by rfl) (cellsB D) _ HP.out Tryd.underlying24 (by rfl) (by rw [cellsB_length, lD]; exact Tryd.sizeDg) ?_)
          | (refine wpList_allocD (by rfl) (by rfl) (g2) hg2 w5 hw5 ?_)
          | (refine wpList_storeD (by rfl) (.tmp 10) (.tmp 27) (by rfl) g2 D (by rfl) (by rfl) lD HT5.out w6 hw6 ?_)
          | (refine wpList_loadD (by rfl) (.tmp 8) (by rfl) (g) x (by rfl) hx HX6.out ?_)
          | (refine wpList_loadD (by rfl) (.tmp 10) (by rfl) (g2) D (by rfl) lD HD6.out ?_))
        refine (wtrie_node x D w6 (HKK.out _ (Below.refl _ _)).2.2.2 hx lD).mono ?_
        rintro r w7 ⟨rfl, hb7⟩
        have HB7 : Hid (Below w6.heap.size w6 w7) := hb7
        have lN := mnode_length x D
        generalize mnode x D = N at *
        have HT7 : Hid (w7.there g 0 32) := (HKK.out _ HB7.out).1
        obtain ⟨w8, hw8⟩ : ∃ w8, w7.setCells g 0 (cellsB N) = w8 := ⟨_, rfl⟩
        have HD8 : Hid (DAt w8 g 0 N) := dat_put HT7.out lN hw8
        have HR8 : Hid (w8.there g 0 32 ∧ w8.there (w.heap.size + 1) 0 32 ∧ Below w.heap.size w w8) := ⟨there_else HT7.out hw8, there_else (HKK.out _ HB7.out).2.1 hw8, below_put (HKK.out _ HB7.out).2.2.1 (by have := HGN.out; omega) hw8⟩
        clear hb7 hg2 hw5 hw6 HT5 HD6 HX6 HP
        go_wp2_with (refine wpList_storeD (by rfl) (.tmp 8) (.tmp 33) (by rfl) g N (by rfl) (by rfl) lN HT7.out w8 hw8 ?_)
        clear hw8
        go_roundw
        case rel => exact ⟨i + 1, k2, N, by omega, by go_num, rfl, HK2.out, lN, ⟨HD8.out, HR8.out.1, HR8.out.2.1, HR8.out.2.2⟩, HE2.out⟩
        case measure => simp [intOf]; omega
    · have hin : i = 32 := by omega
      subst hin
      have HEX : Hid (x = foldM k l path) := by
        have h := HE.out
        rw [List.drop_of_length_le (by rw [HPL.out]; exact Nat.le_refl _)] at h
        exact h
      have HX : Hid (DAt wr g 0 x) := HS.out.1
      have HT : Hid (wr.there (w.heap.size + 1) 0 32) := HS.out.2.2.1
      have g2 : ¬ ((32 : Nat) : Int) < (32 : Int) := by omega
      clear HE hlt
      go_wp2_with (first
        | (refine wpList_loadD (by rfl) (.tmp 8) (by rfl) (g) x (by rfl) hx HX.out ?_)
        | (refine wpList_store_mid (by rfl) 24 (.tmp 6) (.tmp 40) (by rfl) (w.heap.size + 1) 0 (cellsB x).toArray (by rfl) (by rfl) (by rw [cellsB_size, hx]; exact HT.out) (by rw [cellsB_size, hx]; exact Tryd.sizeDg) (all_oneCell_toArray (cellsB_one _)) ?_))
      refine bodyPost_ret (v := .tuple #[digestV x, .nilIface]) (run_results_row2 Tryd.results22 _ _ (w.heap.size + 1) 0 (by rfl) _ (by rfl) (cellsB x) (World.rangeAt_setCells_same _ _ _ _ (by rw [cellsB_length, hx]; exact HT.out)) _ Tryd.underlying24 (by rfl) (by rw [cellsB_length, hx]; exact Tryd.sizeDg)) rfl ⟨by rw [HEX.out], ?_⟩
      exact below_setCells _ (by omega) _ _ _ HS.out.2.2.2
set_option maxRecDepth 100000 in
set_option maxHeartbeats 1000000 in
theorem wtrie_foldout (k : Int) (l : List UInt8) (a : Option Addr) (p c : Nat) (path : List (List UInt8)) (q : Int) (w : World) (G : Env w) (k1 : -9223372036854775808 ≤ k) (k2 : k ≤ 9223372036854775807) (hl : l.length = 32) (R : DRow w a p path) (hc : p ≤ c) (hp : 32 * p ≤ 140737488351232) (hf : foldE k p = q) (hq : q ≠ 0) :
    Calls Tryd.prog 22 #[.int .i64 k, digestV l, .slice a p c] w fun r w' => r = .returned (.tuple #[digestV zT, .iface 27 (.int .i64 q)]) ∧ Below w.heap.size w w' := by
  obtain ⟨w2, hw2⟩ : ∃ w2, (w.alloc (.cells (cellsB l).toArray 24)).alloc (.cells (cellsB zD).toArray 24) = w2 := ⟨_, rfl⟩
  have hs1 : (w.alloc (.cells (cellsB l).toArray 24)).heap.size = w.heap.size + 1 := by simp
  have HS2 : Hid (w2.heap.size = w.heap.size + 1 + 1) := by unfold Hid; rw [← hw2]; simp
  have HB2 : Hid (Below w.heap.size w w2) := by rw [← hw2]; exact ((Below.refl _ _).alloc (Nat.le_refl _) _).alloc (by simp) _
  have HL2 : Hid (DAt w2 w.heap.size 0 l) := by rw [← hw2]; exact World.rangeAt_alloc (box_dat w l _) _
  have HT2 : Hid (w2.there (w.heap.size + 1) 0 32) := by rw [← hw2]; exact alloc_thereAt _ _ _ 32 _ hs1 zD_size.symm
  clear R G HL2 HS2
  have lZ : zD.length = 32 := rfl
  have hbu : Tryd.prog.built 24 [] = some (cellsB zD).toArray := by kernel_rfl
  obtain ⟨Z, hZ⟩ : ∃ Z, zD = Z := ⟨_, rfl⟩
  have HZ : Hid (zT = Z) := hZ
  rw [hZ] at hbu lZ
  have HBU : Hid (Tryd.prog.built 24 [] = some (cellsB Z).toArray) := hbu
  clear hbu hZ
  by_cases hik : isKey k = false
  · have HQ : Hid (q = 2) := by unfold foldE at hf; rw [if_pos hik] at hf; exact hf.symm
    clear hf hq
    go_enter Tryd.func22, Tryd.ntmps22
    go_wp2_with (refine wpList_allocD (by rfl) (by rfl) (w.heap.size + 1) hs1 w2 hw2 ?_)
    refine (wiskey_any k w2 k1 k2).mono ?_
    rintro r wq ⟨rfl, hq⟩
    have hq' : w2 = wq := hq.symm
    subst hq'
    rw [hik]
    clear hw2 hs1 hik
    go_wp2_with (first
      | (refine wpList_buildC (by rfl) 24 #[] (by rfl) (cellsB Z).toArray (by simpa using HBU.out) ?_)
      | (refine wpList_store_mid (by rfl) 24 (.tmp 6) (.tmp 14) (by rfl) (w.heap.size + 1) 0 (cellsB Z).toArray (by rfl) (by rfl) (by rw [cellsB_size, lZ]; exact HT2.out) (by rw [cellsB_size, lZ]; exact Tryd.sizeDg) (all_oneCell_toArray (cellsB_one _)) ?_))
    refine bodyPost_ret (v := .tuple #[digestV Z, .iface 27 (.int .i64 2)]) (run_results_row2 Tryd.results22 _ _ (w.heap.size + 1) 0 (by rfl) _ (by rfl) (cellsB Z) (World.rangeAt_setCells_same _ _ _ _ (by rw [cellsB_length, lZ]; exact HT2.out)) _ Tryd.underlying24 (by rfl) (by rw [cellsB_length, lZ]; exact Tryd.sizeDg)) rfl ⟨by rw [HZ.out, HQ.out], ?_⟩
    exact below_setCells _ (by omega) _ _ _ HB2.out
  · have hik' : isKey k = true := by simpa using hik
    have hp32 : p ≠ 32 := fun e => hq (by rw [← hf]; unfold foldE; rw [if_neg hik, if_neg (by omega)])
    have HQ : Hid (q = 3) := by unfold foldE at hf; rw [if_neg hik, if_pos hp32] at hf; exact hf.symm
    have g1 : ¬ (p : Int) = (32 : Int) := by omega
    have g2 : p ≠ 32 := hp32
    clear hf hq hik hp32
    go_enter Tryd.func22, Tryd.ntmps22
    go_wp2_with (refine wpList_allocD (by rfl) (by rfl) (w.heap.size + 1) hs1 w2 hw2 ?_)
    refine (wiskey_any k w2 k1 k2).mono ?_
    rintro r wq ⟨rfl, hq⟩
    have hq' : w2 = wq := hq.symm
    subst hq'
    rw [hik']
    clear hw2 hs1 hik'
    go_wp2_with (first
      | (refine wpList_buildC (by rfl) 24 #[] (by rfl) (cellsB Z).toArray (by simpa using HBU.out) ?_)
      | (refine wpList_store_mid (by rfl) 24 (.tmp 6) (.tmp 19) (by rfl) (w.heap.size + 1) 0 (cellsB Z).toArray (by rfl) (by rfl) (by rw [cellsB_size, lZ]; exact HT2.out) (by rw [cellsB_size, lZ]; exact Tryd.sizeDg) (all_oneCell_toArray (cellsB_one _)) ?_))
    refine bodyPost_ret (v := .tuple #[digestV Z, .iface 27 (.int .i64 3)]) (run_results_row2 Tryd.results22 _ _ (w.heap.size + 1) 0 (by rfl) _ (by rfl) (cellsB Z) (World.rangeAt_setCells_same _ _ _ _ (by rw [cellsB_length, lZ]; exact HT2.out)) _ Tryd.underlying24 (by rfl) (by rw [cellsB_length, lZ]; exact Tryd.sizeDg)) rfl ⟨by rw [HZ.out, HQ.out], ?_⟩
    exact below_setCells _ (by omega) _ _ _ HB2.out
end Go.Proofs.YtbhoijnhpmkglaaDoor
/- The contracts of (trie.layer).above and trie.leaves (written by gwtrie.py). -/
namespace Go.Proofs.YtbhoijnhpmkglaaDoor
open Go.RowKit Go.Maps
set_option linter.unusedVariables false
set_option linter.unusedSimpArgs false

set_option maxRecDepth 100000 in
set_option maxHeartbeats 1000000 in
theorem wabove_any (b : Nat) (f : Nat → List UInt8) (w : World) (G : Env w) (hlen : ∀ k, (f k).length = 32) (L : LMap w b 64 f) :
    Calls Tryd.prog 29 #[.map (some b)] w fun e w' => (∃ b', e = .returned (.map (some b')) ∧ LMap w' b' 64 (upF f)) ∧ Below w.heap.size w w' := by
  obtain ⟨D0, hown, HFk, HKb⟩ := L
  have HF : Hid (∀ k : Nat, D0.atKey (kI k) (.held zT) = .held (f k)) := HFk
  have HKEYS : Hid (∀ kl, Maps.has D0 kl = true → ∃ k : Nat, k < 4294967296 ∧ kl = kI k) := HKb
  have HSZ : Hid (Maps.size D0 ≤ 64) := hown.size_le
  have HLEN : Hid (∀ k, (f k).length = 32) := hlen
  have HG : Hid (∀ wx, Below w.heap.size w wx → Env wx) := fun wx hx => G.below hx
  have hmm := @run_makeMap Tryd.prog
  have hbl := hown.lt
  have e1 : (w.alloc (.map #[] 0)).heap.size = w.heap.size + 1 := by simp
  clear HFk HKb G hlen
  go_enter Tryd.func29, Tryd.ntmps29
  go_wp2_with (first
    | (at_range; refine wpList_range_own _ rfl _ 59 rfl 3 24 Tryd.keyed Tryd.underlying59 _ b 64 _ rfl (hown.alloc _) ?_; intro w0 hrg0 hg0 hs0))
  go_frame
  rw [e1] at hrg0 hs0 ⊢
  go_loopw [4] (fun _ wr => ∃ (left : Lit → Bool) (cnt n2 : Nat) (Dout : DataW (List UInt8)), wr.ranges Tryd.prog 3 digR b (w.heap.size + 1) 64 D0 left cnt ∧ Hid (n2 + cnt ≤ Maps.size D0) ∧
      wr.ownsMap Tryd.prog 3 digR w.heap.size n2 Dout ∧ Hid (Upped Dout D0 f left ∧ IsMap Dout) ∧ Below w.heap.size w wr ∧ w.heap.size + 1 < wr.heap.size)
    (fun _ wr => wr.rangeLeft b (w.heap.size + 1))
  case atStart =>
    exact ⟨_, _, 0, .map [], hrg0, by unfold Hid; omega, (World.ownsMap_made _ _ _ _).kept hg0 (by simp), ⟨upped_start D0 f, isMap_empty⟩, ((Below.refl _ _).alloc (Nat.le_refl _) _).grown hg0 (by simp) (fun j hj => by cases hj), by rw [hs0]; omega⟩
  case round =>
    obtain ⟨left, cnt, n2, Dout, hrg, HC, hout, HU, hnx, hws⟩ := hrel
    have HHRG : Hid (wr.ranges Tryd.prog 3 digR b (w.heap.size + 1) 64 D0 left cnt) := hrg
    clear hmm hrg0 hg0 hs0 e1
    go_wp2_with (first
      | (at_next; refine wpList_nextD _ rfl _ rfl b (w.heap.size + 1) 64 _ _ _ rfl hrg ?_ ?_))
    · intro hc0 hl0
      have HL0 : Hid (∀ kl, left kl = false) := hl0
      clear hl0 hc0
      go_wp2_with fail
      go_ret
      refine ⟨⟨_, rfl, Dout, hout.mono (by have := HC.out; have := HSZ.out; omega), ?_, HU.out.1.2.2⟩, hnx⟩
      exact fun k => upped_end HU.out.1 HL0.out HF.out k
    · intro x c w1 cnt1 hwx hcl hlx hat hrg1 hlt hg1 hs1 hen
      have HHAS : Hid (Maps.has D0 (kI x) = true) := has_true_of_atKey hat
      obtain ⟨xn, hxn, hxe⟩ := HKEYS.out _ HHAS.out
      have hxe' : x = (xn : Int) := kI_inj hxe
      subst hxe'
      have hout1 := hout.kept hg1 (by simp)
      have hb1 : Below w.heap.size w w1 := hnx.grown hg1 hnx.size (fun j hj => by cases hj; exact Nat.le_succ _)
      obtain ⟨y, hy⟩ : ∃ y : Nat, xn / 2 = y := ⟨_, rfl⟩
      obtain ⟨a0, ha0⟩ : ∃ a0 : Int, ((2 * y : Nat) : Int) = a0 := ⟨_, rfl⟩
      obtain ⟨a1, ha1⟩ : ∃ a1 : Int, ((2 * y + 1 : Nat) : Int) = a1 := ⟨_, rfl⟩
      have E0 : bits .andNot .i64 (xn : Int) 1 = a0 := by rw [i64_andNot_one xn (by omega), hy]; exact ha0
      have E1 : bits .or .i64 (xn : Int) 1 = a1 := by rw [i64_or_one xn (by omega), hy]; exact ha1
      have E2 : (xn : Int) / 2 = (y : Int) := by omega
      have HA0 : Hid (D0.atKey (kI a0) (.held zT) = .held (f (2 * y))) := by unfold Hid; rw [← ha0]; exact HF.out _
      have HA1 : Hid (D0.atKey (kI a1) (.held zT) = .held (f (2 * y + 1))) := by unfold Hid; rw [← ha1]; exact HF.out _
      have HW0 : Hid ((Lit.int .i64 a0).wf = true) := by unfold Hid; rw [← ha0]; exact kI_wf (by omega) (by omega)
      have HW1 : Hid ((Lit.int .i64 a1).wf = true) := by unfold Hid; rw [← ha1]; exact kI_wf (by omega) (by omega)
      have HWY : Hid ((Lit.int .i64 (y : Int)).wf = true) := kI_wf (by omega) (by omega)
      have HU2 : Hid (Upped (Dout.put (kI y) (.held (upF f y))) D0 f (fun z => left z && !z.sameKey (kI xn))) := by unfold Hid; rw [← hy]; exact upped_step HU.out.1 HU.out.2 xn hxn
      have HM2 : Hid (IsMap (Dout.put (kI y) (.held (upF f y)))) := HU.out.2.put _ _
      have HX : Hid (xn < 4294967296 ∧ xn / 2 = y) := ⟨hxn, hy⟩
      have hrgo := hrg1.owns
      have HLT : Hid (cnt1 < cnt) := hlt
      have HS1 : Hid (w1.heap.size = wr.heap.size) := hs1
      have HG1 : Hid (Env w1) := HG.out _ hb1
      have HRG1 : Hid (w1.ranges Tryd.prog 3 digR b (w.heap.size + 1) 64 D0 (fun z => left z && !z.sameKey (kI xn)) cnt1) := hrg1
      have HOUT1 : Hid (w1.ownsMap Tryd.prog 3 digR w.heap.size n2 Dout) := hout1
      have HB1 : Hid (Below w.heap.size w w1) := hb1
      have HWS : Hid (w.heap.size + 1 < wr.heap.size) := hws
      clear HU hrg hout hnx hg1 hlx hat hwx ha0 ha1 hy hxn hxe hs1 hlt hrg1 hout1 hb1 hws HHAS
      go_wp2_with (first
        | (at_lookup; refine wpList_lookD _ rfl _ _ rfl b 64 D0 rfl hrgo a0 rfl HW0.out (f (2 * y)) HA0.out ?_)
        | (at_lookup; refine wpList_lookD _ rfl _ _ rfl b 64 D0 rfl hrgo a1 rfl HW1.out (f (2 * y + 1)) HA1.out ?_))
      refine (wtrie_node (f (2 * y)) (f (2 * y + 1)) w1 HG1.out (HLEN.out _) (HLEN.out _)).mono ?_
      rintro r w2 ⟨rfl, hb2⟩
      have hwl : w.heap.size + 1 < w1.heap.size := by rw [HS1.out]; exact HWS.out
      have HRG2 : Hid (w2.ranges Tryd.prog 3 digR b (w.heap.size + 1) 64 D0 (fun z => left z && !z.sameKey (kI xn)) cnt1) := ranges_below HRG1.out hb2
      have hout2 : w2.ownsMap Tryd.prog 3 digR w.heap.size n2 Dout := owns_below HOUT1.out hb2 (by omega)
      have HB2 : Hid (Below w.heap.size w w2) := HB1.out.trans (hb2.mono HB1.out.size)
      have HUP : Hid (mnode (f (2 * y)) (f (2 * y + 1)) = upF f y) := rfl
      have HZ2 : Hid (w.heap.size + 1 < w2.heap.size) := by have := hb2.size; unfold Hid; omega
      have HN2 : Hid (n2 < maxLen) := by have := HC.out; have := HSZ.out; have := HLT.out; unfold Hid maxLen; omega
      have hlu : (upF f y).length = 32 := mnode_length _ _
      rw [HUP.out]
      generalize upF f y = U at *
      clear hb2 HRG1 HOUT1 HB1 hen hrgo HS1 HUP E0 E1 hwl HG1 HA0 HA1
      go_wp2_with (first
        | (at_mapUpdate; refine wpList_putD _ rfl _ _ _ rfl w.heap.size n2 Dout rfl hout2 HN2.out (y : Int) rfl HWY.out U rfl hlu ?_; intro w3 hout3 hg3; go_frame))
      have hrg3 := HRG2.out.kept hg3 (fun e => by have := Option.some.inj e; omega) (fun e => by have := Option.some.inj e; omega)
      go_roundw
      case rel =>
        exact ⟨_, cnt1, n2 + 1, _, hrg3, by have := HC.out; have := HLT.out; unfold Hid; omega, hout3, ⟨HU2.out, HM2.out⟩, HB2.out.grown hg3 (by have := HZ2.out; omega) (fun j hj => by cases hj; exact Nat.le_refl _), by have := HZ2.out; have := hg3.size; omega⟩
      case measure => rw [hrg3.left_eq, HHRG.out.left_eq]; exact HLT.out
theorem Tryd.zeroEn : (Tryd.prog.info? 26).map (·.zero) = some (some (.agg zerosE)) := by kernel_rfl
theorem ent_there {w w1 : World} {g : Nat} (hg : w.heap.size = g) (hw : w.alloc (.cells zerosE 26) = w1) : w1.there g 0 33 := by
  rw [← hw]
  exact alloc_thereAt _ _ _ 33 _ hg (by decide)
theorem ent_put {w w1 : World} {g : Nat} {e : Ent} (h : w.there g 0 33) (he : okE e) (hw : w.setCells g 0 (entC e) = w1) : w1.rangeAt g 0 (entC e) := by
  rw [← hw]
  exact World.rangeAt_setCells_same _ _ _ _ (by rw [entC_length he]; exact h)
theorem wpList_allocEn {ops : Array Oper} {rest : List Oper} {o : Oper} {a : Act} {w : World} {Q : Exit → Act → World → Prop} (hg : o.guard = none) (ho : o.op = .alloc 26) (g : Nat) (hgs : w.heap.size = g) (w1 : World) (hw : w.alloc (.cells zerosE 26) = w1)
    (h : wpList Tryd.prog ops Q rest (a.put o.dst (.pointer (some ⟨g, 0, none⟩))) w1) : wpList Tryd.prog ops Q (o :: rest) a w :=
  wpList_allocE hg 26 ho zerosE Tryd.zeroEn g hgs w1 hw h
theorem wpList_storeEn {ops : Array Oper} {rest : List Oper} {o : Oper} {a : Act} {w : World} {Q : Exit → Act → World → Prop} (hg : o.guard = none) (x y : Operand) (ho : o.op = .store 26 x y)
    (b : Nat) (e : Ent) (hx : a.eval x = .pointer (some ⟨b, 0, none⟩)) (hy : a.eval y = entV e) (he : okE e) (ht : w.there b 0 33) (w1 : World) (hw : w.setCells b 0 (entC e) = w1)
    (h : wpList Tryd.prog ops Q rest (a.put o.dst undef) w1) : wpList Tryd.prog ops Q (o :: rest) a w := by
  subst hw
  exact wpList_store_mid hg 26 x y ho b 0 (entC e).toArray hx hy (by rw [entC_size he]; exact ht) (by rw [entC_size he]; exact Tryd.sizeEn) (all_oneCell_toArray (entC_one _)) h
theorem wpList_loadEn {ops : Array Oper} {rest : List Oper} {o : Oper} {a : Act} {w : World} {Q : Exit → Act → World → Prop} (hg : o.guard = none) (x : Operand) (ho : o.op = .load 26 x)
    (b k : Nat) (e : Ent) (hx : a.eval x = .pointer (some ⟨b, k, none⟩)) (he : okE e) (hd : w.rangeAt b k (entC e))
    (h : wpList Tryd.prog ops Q rest (a.put o.dst (entV e)) w) : wpList Tryd.prog ops Q (o :: rest) a w :=
  wpList_load_mid hg 26 x ho b k hx (entC e) _ hd Tryd.underlying26 (by rfl) (by rw [entC_length he]; exact Tryd.sizeEn) h
set_option maxRecDepth 100000 in
set_option maxHeartbeats 1000000 in
theorem wleaves_any (a : Option Addr) (n c : Nat) (es : List Ent) (w : World) (G : Env w) (R : ERow w a n es) (hc : n ≤ c) (hn : 40 * n ≤ 140737488351232) :
    Calls Tryd.prog 28 #[.slice a n c] w fun r w' => ((faultE es = 0 ∧ ∃ b, r = .returned (.tuple #[.map (some b), .nilIface]) ∧ LMap w' b 64 (gE es)) ∨ (faultE es ≠ 0 ∧ r = .returned (.tuple #[.map none, .iface 27 (.int .i64 (faultE es))]))) ∧ Below w.heap.size w w' := by
  have HALL : Hid (∀ wx, Below w.heap.size w wx → ERow wx a n es ∧ Env wx) := fun wx hx => ⟨R.below hx, G.below hx⟩
  have HL : Hid (es.length = n) := R.1
  have HOKS : Hid (∀ i, i < n → okE (es.getD i noE)) := R.ok
  have hmm := @run_makeMap Tryd.prog
  clear R G
  go_enter Tryd.func28, Tryd.ntmps28
  by_cases hbig : 64 < n
  · have g1 : (64 : Int) < (n : Int) := by omega
    have HE : Hid (faultE es = 4) := by unfold Hid; unfold faultE; rw [if_pos (by rw [HL.out]; exact hbig)]
    go_wp2_with fail
    go_ret2
    exact ⟨.inr ⟨by rw [HE.out]; decide, by rw [HE.out]; rfl⟩, Below.refl _ _⟩
  have g1 : ¬ (64 : Int) < (n : Int) := by omega
  have HE : Hid (faultE es = faultG [] es) := by unfold Hid; unfold faultE; rw [if_neg (by rw [HL.out]; exact hbig)]
  have hn64 : n ≤ 64 := by omega
  go_wp2_with fail
  clear g1 hmm
  go_loopw [18] (fun iv wr => ∃ (i : Nat) (D : DataW (List UInt8)), i ≤ n ∧ iv = .int .i64 (i : Int) ∧ Hid (wr.ownsMap Tryd.prog 3 digR w.heap.size i D) ∧ Below w.heap.size w wr ∧ Hid (Leaved D es i) ∧ Hid (IsMap D) ∧ Hid (faultE es = faultG (es.take i) (es.drop i)) ∧ Hid (w.heap.size < wr.heap.size)) (fun iv _ => n - (intOf iv).toNat)
  case atStart => exact ⟨0, .map [], Nat.zero_le _, rfl, World.ownsMap_made _ _ _ _, (Below.refl _ _).alloc (Nat.le_refl _) _, leaved_start es, isMap_empty, HE.out, by unfold Hid; simp⟩
  case round =>
    clear HE
    obtain ⟨i, D, hi, rfl, HO, hB, HLV, HM, HF, HWS⟩ := hrel
    have HB : Hid (Below w.heap.size w wr) := hB
    clear hB
    by_cases hlt : i < n
    · obtain ⟨b, o, ha⟩ := (HALL.out _ HB.out).1.addr (by omega)
      subst ha
      have HFS : Hid (faultE es = if isKey (es.getD i noE).1 = false then 2 else if (es.take i).any (fun x => x.1 == (es.getD i noE).1) = true then 7 else faultG (es.take (i + 1)) (es.drop (i + 1))) := by
        have h := HF.out
        rw [fault_step (by rw [HL.out]; exact hlt)] at h
        exact h
      have HOK : Hid (okE (es.getD i noE)) := HOKS.out i hlt
      have HRG : Hid (wr.rangeAt b (o + i * 33) (entC (es.getD i noE))) := (HALL.out _ HB.out).1.at i hlt
      obtain ⟨e, he⟩ : ∃ e, es.getD i noE = e := ⟨_, rfl⟩
      have HEE : Hid (es.getD i noE = e) := he
      rw [he] at HFS HOK HRG
      clear he HF
      -- the entry in a variable
      obtain ⟨g, hg⟩ : ∃ g, wr.heap.size = g := ⟨_, rfl⟩
      obtain ⟨w1, hw1⟩ : ∃ w1, wr.alloc (.cells zerosE 26) = w1 := ⟨_, rfl⟩
      have HT1 : Hid (w1.there g 0 33) := ent_there hg hw1
      obtain ⟨w2, hw2⟩ : ∃ w2, w1.setCells g 0 (entC e) = w2 := ⟨_, rfl⟩
      have hb2 : Below wr.heap.size wr w2 := by
        rw [← hw2, ← hw1]
        exact below_setCells _ (by rw [hg]; exact Nat.le_refl _) _ _ _ ((Below.refl _ _).alloc (Nat.le_refl _) _)
      have HR2 : Hid (w2.rangeAt g 0 (entC e)) := ent_put HT1.out HOK.out hw2
      have HB2 : Hid (Below w.heap.size w w2) := HB.out.trans (hb2.mono HB.out.size)
      have HO2 : Hid (w2.ownsMap Tryd.prog 3 digR w.heap.size i D) := owns_below HO.out hb2 HWS.out
      have HGB : Hid (w.heap.size < g) := by rw [← hg]; exact HWS.out
      have HRG1 : Hid (wr.rangeAt b (o + i * 33) (entC e)) := HRG.out
      have HKK : Hid (∀ wx, Below w2.heap.size w2 wx → wx.rangeAt g 0 (entC e) ∧ Below w.heap.size w wx ∧ wx.ownsMap Tryd.prog 3 digR w.heap.size i D ∧ Env wx) := fun wx hx => by
        have b : Below w.heap.size w wx := HB2.out.trans (hx.mono HB2.out.size)
        exact ⟨ent_below HR2.out hx (ent_block HR2.out), b, owns_below HO2.out hx HO2.out.lt, (HALL.out _ b).2⟩
      clear hb2 HB HRG HO HWS
      have i0 : (0 : Int) ≤ (i : Int) := by omega
      have i1 : (i : Int) < (n : Int) := by omega
      go_wp2_with (first
        | (refine wpList_loadEn (by rfl) (.tmp 20) (by rfl) b (o + i * 33) e (by rfl) HOK.out HRG1.out ?_)
        | (refine wpList_allocEn (by rfl) (by rfl) g hg w1 hw1 ?_)
        | (refine wpList_storeEn (by rfl) (.tmp 6) (.tmp 21) (by rfl) g e (by rfl) (by rfl) HOK.out HT1.out w2 hw2 ?_)
        | (refine wpList_loadEn (by rfl) (.tmp 6) (by rfl) g 0 e (by rfl) HOK.out HR2.out ?_))
      clear hg hw1 hw2 HT1 HRG1
      by_cases hkey : isKey e.1 = false
      · have HE : Hid (faultE es = 2) := by have h := HFS.out; rw [if_pos hkey] at h; exact h
        refine (wtrie_leafout e w2 (HKK.out _ (Below.refl _ _)).2.2.2 HOK.out hkey).mono ?_
        rintro r w3 ⟨rfl, hb3⟩
        have HB3 : Hid (Below w2.heap.size w2 w3) := hb3
        clear hkey hb3 HFS
        obtain ⟨g7, hg7⟩ : ∃ g7, w3.heap.size = g7 := ⟨_, rfl⟩
        obtain ⟨w4, hw4⟩ : ∃ w4, w3.alloc (.cells (cellsB zD).toArray 24) = w4 := ⟨_, rfl⟩
        have q4 := new_var hg7 hw4
        have HT4 : Hid (w4.there g7 0 32) := q4.1
        obtain ⟨w5, hw5⟩ : ∃ w5, w4.setCells g7 0 (cellsB zT) = w5 := ⟨_, rfl⟩
        have HB5 : Hid (Below w.heap.size w w5) := by
          have h3 := HB2.out.trans (HB3.out.mono HB2.out.size)
          exact below_put (h3.trans (q4.2.2.mono h3.size)) (by rw [← hg7]; exact h3.size) hw5
        have lZ : zT.length = 32 := rfl
        clear q4
        generalize zT = Z at *
        go_wp2_with (first
          | (refine wpList_allocD (by rfl) (by rfl) (g7) hg7 w4 hw4 ?_)
          | (refine wpList_storeD (by rfl) (.tmp 7) (.tmp 25) (by rfl) g7 Z (by rfl) (by rfl) lZ HT4.out w5 hw5 ?_))
        go_ret2
        exact ⟨.inr ⟨by rw [HE.out]; decide, by rw [HE.out]; rfl⟩, HB5.out⟩
      · have hkey' : isKey e.1 = true := by simpa using hkey
        have HFS2 : Hid (faultE es = if (es.take i).any (fun x => x.1 == e.1) = true then 7 else faultG (es.take (i + 1)) (es.drop (i + 1))) := by have h := HFS.out; rw [if_neg hkey] at h; exact h
        refine (wtrie_leaf e w2 (HKK.out _ (Below.refl _ _)).2.2.2 HOK.out hkey').mono ?_
        rintro r w3 ⟨rfl, hb3⟩
        have hkk := of_decide_eq_true hkey'
        obtain ⟨k, hk⟩ : ∃ k : Nat, e.1 = (k : Int) := ⟨e.1.toNat, by omega⟩
        have hk2 : k < 4294967296 := by have := hkk.2; omega
        have HB3 : Hid (Below w2.heap.size w2 w3) := hb3
        have HB3w : Hid (Below w.heap.size w w3) := HB2.out.trans (hb3.mono HB2.out.size)
        obtain ⟨V, hV⟩ : ∃ V, leafE e = V := ⟨_, rfl⟩
        have HV : Hid (leafE e = V) := hV
        have lV : V.length = 32 := by rw [← hV]; exact leafE_length _
        rw [hV]
        clear hV hkey hkey' hkk HFS hb3
        obtain ⟨g7, hg7⟩ : ∃ g7, w3.heap.size = g7 := ⟨_, rfl⟩
        obtain ⟨w4, hw4⟩ : ∃ w4, w3.alloc (.cells (cellsB zD).toArray 24) = w4 := ⟨_, rfl⟩
        have q4 := new_var hg7 hw4
        have HT4 : Hid (w4.there g7 0 32) := q4.1
        obtain ⟨w5, hw5⟩ : ∃ w5, w4.setCells g7 0 (cellsB V) = w5 := ⟨_, rfl⟩
        have HD5 : Hid (DAt w5 g7 0 V) := dat_put HT4.out lV hw5
        have hb35 : Below w3.heap.size w3 w5 := below_put q4.2.2 (by rw [hg7]; exact Nat.le_refl _) hw5
        have HB5 : Hid (Below w2.heap.size w2 w5) := HB3.out.trans (hb35.mono HB3.out.size)
        have ho5 := (HKK.out _ HB5.out).2.2.1
        have c5 : w5.cell? ⟨g, 0, none⟩ = some (.int .i64 (k : Int)) := by rw [← hk]; exact (HKK.out _ HB5.out).1 0 _ rfl
        have HAT : Hid (D.atKey (kI k) (.held zT) = .held (gE (es.take i) k)) := HLV.out.1 k
        have HHS : Hid (Maps.has D (kI k) = (es.take i).any (fun x => x.1 == (k : Int))) := HLV.out.2.1 k
        have HWF : Hid ((Lit.int .i64 (k : Int)).wf = true) := kI_wf (by omega) (by omega)
        rw [hk] at HFS2
        obtain ⟨X, hX⟩ : ∃ X, gE (es.take i) k = X := ⟨_, rfl⟩
        have lX : X.length = 32 := by rw [← hX]; exact gE_length _ _
        rw [hX] at HAT
        obtain ⟨g9, hg9⟩ : ∃ g9, w5.heap.size = g9 := ⟨_, rfl⟩
        obtain ⟨w6, hw6⟩ : ∃ w6, w5.alloc (.cells (cellsB zD).toArray 24) = w6 := ⟨_, rfl⟩
        have q6 := new_var hg9 hw6
        have HT6 : Hid (w6.there g9 0 32) := q6.1
        obtain ⟨w7, hw7⟩ : ∃ w7, w6.setCells g9 0 (cellsB X) = w7 := ⟨_, rfl⟩
        have hb57 : Below w5.heap.size w5 w7 := below_put q6.2.2 (by rw [hg9]; exact Nat.le_refl _) hw7
        have HB7 : Hid (Below w2.heap.size w2 w7) := HB5.out.trans (hb57.mono HB5.out.size)
        have HD7 : Hid (DAt w7 g7 0 V) := dat_b HD5.out lV hb57
        have HK : Hid (e.1 = (k : Int)) := hk
        have HK2 : Hid (k < 4294967296) := hk2
        clear q4 q6 hb35 hb57 hX HB3 hk hk2
        by_cases hdup : (es.take i).any (fun x => x.1 == (k : Int)) = true
        · have HE : Hid (faultE es = 7) := by have h := HFS2.out; rw [if_pos hdup] at h; exact h
          have HH : Hid (Maps.has D (kI k) = true) := by rw [HHS.out] ; exact hdup
          clear hdup HFS2 HHS
          go_wp2_with (first
            | (refine wpList_allocD (by rfl) (by rfl) (g7) hg7 w4 hw4 ?_)
            | (refine wpList_storeD (by rfl) (.tmp 7) (.tmp 25) (by rfl) g7 V (by rfl) (by rfl) lV HT4.out w5 hw5 ?_)
            | (at_lookup; refine wpList_lookOk _ rfl _ _ rfl w.heap.size i D rfl ho5 (k : Int) rfl HWF.out X HAT.out true HH.out ?_)
            | (refine wpList_allocD (by rfl) (by rfl) (g9) hg9 w6 hw6 ?_)
            | (refine wpList_storeD (by rfl) (.tmp 9) (.tmp 35) (by rfl) g9 X (by rfl) (by rfl) lX HT6.out w7 hw7 ?_))
          go_ret2
          exact ⟨.inr ⟨by rw [HE.out]; decide, by rw [HE.out]; rfl⟩, (HKK.out _ HB7.out).2.1⟩
        · have HNO : Hid ((es.take i).any (fun x => x.1 == (k : Int)) = false) := (Bool.not_eq_true _).mp hdup
          have HF' : Hid (faultE es = faultG (es.take (i + 1)) (es.drop (i + 1))) := by have h := HFS2.out; rw [if_neg hdup] at h; exact h
          have HH : Hid (Maps.has D (kI k) = false) := by rw [HHS.out] ; exact HNO.out
          clear hdup HFS2 HHS
          have ho7 := (HKK.out _ HB7.out).2.2.1
          have c7 : w7.cell? ⟨g, 0, none⟩ = some (.int .i64 (k : Int)) := by rw [← HK.out]; exact (HKK.out _ HB7.out).1 0 _ rfl
          have HMX : Hid (i < maxLen) := by unfold Hid maxLen; omega
          go_wp2_with (first
            | (refine wpList_allocD (by rfl) (by rfl) (g7) hg7 w4 hw4 ?_)
            | (refine wpList_storeD (by rfl) (.tmp 7) (.tmp 25) (by rfl) g7 V (by rfl) (by rfl) lV HT4.out w5 hw5 ?_)
            | (at_lookup; refine wpList_lookOk _ rfl _ _ rfl w.heap.size i D rfl ho5 (k : Int) rfl HWF.out X HAT.out false HH.out ?_)
            | (refine wpList_allocD (by rfl) (by rfl) (g9) hg9 w6 hw6 ?_)
            | (refine wpList_storeD (by rfl) (.tmp 9) (.tmp 35) (by rfl) g9 X (by rfl) (by rfl) lX HT6.out w7 hw7 ?_)
            | (refine wpList_loadD (by rfl) (.tmp 7) (by rfl) (g7) V (by rfl) lV HD7.out ?_)
            | (at_mapUpdate; refine wpList_putD _ rfl _ _ _ rfl w.heap.size i D rfl ho7 HMX.out (k : Int) rfl HWF.out V rfl lV ?_; intro w8 ho8 hg8))
          go_roundw
          case rel =>
            refine ⟨i + 1, _, by omega, by simp, ho8, (HKK.out _ HB7.out).2.1.grown hg8 (HKK.out _ HB7.out).2.1.size (fun j hj => by cases hj; exact Nat.le_refl _), ?_, HM.out.put _ _, HF'.out, ?_⟩
            · have := leaved_step HLV.out HM.out (by rw [HL.out]; exact hlt) (by rw [HEE.out]; exact HK.out) HNO.out HK2.out
              rw [HEE.out, HV.out] at this
              exact this
            · exact Nat.lt_of_lt_of_le (HKK.out _ HB7.out).2.2.1.lt hg8.size
          case measure => show n - (i + 1) < n - i; omega
    · have hin : i = n := by omega
      subst hin
      have HZ : Hid (faultE es = 0) := by
        have h := HF.out
        rw [← HL.out, List.drop_length] at h
        exact h
      have HTK : Hid (es.take i = es) := by rw [← HL.out]; exact List.take_length
      have g2 : ¬ (i : Int) < (i : Int) := by omega
      clear HF hlt
      go_wp2_with fail
      go_ret2
      refine ⟨.inl ⟨HZ.out, _, rfl, D, HO.out.mono hn64, ?_, HLV.out.2.2⟩, HB.out⟩
      have := HLV.out.1
      rw [HTK.out] at this
      exact this
end Go.Proofs.YtbhoijnhpmkglaaDoor
