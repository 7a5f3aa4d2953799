/- Texts of this claim, joined: Tree, Wsplit, Wturn, Bytes. -/
import Derived.Test.YtdldkhhcicjbmaaDoorJ01
import Derived.Lib.BitFns
import Derived.Deep.QuietTactic
import Derived.BigQuiet
import Derived.Laws.AppendOwnNone
import Derived.Maps.AppendAt
/- Plain definitions for trees of digests: no theorem of the program yet. -/
namespace Go.Proofs.YtdldkhhcicjbmaaDoor
set_option linter.unusedVariables false
set_option linter.unusedSimpArgs false

def leafT (b : List UInt8) : List UInt8 := shaL (0 :: b)
def nodeT (l r : List UInt8) : List UInt8 := shaL (1 :: (l ++ r))
theorem leafT_length (b : List UInt8) : (leafT b).length = 32 := shaL_length _
theorem nodeT_length (l r : List UInt8) : (nodeT l r).length = 32 := shaL_length _
/-- The greatest power of 2 below n, from k on. -/
def halfF : Nat → Nat → Nat → Nat
  | 0, k, _ => k
  | f + 1, k, n => if 2 * k < n then halfF f (2 * k) n else k
def halfT (n : Nat) : Nat := halfF n 1 n
theorem halfF_lt : ∀ f k n, k < n → halfF f k n < n
  | 0, k, n, h => h
  | f + 1, k, n, h => by
    rw [halfF]
    by_cases c : 2 * k < n
    · rw [if_pos c]; exact halfF_lt f (2 * k) n c
    · rw [if_neg c]; exact h
theorem halfF_ge : ∀ f k n, k ≤ halfF f k n
  | 0, k, n => Nat.le_refl _
  | f + 1, k, n => by
    rw [halfF]
    by_cases c : 2 * k < n
    · rw [if_pos c]; have := halfF_ge f (2 * k) n; omega
    · rw [if_neg c]; exact Nat.le_refl _
theorem halfF_two : ∀ f k n, 0 < k → n ≤ k + f → n ≤ 2 * halfF f k n
  | 0, k, n, h0, h => by rw [halfF]; omega
  | f + 1, k, n, h0, h => by
    rw [halfF]
    by_cases c : 2 * k < n
    · rw [if_pos c]; exact halfF_two f (2 * k) n (by omega) (by omega)
    · rw [if_neg c]; omega
theorem halfT_lt {n : Nat} (h : 2 ≤ n) : halfT n < n := halfF_lt n 1 n (by omega)
theorem halfT_pos (n : Nat) : 0 < halfT n := halfF_ge n 1 n
theorem halfT_two (n : Nat) : n ≤ 2 * halfT n := halfF_two n 1 n (by omega) (by omega)
/-- The Root of leaves. -/
def rootT (ls : List (List UInt8)) : List UInt8 :=
  if h : 2 ≤ ls.length then nodeT (rootT (ls.take (halfT ls.length))) (rootT (ls.drop (halfT ls.length)))
  else if ls.length = 0 then shaL [] else ls.getD 0 []
termination_by ls.length
decreasing_by
  · have := halfT_lt h
    rw [List.length_take]; omega
  · have := halfT_pos ls.length
    rw [List.length_drop]; omega
theorem rootT_two {ls : List (List UInt8)} (h : 2 ≤ ls.length) : rootT ls = nodeT (rootT (ls.take (halfT ls.length))) (rootT (ls.drop (halfT ls.length))) := by
  rw [rootT, dif_pos h]
theorem rootT_one {ls : List (List UInt8)} (h : ls.length = 1) : rootT ls = ls.getD 0 [] := by
  rw [rootT, dif_neg (by omega), if_neg (by omega)]
theorem rootT_none {ls : List (List UInt8)} (h : ls.length = 0) : rootT ls = shaL [] := by
  rw [rootT, dif_neg (by omega), if_pos h]
theorem rootT_length {ls : List (List UInt8)} (h : ∀ l ∈ ls, l.length = 32) : (rootT ls).length = 32 := by
  by_cases h2 : 2 ≤ ls.length
  · rw [rootT_two h2]; exact nodeT_length _ _
  · by_cases h0 : ls.length = 0
    · rw [rootT_none h0]; exact shaL_length _
    · rw [rootT_one (by omega)]
      have : 0 < ls.length := by omega
      rw [List.getD_eq_getElem?_getD, List.getElem?_eq_getElem this]
      exact h _ (List.getElem_mem _)
/-- The Path of leaf i. -/
def pathT (ls : List (List UInt8)) (i : Nat) : List (List UInt8) :=
  if h : 2 ≤ ls.length then
    if i < halfT ls.length then pathT (ls.take (halfT ls.length)) i ++ [rootT (ls.drop (halfT ls.length))]
    else pathT (ls.drop (halfT ls.length)) (i - halfT ls.length) ++ [rootT (ls.take (halfT ls.length))]
  else []
termination_by ls.length
decreasing_by
  · have := halfT_lt h
    rw [List.length_take]; omega
  · have := halfT_pos ls.length
    rw [List.length_drop]; omega
theorem pathT_lo {ls : List (List UInt8)} {i : Nat} (h : 2 ≤ ls.length) (hi : i < halfT ls.length) : pathT ls i = pathT (ls.take (halfT ls.length)) i ++ [rootT (ls.drop (halfT ls.length))] := by
  rw [pathT, dif_pos h, if_pos hi]
theorem pathT_hi {ls : List (List UInt8)} {i : Nat} (h : 2 ≤ ls.length) (hi : ¬ i < halfT ls.length) : pathT ls i = pathT (ls.drop (halfT ls.length)) (i - halfT ls.length) ++ [rootT (ls.take (halfT ls.length))] := by
  rw [pathT, dif_pos h, if_neg hi]
theorem pathT_one {ls : List (List UInt8)} {i : Nat} (h : ¬ 2 ≤ ls.length) : pathT ls i = [] := by
  rw [pathT, dif_neg h]
/-- How long the path of leaf i of n is. -/
def longT (i n : Nat) : Nat :=
  if h : 2 ≤ n then if i < halfT n then 1 + longT i (halfT n) else 1 + longT (i - halfT n) (n - halfT n) else 0
termination_by n
decreasing_by
  · exact halfT_lt h
  · have := halfT_pos n; omega
theorem longT_lo {i n : Nat} (h : 2 ≤ n) (hi : i < halfT n) : longT i n = 1 + longT i (halfT n) := by rw [longT, dif_pos h, if_pos hi]
theorem longT_hi {i n : Nat} (h : 2 ≤ n) (hi : ¬ i < halfT n) : longT i n = 1 + longT (i - halfT n) (n - halfT n) := by rw [longT, dif_pos h, if_neg hi]
theorem longT_one {i n : Nat} (h : ¬ 2 ≤ n) : longT i n = 0 := by rw [longT, dif_neg h]
theorem longT_le : ∀ (n i : Nat), longT i n ≤ n := by
  intro n
  induction n using Nat.strongRecOn with
  | ind n ih =>
    intro i
    by_cases h : 2 ≤ n
    · have h1 := halfT_lt h
      have h2 := halfT_pos n
      by_cases hi : i < halfT n
      · rw [longT_lo h hi]; have := ih (halfT n) h1 i; omega
      · rw [longT_hi h hi]; have := ih (n - halfT n) (by omega) (i - halfT n); omega
    · rw [longT_one h]; omega
/-- The root that a leaf and a path have. -/
def foldT (l : List UInt8) (i n : Nat) (path : List (List UInt8)) : List UInt8 :=
  if h : 2 ≤ n then
    if i < halfT n then nodeT (foldT l i (halfT n) (path.take (path.length - 1))) (path.getD (path.length - 1) [])
    else nodeT (path.getD (path.length - 1) []) (foldT l (i - halfT n) (n - halfT n) (path.take (path.length - 1)))
  else l
termination_by n
decreasing_by
  · exact halfT_lt h
  · have := halfT_pos n; omega
theorem foldT_lo {l : List UInt8} {i n : Nat} {path : List (List UInt8)} (h : 2 ≤ n) (hi : i < halfT n) : foldT l i n path = nodeT (foldT l i (halfT n) (path.take (path.length - 1))) (path.getD (path.length - 1) []) := by rw [foldT, dif_pos h, if_pos hi]
theorem foldT_hi {l : List UInt8} {i n : Nat} {path : List (List UInt8)} (h : 2 ≤ n) (hi : ¬ i < halfT n) : foldT l i n path = nodeT (path.getD (path.length - 1) []) (foldT l (i - halfT n) (n - halfT n) (path.take (path.length - 1))) := by rw [foldT, dif_pos h, if_neg hi]
theorem foldT_one {l : List UInt8} {i n : Nat} {path : List (List UInt8)} (h : ¬ 2 ≤ n) : foldT l i n path = l := by rw [foldT, dif_neg h]
theorem foldT_length {l : List UInt8} (hl : l.length = 32) (i n : Nat) (path : List (List UInt8)) : (foldT l i n path).length = 32 := by
  by_cases h : 2 ≤ n
  · by_cases hi : i < halfT n
    · rw [foldT_lo h hi]; exact nodeT_length _ _
    · rw [foldT_hi h hi]; exact nodeT_length _ _
  · rw [foldT_one h]; exact hl
theorem snoc_last (p : List (List UInt8)) (x : List UInt8) : (p ++ [x]).getD ((p ++ [x]).length - 1) [] = x := by
  rw [List.length_append, List.length_singleton, Nat.add_sub_cancel, List.getD_eq_getElem?_getD, List.getElem?_append_right (Nat.le_refl _), Nat.sub_self]
  rfl
theorem snoc_init (p : List (List UInt8)) (x : List UInt8) : (p ++ [x]).take ((p ++ [x]).length - 1) = p := by
  rw [List.length_append, List.length_singleton, Nat.add_sub_cancel, List.take_left']
  rfl
theorem getD_take {ls : List (List UInt8)} {i k : Nat} (h : i < k) : (ls.take k).getD i [] = ls.getD i [] := by
  rw [List.getD_eq_getElem?_getD, List.getD_eq_getElem?_getD, List.getElem?_take_of_lt h]
theorem getD_drop (ls : List (List UInt8)) (i k : Nat) : (ls.drop k).getD i [] = ls.getD (k + i) [] := by
  rw [List.getD_eq_getElem?_getD, List.getD_eq_getElem?_getD, List.getElem?_drop]
/-- A leaf and its path are the root; the path is as long as it must be. -/
theorem fold_path : ∀ (n : Nat) (ls : List (List UInt8)) (i : Nat), ls.length = n → i < n → foldT (ls.getD i []) i n (pathT ls i) = rootT ls ∧ (pathT ls i).length = longT i n := by
  intro n
  induction n using Nat.strongRecOn with
  | ind n ih =>
    intro ls i hl hi
    subst hl
    by_cases h : 2 ≤ ls.length
    · have h1 := halfT_lt h
      have h2 := halfT_pos ls.length
      by_cases c : i < halfT ls.length
      · obtain ⟨e1, e2⟩ := ih (halfT ls.length) h1 (ls.take (halfT ls.length)) i (by rw [List.length_take]; omega) c
        rw [foldT_lo h c, rootT_two h, longT_lo h c, pathT_lo h c, snoc_last, snoc_init]
        rw [getD_take c] at e1
        refine ⟨by rw [e1], ?_⟩
        rw [List.length_append, e2, List.length_singleton]; omega
      · obtain ⟨e1, e2⟩ := ih (ls.length - halfT ls.length) (by omega) (ls.drop (halfT ls.length)) (i - halfT ls.length) (by rw [List.length_drop]) (by omega)
        rw [foldT_hi h c, rootT_two h, longT_hi h c, pathT_hi h c, snoc_last, snoc_init]
        rw [getD_drop, show halfT ls.length + (i - halfT ls.length) = i by omega] at e1
        refine ⟨by rw [e1], ?_⟩
        rw [List.length_append, e2, List.length_singleton]; omega
    · obtain rfl : i = 0 := by omega
      rw [foldT_one h, longT_one h, pathT_one h, rootT_one (by omega)]
      exact ⟨rfl, rfl⟩
theorem pathT_32 : ∀ (n : Nat) (ls : List (List UInt8)) (i : Nat), ls.length = n → (∀ l ∈ ls, l.length = 32) → ∀ l ∈ pathT ls i, l.length = 32 := by
  intro n
  induction n using Nat.strongRecOn with
  | ind n ih =>
    intro ls i hl h32
    subst hl
    by_cases h : 2 ≤ ls.length
    · have h1 := halfT_lt h
      have h2 := halfT_pos ls.length
      have ht : ∀ l ∈ ls.take (halfT ls.length), l.length = 32 := fun l hl => h32 l (List.mem_of_mem_take hl)
      have hd : ∀ l ∈ ls.drop (halfT ls.length), l.length = 32 := fun l hl => h32 l (List.mem_of_mem_drop hl)
      by_cases c : i < halfT ls.length
      · rw [pathT_lo h c]
        intro l hl
        rcases List.mem_append.1 hl with h' | h'
        · exact ih (halfT ls.length) h1 _ i (by rw [List.length_take]; omega) ht l h'
        · rw [List.mem_singleton.1 h']; exact rootT_length hd
      · rw [pathT_hi h c]
        intro l hl
        rcases List.mem_append.1 hl with h' | h'
        · exact ih (ls.length - halfT ls.length) (by omega) _ _ (by rw [List.length_drop]) hd l h'
        · rw [List.mem_singleton.1 h']; exact rootT_length ht
    · rw [pathT_one h]; intro l hl; cases hl
/-- How often a number can be halved: the bits of it. -/
def bitsT : Nat → Nat → Nat
  | 0, _ => 0
  | f + 1, n => if 0 < n then 1 + bitsT f (n / 2) else 0
theorem bitsT_mono : ∀ f a b, a ≤ b → b ≤ f → bitsT f a ≤ bitsT f b
  | 0, a, b, _, _ => Nat.le_refl _
  | f + 1, a, b, h, hb => by
    rw [bitsT, bitsT]
    by_cases c : 0 < a
    · rw [if_pos c, if_pos (by omega)]
      have := bitsT_mono f (a / 2) (b / 2) (by omega) (by omega)
      omega
    · rw [if_neg c]; omega
theorem bitsT_fuel : ∀ f g a, a ≤ f → a ≤ g → bitsT f a = bitsT g a
  | 0, 0, a, _, _ => rfl
  | 0, g + 1, a, h, _ => by rw [bitsT, bitsT, if_neg (by omega)]
  | f + 1, 0, a, _, h => by rw [bitsT, bitsT, if_neg (by omega)]
  | f + 1, g + 1, a, h1, h2 => by
    rw [bitsT, bitsT]
    by_cases c : 0 < a
    · rw [if_pos c, if_pos c, bitsT_fuel f g (a / 2) (by omega) (by omega)]
    · rw [if_neg c, if_neg c]
theorem bitsT_gt : ∀ f m, m ≤ f → m < 2 ^ bitsT f m
  | 0, m, h => by rw [bitsT]; omega
  | f + 1, m, h => by
    rw [bitsT]
    by_cases c : 0 < m
    · rw [if_pos c, Nat.pow_add]
      have := bitsT_gt f (m / 2) (by omega)
      omega
    · rw [if_neg c]; omega
theorem halfF_pow : ∀ f a n, ∃ e, halfF f (2 ^ a) n = 2 ^ e
  | 0, a, n => ⟨a, rfl⟩
  | f + 1, a, n => by
    rw [halfF]
    by_cases c : 2 * 2 ^ a < n
    · rw [if_pos c, show 2 * 2 ^ a = 2 ^ (a + 1) by rw [Nat.pow_succ]; omega]; exact halfF_pow f (a + 1) n
    · rw [if_neg c]; exact ⟨a, rfl⟩
theorem halfT_pow (n : Nat) : ∃ e, halfT n = 2 ^ e := halfF_pow n 0 n
theorem longT_pow : ∀ e i n, n ≤ 2 ^ e → longT i n ≤ e
  | 0, i, n, h => by rw [longT_one (by simp at h; omega)]; omega
  | e + 1, i, n, h => by
    by_cases h2 : 2 ≤ n
    · obtain ⟨a, ha⟩ := halfT_pow n
      have h1 := halfT_lt h2
      have h3 := halfT_two n
      have hk : halfT n ≤ 2 ^ e := by
        rw [ha] at h1 ⊢
        have : a < e + 1 := by
          apply Classical.byContradiction
          intro hc
          have := Nat.pow_le_pow_right (n := 2) (by omega) (show e + 1 ≤ a by omega)
          omega
        exact Nat.pow_le_pow_right (by omega) (by omega)
      by_cases c : i < halfT n
      · rw [longT_lo h2 c]; have := longT_pow e i (halfT n) hk; omega
      · rw [longT_hi h2 c]; have := longT_pow e (i - halfT n) (n - halfT n) (by omega); omega
    · rw [longT_one h2]; omega
/-- A path is no longer than the bits of how many leaves there are beside it. -/
theorem longT_bits (i n : Nat) : longT i n ≤ bitsT n (n - 1) := by
  refine longT_pow _ i n ?_
  have := bitsT_gt n (n - 1) (by omega)
  omega
/-- For at most 256 leaves a path has at most 8. -/
theorem longT_256 (i n : Nat) (h : n ≤ 256) : longT i n ≤ 8 := longT_pow 8 i n h
end Go.Proofs.YtdldkhhcicjbmaaDoor
/- The contracts of math/bits.Len64 and Len (numbers below 256) and of tree.Split. -/
namespace Go.Proofs.YtdldkhhcicjbmaaDoor
open Go.RowKit
set_option linter.unusedVariables false
set_option linter.unusedSimpArgs false

theorem half_len : ∀ n, n < 257 → 2 ≤ n → halfT n = 2 ^ (Lib.bitLen (n - 1) - 1) ∧ 1 ≤ Lib.bitLen (n - 1) ∧ Lib.bitLen (n - 1) ≤ 8 := by decide +kernel
set_option maxRecDepth 100000 in
set_option maxHeartbeats 1000000 in
theorem wlen64_any (x : Int) (w : World) (h0 : 0 ≤ x) (h1 : x < 256) :
    Calls Tryd.prog 53 #[.int .u64 x] w fun e w' => e = .returned (.int .i64 (Lib.bitLen x.toNat : Int)) ∧ w' = w := by
  have l := Lib.bitLen_le8' x h0 (by omega)
  have HE : Hid (Lib.len8 x = (Lib.bitLen x.toNat : Int)) := Lib.len8_of x h0 (by omega)
  go_enter Tryd.func53, Tryd.ntmps53
  go_wp2
  go_ret
  refine ⟨ret_int ?_, rfl⟩
  have hE := HE.out
  unfold Lib.len8 at hE
  have hg : ∀ h, ((Lib.len8tab[x.toNat]'h).toNat : Int) = (Lib.bitLen x.toNat : Int) := fun h => by
    rw [getElem?_pos Lib.len8tab x.toNat h] at hE
    exact hE
  rw [hg]
  generalize Lib.bitLen x.toNat = L at *
  unfold wrap64
  omega
set_option maxRecDepth 100000 in
set_option maxHeartbeats 1000000 in
theorem wlen_any (x : Int) (w : World) (h0 : 0 ≤ x) (h1 : x < 256) :
    Calls Tryd.prog 44 #[.int .u64 x] w fun e w' => e = .returned (.int .i64 (Lib.bitLen x.toNat : Int)) ∧ w' = w := by
  go_enter Tryd.func44, Tryd.ntmps44
  go_wp2_with fail
  refine (wlen64_any x w h0 h1).mono ?_
  rintro e w' ⟨rfl, rfl⟩
  go_wp2
  go_ret
  exact ⟨rfl, rfl⟩
set_option maxRecDepth 100000 in
set_option maxHeartbeats 1000000 in
theorem wsplit_any (n : Nat) (w : World) (h2 : 2 ≤ n) (hn : n ≤ 256) :
    Calls Tryd.prog 37 #[.int .i64 (n : Int)] w fun e w' => e = .returned (.int .i64 (halfT n : Int)) ∧ w' = w := by
  obtain ⟨hE, hl1, hl8⟩ := half_len n (by omega) h2
  have HE : Hid (halfT n = 2 ^ (Lib.bitLen (n - 1) - 1)) := hE
  clear hE
  have g0 : ¬ (n : Int) < 2 := by omega
  have s1 : (n : Int) - 1 = ((n - 1 : Nat) : Int) := by omega
  have b1 : n - 1 < 256 := by omega
  generalize n - 1 = m at *
  have hm : ((m : Int)).toNat = m := by omega
  go_enter Tryd.func37, Tryd.ntmps37
  go_wp2_with fail
  refine (wlen_any (m : Int) w (by omega) (by omega)).mono ?_
  rintro e w' ⟨rfl, rfl⟩
  rw [hm]
  generalize Lib.bitLen m = L at *
  have : L = 1 ∨ L = 2 ∨ L = 3 ∨ L = 4 ∨ L = 5 ∨ L = 6 ∨ L = 7 ∨ L = 8 := by omega
  rcases this with rfl | rfl | rfl | rfl | rfl | rfl | rfl | rfl <;>
  · go_wp2_with fail
    go_ret
    refine ⟨ret_int ?_, rfl⟩
    rw [HE.out]
    rfl
end Go.Proofs.YtdldkhhcicjbmaaDoor
/- The contract of sha.turn: a word turned down. -/
namespace Go.Proofs.YtdldkhhcicjbmaaDoor
open Go.RowKit
set_option linter.unusedVariables false
set_option linter.unusedSimpArgs false

/-! bit operations of a word of 32 bits -/
theorem ofInt_u32 (a : Nat) (h : a < 4294967296) : (BitVec.ofInt 32 (a : Int)).toNat = a := by
  rw [BitVec.ofInt_natCast, BitVec.toNat_ofNat]
  omega
theorem wrap_u32_in (n : Nat) (h : n < 4294967296) : IntKind.u32.wrap (n : Int) = n := by
  simp only [IntKind.wrap, IntKind.bits, IntKind.signed, Bool.false_and]
  rw [if_neg (by simp)]
  omega
theorem u32_and_nat (a b : Nat) (ha : a < 4294967296) (hb : b < 4294967296) : bits .and .u32 (a : Int) (b : Int) = ((a &&& b : Nat) : Int) := by
  have hx : a &&& b < 2 ^ 32 := Nat.and_lt_two_pow _ (by omega)
  show IntKind.u32.wrap ((BitVec.ofInt 32 (a : Int) &&& BitVec.ofInt 32 (b : Int)).toNat : Int) = _
  rw [BitVec.toNat_and, ofInt_u32 a ha, ofInt_u32 b hb, wrap_u32_in _ (by omega)]
theorem u32_or_nat (a b : Nat) (ha : a < 4294967296) (hb : b < 4294967296) : bits .or .u32 (a : Int) (b : Int) = ((a ||| b : Nat) : Int) := by
  have hx : a ||| b < 2 ^ 32 := Nat.or_lt_two_pow (by omega) (by omega)
  show IntKind.u32.wrap ((BitVec.ofInt 32 (a : Int) ||| BitVec.ofInt 32 (b : Int)).toNat : Int) = _
  rw [BitVec.toNat_or, ofInt_u32 a ha, ofInt_u32 b hb, wrap_u32_in _ (by omega)]
theorem u32_xor_nat (a b : Nat) (ha : a < 4294967296) (hb : b < 4294967296) : bits .xor .u32 (a : Int) (b : Int) = ((a ^^^ b : Nat) : Int) := by
  have hx : a ^^^ b < 2 ^ 32 := Nat.xor_lt_two_pow (by omega) (by omega)
  show IntKind.u32.wrap ((BitVec.ofInt 32 (a : Int) ^^^ BitVec.ofInt 32 (b : Int)).toNat : Int) = _
  rw [BitVec.toNat_xor, ofInt_u32 a ha, ofInt_u32 b hb, wrap_u32_in _ (by omega)]

theorem and31 : ∀ n : Nat, n < 32 → 1 ≤ n → bits BinOp.and IntKind.u64 (IntKind.u64.wrap (-(n : Int))) 31 = ((32 - n : Nat) : Int) := by decide +kernel
theorem rot_eq (x n : Nat) (hx : x < 4294967296) (h1 : 1 ≤ n) (h2 : n ≤ 31) : bits .or .u32 ((x : Int) * 2 ^ (32 - n) % 4294967296) ((x : Int) / 2 ^ (32 - (32 - n))) = ((rotr x n : Nat) : Int) := by
  have e0 : 32 - (32 - n) = n := by omega
  have e1 : (x : Int) / 2 ^ n = ((x >>> n : Nat) : Int) := by rw [Nat.shiftRight_eq_div_pow, Int.natCast_ediv, Int.natCast_pow]; rfl
  have e2 : (x : Int) * 2 ^ (32 - n) % 4294967296 = ((x <<< (32 - n) &&& 4294967295 : Nat) : Int) := by rw [and_all, Nat.shiftLeft_eq, Int.natCast_emod, Int.natCast_mul, Int.natCast_pow]; rfl
  have hs := shr_lt32 n hx
  have hc : x <<< (32 - n) &&& 4294967295 < 4294967296 := by rw [and_all]; omega
  rw [e0, e1, e2, u32_or_nat _ _ hc hs, Nat.or_comm]
  rfl

set_option maxRecDepth 100000 in
set_option maxHeartbeats 400000 in
theorem wrot_any (x n : Nat) (w : World) (hx : x < 4294967296) (h1 : 1 ≤ n) (h2 : n ≤ 31) :
    Calls Tryd.prog 59 #[.int .u32 x, .int .i64 (-(n : Int))] w fun e w' => e = .returned (.int .u32 (rotr x n : Nat)) ∧ w' = w := by
  have he := and31 n (by omega) h1
  go_enter Tryd.func59, Tryd.ntmps59
  go_wp2
  go_ret
  exact ⟨ret_int (rot_eq x n hx h1 h2), rfl⟩
set_option maxRecDepth 100000 in
theorem wturn_any (x n : Nat) (z : Int) (w : World) (hx : x < 4294967296) (hz : z = (n : Int)) (h1 : 1 ≤ n) (h2 : n ≤ 31) :
    Calls Tryd.prog 58 #[.int .u32 x, .int .i64 z] w fun e w' => e = .returned (.int .u32 (rotr x n : Nat)) ∧ w' = w := by
  subst hz
  go_enter Tryd.func58, Tryd.ntmps58
  go_wp2_with fail
  refine (wrot_any x n _ hx h1 h2).mono ?_
  rintro e w' ⟨rfl, rfl⟩
  go_wp2
  go_ret
  exact ⟨rfl, rfl⟩
theorem wturn_z (x : Nat) (z : Int) (w : World) (hx : x < 4294967296) (h1 : 1 ≤ z) (h2 : z ≤ 31) :
    Calls Tryd.prog 58 #[.int .u32 x, .int .i64 z] w fun e w' => e = .returned (.int .u32 (rotr x z.toNat : Nat)) ∧ ∃ q, w' = w.drewN q :=
  (wturn_any x z.toNat z w hx (by omega) (by omega) (by omega)).mono fun e w' h => ⟨h.1, 0, h.2⟩
/-! the sums of turned words -/
theorem wxor3 {a b c : Nat} (ha : a < 4294967296) (hb : b < 4294967296) (hc : c < 4294967296) : bits .xor .u32 (bits .xor .u32 (a : Int) (b : Int)) (c : Int) = ((a ^^^ b ^^^ c : Nat) : Int) := by
  have hx := xor_lt32 ha hb
  rw [u32_xor_nat _ _ ha hb, u32_xor_nat _ _ hx hc]
theorem wshr3 (x : Nat) : (x : Int) / (8 : Int) = ((x >>> 3 : Nat) : Int) := by rw [Nat.shiftRight_eq_div_pow]; rfl
theorem wshr10 (x : Nat) : (x : Int) / (1024 : Int) = ((x >>> 10 : Nat) : Int) := by rw [Nat.shiftRight_eq_div_pow]; rfl
theorem wss0_eq {x : Nat} (h : x < 4294967296) : bits .xor .u32 (bits .xor .u32 ((rotr x 7 : Nat) : Int) ((rotr x 18 : Nat) : Int)) ((x : Int) / (8 : Int)) = ((ss0 x : Nat) : Int) := by
  rw [wshr3, wxor3 (rotr_lt _ _ h) (rotr_lt _ _ h) (shr_lt32 _ h)]; rfl
theorem wss1_eq {x : Nat} (h : x < 4294967296) : bits .xor .u32 (bits .xor .u32 ((rotr x 17 : Nat) : Int) ((rotr x 19 : Nat) : Int)) ((x : Int) / (1024 : Int)) = ((ss1 x : Nat) : Int) := by
  rw [wshr10, wxor3 (rotr_lt _ _ h) (rotr_lt _ _ h) (shr_lt32 _ h)]; rfl
theorem wbs0_eq {x : Nat} (h : x < 4294967296) : bits .xor .u32 (bits .xor .u32 ((rotr x 2 : Nat) : Int) ((rotr x 13 : Nat) : Int)) ((rotr x 22 : Nat) : Int) = ((bs0 x : Nat) : Int) := by
  rw [wxor3 (rotr_lt _ _ h) (rotr_lt _ _ h) (rotr_lt _ _ h)]; rfl
theorem wbs1_eq {x : Nat} (h : x < 4294967296) : bits .xor .u32 (bits .xor .u32 ((rotr x 6 : Nat) : Int) ((rotr x 11 : Nat) : Int)) ((rotr x 25 : Nat) : Int) = ((bs1 x : Nat) : Int) := by
  rw [wxor3 (rotr_lt _ _ h) (rotr_lt _ _ h) (rotr_lt _ _ h)]; rfl
theorem wch_eq {e f g : Nat} (he : e < 4294967296) (hf : f < 4294967296) (hg : g < 4294967296) : bits .xor .u32 (bits .and .u32 (e : Int) (f : Int)) (bits .and .u32 (4294967295 - (e : Int)) (g : Int)) = ((chW e f g : Nat) : Int) := by
  have e1 : (4294967295 - (e : Int)) = ((4294967295 - e : Nat) : Int) := by omega
  rw [e1, u32_and_nat _ _ he hf, u32_and_nat _ _ (by omega) hg, u32_xor_nat _ _ (and_lt32 hf) (and_lt32 hg)]
  rfl
theorem wmj_eq {a b c : Nat} (ha : a < 4294967296) (hb : b < 4294967296) (hc : c < 4294967296) : bits .xor .u32 (bits .xor .u32 (bits .and .u32 (a : Int) (b : Int)) (bits .and .u32 (a : Int) (c : Int))) (bits .and .u32 (b : Int) (c : Int)) = ((mjW a b c : Nat) : Int) := by
  rw [u32_and_nat _ _ ha hb, u32_and_nat _ _ ha hc, u32_and_nat _ _ hb hc, wxor3 (and_lt32 hb) (and_lt32 hc) (and_lt32 hc)]
  rfl
theorem wnot_eq {x : Nat} (h : x < 4294967296) : bits .xor .u32 (if IntKind.u32.signed = true then -1 else IntKind.u32.max) (x : Int) = 4294967295 - (x : Int) := by
  have e : (if IntKind.u32.signed = true then (-1 : Int) else IntKind.u32.max) = ((4294967295 : Nat) : Int) := by rfl
  rw [e, u32_xor_nat _ _ (by omega) h]
  have : 4294967295 ^^^ x = 4294967295 - x := by
    have h1 : (BitVec.allOnes 32 ^^^ BitVec.ofNat 32 x) = ~~~ (BitVec.ofNat 32 x) := by rw [BitVec.allOnes_xor]
    have h2 := congrArg BitVec.toNat h1
    rw [BitVec.toNat_xor, BitVec.toNat_not, BitVec.toNat_allOnes, BitVec.toNat_ofNat, Nat.mod_eq_of_lt (by omega)] at h2
    simpa using h2
  rw [this]
  omega
end Go.Proofs.YtdldkhhcicjbmaaDoor
/- Rows of bytes that grow by append. -/
namespace Go.Proofs.YtdldkhhcicjbmaaDoor
open Go.RowKit
set_option linter.unusedVariables false
set_option linter.unusedSimpArgs false

def cellsB (l : List UInt8) : List Value := l.map fun b => Value.int .u8 (b.toNat : Int)
theorem cellsB_append (l r : List UInt8) : cellsB (l ++ r) = cellsB l ++ cellsB r := by simp [cellsB]
theorem cellsB_length (l : List UInt8) : (cellsB l).length = l.length := by simp [cellsB]
theorem cellsB_at (l : List UInt8) (i : Nat) (h : i < l.length) : (cellsB l)[i]? = some (.int .u8 (nth l i)) := by
  unfold cellsB nth
  simp [List.getElem?_eq_getElem h]
theorem cellsB_one (l : List UInt8) : ∀ u ∈ cellsB l, u.oneCell' = true := by
  intro u hu
  obtain ⟨i, _, rfl⟩ := List.mem_map.1 hu
  rfl
/-- The call's own slice of bytes v reads as l. -/
def OwnL (w : World) (B : Nat) (v : Value) (l : List UInt8) : Prop := w.ownsRow B 5 1 v l.length (cellsB l)
theorem OwnL.form {w : World} {B : Nat} {v : Value} {l : List UInt8} (h : OwnL w B v l) : ∃ a cap, v = .slice a l.length cap ∧ Row w a l.length l ∧ l.length ≤ cap := by
  rcases h.2 with ⟨rfl, h0⟩ | ⟨g, cap, cur, rfl, h1, h2, h3, _⟩
  · exact ⟨none, 0, by rw [h0], ⟨rfl, .inl h0⟩, by omega⟩
  · refine ⟨_, cap, rfl, ⟨rfl, .inr ⟨g, 0, rfl, fun i hi => ?_⟩⟩, h3⟩
    rw [Nat.zero_add, World.ownsRow.cellAt h i (by omega), cellsB_at l i hi]
theorem OwnL.formSome {w : World} {B : Nat} {v : Value} {l : List UInt8} (h : OwnL w B v l) (hl : 0 < l.length) : ∃ g cap, v = .slice (some ⟨g, 0, none⟩) l.length cap ∧ Row w (some ⟨g, 0, none⟩) l.length l ∧ l.length ≤ cap ∧ B ≤ g ∧ g < w.heap.size := by
  have hlt := World.ownsRow.lt h
  rcases h.2 with ⟨rfl, h0⟩ | ⟨g, cap, cur, rfl, h1, h2, h3, _⟩
  · omega
  · refine ⟨g, cap, rfl, ⟨rfl, .inr ⟨g, 0, rfl, fun i hi => ?_⟩⟩, h3, (hlt g rfl).1, (hlt g rfl).2⟩
    rw [Nat.zero_add, World.ownsRow.cellAt h i (by omega), cellsB_at l i hi]
theorem OwnL.nil (w : World) (B : Nat) : OwnL w B (.slice none 0 0) [] := World.ownsRow_nil _ _ _ _
theorem OwnL.lit0 (w : World) (B : Nat) (hB : B ≤ w.heap.size) : OwnL (w.alloc (.cells #[] 5)) B (.slice (some ⟨w.heap.size, 0, none⟩) 0 0) [] :=
  World.ownsRow_lit w #[] 0 hB (by unfold maxLen; omega) rfl
theorem OwnL.lit0' (w : World) (B s : Nat) (hs : w.heap.size = s) (hB : B ≤ s) : OwnL (w.alloc (.cells #[] 5)) B (.slice (some ⟨s, 0, none⟩) 0 0) [] := by
  subst hs
  exact OwnL.lit0 w B hB
theorem OwnL.drewN {w : World} {B : Nat} {v : Value} {l : List UInt8} (h : OwnL w B v l) (q : Nat) : OwnL (w.drewN q) B v l := by
  induction q with
  | zero => exact h
  | succ q ih => exact World.ownsRow.drew ih
theorem OwnL.below {w w' : World} {B : Nat} {v : Value} {l : List UInt8} (h : OwnL w B v l) (hb : Below w.heap.size w w') : OwnL w' B v l := by
  rcases h.2 with ⟨h1, h0⟩ | ⟨g, cap, cur, e1, e2, e3, e4⟩
  · exact ⟨h.1, .inl ⟨h1, h0⟩⟩
  · have hg : g < w.heap.size := (World.ownsRow.lt h g (by rw [e1]; rfl)).2
    exact ⟨h.1, .inr ⟨g, cap, cur, e1, e2, (hb.block g hg).trans e3, e4⟩⟩

theorem OwnL.grown {w w0 w' : World} {B B0 : Nat} {v : Value} {l : List UInt8} (h : OwnL w B v l) (hb : Below B0 w0 w) (hg : w.grownBy w' v.ownBlock) (h0 : B0 ≤ B) (hs : B0 ≤ w.heap.size) : Below B0 w0 w' :=
  hb.grown hg hs (fun k hk => Nat.le_trans h0 (World.ownsRow.lt h k hk).1)
/-- Two slices that lie apart. -/
def Sep (v v' : Value) : Prop := v.ownBlock = none ∨ v'.ownBlock = none ∨ v.ownBlock ≠ v'.ownBlock
theorem Sep.symm {v v' : Value} (h : Sep v v') : Sep v' v := by
  rcases h with h | h | h
  · exact .inr (.inl h)
  · exact .inl h
  · exact .inr (.inr fun e => h e.symm)
theorem OwnL.other {w w1 : World} {B : Nat} {v v' : Value} {l' : List UInt8} (h' : OwnL w B v' l') (hg : w.grownBy w1 v.ownBlock) (hs : Sep v v') : OwnL w1 B v' l' := by
  refine World.ownsRow.kept h' hg ?_
  rcases hs with h | h | h
  · by_cases hn : v'.ownBlock = none
    · exact .inl hn
    · rw [h]; exact .inr hn
  · exact .inl h
  · exact .inr fun e => h e.symm
theorem Sep.next {w : World} {B : Nat} {v v1 v' : Value} {l' : List UInt8} (hs : Sep v v') (hat : v1.ownBlock = v.ownBlock ∨ v1.ownBlock = some w.heap.size) (h' : OwnL w B v' l') : Sep v1 v' := by
  rcases hat with h | h
  · unfold Sep at *; rw [h]; exact hs
  · by_cases hn : v'.ownBlock = none
    · exact .inr (.inl hn)
    · refine .inr (.inr fun e => ?_)
      have := (World.ownsRow.lt h' w.heap.size (by rw [← e, h])).2
      omega
section
variable {P : Program}
theorem run_append_nothing (w : World) (base : Nat) (t ty e : TypeId) (i : TypeInfo) (size : Nat) (ht : P.underlying t = some (.slice e)) (hi : P.info? e = some i)
    (v : Value) (n c : Nat) (xs : List Value) (hown : w.ownsRow base e size v n xs) :
    (Builtin.append_ #[t, t] ty #[v, .slice none 0 c]).run P w = .ok v w := by
  rcases hown.2 with ⟨rfl, rfl⟩ | ⟨g, cap, cur, rfl, _, _, hnc, _⟩
  · simp [Builtin.append_, run_underlying ht, sizeOf, typeInfo, hi, Builtin.lenOf, Builtin.firstCells]
  · simp [Builtin.append_, run_underlying ht, sizeOf, typeInfo, hi, Builtin.lenOf, Builtin.firstCells, hnc, storeCells]

/-- 'append(v, x...)', v the call's own row of bytes, x any slice of bytes. -/
theorem wpList_append_bytes_at {w : World} {ops : Array Oper} {rest : List Oper} {o : Oper} {a : Act} {Q : Exit → Act → World → Prop} (hgd : o.guard = none) (s x : Operand) (t : TypeId)
    (ho : o.op = .call { callee := .builtin .append, args := #[s, x], argTypes := #[t, t] })
    (base : Nat) (i : TypeInfo) (ht : P.underlying t = some (.slice 5)) (hi : P.info? 5 = some i) (hz : i.zero = some (.int .u8 0)) (hsize : i.size = 1) (hby : i.bytes = 1)
    (v : Value) (l : List UInt8) (hs : a.eval s = v) (hown : OwnL w base v l)
    (ad : Option Addr) (n c : Nat) (r : List UInt8) (hx : a.eval x = .slice ad n c) (hr : Row w ad n r) (h47 : l.length + n ≤ 140737488355328) (hbase : base ≤ w.heap.size)
    (h : ∀ v' w', OwnL w' base v' (l ++ r) → w.grownBy w' v.ownBlock → (v'.ownBlock = v.ownBlock ∨ v'.ownBlock = some w.heap.size) → wpList P ops Q rest (a.put o.dst v') w') : wpList P ops Q (o :: rest) a w := by
  obtain ⟨hl, hr⟩ := hr
  cases ad with
  | none =>
    have h0 : n = 0 := by
      rcases hr with h0 | ⟨b, o, h1, _⟩
      · exact h0
      · cases h1
    subst h0
    have hr0 : r = [] := List.eq_nil_of_length_eq_zero hl
    subst hr0
    have hrun := run_append_nothing (P := P) w base t o.type 5 i 1 ht hi v l.length c (cellsB l) hown
    refine wpList_plain hgd fun K hK' => ?_
    unfold Oper.wp
    simp [execOp, ho, resolve, invoke, builtin, hs, hx, hrun, Result.andThen]
    exact hK' _ _ (h v w (by rw [List.append_nil]; exact hown) (World.grownBy.refl _ _) (.inl rfl))
  | some ad =>
    refine wpList_append_own_at w hgd s x t ho base 5 i (.int .u8 0) 1 1 ht hi hz hsize hby rfl (by decide) v l.length (cellsB l) hs hown ad n c (cellsB r) hx (by rw [cellsB_length, hl, Nat.mul_one]) ?_ (cellsB_one r) (by unfold maxLen; omega) (by omega) hbase ?_
    · intro j u hj
      have hj' : j < r.length := by have := (List.getElem?_eq_some_iff.1 hj).1; rwa [cellsB_length] at this
      rcases hr with h0 | ⟨b, off, h1, hc⟩
      · omega
      · cases h1
        rw [Go.WideShapes.add_plain, hc j (by omega), ← cellsB_at r j hj', hj]
    · intro v' w' hown' hgrow _ hat
      refine h v' w' ?_ hgrow hat
      unfold OwnL
      rw [List.length_append, cellsB_append, hl]
      exact hown'
/-- 'append(v, x...)', v the call's own row of bytes, x any slice of bytes. -/
theorem wpList_append_bytes {w : World} {ops : Array Oper} {rest : List Oper} {o : Oper} {a : Act} {Q : Exit → Act → World → Prop} (hgd : o.guard = none) (s x : Operand) (t : TypeId)
    (ho : o.op = .call { callee := .builtin .append, args := #[s, x], argTypes := #[t, t] })
    (base : Nat) (i : TypeInfo) (ht : P.underlying t = some (.slice 5)) (hi : P.info? 5 = some i) (hz : i.zero = some (.int .u8 0)) (hsize : i.size = 1) (hby : i.bytes = 1)
    (v : Value) (l : List UInt8) (hs : a.eval s = v) (hown : OwnL w base v l)
    (ad : Option Addr) (n c : Nat) (r : List UInt8) (hx : a.eval x = .slice ad n c) (hr : Row w ad n r) (h47 : l.length + n ≤ 140737488355328) (hbase : base ≤ w.heap.size)
    (h : ∀ v' w', OwnL w' base v' (l ++ r) → w.grownBy w' v.ownBlock → wpList P ops Q rest (a.put o.dst v') w') : wpList P ops Q (o :: rest) a w :=
  wpList_append_bytes_at hgd s x t ho base i ht hi hz hsize hby v l hs hown ad n c r hx hr h47 hbase fun v' w' h1 h2 _ => h v' w' h1 h2
end
end Go.Proofs.YtdldkhhcicjbmaaDoor
