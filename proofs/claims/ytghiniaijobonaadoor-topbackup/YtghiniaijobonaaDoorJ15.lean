/- Texts of this claim, joined: OwnD, Tree, Dsub, OpenS. -/
import Derived.Test.YtghiniaijobonaaDoorJ07
import Derived.Test.YtghiniaijobonaaDoorJ08
import Derived.Test.YtghiniaijobonaaDoorJ02
import Derived.Deep.Strs
import Derived.SizedLaws
/- Rows of digests that a call itself made: read, and appended to. -/
namespace Go.Proofs.YtghiniaijobonaaDoor
open Go.RowKit
set_option linter.unusedVariables false
set_option linter.unusedSimpArgs false

theorem flat_len {ls : List (List UInt8)} (h : ∀ l ∈ ls, l.length = 32) : ls.flatten.length = 32 * ls.length := by
  induction ls with
  | nil => rfl
  | cons l r ih =>
    rw [List.flatten_cons, List.length_append, h l (List.mem_cons_self ..), ih (fun x hx => h x (List.mem_cons_of_mem _ hx)), List.length_cons]
    omega
theorem nth_flat : ∀ {ls : List (List UInt8)}, (∀ l ∈ ls, l.length = 32) → ∀ (i j : Nat), i < ls.length → j < 32 → nth ls.flatten (32 * i + j) = nth (ls.getD i []) j
  | [], _, i, j, hi, _ => by simp at hi
  | l :: r, h, i, j, hi, hj => by
    have hl := h l (List.mem_cons_self ..)
    cases i with
    | zero =>
      unfold nth
      simp only [List.flatten_cons, List.getD_eq_getElem?_getD, Nat.mul_zero, Nat.zero_add]
      rw [List.getElem?_append_left (by omega)]
      rfl
    | succ i =>
      have ih := nth_flat (fun x hx => h x (List.mem_cons_of_mem _ hx)) i j (by simpa using hi) hj
      unfold nth at ih ⊢
      simp only [List.flatten_cons, List.getD_eq_getElem?_getD] at ih ⊢
      rw [List.getElem?_append_right (by omega), hl, show 32 * (i + 1) + j - 32 = 32 * i + j by omega, ih]
      rfl
/-- The call's own slice of digests v reads as ls. -/
def OwnD (w : World) (B : Nat) (v : Value) (ls : List (List UInt8)) : Prop := (∀ l ∈ ls, l.length = 32) ∧ w.ownsRow B 23 32 v ls.length (cellsB ls.flatten)
theorem OwnD.nil (w : World) (B : Nat) : OwnD w B (.slice none 0 0) [] := ⟨(fun l hl => by cases hl), World.ownsRow_nil _ _ _ _⟩
theorem OwnD.form {w : World} {B : Nat} {v : Value} {ls : List (List UInt8)} (h : OwnD w B v ls) : ∃ a cap, v = .slice a ls.length cap ∧ DRow w a ls.length ls ∧ ls.length ≤ cap := by
  obtain ⟨h32, h⟩ := h
  rcases h.2 with ⟨rfl, h0⟩ | ⟨g, cap, cur, rfl, h1, h2, h3, _⟩
  · exact ⟨none, 0, by rw [h0], ⟨rfl, h32, .inl h0⟩, by omega⟩
  · refine ⟨_, cap, rfl, ⟨rfl, h32, .inr ⟨g, 0, rfl, fun i hi => DAt.mk fun j hj => ?_⟩⟩, h3⟩
    have hlen : (ls.getD i []).length = 32 := by
      rw [List.getD_eq_getElem?_getD, List.getElem?_eq_getElem hi]
      exact h32 _ (List.getElem_mem _)
    rw [hlen] at hj
    have hf := flat_len h32
    rw [Nat.zero_add, World.ownsRow.cellAt h (32 * i + j) (by omega), cellsB_at _ _ (by omega), nth_flat h32 i j hi hj]
theorem OwnD.below {w w' : World} {B : Nat} {v : Value} {ls : List (List UInt8)} (h : OwnD w B v ls) (hb : Below w.heap.size w w') : OwnD w' B v ls := by
  refine ⟨h.1, ?_⟩
  have h := h.2
  rcases h.2 with ⟨h1, h0⟩ | ⟨g, cap, cur, e1, e2, e3, e4⟩
  · exact ⟨h.1, .inl ⟨h1, h0⟩⟩
  · have hg : g < w.heap.size := (World.ownsRow.lt h g (by rw [e1]; rfl)).2
    exact ⟨h.1, .inr ⟨g, cap, cur, e1, e2, (hb.block g hg).trans e3, e4⟩⟩
theorem OwnD.grown {w w0 w' : World} {B B0 : Nat} {v : Value} {ls : List (List UInt8)} (h : OwnD w B v ls) (hb : Below B0 w0 w) (hg : w.grownBy w' v.ownBlock) (h0 : B0 ≤ B) (hs : B0 ≤ w.heap.size) : Below B0 w0 w' :=
  hb.grown hg hs (fun k hk => Nat.le_trans h0 (World.ownsRow.lt h.2 k hk).1)
theorem OwnD.alloc {w : World} {B : Nat} {v : Value} {ls : List (List UInt8)} (h : OwnD w B v ls) (o : Obj) : OwnD (w.alloc o) B v ls := h.below ((Below.refl _ _).alloc (Nat.le_refl _) _)
theorem Tryd.infoDg : (Tryd.prog.info? 23).map (fun i => (i.zero, i.size, i.bytes)) = some (some (.agg zeros32), 32, 32) := by kernel_rfl
/-- 'append(v, ds...)', v the call's own row of digests. -/
theorem wpList_append_digests {w : World} {ops : Array Oper} {rest : List Oper} {o : Oper} {a : Act} {Q : Exit → Act → World → Prop} (hgd : o.guard = none) (s x : Operand)
    (ho : o.op = .call { callee := .builtin .append, args := #[s, x], argTypes := #[41, 41] })
    (base : Nat) (v : Value) (ls : List (List UInt8)) (hs : a.eval s = v) (hown : OwnD w base v ls)
    (ad : Addr) (n c : Nat) (ds : List (List UInt8)) (hx : a.eval x = .slice (some ad) n c) (hr : DRow w (some ad) n ds) (hn0 : 0 < n) (h47 : (ls.length + n) * 32 ≤ 140737488355328) (hbase : base ≤ w.heap.size)
    (h : ∀ v' w', OwnD w' base v' (ls ++ ds) → w.grownBy w' v.ownBlock → (v'.ownBlock = v.ownBlock ∨ v'.ownBlock = some w.heap.size) → wpList Tryd.prog ops Q rest (a.put o.dst v') w') : wpList Tryd.prog ops Q (o :: rest) a w := by
  obtain ⟨i0, hi, hz0, hz1, hz2⟩ := info_parts Tryd.infoDg
  have hlen := hr.len
  obtain ⟨hl, h32, h1 | ⟨b, off, e1, hc⟩⟩ := hr
  · omega
  cases e1
  have hf := flat_len h32
  refine wpList_append_own_at w hgd s x 41 ho base 23 i0 (.agg zeros32) 32 32 Tryd.underlying41 hi hz0 hz1 hz2 rfl (by decide) v ls.length (cellsB ls.flatten) hs hown.2 ⟨b, off, none⟩ n c (cellsB ds.flatten) hx (by rw [cellsB_length, hf, hl]; omega) ?_ (cellsB_one _) (by unfold maxLen; omega) h47 hbase ?_
  · intro j u hj
    have hj' : j < ds.flatten.length := by have := (List.getElem?_eq_some_iff.1 hj).1; rwa [cellsB_length] at this
    have hq : j / 32 < n := by omega
    have hm : j % 32 < 32 := Nat.mod_lt _ (by omega)
    have e : j = 32 * (j / 32) + j % 32 := by omega
    rw [Go.WideShapes.add_plain, ← hj, cellsB_at _ j hj']
    have := (hc (j / 32) hq).cell (j % 32) (by rw [hlen _ hq]; exact hm)
    rw [show off + 32 * (j / 32) + j % 32 = off + j by omega] at this
    rw [this]
    have hn := nth_flat h32 (j / 32) (j % 32) (by omega) hm
    rw [← e] at hn
    rw [hn]
  · intro v' w' hown' hgrow _ hat
    refine h v' w' ⟨?_, ?_⟩ hgrow hat
    · intro l hl'
      rcases List.mem_append.1 hl' with h' | h'
      · exact hown.1 l h'
      · exact h32 l h'
    · rw [List.length_append, List.flatten_append, cellsB_append, hl]
      exact hown'
end Go.Proofs.YtghiniaijobonaaDoor
/- Plain definitions for trees of digests: no theorem of the program yet. -/
namespace Go.Proofs.YtghiniaijobonaaDoor
set_option linter.unusedVariables false
set_option linter.unusedSimpArgs false

def leafT (b : List UInt8) : List UInt8 := shaL (0 :: b)
def nodeT (l r : List UInt8) : List UInt8 := shaL (1 :: (l ++ r))
theorem leafT_length (b : List UInt8) : (leafT b).length = 32 := shaL_length _
theorem nodeT_length (l r : List UInt8) : (nodeT l r).length = 32 := shaL_length _
/-- The greatest power of 2 below n, from k on. -/
def halfF : Nat → Nat → Nat → Nat
  | 0, k, _ => k
  | f + 1, k, n => if 2 * k < n then halfF f (2 * k) n else k
def halfT (n : Nat) : Nat := halfF n 1 n
theorem halfF_lt : ∀ f k n, k < n → halfF f k n < n
  | 0, k, n, h => h
  | f + 1, k, n, h => by
    rw [halfF]
    by_cases c : 2 * k < n
    · rw [if_pos c]; exact halfF_lt f (2 * k) n c
    · rw [if_neg c]; exact h
theorem halfF_ge : ∀ f k n, k ≤ halfF f k n
  | 0, k, n => Nat.le_refl _
  | f + 1, k, n => by
    rw [halfF]
    by_cases c : 2 * k < n
    · rw [if_pos c]; have := halfF_ge f (2 * k) n; omega
    · rw [if_neg c]; exact Nat.le_refl _
theorem halfF_two : ∀ f k n, 0 < k → n ≤ k + f → n ≤ 2 * halfF f k n
  | 0, k, n, h0, h => by rw [halfF]; omega
  | f + 1, k, n, h0, h => by
    rw [halfF]
    by_cases c : 2 * k < n
    · rw [if_pos c]; exact halfF_two f (2 * k) n (by omega) (by omega)
    · rw [if_neg c]; omega
theorem halfT_lt {n : Nat} (h : 2 ≤ n) : halfT n < n := halfF_lt n 1 n (by omega)
theorem halfT_pos (n : Nat) : 0 < halfT n := halfF_ge n 1 n
theorem halfT_two (n : Nat) : n ≤ 2 * halfT n := halfF_two n 1 n (by omega) (by omega)
/-- The Root of leaves. -/
def rootT (ls : List (List UInt8)) : List UInt8 :=
  if h : 2 ≤ ls.length then nodeT (rootT (ls.take (halfT ls.length))) (rootT (ls.drop (halfT ls.length)))
  else if ls.length = 0 then shaL [] else ls.getD 0 []
termination_by ls.length
decreasing_by
  · have := halfT_lt h
    rw [List.length_take]; omega
  · have := halfT_pos ls.length
    rw [List.length_drop]; omega
theorem rootT_two {ls : List (List UInt8)} (h : 2 ≤ ls.length) : rootT ls = nodeT (rootT (ls.take (halfT ls.length))) (rootT (ls.drop (halfT ls.length))) := by
  rw [rootT, dif_pos h]
theorem rootT_one {ls : List (List UInt8)} (h : ls.length = 1) : rootT ls = ls.getD 0 [] := by
  rw [rootT, dif_neg (by omega), if_neg (by omega)]
theorem rootT_none {ls : List (List UInt8)} (h : ls.length = 0) : rootT ls = shaL [] := by
  rw [rootT, dif_neg (by omega), if_pos h]
theorem rootT_length {ls : List (List UInt8)} (h : ∀ l ∈ ls, l.length = 32) : (rootT ls).length = 32 := by
  by_cases h2 : 2 ≤ ls.length
  · rw [rootT_two h2]; exact nodeT_length _ _
  · by_cases h0 : ls.length = 0
    · rw [rootT_none h0]; exact shaL_length _
    · rw [rootT_one (by omega)]
      have : 0 < ls.length := by omega
      rw [List.getD_eq_getElem?_getD, List.getElem?_eq_getElem this]
      exact h _ (List.getElem_mem _)
/-- The Path of leaf i. -/
def pathT (ls : List (List UInt8)) (i : Nat) : List (List UInt8) :=
  if h : 2 ≤ ls.length then
    if i < halfT ls.length then pathT (ls.take (halfT ls.length)) i ++ [rootT (ls.drop (halfT ls.length))]
    else pathT (ls.drop (halfT ls.length)) (i - halfT ls.length) ++ [rootT (ls.take (halfT ls.length))]
  else []
termination_by ls.length
decreasing_by
  · have := halfT_lt h
    rw [List.length_take]; omega
  · have := halfT_pos ls.length
    rw [List.length_drop]; omega
theorem pathT_lo {ls : List (List UInt8)} {i : Nat} (h : 2 ≤ ls.length) (hi : i < halfT ls.length) : pathT ls i = pathT (ls.take (halfT ls.length)) i ++ [rootT (ls.drop (halfT ls.length))] := by
  rw [pathT, dif_pos h, if_pos hi]
theorem pathT_hi {ls : List (List UInt8)} {i : Nat} (h : 2 ≤ ls.length) (hi : ¬ i < halfT ls.length) : pathT ls i = pathT (ls.drop (halfT ls.length)) (i - halfT ls.length) ++ [rootT (ls.take (halfT ls.length))] := by
  rw [pathT, dif_pos h, if_neg hi]
theorem pathT_one {ls : List (List UInt8)} {i : Nat} (h : ¬ 2 ≤ ls.length) : pathT ls i = [] := by
  rw [pathT, dif_neg h]
/-- How long the path of leaf i of n is. -/
def longT (i n : Nat) : Nat :=
  if h : 2 ≤ n then if i < halfT n then 1 + longT i (halfT n) else 1 + longT (i - halfT n) (n - halfT n) else 0
termination_by n
decreasing_by
  · exact halfT_lt h
  · have := halfT_pos n; omega
theorem longT_lo {i n : Nat} (h : 2 ≤ n) (hi : i < halfT n) : longT i n = 1 + longT i (halfT n) := by rw [longT, dif_pos h, if_pos hi]
theorem longT_hi {i n : Nat} (h : 2 ≤ n) (hi : ¬ i < halfT n) : longT i n = 1 + longT (i - halfT n) (n - halfT n) := by rw [longT, dif_pos h, if_neg hi]
theorem longT_one {i n : Nat} (h : ¬ 2 ≤ n) : longT i n = 0 := by rw [longT, dif_neg h]
theorem longT_le : ∀ (n i : Nat), longT i n ≤ n := by
  intro n
  induction n using Nat.strongRecOn with
  | ind n ih =>
    intro i
    by_cases h : 2 ≤ n
    · have h1 := halfT_lt h
      have h2 := halfT_pos n
      by_cases hi : i < halfT n
      · rw [longT_lo h hi]; have := ih (halfT n) h1 i; omega
      · rw [longT_hi h hi]; have := ih (n - halfT n) (by omega) (i - halfT n); omega
    · rw [longT_one h]; omega
/-- The root that a leaf and a path have. -/
def foldT (l : List UInt8) (i n : Nat) (path : List (List UInt8)) : List UInt8 :=
  if h : 2 ≤ n then
    if i < halfT n then nodeT (foldT l i (halfT n) (path.take (path.length - 1))) (path.getD (path.length - 1) [])
    else nodeT (path.getD (path.length - 1) []) (foldT l (i - halfT n) (n - halfT n) (path.take (path.length - 1)))
  else l
termination_by n
decreasing_by
  · exact halfT_lt h
  · have := halfT_pos n; omega
theorem foldT_lo {l : List UInt8} {i n : Nat} {path : List (List UInt8)} (h : 2 ≤ n) (hi : i < halfT n) : foldT l i n path = nodeT (foldT l i (halfT n) (path.take (path.length - 1))) (path.getD (path.length - 1) []) := by rw [foldT, dif_pos h, if_pos hi]
theorem foldT_hi {l : List UInt8} {i n : Nat} {path : List (List UInt8)} (h : 2 ≤ n) (hi : ¬ i < halfT n) : foldT l i n path = nodeT (path.getD (path.length - 1) []) (foldT l (i - halfT n) (n - halfT n) (path.take (path.length - 1))) := by rw [foldT, dif_pos h, if_neg hi]
theorem foldT_one {l : List UInt8} {i n : Nat} {path : List (List UInt8)} (h : ¬ 2 ≤ n) : foldT l i n path = l := by rw [foldT, dif_neg h]
theorem foldT_length {l : List UInt8} (hl : l.length = 32) (i n : Nat) (path : List (List UInt8)) : (foldT l i n path).length = 32 := by
  by_cases h : 2 ≤ n
  · by_cases hi : i < halfT n
    · rw [foldT_lo h hi]; exact nodeT_length _ _
    · rw [foldT_hi h hi]; exact nodeT_length _ _
  · rw [foldT_one h]; exact hl
theorem snoc_last (p : List (List UInt8)) (x : List UInt8) : (p ++ [x]).getD ((p ++ [x]).length - 1) [] = x := by
  rw [List.length_append, List.length_singleton, Nat.add_sub_cancel, List.getD_eq_getElem?_getD, List.getElem?_append_right (Nat.le_refl _), Nat.sub_self]
  rfl
theorem snoc_init (p : List (List UInt8)) (x : List UInt8) : (p ++ [x]).take ((p ++ [x]).length - 1) = p := by
  rw [List.length_append, List.length_singleton, Nat.add_sub_cancel, List.take_left']
  rfl
theorem getD_take {ls : List (List UInt8)} {i k : Nat} (h : i < k) : (ls.take k).getD i [] = ls.getD i [] := by
  rw [List.getD_eq_getElem?_getD, List.getD_eq_getElem?_getD, List.getElem?_take_of_lt h]
theorem getD_drop (ls : List (List UInt8)) (i k : Nat) : (ls.drop k).getD i [] = ls.getD (k + i) [] := by
  rw [List.getD_eq_getElem?_getD, List.getD_eq_getElem?_getD, List.getElem?_drop]
/-- A leaf and its path are the root; the path is as long as it must be. -/
theorem fold_path : ∀ (n : Nat) (ls : List (List UInt8)) (i : Nat), ls.length = n → i < n → foldT (ls.getD i []) i n (pathT ls i) = rootT ls ∧ (pathT ls i).length = longT i n := by
  intro n
  induction n using Nat.strongRecOn with
  | ind n ih =>
    intro ls i hl hi
    subst hl
    by_cases h : 2 ≤ ls.length
    · have h1 := halfT_lt h
      have h2 := halfT_pos ls.length
      by_cases c : i < halfT ls.length
      · obtain ⟨e1, e2⟩ := ih (halfT ls.length) h1 (ls.take (halfT ls.length)) i (by rw [List.length_take]; omega) c
        rw [foldT_lo h c, rootT_two h, longT_lo h c, pathT_lo h c, snoc_last, snoc_init]
        rw [getD_take c] at e1
        refine ⟨by rw [e1], ?_⟩
        rw [List.length_append, e2, List.length_singleton]; omega
      · obtain ⟨e1, e2⟩ := ih (ls.length - halfT ls.length) (by omega) (ls.drop (halfT ls.length)) (i - halfT ls.length) (by rw [List.length_drop]) (by omega)
        rw [foldT_hi h c, rootT_two h, longT_hi h c, pathT_hi h c, snoc_last, snoc_init]
        rw [getD_drop, show halfT ls.length + (i - halfT ls.length) = i by omega] at e1
        refine ⟨by rw [e1], ?_⟩
        rw [List.length_append, e2, List.length_singleton]; omega
    · obtain rfl : i = 0 := by omega
      rw [foldT_one h, longT_one h, pathT_one h, rootT_one (by omega)]
      exact ⟨rfl, rfl⟩
theorem pathT_32 : ∀ (n : Nat) (ls : List (List UInt8)) (i : Nat), ls.length = n → (∀ l ∈ ls, l.length = 32) → ∀ l ∈ pathT ls i, l.length = 32 := by
  intro n
  induction n using Nat.strongRecOn with
  | ind n ih =>
    intro ls i hl h32
    subst hl
    by_cases h : 2 ≤ ls.length
    · have h1 := halfT_lt h
      have h2 := halfT_pos ls.length
      have ht : ∀ l ∈ ls.take (halfT ls.length), l.length = 32 := fun l hl => h32 l (List.mem_of_mem_take hl)
      have hd : ∀ l ∈ ls.drop (halfT ls.length), l.length = 32 := fun l hl => h32 l (List.mem_of_mem_drop hl)
      by_cases c : i < halfT ls.length
      · rw [pathT_lo h c]
        intro l hl
        rcases List.mem_append.1 hl with h' | h'
        · exact ih (halfT ls.length) h1 _ i (by rw [List.length_take]; omega) ht l h'
        · rw [List.mem_singleton.1 h']; exact rootT_length hd
      · rw [pathT_hi h c]
        intro l hl
        rcases List.mem_append.1 hl with h' | h'
        · exact ih (ls.length - halfT ls.length) (by omega) _ _ (by rw [List.length_drop]) hd l h'
        · rw [List.mem_singleton.1 h']; exact rootT_length ht
    · rw [pathT_one h]; intro l hl; cases hl
/-- How often a number can be halved: the bits of it. -/
def bitsT : Nat → Nat → Nat
  | 0, _ => 0
  | f + 1, n => if 0 < n then 1 + bitsT f (n / 2) else 0
theorem bitsT_mono : ∀ f a b, a ≤ b → b ≤ f → bitsT f a ≤ bitsT f b
  | 0, a, b, _, _ => Nat.le_refl _
  | f + 1, a, b, h, hb => by
    rw [bitsT, bitsT]
    by_cases c : 0 < a
    · rw [if_pos c, if_pos (by omega)]
      have := bitsT_mono f (a / 2) (b / 2) (by omega) (by omega)
      omega
    · rw [if_neg c]; omega
theorem bitsT_fuel : ∀ f g a, a ≤ f → a ≤ g → bitsT f a = bitsT g a
  | 0, 0, a, _, _ => rfl
  | 0, g + 1, a, h, _ => by rw [bitsT, bitsT, if_neg (by omega)]
  | f + 1, 0, a, _, h => by rw [bitsT, bitsT, if_neg (by omega)]
  | f + 1, g + 1, a, h1, h2 => by
    rw [bitsT, bitsT]
    by_cases c : 0 < a
    · rw [if_pos c, if_pos c, bitsT_fuel f g (a / 2) (by omega) (by omega)]
    · rw [if_neg c, if_neg c]
theorem bitsT_gt : ∀ f m, m ≤ f → m < 2 ^ bitsT f m
  | 0, m, h => by rw [bitsT]; omega
  | f + 1, m, h => by
    rw [bitsT]
    by_cases c : 0 < m
    · rw [if_pos c, Nat.pow_add]
      have := bitsT_gt f (m / 2) (by omega)
      omega
    · rw [if_neg c]; omega
theorem halfF_pow : ∀ f a n, ∃ e, halfF f (2 ^ a) n = 2 ^ e
  | 0, a, n => ⟨a, rfl⟩
  | f + 1, a, n => by
    rw [halfF]
    by_cases c : 2 * 2 ^ a < n
    · rw [if_pos c, show 2 * 2 ^ a = 2 ^ (a + 1) by rw [Nat.pow_succ]; omega]; exact halfF_pow f (a + 1) n
    · rw [if_neg c]; exact ⟨a, rfl⟩
theorem halfT_pow (n : Nat) : ∃ e, halfT n = 2 ^ e := halfF_pow n 0 n
theorem longT_pow : ∀ e i n, n ≤ 2 ^ e → longT i n ≤ e
  | 0, i, n, h => by rw [longT_one (by simp at h; omega)]; omega
  | e + 1, i, n, h => by
    by_cases h2 : 2 ≤ n
    · obtain ⟨a, ha⟩ := halfT_pow n
      have h1 := halfT_lt h2
      have h3 := halfT_two n
      have hk : halfT n ≤ 2 ^ e := by
        rw [ha] at h1 ⊢
        have : a < e + 1 := by
          apply Classical.byContradiction
          intro hc
          have := Nat.pow_le_pow_right (n := 2) (by omega) (show e + 1 ≤ a by omega)
          omega
        exact Nat.pow_le_pow_right (by omega) (by omega)
      by_cases c : i < halfT n
      · rw [longT_lo h2 c]; have := longT_pow e i (halfT n) hk; omega
      · rw [longT_hi h2 c]; have := longT_pow e (i - halfT n) (n - halfT n) (by omega); omega
    · rw [longT_one h2]; omega
/-- A path is no longer than the bits of how many leaves there are beside it. -/
theorem longT_bits (i n : Nat) : longT i n ≤ bitsT n (n - 1) := by
  refine longT_pow _ i n ?_
  have := bitsT_gt n (n - 1) (by omega)
  omega
/-- For at most 256 leaves a path has at most 8. -/
theorem longT_256 (i n : Nat) (h : n ≤ 256) : longT i n ≤ 8 := longT_pow 8 i n h
end Go.Proofs.YtghiniaijobonaaDoor
/- Parts of slices of digests. -/
namespace Go.Proofs.YtghiniaijobonaaDoor
open Go.RowKit
set_option linter.unusedVariables false
set_option linter.unusedSimpArgs false

theorem DRow.take {w : World} {a : Option Addr} {n : Nat} {ls : List (List UInt8)} (h : DRow w a n ls) (k : Nat) (hk : k ≤ n) : DRow w a k (ls.take k) := by
  obtain ⟨h1, h2, h3⟩ := h
  refine ⟨by rw [List.length_take]; omega, fun l hl => h2 l (List.mem_of_mem_take hl), ?_⟩
  rcases h3 with h3 | ⟨b, o, ha, hc⟩
  · exact .inl (by omega)
  · exact .inr ⟨b, o, ha, fun i hi => by rw [getD_take hi]; exact hc i (by omega)⟩
theorem DRow.drop {w : World} {b o : Nat} {n : Nat} {ls : List (List UInt8)} (h : DRow w (some ⟨b, o, none⟩) n ls) (k : Nat) (hk : k ≤ n) : DRow w (some ⟨b, o + k * 32, none⟩) (n - k) (ls.drop k) := by
  obtain ⟨h1, h2, h3⟩ := h
  refine ⟨by rw [List.length_drop]; omega, fun l hl => h2 l (List.mem_of_mem_drop hl), ?_⟩
  rcases h3 with h3 | ⟨b', o', ha, hc⟩
  · exact .inl (by omega)
  · cases ha
    refine .inr ⟨b, o + k * 32, rfl, fun i hi => ?_⟩
    rw [getD_drop]
    have := hc (k + i) (by omega)
    rwa [show o + k * 32 + 32 * i = o + 32 * (k + i) by omega]
theorem DRow.addr {w : World} {a : Option Addr} {n : Nat} {ls : List (List UInt8)} (h : DRow w a n ls) (hn : 0 < n) : ∃ b o, a = some ⟨b, o, none⟩ := by
  rcases h.2.2 with h3 | ⟨b, o, ha, hc⟩
  · omega
  · exact ⟨b, o, ha⟩
theorem DRow.at {w : World} {b o : Nat} {n : Nat} {ls : List (List UInt8)} (h : DRow w (some ⟨b, o, none⟩) n ls) (i : Nat) (hi : i < n) : DAt w b (o + i * 32) (ls.getD i []) := by
  rcases h.2.2 with h3 | ⟨b', o', ha, hc⟩
  · omega
  · cases ha
    rw [show o + i * 32 = o + 32 * i by omega]
    exact hc i hi
end Go.Proofs.YtghiniaijobonaaDoor
/- How an argument that is a struct of a number and two slices of digests is opened. -/
namespace Go.Proofs.YtghiniaijobonaaDoor
open Go.ChangeShapes Go.WideShapes Go.ChangeAt Go.RowKit
set_option linter.unusedVariables false
set_option linter.unusedSimpArgs false

/-- A signature as a value. -/
def sigV (m : Int) (a1 : Option Addr) (n1 c1 : Nat) (a2 : Option Addr) (n2 c2 : Nat) : Value := .agg #[.int .i64 m, .slice a1 n1 c1, .slice a2 n2 c2]
theorem slice_cell {H : Type} {enc : TypeId × Value → H} {P : Program} {w : World} {base : Nat} {held : Bool} {t e : TypeId} {fuel : Nat} {cs : List Value} {x : DataW H × List MemPlace} (ht : P.underlying t = some (.slice e))
    (h : DataW.trod enc P w base (fun _ => true) held fuel t cs = some x) : ∃ a n c, cs = [.slice a n c] := by
  rcases Go.Deep.open_slice ht h with ⟨hcs, _⟩ | ⟨y, l, c, m, n, D, Pl, hcs, _⟩
  · exact ⟨_, _, _, hcs⟩
  · exact ⟨_, _, _, hcs⟩
theorem open_sig {H : Type} {enc : TypeId × Value → H} {P : Program} {w : World} {base : Nat} {held : Bool} {t e f : TypeId} {f0 f1 f2 : Field} {r : Reach} {b0 : Nat} {v : Value} {d : DataW H} {p : List MemPlace}
    (ht : P.underlying t = some (.struct #[f0, f1, f2])) (hct : P.cellsOf t = 3) (o0 : f0.offset = 0) (o1 : f1.offset = 1) (o2 : f2.offset = 2)
    (h0 : P.underlying f0.type = some (.int .i64)) (c0 : P.cellsOf f0.type = 1) (h1 : P.underlying f1.type = some (.slice e)) (c1 : P.cellsOf f1.type = 1) (h2 : P.underlying f2.type = some (.slice e)) (c2 : P.cellsOf f2.type = 1)
    (he : P.underlying e = some (.array 32 f)) (hf : P.underlying f = some (.int .u8)) (hcf : P.cellsOf f = 1) (hce : P.cellsOf e = 32)
    (hv : Value.okWide P w r b0 t v) (h : DataW.Trod enc P w base (fun _ => true) held t v d p) :
    ∃ (m : Int) (a1 : Option Addr) (n1 k1 : Nat) (l1 : List (List UInt8)) (a2 : Option Addr) (n2 k2 : Nat) (l2 : List (List UInt8)) (x0 x1 x2 : DataW H),
      v = sigV m a1 n1 k1 a2 n2 k2 ∧ -9223372036854775808 ≤ m ∧ m ≤ 9223372036854775807 ∧ (DRow w a1 n1 l1 ∧ n1 ≤ k1) ∧ (DRow w a2 n2 l2 ∧ n2 ≤ k2) ∧ d = .agg [x0, x1, x2] ∧
      (n1 = 0 ∨ ∃ elems spare, x1 = .slice elems spare ∧ elems.length = n1) ∧ (n2 = 0 ∨ ∃ elems spare, x2 = .slice elems spare ∧ elems.length = n2) := by
  obtain ⟨cs, rfl⟩ : ∃ cs, v = .agg cs := by
    simp only [Value.okWide, ht] at hv
    obtain ⟨cs, h1, _⟩ := hv
    exact ⟨cs, h1⟩
  obtain ⟨fuel, hfu⟩ := h
  obtain ⟨y0, y1, y2, n, hx, hl, u0, u1, u2⟩ := Go.Deep.trod_struct3 ht hfu
  rw [hct] at hl
  rw [o0, c0] at u0
  rw [o1, c1] at u1
  rw [o2, c2] at u2
  obtain ⟨z0, z1, z2, hcs⟩ : ∃ z0 z1 z2, cs.toList = [z0, z1, z2] := by
    have hl' : cs.toList.length = 3 := hl
    match cs.toList, hl' with
    | [z0, z1, z2], _ => exact ⟨z0, z1, z2, rfl⟩
  have hcs' : (Value.agg cs).cells.toList = [z0, z1, z2] := hcs
  rw [hcs'] at u0 u1 u2
  simp only [List.drop_zero, List.take_succ_cons, List.take_zero, List.drop_succ_cons] at u0 u1 u2
  obtain ⟨m, hm, _, hwf⟩ := DataW.trod_int h0 u0
  obtain ⟨a1, n1, k1, e1⟩ := slice_cell h1 u1
  obtain ⟨a2, n2, k2, e2⟩ := slice_cell h2 u2
  cases hm
  cases e1
  cases e2
  have hb := wf_i64 hwf
  obtain ⟨l1, r1, w1⟩ := open_digests h1 he hf hcf hce (show DataW.trod enc P w base (fun _ => true) held n f1.type [.slice a1 n1 k1] = some (y1.1, y1.2) from u1)
  obtain ⟨l2, r2, w2⟩ := open_digests h2 he hf hcf hce (show DataW.trod enc P w base (fun _ => true) held n f2.type [.slice a2 n2 k2] = some (y2.1, y2.2) from u2)
  refine ⟨m, a1, n1, k1, l1, a2, n2, k2, l2, y0.1, y1.1, y2.1, ?_, hb.1, hb.2, ⟨r1, open_cap h1 u1⟩, ⟨r2, open_cap h2 u2⟩, ?_, w1, w2⟩
  · unfold sigV
    rw [← hcs]
  · exact (Prod.mk.inj hx).1
theorem sized_sig {H : Type} {P : Program} {ts : List TypeId} {ds : List (DataW H)} (h : (DataW.weightsEach P ts ds).all (· ≤ reachBytes) = true) {j : Nat} {t e : TypeId} {f0 f1 f2 : Field} {x0 x1 x2 : DataW H} (ht : ts[j]? = some t) (hd : ds[j]? = some (.agg [x0, x1, x2]))
    (hu : P.underlying t = some (.struct #[f0, f1, f2])) (h1 : P.underlying f1.type = some (.slice e)) (h2 : P.underlying f2.type = some (.slice e)) (hb : P.bytesOf e = 32) {n1 n2 : Nat}
    (w1 : n1 = 0 ∨ ∃ elems spare, x1 = .slice elems spare ∧ elems.length = n1) (w2 : n2 = 0 ∨ ∃ elems spare, x2 = .slice elems spare ∧ elems.length = n2) : 32 * n1 ≤ 140737488351232 ∧ 32 * n2 ≤ 140737488351232 := by
  have all := List.all_eq_true.1 h
  constructor
  · rcases w1 with h0 | ⟨el, sp, rfl, hl⟩
    · omega
    · have := all _ (DataW.weights_mem_each ht hd ((el.length + sp.length) * P.bytesOf e) (by simp [DataW.weights, hu, DataW.weightsEach, h1]))
      rw [hb] at this
      have := of_decide_eq_true this
      simp only [reachBytes] at this
      omega
  · rcases w2 with h0 | ⟨el, sp, rfl, hl⟩
    · omega
    · have := all _ (DataW.weights_mem_each ht hd ((el.length + sp.length) * P.bytesOf e) (by simp [DataW.weights, hu, DataW.weightsEach, h2]))
      rw [hb] at this
      have := of_decide_eq_true this
      simp only [reachBytes] at this
      omega
end Go.Proofs.YtghiniaijobonaaDoor
