/- Texts of this claim, joined: Wots, Stamp, OwnD2, Copyd. -/
import Derived.Test.YtghiniaijobonaaDoorJ16
import Derived.Test.YtghiniaijobonaaDoorJ15
import Derived.Test.YtghiniaijobonaaDoorJ02
import Derived.Laws.IdiomCopy
import Derived.Laws.CopyOwn
/- Plain definitions for keys of chains: no theorem of the program yet. -/
namespace Go.Proofs.YtghiniaijobonaaDoor
open Go.RowKit
set_option linter.unusedVariables false
set_option linter.unusedSimpArgs false

/-- The i-th half byte of a digest, and what the first n of them lack of 15. -/
def nibL (m : List UInt8) (i : Nat) : Nat := if i % 2 = 1 then (m.getD (i / 2) 0).toNat % 16 else (m.getD (i / 2) 0).toNat / 16
theorem nibL_lt (m : List UInt8) (i : Nat) : nibL m i < 16 := by
  unfold nibL
  have := (m.getD (i / 2) 0).toNat_lt
  split <;> omega
def lackL (m : List UInt8) : Nat → Nat
  | 0 => 0
  | n + 1 => lackL m n + (15 - nibL m n)
theorem lackL_le (m : List UInt8) : ∀ n, lackL m n ≤ 15 * n
  | 0 => by simp [lackL]
  | n + 1 => by rw [lackL]; have := lackL_le m n; omega
/-- The i-th digit that a digest is signed by. -/
def digL (m : List UInt8) (i : Nat) : Nat := if i < 64 then nibL m i else if i = 64 then lackL m 64 / 256 else if i = 65 then lackL m 64 / 16 % 16 else lackL m 64 % 16
theorem digL_lt (m : List UInt8) (i : Nat) : digL m i < 16 := by
  unfold digL
  have h1 := nibL_lt m i
  have h2 := lackL_le m 64
  split
  · exact h1
  · split
    · omega
    · split <;> omega
theorem dig_sum (m : List UInt8) : lackL m 64 = digL m 64 * 256 + digL m 65 * 16 + digL m 66 := by
  unfold digL
  have h2 := lackL_le m 64
  simp
  omega
theorem lack_mono {a b : List UInt8} : ∀ n, (∀ i, i < n → nibL b i ≤ nibL a i) → lackL a n ≤ lackL b n ∧ (lackL a n = lackL b n → ∀ i, i < n → nibL a i = nibL b i)
  | 0, _ => ⟨Nat.le_refl _, fun _ i hi => by omega⟩
  | n + 1, h => by
    obtain ⟨h1, h2⟩ := lack_mono n (fun i hi => h i (by omega))
    have hn := h n (by omega)
    have ha := nibL_lt a n
    have hb := nibL_lt b n
    rw [lackL, lackL]
    refine ⟨by omega, fun e i hi => ?_⟩
    by_cases hin : i < n
    · exact h2 (by omega) i hin
    · obtain rfl : i = n := by omega
      omega
theorem nib_eq {a b : List UInt8} (ha : a.length = 32) (hb : b.length = 32) (h : ∀ i, i < 64 → nibL a i = nibL b i) : a = b := by
  refine nth_inj (by omega) fun j hj => ?_
  have e0 := h (2 * j) (by omega)
  have e1 := h (2 * j + 1) (by omega)
  unfold nibL at e0 e1
  rw [if_neg (by omega), if_neg (by omega), show 2 * j / 2 = j by omega] at e0
  rw [if_pos (by omega), if_pos (by omega), show (2 * j + 1) / 2 = j by omega] at e1
  unfold nth
  have : (a.getD j 0).toNat = (b.getD j 0).toNat := by omega
  rw [this]
/-- No digest is below another one. -/
theorem dig_apart {a b : List UInt8} (ha : a.length = 32) (hb : b.length = 32) (h : a ≠ b) : ∃ i, i < 67 ∧ digL b i < digL a i := by
  apply Classical.byContradiction
  intro hn
  have hle : ∀ i, i < 67 → digL a i ≤ digL b i := fun i hi => Nat.le_of_not_lt fun h' => hn ⟨i, hi, h'⟩
  have hnb : ∀ i, i < 64 → nibL a i ≤ nibL b i := fun i hi => by
    have := hle i (by omega)
    unfold digL at this
    rw [if_pos hi, if_pos hi] at this
    exact this
  obtain ⟨h1, h2⟩ := lack_mono (a := b) (b := a) 64 hnb
  have s1 := dig_sum a
  have s2 := dig_sum b
  have d4 := hle 64 (by omega)
  have d5 := hle 65 (by omega)
  have d6 := hle 66 (by omega)
  have e : lackL b 64 = lackL a 64 := by omega
  exact h (nib_eq ha hb fun i hi => (h2 e i hi).symm)
def wotsSecL (seed : List UInt8) (i : Nat) : List UInt8 := macL seed [5, UInt8.ofNat i]
theorem wotsSecL_length (seed : List UInt8) (i : Nat) : (wotsSecL seed i).length = 32 := macL_length _ _
def wotsEndsL (seed : List UInt8) (n : Nat) : List (List UInt8) := (List.range n).map fun i => walkL (wotsSecL seed i) 15
def wotsPubL (seed : List UInt8) : List UInt8 := shaL (7 :: (wotsEndsL seed 67).flatten)
def wotsSigL (seed m : List UInt8) (n : Nat) : List (List UInt8) := (List.range n).map fun i => walkL (wotsSecL seed i) (digL m i)
def wotsToldL (m : List UInt8) (sig : List (List UInt8)) (n : Nat) : List (List UInt8) := (List.range n).map fun i => walkL (sig.getD i []) (15 - digL m i)
def wotsKeyL (m : List UInt8) (sig : List (List UInt8)) : List UInt8 := shaL (7 :: (wotsToldL m sig 67).flatten)
theorem getD_map_range (f : Nat → List UInt8) (n i : Nat) (h : i < n) : ((List.range n).map f).getD i [] = f i := by
  simp [List.getD_eq_getElem?_getD, h]
theorem wotsKey_signed (seed m : List UInt8) : wotsKeyL m (wotsSigL seed m 67) = wotsPubL seed := by
  have e : wotsToldL m (wotsSigL seed m 67) 67 = wotsEndsL seed 67 := by
    unfold wotsToldL wotsEndsL
    refine List.map_congr_left fun i hi => ?_
    have hi' : i < 67 := List.mem_range.1 hi
    have hd := digL_lt m i
    unfold wotsSigL
    rw [getD_map_range _ _ _ hi', ← walkL_add, show digL m i + (15 - digL m i) = 15 by omega]
  unfold wotsKeyL wotsPubL
  rw [e]
/-- Two that come to one, and nowhere do two unlike ones have one step: they were one. -/
theorem walk_back {x y : List UInt8} : ∀ n, walkL x n = walkL y n → (∀ k, k < n → ¬ (walkL x k ≠ walkL y k ∧ walkL x (k + 1) = walkL y (k + 1))) → x = y
  | 0, h, _ => h
  | n + 1, h, hno => by
    have hn := hno n (by omega)
    have e : walkL x n = walkL y n := Classical.byContradiction fun h' => hn ⟨h', h⟩
    exact walk_back n e fun k hk => hno k (by omega)
/-- Whoever signs another digest shows a digest ahead of what was shown, or two with one step, or ends that differ. -/
theorem wotsForged (seed m o : List UInt8) (sig : List (List UInt8)) (hm : m.length = 32) (ho : o.length = 32) (h : m ≠ o)
    (h1 : ∀ i, i < 67 → digL o i < digL m i → walkL (sig.getD i []) (digL m i - digL o i) ≠ walkL (wotsSecL seed i) (digL m i))
    (h2 : ∀ i, i < 67 → ∀ k, k < 15 - digL o i → ¬ (walkL (walkL (wotsSecL seed i) (digL o i)) k ≠ walkL (sig.getD i []) k ∧ walkL (walkL (wotsSecL seed i) (digL o i)) (k + 1) = walkL (sig.getD i []) (k + 1))) :
    wotsEndsL seed 67 ≠ wotsToldL o sig 67 := by
  obtain ⟨i, hi, hd⟩ := dig_apart hm ho h
  intro e
  have lm := digL_lt m i
  have e2 := congrArg (fun l => l.getD i []) e
  simp only [wotsEndsL, wotsToldL] at e2
  rw [getD_map_range _ _ _ hi, getD_map_range _ _ _ hi] at e2
  rw [show 15 = digL o i + (15 - digL o i) by omega, walkL_add, show digL o i + (15 - digL o i) - digL o i = 15 - digL o i by omega] at e2
  have e3 := walk_back (15 - digL o i) e2 (h2 i hi)
  refine h1 i hi hd ?_
  rw [← e3, ← walkL_add, show digL o i + (digL m i - digL o i) = digL m i by omega]
end Go.Proofs.YtghiniaijobonaaDoor
/- Plain definitions for a key for many texts: no theorem of the program yet. -/
namespace Go.Proofs.YtghiniaijobonaaDoor
set_option linter.unusedVariables false
set_option linter.unusedSimpArgs false

/-- Key i of a seed. -/
def stampKeyL (seed : List UInt8) (i : Nat) : List UInt8 := macL seed [11, UInt8.ofNat i]
theorem stampKeyL_length (seed : List UInt8) (i : Nat) : (stampKeyL seed i).length = 32 := macL_length _ _
theorem wotsPubL_length (seed : List UInt8) : (wotsPubL seed).length = 32 := shaL_length _
theorem wotsKeyL_length (m : List UInt8) (sig : List (List UInt8)) : (wotsKeyL m sig).length = 32 := shaL_length _
/-- The first n leaves of a seed. -/
def stampLeavesL (seed : List UInt8) (n : Nat) : List (List UInt8) := (List.range n).map fun i => wotsPubL (stampKeyL seed i)
theorem stampLeavesL_len (seed : List UInt8) (n : Nat) : (stampLeavesL seed n).length = n := by simp [stampLeavesL]
theorem stampLeavesL_32 (seed : List UInt8) (n : Nat) : ∀ l ∈ stampLeavesL seed n, l.length = 32 := fun l hl => by
  obtain ⟨i, _, rfl⟩ := List.mem_map.1 hl
  exact wotsPubL_length _
theorem stampLeavesL_at (seed : List UInt8) (n i : Nat) (h : i < n) : (stampLeavesL seed n).getD i [] = wotsPubL (stampKeyL seed i) := getD_map_range _ n i h
theorem stampLeavesL_succ (seed : List UInt8) (n : Nat) : stampLeavesL seed n ++ [wotsPubL (stampKeyL seed n)] = stampLeavesL seed (n + 1) := by
  unfold stampLeavesL
  rw [List.range_succ, List.map_append]
  rfl
/-- The public key of a seed. -/
def stampPubL (seed : List UInt8) (n : Nat) : List UInt8 := rootT (stampLeavesL seed n)
theorem stampPubL_length (seed : List UInt8) (n : Nat) : (stampPubL seed n).length = 32 := rootT_length (stampLeavesL_32 seed n)
/-- What a signature tells. -/
def stampTellL (m : List UInt8) (i n : Nat) (sig path : List (List UInt8)) : List UInt8 := foldT (wotsKeyL m sig) i n path
theorem stamp_signed (seed m : List UInt8) (i n : Nat) (h : i < n) : stampTellL m i n (wotsSigL (stampKeyL seed i) m 67) (pathT (stampLeavesL seed n) i) = stampPubL seed n := by
  unfold stampTellL stampPubL
  rw [wotsKey_signed, ← stampLeavesL_at seed n i h]
  exact (fold_path n _ i (stampLeavesL_len seed n) h).1
theorem stamp_path (seed : List UInt8) (i n : Nat) (h : i < n) : (pathT (stampLeavesL seed n) i).length = longT i n := (fold_path n _ i (stampLeavesL_len seed n) h).2
/-- Two keys: with the path of the other place the Node is the other way round. -/
theorem stamp_root2 (seed : List UInt8) : stampPubL seed 2 = nodeT (wotsPubL (stampKeyL seed 0)) (wotsPubL (stampKeyL seed 1)) := by
  unfold stampPubL
  have h : halfT 2 = 1 := by decide
  rw [rootT_two (by rw [stampLeavesL_len]; omega), stampLeavesL_len, h]
  show nodeT (rootT [wotsPubL (stampKeyL seed 0)]) (rootT [wotsPubL (stampKeyL seed 1)]) = _
  rw [rootT_one (by rfl), rootT_one (by rfl)]
  rfl
theorem stamp_path0 (seed : List UInt8) : pathT (stampLeavesL seed 2) 0 = [wotsPubL (stampKeyL seed 1)] := by
  have h : halfT 2 = 1 := by decide
  rw [pathT_lo (by rw [stampLeavesL_len]; omega) (by rw [stampLeavesL_len, h]; omega), stampLeavesL_len, h]
  show pathT [wotsPubL (stampKeyL seed 0)] 0 ++ [rootT [wotsPubL (stampKeyL seed 1)]] = _
  rw [pathT_one (by simp), rootT_one (by rfl)]
  rfl
theorem stamp_path1 (seed : List UInt8) : pathT (stampLeavesL seed 2) 1 = [wotsPubL (stampKeyL seed 0)] := by
  have h : halfT 2 = 1 := by decide
  rw [pathT_hi (by rw [stampLeavesL_len]; omega) (by rw [stampLeavesL_len, h]; omega), stampLeavesL_len, h]
  show pathT [wotsPubL (stampKeyL seed 1)] 0 ++ [rootT [wotsPubL (stampKeyL seed 0)]] = _
  rw [pathT_one (by simp), rootT_one (by rfl)]
  rfl
theorem fold2_0 (l x : List UInt8) : foldT l 0 2 [x] = nodeT l x := by
  have h : halfT 2 = 1 := by decide
  rw [foldT_lo (by omega) (by rw [h]; omega), h, foldT_one (by omega)]
  rfl
theorem fold2_1 (l x : List UInt8) : foldT l 1 2 [x] = nodeT x l := by
  have h : halfT 2 = 1 := by decide
  rw [foldT_hi (by omega) (by rw [h]; omega), h, foldT_one (by omega)]
  rfl
theorem stamp_other0 (seed m : List UInt8) : stampTellL m 1 2 (wotsSigL (stampKeyL seed 0) m 67) (pathT (stampLeavesL seed 2) 0) = nodeT (wotsPubL (stampKeyL seed 1)) (wotsPubL (stampKeyL seed 0)) := by
  unfold stampTellL
  rw [wotsKey_signed, stamp_path0, fold2_1]
theorem stamp_other1 (seed m : List UInt8) : stampTellL m 0 2 (wotsSigL (stampKeyL seed 1) m 67) (pathT (stampLeavesL seed 2) 1) = nodeT (wotsPubL (stampKeyL seed 1)) (wotsPubL (stampKeyL seed 0)) := by
  unfold stampTellL
  rw [wotsKey_signed, stamp_path1, fold2_0]
/-- What is wrong with a signature of n leaves (0: nothing). -/
def recE (n1 : Nat) (i : Int) (n n2 : Nat) : Int := if n1 ≠ 67 then 3 else if i < 0 ∨ (n : Int) ≤ i then 2 else if n2 ≠ longT i.toNat n then 3 else 0
theorem recE_sig {n1 n n2 : Nat} {i : Int} (h : n1 ≠ 67) : recE n1 i n n2 = 3 := by unfold recE; rw [if_pos h]
theorem recE_at {n n2 : Nat} {i : Int} (h : i < 0 ∨ (n : Int) ≤ i) : recE 67 i n n2 = 2 := by unfold recE; rw [if_neg (by simp), if_pos h]
theorem recE_path {n n2 i : Nat} (hi : i < n) (h : n2 ≠ longT i n) : recE 67 (i : Int) n n2 = 3 := by unfold recE; rw [if_neg (by simp), if_neg (by omega), Int.toNat_natCast, if_pos h]
theorem recE_ok {n n2 i : Nat} (hi : i < n) (h : n2 = longT i n) : recE 67 (i : Int) n n2 = 0 := by unfold recE; rw [if_neg (by simp), if_neg (by omega), Int.toNat_natCast, if_neg (by omega)]
end Go.Proofs.YtghiniaijobonaaDoor
/- Rows of digests that a call itself made: any slice of digests appended, the first ones taken. -/
namespace Go.Proofs.YtghiniaijobonaaDoor
open Go.RowKit
set_option linter.unusedVariables false
set_option linter.unusedSimpArgs false

theorem gro_setCell (w : World) (g j : Nat) (v : Value) : w.grownBy (w.setCell ⟨g, j, none⟩ v) (some g) :=
  ⟨rfl, rfl, rfl, by simp [World.setCell], fun k hk hne => Below.heap_setCell w _ v k (fun e => hne (by rw [e]))⟩
theorem gro_setCells (g : Nat) : ∀ (vs : List Value) (o : Nat) (w : World), w.grownBy (w.setCells g o vs) (some g)
  | [], _, w => World.grownBy.refl w _
  | v :: r, o, w => by
    rw [World.setCells]
    have h := gro_setCell w g o v
    have k := gro_setCells g r (o + 1) (w.setCell ⟨g, o, none⟩ v)
    exact ⟨k.os.trans h.os, k.tape.trans h.tape, k.output.trans h.output, Nat.le_trans h.size k.size, fun i hi hne => (k.block i (Nat.lt_of_lt_of_le hi h.size) hne).trans (h.block i hi hne)⟩
theorem OwnD.lit0 (w : World) (B : Nat) (hB : B ≤ w.heap.size) : OwnD (w.alloc (.cells #[] 23)) B (.slice (some ⟨w.heap.size, 0, none⟩) 0 0) [] :=
  ⟨(fun l hl => by cases hl), World.ownsRow_lit (e := 23) (size := 32) w #[] 0 hB (by unfold maxLen; omega) (by simp)⟩
theorem OwnD.formSome {w : World} {B : Nat} {v : Value} {ls : List (List UInt8)} (h : OwnD w B v ls) (hl : 0 < ls.length) : ∃ g cap, v = .slice (some ⟨g, 0, none⟩) ls.length cap ∧ DRow w (some ⟨g, 0, none⟩) ls.length ls ∧ ls.length ≤ cap ∧ B ≤ g ∧ g < w.heap.size ∧ cap ≤ maxLen := by
  obtain ⟨a, cap, hv, R, hc⟩ := h.form
  rcases h.2.2 with ⟨_, h0⟩ | ⟨g, cap', cur, hv', h1, h2, h3, h4, _⟩
  · omega
  · have hlt := (World.ownsRow.lt h.2 g (by rw [hv']; rfl)).2
    rw [hv'] at hv
    cases hv
    exact ⟨g, cap, hv', R, hc, h1, hlt, h4⟩
theorem OwnD.setCells {w : World} {B : Nat} {v : Value} {ls : List (List UInt8)} (h : OwnD w B v ls) (g o : Nat) (vs : List Value) (hg : g < B) : OwnD (w.setCells g o vs) B v ls := by
  refine ⟨h.1, World.ownsRow.kept h.2 (gro_setCells g vs o w) ?_⟩
  by_cases hv : v.ownBlock = none
  · exact .inl hv
  · refine .inr fun e => ?_
    have := (World.ownsRow.lt h.2 g e).1
    omega
/-- The first k of one's own row. -/
theorem OwnD.take {w : World} {B g n cap k : Nat} {ls : List (List UInt8)} (h : OwnD w B (.slice (some ⟨g, 0, none⟩) n cap) ls) (hn : n = ls.length) (hk : k ≤ ls.length) : OwnD w B (.slice (some ⟨g, 0, none⟩) k cap) (ls.take k) := by
  subst hn
  obtain ⟨h32, h0, h⟩ := h
  have hf := flat_len h32
  have h32' : ∀ l ∈ ls.take k, l.length = 32 := fun l hl => h32 l (List.mem_of_mem_take hl)
  have hf' := flat_len h32'
  have hlt : (ls.take k).length = k := by rw [List.length_take]; omega
  refine ⟨h32', by rw [cellsB_length, hf', Nat.mul_comm], ?_⟩
  rcases h with ⟨h1, _⟩ | ⟨g', cap', cur, hv, h1, h2, h3, h4, h5, h6⟩
  · cases h1
  · cases hv
    refine .inr ⟨g, cap, cur, by rw [hlt], h1, h2, by omega, h4, h5, ?_⟩
    have : cur.toList.take (k * 32) = (cur.toList.take (ls.length * 32)).take (k * 32) := by rw [List.take_take, Nat.min_eq_left (by omega)]
    rw [hlt, this, h6]
    have e : ls.flatten = (ls.take k).flatten ++ (ls.drop k).flatten := by rw [← List.flatten_append, List.take_append_drop]
    rw [e, cellsB_append, List.take_left' (by rw [cellsB_length, hf', hlt, Nat.mul_comm])]
/-- 'append(v, ds...)', v the call's own row of digests, ds any slice of digests. -/
theorem wpList_append_digests_any {w : World} {ops : Array Oper} {rest : List Oper} {o : Oper} {a : Act} {Q : Exit → Act → World → Prop} (hgd : o.guard = none) (s x : Operand)
    (ho : o.op = .call { callee := .builtin .append, args := #[s, x], argTypes := #[41, 41] })
    (base : Nat) (v : Value) (ls : List (List UInt8)) (hs : a.eval s = v) (hown : OwnD w base v ls)
    (ad : Option Addr) (n c : Nat) (ds : List (List UInt8)) (hx : a.eval x = .slice ad n c) (hr : DRow w ad n ds) (h47 : (ls.length + n) * 32 ≤ 140737488355328) (hbase : base ≤ w.heap.size)
    (h : ∀ v' w', OwnD w' base v' (ls ++ ds) → w.grownBy w' v.ownBlock → (v'.ownBlock = v.ownBlock ∨ v'.ownBlock = some w.heap.size) → wpList Tryd.prog ops Q rest (a.put o.dst v') w') : wpList Tryd.prog ops Q (o :: rest) a w := by
  obtain ⟨i0, hi, hz0, hz1, hz2⟩ := info_parts Tryd.infoDg
  by_cases hn : 0 < n
  · obtain ⟨b, off, rfl⟩ := hr.addr hn
    exact wpList_append_digests hgd s x ho base v ls hs hown ⟨b, off, none⟩ n c ds hx hr hn h47 hbase h
  · have h0 : n = 0 := by omega
    subst h0
    have hd : ds = [] := List.eq_nil_of_length_eq_zero hr.1
    subst hd
    cases ad with
    | none =>
      have hrun := run_append_nothing (P := Tryd.prog) w base 41 o.type 23 i0 32 Tryd.underlying41 hi v ls.length c (cellsB ls.flatten) hown.2
      refine wpList_plain hgd fun K hK' => ?_
      unfold Oper.wp
      simp [execOp, ho, resolve, invoke, builtin, hs, hx, hrun, Result.andThen]
      exact hK' _ _ (h v w (by rw [List.append_nil]; exact hown) (World.grownBy.refl _ _) (.inl rfl))
    | some ad =>
      refine wpList_append_own_at w hgd s x 41 ho base 23 i0 (.agg zeros32) 32 32 Tryd.underlying41 hi hz0 hz1 hz2 rfl (by decide) v ls.length (cellsB ls.flatten) hs hown.2 ad 0 c [] hx (by simp) (fun j u hj => by simp at hj) (fun u hu => by cases hu) (by unfold maxLen; omega) h47 hbase ?_
      intro v' w' hown' hgrow _ hat
      refine h v' w' ⟨?_, ?_⟩ hgrow hat
      · rw [List.append_nil]; exact hown.1
      · rw [List.append_nil]
        simpa using hown'
end Go.Proofs.YtghiniaijobonaaDoor
/- copy of digests into cells that are there; a new slice of digests. -/
namespace Go.Proofs.YtghiniaijobonaaDoor
open Go.RowKit
set_option linter.unusedVariables false
set_option linter.unusedSimpArgs false

theorem own_there {w : World} {B g n cap size : Nat} {e : TypeId} {xs : List Value} (h : w.ownsRow B e size (.slice (some ⟨g, 0, none⟩) n cap) n xs) : w.there g 0 (n * size) := by
  intro j hj
  have hl := h.1
  rw [Nat.zero_add, World.ownsRow.cellAt h j hj, World.ownsRow.frozenAt h j, List.getElem?_eq_getElem (by omega)]
  exact ⟨rfl, rfl⟩
theorem DRow.flat {w : World} {b o n : Nat} {ls : List (List UInt8)} (h : DRow w (some ⟨b, o, none⟩) n ls) : DAt w b o ls.flatten := by
  refine DAt.mk fun j hj => ?_
  rw [flat_len h.2.1, h.1] at hj
  have hi : j / 32 < n := by omega
  have hd := h.at (j / 32) hi
  have hl := h.len (j / 32) hi
  have := hd.cell (j % 32) (by omega)
  rw [show o + j / 32 * 32 + j % 32 = o + j by omega] at this
  rw [this, ← nth_flat h.2.1 (j / 32) (j % 32) (by rw [h.1]; exact hi) (by omega), show 32 * (j / 32) + j % 32 = j by omega]
theorem DRow.ofFlat {w : World} {b o : Nat} {ls : List (List UInt8)} (h32 : ∀ l ∈ ls, l.length = 32) (h : DAt w b o ls.flatten) : DRow w (some ⟨b, o, none⟩) ls.length ls := by
  refine ⟨rfl, h32, .inr ⟨b, o, rfl, fun i hi => DAt.mk fun j hj => ?_⟩⟩
  have hlen : (ls.getD i []).length = 32 := by
    rw [List.getD_eq_getElem?_getD, List.getElem?_eq_getElem hi]
    exact h32 _ (List.getElem_mem _)
  rw [hlen] at hj
  have := h.cell (32 * i + j) (by rw [flat_len h32]; omega)
  rw [show o + (32 * i + j) = o + 32 * i + j by omega, nth_flat h32 i j hi hj] at this
  exact this
/-- Two writes, one behind the other, into one block. -/
theorem dat_two {w : World} {b o : Nat} {x y : List UInt8} (ht : w.there b o (x.length + y.length)) : DAt ((w.setCells b o (cellsB x)).setCells b (o + x.length) (cellsB y)) b o (x ++ y) := by
  refine DAt.mk fun i hi => ?_
  rw [List.length_append] at hi
  have h1 : ∀ j, j < (cellsB x).length → (w.cell? ⟨b, o + j, none⟩).isSome = true := fun j hj => (ht j (by rw [cellsB_length] at hj; omega)).1
  have h2 : ∀ j, j < (cellsB y).length → ((w.setCells b o (cellsB x)).cell? ⟨b, o + x.length + j, none⟩).isSome = true := fun j hj => by
    rw [cellsB_length] at hj
    rw [World.cell?_setCells_out _ _ _ _ _ (fun _ _ => Or.inr (by show o + (cellsB x).length ≤ o + x.length + j; rw [cellsB_length]; omega))]
    have := (ht (x.length + j) (by omega)).1
    rwa [show o + (x.length + j) = o + x.length + j by omega] at this
  by_cases c : i < x.length
  · rw [World.cell?_setCells_out _ _ _ _ _ (fun _ _ => Or.inl (by show o + i < o + x.length; omega)), World.cell?_setCells_in b (cellsB x) o w h1 i (by rw [cellsB_length]; exact c)]
    have e := cellsB_at x i c
    rw [List.getElem?_eq_getElem (by rw [cellsB_length]; exact c)] at e
    rw [e]
    unfold nth
    simp only [List.getD_eq_getElem?_getD, List.getElem?_append_left c]
  · have hj : i - x.length < y.length := by omega
    have := World.cell?_setCells_in b (cellsB y) (o + x.length) _ h2 (i - x.length) (by rw [cellsB_length]; exact hj)
    rw [show o + x.length + (i - x.length) = o + i by omega] at this
    rw [this]
    have e := cellsB_at y (i - x.length) hj
    rw [List.getElem?_eq_getElem (by rw [cellsB_length]; exact hj)] at e
    rw [e]
    unfold nth
    simp only [List.getD_eq_getElem?_getD, List.getElem?_append_right (show x.length ≤ i by omega)]
theorem run_copy_wide {P : Program} (w : World) (dT sT ty elem : TypeId) (size b o dLen dCap : Nat) (a : Addr) (n sCap : Nat) (cs : List Value)
    (hu : P.underlying dT = some (.slice elem)) (hs : (P.info? elem).map (·.size) = some size) (hn : n ≤ dLen) (hl : cs.length = n * size)
    (hsrc : ∀ j v, cs[j]? = some v → w.cell? (a.add j) = some v) (hc : w.there b o cs.length) (h1 : ∀ v ∈ cs, v.oneCell' = true) :
    (Builtin.copy_ #[dT, sT] ty #[.slice (some ⟨b, o, none⟩) dLen dCap, .slice (some a) n sCap]).run P w = .ok (goInt n) (w.setCells b o cs) := by
  have hld := run_loadCells_list (P := P) w a cs hsrc
  have hst := run_storeCells_cells (P := P) b o cs 0 w (fun j hj => (hc j hj).1) (fun j hj => (hc j hj).2) h1
  have hm : Nat.min n dLen = n := Nat.min_eq_left hn
  cases hq : P.info? elem with
  | none => simp [hq] at hs
  | some i =>
    have hi : i.size = size := by simpa [hq] using hs
    simp [Builtin.copy_, run_underlying hu, Builtin.lenOf, Builtin.firstCells, sizeOf, typeInfo, hq, hi, hm, ← hl, hld, hst]
theorem run_copy_zero {P : Program} (w : World) (dT sT ty elem : TypeId) (size : Nat) (d : Addr) (a : Option Addr) (dLen dCap sCap : Nat) (hu : P.underlying dT = some (.slice elem)) (hs : (P.info? elem).map (·.size) = some size) :
    (Builtin.copy_ #[dT, sT] ty #[.slice (some d) dLen dCap, .slice a 0 sCap]).run P w = .ok (goInt 0) w := by
  have hm : Nat.min 0 dLen = 0 := Nat.min_eq_left (Nat.zero_le _)
  cases hq : P.info? elem with
  | none => simp [hq] at hs
  | some i =>
    have hl : ∀ (x : Addr), (loadCells x 0).run P w = .ok #[] w := fun x => by simpa using run_loadCells_list (P := P) w x [] (by simp)
    cases a <;> simp [Builtin.copy_, run_underlying hu, Builtin.lenOf, Builtin.firstCells, sizeOf, typeInfo, hq, hm, storeCells, hl]
/-- 'copy(d, s)', s any slice of digests, d longer. -/
theorem wpList_copy_digests {w : World} {ops : Array Oper} {rest : List Oper} {o : Oper} {a : Act} {Q : Exit → Act → World → Prop} (hgd : o.guard = none) (d s : Operand)
    (ho : o.op = .call { callee := .builtin .copy, args := #[d, s], argTypes := #[41, 41] })
    (b off dLen dCap : Nat) (hd : a.eval d = .slice (some ⟨b, off, none⟩) dLen dCap) (ad : Option Addr) (n c : Nat) (ls : List (List UInt8)) (hs : a.eval s = .slice ad n c) (R : DRow w ad n ls) (hm : n ≤ dLen) (ht : w.there b off (n * 32))
    (h : wpList Tryd.prog ops Q rest (a.put o.dst (.int .i64 (n : Int))) (w.setCells b off (cellsB ls.flatten))) : wpList Tryd.prog ops Q (o :: rest) a w := by
  have hlen : (cellsB ls.flatten).length = n * 32 := by rw [cellsB_length, flat_len R.2.1, R.1]; omega
  refine wpList_plain hgd fun K hK => ?_
  by_cases h0 : n = 0
  · subst h0
    have hz : ls = [] := List.eq_nil_of_length_eq_zero R.1
    subst hz
    have hrun := run_copy_zero (P := Tryd.prog) w 41 41 o.type 23 32 ⟨b, off, none⟩ ad dLen dCap c Tryd.underlying41 Tryd.sizeDg
    unfold Oper.wp
    simp [execOp, ho, resolve, invoke, builtin, hd, hs, hrun, Result.andThen]
    exact hK _ _ h
  · obtain ⟨sb, so, rfl⟩ := R.addr (by omega)
    have hf := R.flat
    have hrun := run_copy_wide (P := Tryd.prog) w 41 41 o.type 23 32 b off dLen dCap ⟨sb, so, none⟩ n c (cellsB ls.flatten) Tryd.underlying41 Tryd.sizeDg hm hlen (fun j v hj => by
      rw [Addr.add_mid]
      exact hf j v hj) (by rw [hlen]; exact ht) (cellsB_one _)
    unfold Oper.wp
    simp [execOp, ho, resolve, invoke, builtin, hd, hs, hrun, Result.andThen]
    exact hK _ _ h
end Go.Proofs.YtghiniaijobonaaDoor
