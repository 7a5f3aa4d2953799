/- Texts of this claim, joined: Sigk, Mac, Chain, Wots. -/
import Derived.Test.YtoamjbahikpdbaaDoorJ15
import Derived.Test.YtoamjbahikpdbaaDoorJ02
/- Signatures in memory: plain facts. -/
namespace Go.Proofs.YtoamjbahikpdbaaDoor
open Go.RowKit
set_option linter.unusedVariables false
set_option linter.unusedSimpArgs false

theorem Tryd.zeroSg : (Tryd.prog.info? 43).map (·.zero) = some (some (.agg #[.int .i64 0, .slice none 0 0, .slice none 0 0])) := by kernel_rfl
theorem Tryd.sizeSg : (Tryd.prog.info? 43).map (·.size) = some 3 := by kernel_rfl
theorem sig_one (m : Int) (a1 : Option Addr) (n1 c1 : Nat) (a2 : Option Addr) (n2 c2 : Nat) : (#[Value.int .i64 m, .slice a1 n1 c1, .slice a2 n2 c2] : Array Value).all (·.oneCell') = true :=
  all_oneCell_toArray (fun v hv => by
    simp only [List.mem_cons, List.not_mem_nil, or_false] at hv
    rcases hv with rfl | rfl | rfl <;> rfl)
theorem dat_grs {w w' : World} {b o g : Nat} {l : List UInt8} (h : DAt w b o l) (hg : w.grownBy w' (some g)) (hb : b < w.heap.size) (hne : b ≠ g) : DAt w' b o l := by
  have hk := hg.block b hb (by intro e; exact hne (Option.some.inj e))
  intro j v hj
  exact (World.cell?_of_block (w := w) (a := ⟨b, o + j, none⟩) hk).trans (h j v hj)
theorem below_grs {B g : Nat} {w0 w w' : World} (h : Below B w0 w) (hg : w.grownBy w' (some g)) (hB : B ≤ w.heap.size) (hb : B ≤ g) : Below B w0 w' := h.grown hg hB (fun k e => by cases e; exact hb)
theorem range_grs {w w' : World} {b o g : Nat} {vs : List Value} (h : w.rangeAt b o vs) (hg : w.grownBy w' (some g)) (hb : b < w.heap.size) (hne : b ≠ g) : w'.rangeAt b o vs := by
  have hk := hg.block b hb (by intro e; exact hne (Option.some.inj e))
  intro j v hj
  exact (World.cell?_of_block (w := w) (a := ⟨b, o + j, none⟩) hk).trans (h j v hj)
theorem range_three {w : World} {b : Nat} {x y z : Value} (h : w.rangeAt b 0 [x, y, z]) : w.cell? ⟨b, 0, none⟩ = some x ∧ w.cell? ⟨b, 1, none⟩ = some y ∧ w.cell? ⟨b, 2, none⟩ = some z := ⟨h 0 _ rfl, h 1 _ rfl, h 2 _ rfl⟩
theorem grs_trans {w w1 w2 : World} {r : Option Nat} (h : w.grownBy w1 r) (k : w1.grownBy w2 r) : w.grownBy w2 r :=
  ⟨k.os.trans h.os, k.tape.trans h.tape, k.output.trans h.output, Nat.le_trans h.size k.size, fun i hi hne => (k.block i (Nat.lt_of_lt_of_le hi h.size) hne).trans (h.block i hi hne)⟩
theorem grs_below {w w' : World} (h : Below w.heap.size w w') (r : Option Nat) : w.grownBy w' r := ⟨h.os, h.tape, h.output, h.size, fun i hi _ => h.block i hi⟩
/-- One cell of three set anew. -/
theorem range_put0 {w : World} {b : Nat} {x y z : Value} (h : w.rangeAt b 0 [x, y, z]) (u : Value) : (w.setCell ⟨b, 0, none⟩ u).rangeAt b 0 [u, y, z] := by
  intro j v hj
  match j, hj with
  | 0, hj => cases hj; exact World.cell?_setCell_same _ _ _ (h 0 _ rfl)
  | 1, hj => cases hj; rw [World.cell?_setCell_other _ _ _ _ (by simp)]; exact h 1 _ rfl
  | 2, hj => cases hj; rw [World.cell?_setCell_other _ _ _ _ (by simp)]; exact h 2 _ rfl
  | k + 3, hj => cases hj
end Go.Proofs.YtoamjbahikpdbaaDoor
/- Plain definitions for digests with keys: no theorem of the program yet. -/
namespace Go.Proofs.YtoamjbahikpdbaaDoor
open Go.RowKit
set_option linter.unusedVariables false
set_option linter.unusedSimpArgs false
def xorB (k : List UInt8) (i : Nat) (x : UInt8) : UInt8 := k.getD i 0 ^^^ x
/-- The first bytes of a key, each unlike x. -/
def padX (k : List UInt8) (x : UInt8) (n : Nat) : List UInt8 := (List.range n).map fun i => xorB k i x
theorem padX_length (k : List UInt8) (x : UInt8) (n : Nat) : (padX k x n).length = n := by simp [padX]
theorem padX_succ (k : List UInt8) (x : UInt8) (n : Nat) : padX k x n ++ [xorB k n x] = padX k x (n + 1) := by
  unfold padX; rw [List.range_succ, List.map_append]; rfl
def keyL (key : List UInt8) : List UInt8 := if 64 < key.length then shaL key else key
def macL (key b : List UInt8) : List UInt8 := shaL (padX (keyL key) 92 64 ++ shaL (padX (keyL key) 54 64 ++ b))
theorem macL_length (key b : List UInt8) : (macL key b).length = 32 := shaL_length _
theorem xor_byte (k : List UInt8) (i : Nat) (x : UInt8) : bits .xor .u8 (nth k i) (x.toNat : Int) = (((xorB k i x).toNat : Nat) : Int) := by
  unfold nth xorB
  have a := (k.getD i 0).toNat_lt
  have b := x.toNat_lt
  rw [u8_xor_nat _ _ (by omega) (by omega), UInt8.toNat_xor]
theorem nth_out (k : List UInt8) (i : Nat) (h : k.length ≤ i) : nth k i = 0 := by
  unfold nth
  rw [List.getD_eq_getElem?_getD, List.getElem?_eq_none h]
  rfl
/-- The k-th digest of an expansion, and the first k of them. -/
def expT (key info : List UInt8) : Nat → List UInt8
  | 0 => []
  | k + 1 => macL key (expT key info k ++ info ++ [UInt8.ofNat (k + 1)])
def outTo (key info : List UInt8) : Nat → List UInt8
  | 0 => []
  | k + 1 => outTo key info k ++ expT key info (k + 1)
def expL (key info : List UInt8) (n : Nat) : List UInt8 := (outTo key info ((n + 31) / 32)).take n
theorem expT_length (key info : List UInt8) (k : Nat) : (expT key info (k + 1)).length = 32 := macL_length _ _
theorem expT_le (key info : List UInt8) : ∀ k, (expT key info k).length ≤ 32
  | 0 => by simp [expT]
  | k + 1 => by rw [expT_length]; omega
theorem outTo_length (key info : List UInt8) : ∀ k, (outTo key info k).length = 32 * k
  | 0 => rfl
  | k + 1 => by rw [outTo, List.length_append, outTo_length key info k, expT_length]; omega
theorem expL_length (key info : List UInt8) (n : Nat) : (expL key info n).length = n := by
  unfold expL
  rw [List.length_take, outTo_length]
  omega
end Go.Proofs.YtoamjbahikpdbaaDoor
/- Plain definitions for chains: no theorem of the program yet. -/
namespace Go.Proofs.YtoamjbahikpdbaaDoor
open Go.RowKit
set_option linter.unusedVariables false
set_option linter.unusedSimpArgs false
def stepL (d : List UInt8) : List UInt8 := shaL (8 :: d)
def walkL (d : List UInt8) : Nat → List UInt8
  | 0 => d
  | k + 1 => stepL (walkL d k)
theorem walkL_length {d : List UInt8} (h : d.length = 32) : ∀ k, (walkL d k).length = 32
  | 0 => h
  | k + 1 => shaL_length _
theorem walkL_add (d : List UInt8) (i : Nat) : ∀ j, walkL d (i + j) = walkL (walkL d i) j
  | 0 => rfl
  | j + 1 => by rw [← Nat.add_assoc, walkL, walkL, walkL_add d i j]
end Go.Proofs.YtoamjbahikpdbaaDoor
/- Plain definitions for keys of chains: no theorem of the program yet. -/
namespace Go.Proofs.YtoamjbahikpdbaaDoor
open Go.RowKit
set_option linter.unusedVariables false
set_option linter.unusedSimpArgs false

/-- The i-th half byte of a digest, and what the first n of them lack of 15. -/
def nibL (m : List UInt8) (i : Nat) : Nat := if i % 2 = 1 then (m.getD (i / 2) 0).toNat % 16 else (m.getD (i / 2) 0).toNat / 16
theorem nibL_lt (m : List UInt8) (i : Nat) : nibL m i < 16 := by
  unfold nibL
  have := (m.getD (i / 2) 0).toNat_lt
  split <;> omega
def lackL (m : List UInt8) : Nat → Nat
  | 0 => 0
  | n + 1 => lackL m n + (15 - nibL m n)
theorem lackL_le (m : List UInt8) : ∀ n, lackL m n ≤ 15 * n
  | 0 => by simp [lackL]
  | n + 1 => by rw [lackL]; have := lackL_le m n; omega
/-- The i-th digit that a digest is signed by. -/
def digL (m : List UInt8) (i : Nat) : Nat := if i < 64 then nibL m i else if i = 64 then lackL m 64 / 256 else if i = 65 then lackL m 64 / 16 % 16 else lackL m 64 % 16
theorem digL_lt (m : List UInt8) (i : Nat) : digL m i < 16 := by
  unfold digL
  have h1 := nibL_lt m i
  have h2 := lackL_le m 64
  split
  · exact h1
  · split
    · omega
    · split <;> omega
theorem dig_sum (m : List UInt8) : lackL m 64 = digL m 64 * 256 + digL m 65 * 16 + digL m 66 := by
  unfold digL
  have h2 := lackL_le m 64
  simp
  omega
theorem lack_mono {a b : List UInt8} : ∀ n, (∀ i, i < n → nibL b i ≤ nibL a i) → lackL a n ≤ lackL b n ∧ (lackL a n = lackL b n → ∀ i, i < n → nibL a i = nibL b i)
  | 0, _ => ⟨Nat.le_refl _, fun _ i hi => by omega⟩
  | n + 1, h => by
    obtain ⟨h1, h2⟩ := lack_mono n (fun i hi => h i (by omega))
    have hn := h n (by omega)
    have ha := nibL_lt a n
    have hb := nibL_lt b n
    rw [lackL, lackL]
    refine ⟨by omega, fun e i hi => ?_⟩
    by_cases hin : i < n
    · exact h2 (by omega) i hin
    · obtain rfl : i = n := by omega
      omega
theorem nib_eq {a b : List UInt8} (ha : a.length = 32) (hb : b.length = 32) (h : ∀ i, i < 64 → nibL a i = nibL b i) : a = b := by
  refine nth_inj (by omega) fun j hj => ?_
  have e0 := h (2 * j) (by omega)
  have e1 := h (2 * j + 1) (by omega)
  unfold nibL at e0 e1
  rw [if_neg (by omega), if_neg (by omega), show 2 * j / 2 = j by omega] at e0
  rw [if_pos (by omega), if_pos (by omega), show (2 * j + 1) / 2 = j by omega] at e1
  unfold nth
  have : (a.getD j 0).toNat = (b.getD j 0).toNat := by omega
  rw [this]
/-- No digest is below another one. -/
theorem dig_apart {a b : List UInt8} (ha : a.length = 32) (hb : b.length = 32) (h : a ≠ b) : ∃ i, i < 67 ∧ digL b i < digL a i := by
  apply Classical.byContradiction
  intro hn
  have hle : ∀ i, i < 67 → digL a i ≤ digL b i := fun i hi => Nat.le_of_not_lt fun h' => hn ⟨i, hi, h'⟩
  have hnb : ∀ i, i < 64 → nibL a i ≤ nibL b i := fun i hi => by
    have := hle i (by omega)
    unfold digL at this
    rw [if_pos hi, if_pos hi] at this
    exact this
  obtain ⟨h1, h2⟩ := lack_mono (a := b) (b := a) 64 hnb
  have s1 := dig_sum a
  have s2 := dig_sum b
  have d4 := hle 64 (by omega)
  have d5 := hle 65 (by omega)
  have d6 := hle 66 (by omega)
  have e : lackL b 64 = lackL a 64 := by omega
  exact h (nib_eq ha hb fun i hi => (h2 e i hi).symm)
def wotsSecL (seed : List UInt8) (i : Nat) : List UInt8 := macL seed [5, UInt8.ofNat i]
theorem wotsSecL_length (seed : List UInt8) (i : Nat) : (wotsSecL seed i).length = 32 := macL_length _ _
def wotsEndsL (seed : List UInt8) (n : Nat) : List (List UInt8) := (List.range n).map fun i => walkL (wotsSecL seed i) 15
def wotsPubL (seed : List UInt8) : List UInt8 := shaL (7 :: (wotsEndsL seed 67).flatten)
def wotsSigL (seed m : List UInt8) (n : Nat) : List (List UInt8) := (List.range n).map fun i => walkL (wotsSecL seed i) (digL m i)
def wotsToldL (m : List UInt8) (sig : List (List UInt8)) (n : Nat) : List (List UInt8) := (List.range n).map fun i => walkL (sig.getD i []) (15 - digL m i)
def wotsKeyL (m : List UInt8) (sig : List (List UInt8)) : List UInt8 := shaL (7 :: (wotsToldL m sig 67).flatten)
theorem getD_map_range (f : Nat → List UInt8) (n i : Nat) (h : i < n) : ((List.range n).map f).getD i [] = f i := by
  simp [List.getD_eq_getElem?_getD, h]
theorem wotsKey_signed (seed m : List UInt8) : wotsKeyL m (wotsSigL seed m 67) = wotsPubL seed := by
  have e : wotsToldL m (wotsSigL seed m 67) 67 = wotsEndsL seed 67 := by
    unfold wotsToldL wotsEndsL
    refine List.map_congr_left fun i hi => ?_
    have hi' : i < 67 := List.mem_range.1 hi
    have hd := digL_lt m i
    unfold wotsSigL
    rw [getD_map_range _ _ _ hi', ← walkL_add, show digL m i + (15 - digL m i) = 15 by omega]
  unfold wotsKeyL wotsPubL
  rw [e]
/-- Two that come to one, and nowhere do two unlike ones have one step: they were one. -/
theorem walk_back {x y : List UInt8} : ∀ n, walkL x n = walkL y n → (∀ k, k < n → ¬ (walkL x k ≠ walkL y k ∧ walkL x (k + 1) = walkL y (k + 1))) → x = y
  | 0, h, _ => h
  | n + 1, h, hno => by
    have hn := hno n (by omega)
    have e : walkL x n = walkL y n := Classical.byContradiction fun h' => hn ⟨h', h⟩
    exact walk_back n e fun k hk => hno k (by omega)
/-- Whoever signs another digest shows a digest ahead of what was shown, or two with one step, or ends that differ. -/
theorem wotsForged (seed m o : List UInt8) (sig : List (List UInt8)) (hm : m.length = 32) (ho : o.length = 32) (h : m ≠ o)
    (h1 : ∀ i, i < 67 → digL o i < digL m i → walkL (sig.getD i []) (digL m i - digL o i) ≠ walkL (wotsSecL seed i) (digL m i))
    (h2 : ∀ i, i < 67 → ∀ k, k < 15 - digL o i → ¬ (walkL (walkL (wotsSecL seed i) (digL o i)) k ≠ walkL (sig.getD i []) k ∧ walkL (walkL (wotsSecL seed i) (digL o i)) (k + 1) = walkL (sig.getD i []) (k + 1))) :
    wotsEndsL seed 67 ≠ wotsToldL o sig 67 := by
  obtain ⟨i, hi, hd⟩ := dig_apart hm ho h
  intro e
  have lm := digL_lt m i
  have e2 := congrArg (fun l => l.getD i []) e
  simp only [wotsEndsL, wotsToldL] at e2
  rw [getD_map_range _ _ _ hi, getD_map_range _ _ _ hi] at e2
  rw [show 15 = digL o i + (15 - digL o i) by omega, walkL_add, show digL o i + (15 - digL o i) - digL o i = 15 - digL o i by omega] at e2
  have e3 := walk_back (15 - digL o i) e2 (h2 i hi)
  refine h1 i hi hd ?_
  rw [← e3, ← walkL_add, show digL o i + (digL m i - digL o i) = digL m i by omega]
end Go.Proofs.YtoamjbahikpdbaaDoor
