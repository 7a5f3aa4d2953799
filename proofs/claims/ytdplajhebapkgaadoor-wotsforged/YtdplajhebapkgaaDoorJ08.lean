/- Texts of this claim, joined: Roncep, Chain, Wots, Rwalk. -/
import Derived.Test.YtdplajhebapkgaaDoorJ07
import Derived.Test.YtdplajhebapkgaaDoorJ01
import Derived.Test.YtdplajhebapkgaaDoorJ03
import Derived.Test.YtdplajhebapkgaaDoorJ06
/- The contract of oathbookref1.OncePublic. -/
namespace Go.Proofs.YtdplajhebapkgaaDoor
open Go.RowKit
set_option linter.unusedVariables false
set_option linter.unusedSimpArgs false

theorem half_int (k : Nat) : (k : Int).tdiv 2 = ((k / 2 : Nat) : Int) ∧ (k : Int) / 2 = ((k / 2 : Nat) : Int) ∧ (k : Int).tmod 2 = ((k % 2 : Nat) : Int) ∧ (k : Int) % 2 = ((k % 2 : Nat) : Int) := by
  refine ⟨by rw [Int.tdiv_eq_ediv_of_nonneg (by omega)]; omega, by omega, by rw [Int.tmod_eq_emod_of_nonneg (by omega)]; omega, by omega⟩

end Go.Proofs.YtdplajhebapkgaaDoor
/- Plain definitions for chains: no theorem of the program yet. -/
namespace Go.Proofs.YtdplajhebapkgaaDoor
open Go.RowKit
set_option linter.unusedVariables false
set_option linter.unusedSimpArgs false
def stepL (d : List UInt8) : List UInt8 := shaL (8 :: d)
def walkL (d : List UInt8) : Nat → List UInt8
  | 0 => d
  | k + 1 => stepL (walkL d k)
theorem walkL_length {d : List UInt8} (h : d.length = 32) : ∀ k, (walkL d k).length = 32
  | 0 => h
  | k + 1 => shaL_length _
theorem walkL_add (d : List UInt8) (i : Nat) : ∀ j, walkL d (i + j) = walkL (walkL d i) j
  | 0 => rfl
  | j + 1 => by rw [← Nat.add_assoc, walkL, walkL, walkL_add d i j]
end Go.Proofs.YtdplajhebapkgaaDoor
/- Plain definitions for keys of chains: no theorem of the program yet. -/
namespace Go.Proofs.YtdplajhebapkgaaDoor
open Go.RowKit
set_option linter.unusedVariables false
set_option linter.unusedSimpArgs false

/-- The i-th half byte of a digest, and what the first n of them lack of 15. -/
def nibL (m : List UInt8) (i : Nat) : Nat := if i % 2 = 1 then (m.getD (i / 2) 0).toNat % 16 else (m.getD (i / 2) 0).toNat / 16
theorem nibL_lt (m : List UInt8) (i : Nat) : nibL m i < 16 := by
  unfold nibL
  have := (m.getD (i / 2) 0).toNat_lt
  split <;> omega
def lackL (m : List UInt8) : Nat → Nat
  | 0 => 0
  | n + 1 => lackL m n + (15 - nibL m n)
theorem lackL_le (m : List UInt8) : ∀ n, lackL m n ≤ 15 * n
  | 0 => by simp [lackL]
  | n + 1 => by rw [lackL]; have := lackL_le m n; omega
/-- The i-th digit that a digest is signed by. -/
def digL (m : List UInt8) (i : Nat) : Nat := if i < 64 then nibL m i else if i = 64 then lackL m 64 / 256 else if i = 65 then lackL m 64 / 16 % 16 else lackL m 64 % 16
theorem digL_lt (m : List UInt8) (i : Nat) : digL m i < 16 := by
  unfold digL
  have h1 := nibL_lt m i
  have h2 := lackL_le m 64
  split
  · exact h1
  · split
    · omega
    · split <;> omega
theorem dig_sum (m : List UInt8) : lackL m 64 = digL m 64 * 256 + digL m 65 * 16 + digL m 66 := by
  unfold digL
  have h2 := lackL_le m 64
  simp
  omega
theorem lack_mono {a b : List UInt8} : ∀ n, (∀ i, i < n → nibL b i ≤ nibL a i) → lackL a n ≤ lackL b n ∧ (lackL a n = lackL b n → ∀ i, i < n → nibL a i = nibL b i)
  | 0, _ => ⟨Nat.le_refl _, fun _ i hi => by omega⟩
  | n + 1, h => by
    obtain ⟨h1, h2⟩ := lack_mono n (fun i hi => h i (by omega))
    have hn := h n (by omega)
    have ha := nibL_lt a n
    have hb := nibL_lt b n
    rw [lackL, lackL]
    refine ⟨by omega, fun e i hi => ?_⟩
    by_cases hin : i < n
    · exact h2 (by omega) i hin
    · obtain rfl : i = n := by omega
      omega
theorem nib_eq {a b : List UInt8} (ha : a.length = 32) (hb : b.length = 32) (h : ∀ i, i < 64 → nibL a i = nibL b i) : a = b := by
  refine nth_inj (by omega) fun j hj => ?_
  have e0 := h (2 * j) (by omega)
  have e1 := h (2 * j + 1) (by omega)
  unfold nibL at e0 e1
  rw [if_neg (by omega), if_neg (by omega), show 2 * j / 2 = j by omega] at e0
  rw [if_pos (by omega), if_pos (by omega), show (2 * j + 1) / 2 = j by omega] at e1
  unfold nth
  have : (a.getD j 0).toNat = (b.getD j 0).toNat := by omega
  rw [this]
/-- No digest is below another one. -/
theorem dig_apart {a b : List UInt8} (ha : a.length = 32) (hb : b.length = 32) (h : a ≠ b) : ∃ i, i < 67 ∧ digL b i < digL a i := by
  apply Classical.byContradiction
  intro hn
  have hle : ∀ i, i < 67 → digL a i ≤ digL b i := fun i hi => Nat.le_of_not_lt fun h' => hn ⟨i, hi, h'⟩
  have hnb : ∀ i, i < 64 → nibL a i ≤ nibL b i := fun i hi => by
    have := hle i (by omega)
    unfold digL at this
    rw [if_pos hi, if_pos hi] at this
    exact this
  obtain ⟨h1, h2⟩ := lack_mono (a := b) (b := a) 64 hnb
  have s1 := dig_sum a
  have s2 := dig_sum b
  have d4 := hle 64 (by omega)
  have d5 := hle 65 (by omega)
  have d6 := hle 66 (by omega)
  have e : lackL b 64 = lackL a 64 := by omega
  exact h (nib_eq ha hb fun i hi => (h2 e i hi).symm)
def wotsSecL (seed : List UInt8) (i : Nat) : List UInt8 := macL seed [5, UInt8.ofNat i]
theorem wotsSecL_length (seed : List UInt8) (i : Nat) : (wotsSecL seed i).length = 32 := macL_length _ _
def wotsEndsL (seed : List UInt8) (n : Nat) : List (List UInt8) := (List.range n).map fun i => walkL (wotsSecL seed i) 15
def wotsPubL (seed : List UInt8) : List UInt8 := shaL (7 :: (wotsEndsL seed 67).flatten)
def wotsSigL (seed m : List UInt8) (n : Nat) : List (List UInt8) := (List.range n).map fun i => walkL (wotsSecL seed i) (digL m i)
def wotsToldL (m : List UInt8) (sig : List (List UInt8)) (n : Nat) : List (List UInt8) := (List.range n).map fun i => walkL (sig.getD i []) (15 - digL m i)
def wotsKeyL (m : List UInt8) (sig : List (List UInt8)) : List UInt8 := shaL (7 :: (wotsToldL m sig 67).flatten)
theorem getD_map_range (f : Nat → List UInt8) (n i : Nat) (h : i < n) : ((List.range n).map f).getD i [] = f i := by
  simp [List.getD_eq_getElem?_getD, h]
theorem wotsKey_signed (seed m : List UInt8) : wotsKeyL m (wotsSigL seed m 67) = wotsPubL seed := by
  have e : wotsToldL m (wotsSigL seed m 67) 67 = wotsEndsL seed 67 := by
    unfold wotsToldL wotsEndsL
    refine List.map_congr_left fun i hi => ?_
    have hi' : i < 67 := List.mem_range.1 hi
    have hd := digL_lt m i
    unfold wotsSigL
    rw [getD_map_range _ _ _ hi', ← walkL_add, show digL m i + (15 - digL m i) = 15 by omega]
  unfold wotsKeyL wotsPubL
  rw [e]
/-- Two that come to one, and nowhere do two unlike ones have one step: they were one. -/
theorem walk_back {x y : List UInt8} : ∀ n, walkL x n = walkL y n → (∀ k, k < n → ¬ (walkL x k ≠ walkL y k ∧ walkL x (k + 1) = walkL y (k + 1))) → x = y
  | 0, h, _ => h
  | n + 1, h, hno => by
    have hn := hno n (by omega)
    have e : walkL x n = walkL y n := Classical.byContradiction fun h' => hn ⟨h', h⟩
    exact walk_back n e fun k hk => hno k (by omega)
/-- Whoever signs another digest shows a digest ahead of what was shown, or two with one step, or ends that differ. -/
theorem wotsForged (seed m o : List UInt8) (sig : List (List UInt8)) (hm : m.length = 32) (ho : o.length = 32) (h : m ≠ o)
    (h1 : ∀ i, i < 67 → digL o i < digL m i → walkL (sig.getD i []) (digL m i - digL o i) ≠ walkL (wotsSecL seed i) (digL m i))
    (h2 : ∀ i, i < 67 → ∀ k, k < 15 - digL o i → ¬ (walkL (walkL (wotsSecL seed i) (digL o i)) k ≠ walkL (sig.getD i []) k ∧ walkL (walkL (wotsSecL seed i) (digL o i)) (k + 1) = walkL (sig.getD i []) (k + 1))) :
    wotsEndsL seed 67 ≠ wotsToldL o sig 67 := by
  obtain ⟨i, hi, hd⟩ := dig_apart hm ho h
  intro e
  have lm := digL_lt m i
  have e2 := congrArg (fun l => l.getD i []) e
  simp only [wotsEndsL, wotsToldL] at e2
  rw [getD_map_range _ _ _ hi, getD_map_range _ _ _ hi] at e2
  rw [show 15 = digL o i + (15 - digL o i) by omega, walkL_add, show digL o i + (15 - digL o i) - digL o i = 15 - digL o i by omega] at e2
  have e3 := walk_back (15 - digL o i) e2 (h2 i hi)
  refine h1 i hi hd ?_
  rw [← e3, ← walkL_add, show digL o i + (digL m i - digL o i) = digL m i by omega]
end Go.Proofs.YtdplajhebapkgaaDoor
/- The contract of oathbookref1.Walked. -/
namespace Go.Proofs.YtdplajhebapkgaaDoor
open Go.RowKit
set_option linter.unusedVariables false
set_option linter.unusedSimpArgs false

theorem Tryd.infoDigest : (Tryd.prog.info? 23).map (fun i => (i.zero, i.size, i.bytes)) = some (some (.agg zeros32), 32, 32) := by kernel_rfl

set_option maxRecDepth 100000 in
set_option maxHeartbeats 1000000 in
theorem rwalk_any (d : List UInt8) (n : Nat) (w : World) (hd : d.length = 32) (hn : n ≤ 1000000) :
    Calls Tryd.prog 17 #[digestV d, .int .i64 (n : Int)] w fun e w' => e = .returned (digestV (walkL d n)) ∧ Below w.heap.size w w' := by
  obtain ⟨iD, hiD, hzD0, hzD1, hzD2⟩ := info_parts Tryd.infoDigest
  go_enter Tryd.func17, Tryd.ntmps17
  go_wp2
  go_loopw [5] (fun i wr => ∃ k : Nat, k ≤ n ∧ i = .int .i64 (k : Int) ∧ DAt wr w.heap.size 0 (walkL d k) ∧ wr.there w.heap.size 0 32 ∧ wr.there (w.heap.size + 1) 0 32 ∧ Below w.heap.size w wr ∧ w.heap.size + 1 < wr.heap.size) (fun i _ => n - (intOf i).toNat)
  case atStart =>
    have hb : Below (w.heap.size + 1) (w.alloc (.cells (cellsB d).toArray 23)) _ := (Below.refl _ _).alloc (by simp) (.cells zeros32 23)
    refine ⟨0, Nat.zero_le _, rfl, (box_dat w d _).below hb (Nat.lt_succ_self _), there_below (box_there w d _ hd) hb (Nat.lt_succ_self _), ?_, ((Below.refl _ _).alloc (Nat.le_refl _) _).alloc (by simp) _, by simp⟩
    have := there_new (w.alloc (.cells (cellsB d).toArray 23)) 23
    simpa using this
  case round =>
    obtain ⟨k, hk, rfl, hD, hT1, hT2, hB, hs⟩ := hrel
    have HD : Hid (DAt wr w.heap.size 0 (walkL d k)) := hD
    have HT1 : Hid (wr.there w.heap.size 0 32) := hT1
    have HT2 : Hid (wr.there (w.heap.size + 1) 0 32) := hT2
    have HL : Hid ((walkL d k).length = 32) := walkL_length hd k
    clear hD hT1 hT2
    by_cases hlt : k < n
    · have HS : Hid (walkL d (k + 1) = shaL (8 :: walkL d k)) := rfl
      generalize walkL d k = x at *
      go_wp2_with (first
        | (refine wpList_load_mid (by rfl) 23 (.tmp 2) (by rfl) w.heap.size 0 (by rfl) (cellsB x) _ HD.out Tryd.underlying23 (by rfl) (by rw [cellsB_length, HL.out]; kernel_rfl) ?_)
        | (refine wpList_build1 (by rfl) (.tmp 11) 24 (by rfl) 23 (.agg zeros32) iD x HL.out (by rfl) Tryd.underlying24 hiD hzD0 (by rfl) hzD1 ?_))
      refine (rof_any 8 _ _ _ [x] _ (DRow.lit1 wr x _ HL.out) (by omega)).mono ?_
      rintro e w4 ⟨rfl, hb4⟩
      have e1 : shaL (8 :: [x].flatten) = walkL d (k + 1) := by rw [HS.out]; simp
      rw [e1]
      have b4 : Below wr.heap.size wr w4 := below_trans ((Below.refl _ _).alloc (Nat.le_refl _) _) hb4
      have HL1 : Hid ((walkL d (k + 1)).length = 32) := walkL_length hd (k + 1)
      have t1 := there_below HT1.out b4 (by omega)
      have t2 := there_below HT2.out b4 hs
      have hs4 := b4.size
      have B4 := hB.trans (b4.mono (by omega))
      generalize hy : walkL d (k + 1) = y at *
      have HY : Hid (walkL d (k + 1) = y) := hy
      clear hy
      have HW1 : Hid (w4.there w.heap.size 0 32) := t1
      have HW2 : Hid (w4.there (w.heap.size + 1) 0 32) := t2
      clear e1 b4 hb4 hB t1 t2
      go_wp2_with (refine wpList_store_mid (by rfl) 23 (.tmp 2) (.tmp 13) (by rfl) w.heap.size 0 (cellsB y).toArray (by rfl) (by rfl) (by rw [cells32 HL1.out]; exact HW1.out) (by rw [cells32 HL1.out]; kernel_rfl) (all_oneCell_toArray (cellsB_one _)) ?_)
      go_roundw
      case rel =>
        have hz := (below_setCells (B := 0) w.heap.size (Nat.zero_le _) (cellsB y) 0 w4 (Below.refl 0 w4)).size
        exact ⟨k + 1, by omega, by go_num, by rw [HY.out]; exact dat_stored HW1.out HL1.out, World.there_setCells HW1.out _ _ _, World.there_setCells HW2.out _ _ _, below_setCells _ (Nat.le_refl _) _ _ _ B4, by omega⟩
      case measure => simp [intOf]; omega
    · obtain rfl : k = n := by omega
      generalize hx : walkL d k = x at *
      have HX : Hid (walkL d k = x) := hx
      clear hx
      go_wp2_with (first
        | (refine wpList_load_mid (by rfl) 23 (.tmp 2) (by rfl) w.heap.size 0 (by rfl) (cellsB x) _ HD.out Tryd.underlying23 (by rfl) (by rw [cellsB_length, HL.out]; kernel_rfl) ?_)
        | (refine wpList_store_mid (by rfl) 23 (.tmp 4) (.tmp 14) (by rfl) (w.heap.size + 1) 0 (cellsB x).toArray (by rfl) (by rfl) (by rw [cells32 HL.out]; exact HT2.out) (by rw [cells32 HL.out]; kernel_rfl) (all_oneCell_toArray (cellsB_one _)) ?_))
      refine bodyPost_ret (v := digestV x) (run_results_digest Tryd.results17 _ _ (w.heap.size + 1) 0 (by rfl) x (dat_stored HT2.out HL.out) _ Tryd.underlying23 (by rfl) (by rw [HL.out]; kernel_rfl)) rfl ⟨by rw [HX.out], ?_⟩
      exact below_setCells _ (Nat.le_succ _) _ _ _ hB
end Go.Proofs.YtdplajhebapkgaaDoor
