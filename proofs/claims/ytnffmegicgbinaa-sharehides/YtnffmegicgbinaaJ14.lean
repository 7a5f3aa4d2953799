/- Texts of this claim, joined: Wbytes, Sshares, Lsplit, Coeffp. -/
import Derived.Test.YtnffmegicgbinaaJ01
import Derived.Deep.QuietTactic
import Derived.BigQuiet
import Derived.Test.YtnffmegicgbinaaJ05
import Derived.Deep.RegionHeld3
import Derived.Deep.DeepCutAuto
import Derived.Test.YtnffmegicgbinaaJ13
import Derived.Test.YtnffmegicgbinaaJ07
import Derived.Test.YtnffmegicgbinaaJ04
/- The contract of oathbooksame.Bytes: it tells whether two slices read as one list. -/
namespace Go.Proofs.Ytnffmegicgbinaa
open Go.RowKit
set_option linter.unusedVariables false
set_option linter.unusedSimpArgs false

set_option maxHeartbeats 400000 in
theorem bytes_any (a1 a2 : Option Addr) (n1 n2 c1 c2 : Nat) (l1 l2 : List UInt8) (w : World) (h1 : Row w a1 n1 l1) (h2 : Row w a2 n2 l2) (hm : n1 ≤ 281474976710656) :
    Calls Try.prog 9 #[.slice a1 n1 c1, .slice a2 n2 c2] w fun e w' => e = .returned (.bool (decide (l1 = l2))) ∧ ∃ n, w' = w.drewN n := by
  obtain ⟨e1, k1⟩ := h1
  obtain ⟨e2, k2⟩ := h2
  by_cases hn : n1 = n2
  · subst hn
    have hne : ((n1 : Int) != (n1 : Int)) = false := by simp
    have HE : Hid (l1.length = n1 ∧ l2.length = n1) := ⟨e1, e2⟩
    clear e1 e2
    go_enter Try.func9, Try.ntmps9
    go_wp2
    go_loopw [5] (fun i wr => ∃ k nn : Nat, k ≤ n1 ∧ i = .int .i64 k ∧ wr = w.drewN nn ∧ ∀ j, j < k → nth l1 j = nth l2 j) (fun i _ => n1 - (intOf i).toNat)
    case atStart => exact ⟨0, 0, Nat.zero_le _, rfl, rfl, fun j hj => by omega⟩
    case round =>
      obtain ⟨k, nn, hk, rfl, rfl, hall⟩ := hrel
      have HA : Hid (∀ j, j < k → nth l1 j = nth l2 j) := hall
      clear hall
      by_cases hlt : k < n1
      · rcases k1 with k1 | ⟨b1, o1, rfl, k1⟩
        · omega
        rcases k2 with k2 | ⟨b2, o2, rfl, k2⟩
        · omega
        have g1 := k1 k hlt
        have g2 := k2 k hlt
        have hi : (0 : Int) ≤ (k : Int) := by omega
        have hj : (k : Int) < (n1 : Int) := by omega
        clear k1 k2
        by_cases hq : nth l1 k = nth l2 k
        · have HQ : Hid (nth l1 k = nth l2 k) := hq
          have hb : (nth l1 k != nth l2 k) = false := by simp [hq]
          clear hq
          go_wp2
          go_quiet (fail)
          go_wp2
          go_roundw
          case rel => exact ⟨k + 1, nn + nq, by omega, by go_num, rfl, fun j hj => by
            by_cases hjk : j = k
            · subst hjk; exact HQ.out
            · exact HA.out j (by omega)⟩
          case measure => simp [intOf]; omega
        · have HQ : Hid (¬ nth l1 k = nth l2 k) := hq
          have hb : (nth l1 k != nth l2 k) = true := by simp [hq]
          clear hq
          go_wp2
          go_quiet (fail)
          go_wp2
          go_ret
          exact ⟨ret_bool (by symm; rw [decide_eq_false_iff_not]; intro h; subst h; exact HQ.out rfl), nn + nq, by rw [drewN_add]⟩
      · go_wp2
        go_ret
        exact ⟨ret_bool (by
          have hE := HE.out
          symm
          rw [decide_eq_true_iff]
          exact nth_inj (by omega) fun j hj => HA.out j (by omega)), nn, rfl⟩
  · have hne : ((n1 : Int) != (n2 : Int)) = true := by simp; omega
    go_enter Try.func9, Try.ntmps9
    go_wp2
    go_ret
    exact ⟨ret_bool (by symm; rw [decide_eq_false_iff_not]; intro h; subst h; omega), 0, rfl⟩
end Go.Proofs.Ytnffmegicgbinaa
/- The contract of oathbooksame.Shares: it tells whether two slices of shares read as one list. -/
namespace Go.Proofs.Ytnffmegicgbinaa
open Go.RowKit
set_option linter.unusedVariables false
set_option linter.unusedSimpArgs false

theorem SRow.head {w : World} {b o n : Nat} {ss : List Shr} (R : SRow w (some ⟨b, o, none⟩) n ss) (i : Nat) (hi : i < n) : ∃ (ai : Option Addr) (ni ci : Nat), ni ≤ 140737488351232 ∧ (ss.getD i noS).1 < 256 ∧ ni ≤ ci ∧ ∀ wx, Below w.heap.size w wx → wx.cell? ⟨b, o + i * 2, none⟩ = some (.int .u8 ((ss.getD i noS).1 : Int)) ∧ wx.cell? ⟨b, o + i * 2 + 1, none⟩ = some (.slice ai ni ci) ∧ Row wx ai ni (ss.getD i noS).2 := by
  obtain ⟨hp, c0, ai, ni, ci, c1, h4, h5, hR⟩ := R.at i hi
  exact ⟨ai, ni, ci, h5, hp, h4, fun wx hb => ⟨(hb.cell (p := ⟨b, o + i * 2, none⟩) (cell_block c0)).trans c0, (hb.cell (p := ⟨b, o + i * 2 + 1, none⟩) (cell_block c1)).trans c1, hR.below hb⟩⟩
theorem shr_ext {ss ts : List Shr} {n : Nat} (h1 : ss.length = n) (h2 : ts.length = n) (h : ∀ j, j < n → ss.getD j noS = ts.getD j noS) : ss = ts := by
  apply List.ext_getElem (by omega)
  intro j a b
  have := h j (by omega)
  rw [List.getD_eq_getElem?_getD, List.getD_eq_getElem?_getD, List.getElem?_eq_getElem a, List.getElem?_eq_getElem b] at this
  exact this
end Go.Proofs.Ytnffmegicgbinaa
/- The laws' split: the program splits a byte as the document says. -/
namespace Go.Proofs.Ytnffmegicgbinaa
open Go.RowKit
set_option linter.unusedVariables false
set_option linter.unusedSimpArgs false

theorem row_first' {w : World} {a : Option Addr} {n : Nat} {l : List UInt8} (R : Row w a n l) (hn : 0 < n) : ∃ b o, a = some ⟨b, o, none⟩ ∧ w.cell? ⟨b, o, none⟩ = some (.int .u8 (nth l 0)) := by
  rcases R.2 with h | ⟨b, o, e, hc⟩
  · omega
  · exact ⟨b, o, e, hc 0 hn⟩
/-- A literal of one slice of bytes. -/
theorem rowsB_lit1 {w : World} {t : TypeId} {a : Option Addr} {n c : Nat} {l : List UInt8} (hc : n ≤ c) (hn : n ≤ 140737488351232) (R : Row w a n l) : BRowsB (w.alloc (.cells #[.slice a n c] t)) (some ⟨w.heap.size, 0, none⟩) 1 [l] := by
  refine ⟨⟨rfl, .inr ⟨_, 0, rfl, fun i hi => ?_⟩⟩, fun i hi => ?_⟩
  · have : i = 0 := by omega
    subst this
    refine ⟨a, n, c, ?_, hc, R.below ((Below.refl _ _).alloc (Nat.le_refl _) _)⟩
    have := cells_new w [.slice a n c] t 0
    exact this
  · have : i = 0 := by omega
    subst this
    show l.length ≤ _
    rw [R.1]
    exact hn
set_option maxRecDepth 100000 in
set_option maxHeartbeats 2000000 in
theorem lsplit_any (w : World) (G : Env w) :
    Calls Try.prog 6 #[] w fun r w' => r = .returned (.bool true) ∧ Below w.heap.size w w' := by
  obtain ⟨w1, hw1⟩ : ∃ w1, w.alloc (.cells #[.int .u8 9] 5) = w1 := ⟨_, rfl⟩
  obtain ⟨w2, hw2⟩ : ∃ w2, w1.alloc (.cells #[.int .u8 1] 5) = w2 := ⟨_, rfl⟩
  obtain ⟨w3, hw3⟩ : ∃ w3, w2.alloc (.cells #[.slice (some ⟨w.heap.size + 1, 0, none⟩) 1 1] 22) = w3 := ⟨_, rfl⟩
  have hs1 : w1.heap.size = w.heap.size + 1 := by rw [← hw1]; simp
  have hs2 : w2.heap.size = w.heap.size + 1 + 1 := by rw [← hw2]; simp [hs1]
  have b1 : Below w.heap.size w w1 := by rw [← hw1]; exact (Below.refl _ _).alloc (Nat.le_refl _) _
  have b12 : Below w1.heap.size w1 w2 := by rw [← hw2]; exact (Below.refl _ _).alloc (Nat.le_refl _) _
  have b23 : Below w2.heap.size w2 w3 := by rw [← hw3]; exact (Below.refl _ _).alloc (Nat.le_refl _) _
  have HB3 : Hid (Below w.heap.size w w3) := (b1.trans (b12.mono b1.size)).trans (b23.mono (by omega))
  have HR1 : Hid (Row w3 (some ⟨w.heap.size, 0, none⟩) 1 [9]) := by
    have r : Row w1 (some ⟨w.heap.size, 0, none⟩) 1 [9] := by rw [← hw1]; exact Row.lit1v w 9 _ 9 rfl
    exact (r.below b12).below b23
  have HR2 : Hid (BRowsB w3 (some ⟨w.heap.size + 1 + 1, 0, none⟩) 1 [[1]]) := by
    have r : Row w2 (some ⟨w.heap.size + 1, 0, none⟩) 1 [1] := by rw [← hw2, ← hs1]; exact Row.lit1v w1 1 _ 1 rfl
    rw [← hw3, ← hs2]
    exact rowsB_lit1 (Nat.le_refl _) (by omega) r
  have HW : Hid (((w.alloc (.cells #[.int .u8 9] 5)).alloc (.cells #[.int .u8 1] 5)).alloc (.cells #[.slice (some ⟨w.heap.size + 1, 0, none⟩) 1 1] 22) = w3) := by unfold Hid; rw [hw1, hw2, hw3]
  have HG : Hid (Env w3) := G.below HB3.out
  clear hw1 hw2 hw3 hs1 hs2 b1 b12 b23 G
  go_enter Try.func6, Try.ntmps6
  go_wp2_with fail
  rw [HW.out]
  refine (wshare_split (some ⟨w.heap.size, 0, none⟩) 1 1 [9] 2 (some ⟨w.heap.size + 1 + 1, 0, none⟩) 1 1 [[1]] w3 HG.out HR1.out (Nat.le_refl _) HR2.out (Nat.le_refl _) splitE_eleven).mono ?_
  rintro r w4 ⟨⟨a4, c4, rfl, hc4, r4⟩, hb4⟩
  have HB4 : Hid (Below w.heap.size w w4) := HB3.out.trans (hb4.mono HB3.out.size)
  rw [split_eleven] at r4
  obtain ⟨b, o, rfl⟩ := r4.addr (by omega)
  obtain ⟨ai, ni, ci, hni, _, hnc, HC⟩ := r4.head 1 (by omega)
  have q := HC w4 (Below.refl _ _)
  have k1 : w4.cell? ⟨b, o + 2, none⟩ = some (.int .u8 2) := q.1
  have R := q.2.2
  have hl : ni = 1 := R.1.symm
  subst hl
  obtain ⟨bi, oi, rfl, k3⟩ := row_first' R (by omega)
  have k2 : w4.cell? ⟨b, o + 3, none⟩ = some (.slice (some ⟨bi, oi, none⟩) 1 ci) := q.2.1
  have k4 : w4.cell? ⟨bi, oi, none⟩ = some (.int .u8 11) := k3
  clear HC q R k3 hb4 r4 HW HG HB3 HR1 HR2
  go_wp2_with fail
  go_ret
  exact ⟨rfl, HB4.out⟩
end Go.Proofs.Ytnffmegicgbinaa
/- Plain facts: Lagrange's coefficients, as they are reckoned in rows. -/
namespace Go.Proofs.Ytnffmegicgbinaa
open Go.RowKit
set_option linter.unusedVariables false
set_option linter.unusedSimpArgs false

theorem others_succ (A : Nat → Nat) (j i : Nat) : others A (j + 1) i = others A j i ++ (if j = i then [] else [A j]) := by
  unfold others
  rw [List.range_succ, List.filter_append, List.map_append]
  congr 1
  by_cases h : j = i
  · simp [h]
  · simp [h]
theorem mono_app (xs : List Nat) (a : Nat) : mono (xs ++ [a]) = nxt (mono xs) a := by simp [mono, List.foldl_append]
theorem others_zero (A : Nat → Nat) (i : Nat) : others A 0 i = [] := rfl
theorem mono_nil : mono [] = [1] := rfl
/-- The next row, behind k rounds. -/
def nxf (c : List Nat) (a k j : Nat) : Nat := (if 1 ≤ j ∧ j ≤ k then c.getD (j - 1) 0 else 0) ^^^ (if j < k then gm a (c.getD j 0) else 0)
theorem nxf_zero (c : List Nat) (a j : Nat) : nxf c a 0 j = 0 := by
  unfold nxf
  rw [if_neg (by omega), if_neg (by omega)]
  rfl
theorem nxf_lt {c : List Nat} (hc : bys c) (a k j : Nat) : nxf c a k j < 256 := by
  unfold nxf
  refine Nat.xor_lt_two_pow (n := 8) ?_ ?_
  · split
    · exact getD_bys hc _
    · omega
  · split
    · exact gm_lt _ _
    · omega
theorem nxf_top (c : List Nat) (a k : Nat) : nxf c a k (k + 1) = 0 := by
  unfold nxf
  rw [if_neg (by omega), if_neg (by omega)]
  rfl
theorem nxf_step (c : List Nat) (a k q : Nat) : nxf c a (k + 1) q = if q = k then nxf c a k k ^^^ gm (c.getD k 0) a else if q = k + 1 then c.getD k 0 else nxf c a k q := by
  by_cases h1 : q = k
  · subst h1
    rw [if_pos rfl]
    unfold nxf
    rw [if_pos (show q < q + 1 by omega), if_neg (show ¬ q < q by omega), Nat.xor_zero, gm_comm a]
    congr 1
    by_cases h : 1 ≤ q
    · rw [if_pos ⟨h, by omega⟩, if_pos ⟨h, by omega⟩]
    · rw [if_neg (by omega), if_neg (by omega)]
  · rw [if_neg h1]
    by_cases h2 : q = k + 1
    · subst h2
      rw [if_pos rfl]
      unfold nxf
      rw [if_pos ⟨by omega, by omega⟩, if_neg (by omega), Nat.xor_zero]
      rfl
    · rw [if_neg h2]
      unfold nxf
      congr 1
      · by_cases h : 1 ≤ q ∧ q ≤ k
        · rw [if_pos h, if_pos ⟨h.1, by omega⟩]
        · rw [if_neg h, if_neg (by omega)]
      · by_cases h : q < k
        · rw [if_pos h, if_pos (by omega)]
        · rw [if_neg h, if_neg (by omega)]
theorem nxf_end (c : List Nat) (a j : Nat) (hj : j ≤ c.length) : nxf c a c.length j = (nxt c a).getD j 0 := by
  rw [nxt_at]
  unfold nxf
  congr 1
  · by_cases h : j = 0
    · rw [if_pos h, if_neg (by omega)]
    · rw [if_neg h, if_pos ⟨by omega, hj⟩]
  · by_cases h : j < c.length
    · rw [if_pos h]
    · rw [if_neg h]
      have : c.getD j 0 = 0 := by rw [List.getD_eq_getElem?_getD, List.getElem?_eq_none (by omega)]; rfl
      rw [this, gm_zero]
/-- The sum, behind k places of the m-th row. -/
def lgf (A V : Nat → Nat) (n m k q : Nat) : Nat := if q < k then (lagr A V n (m + 1)).getD q 0 else (lagr A V n m).getD q 0
def lgs (A V : Nat → Nat) (n m : Nat) : Nat := gm (V m) (ginv (lprod (A m) (others A n m)))
theorem lgf_zero (A V : Nat → Nat) (n m q : Nat) : lgf A V n m 0 q = (lagr A V n m).getD q 0 := if_neg (by omega)
theorem lgf_end (A V : Nat → Nat) (n m q : Nat) (h : q < n) : lgf A V n m n q = (lagr A V n (m + 1)).getD q 0 := if_pos h
theorem lgf_step (A V : Nat → Nat) (n m k q : Nat) : lgf A V n m (k + 1) q = if q = k then (lagr A V n m).getD k 0 ^^^ gm ((mono (others A n m)).getD k 0) (lgs A V n m) else lgf A V n m k q := by
  unfold lgf
  by_cases h : q = k
  · subst h
    rw [if_pos (by omega), if_pos rfl]
    show (padd (lagr A V n m) ((mono (others A n m)).map (gm (lgs A V n m)))).getD q 0 = _
    rw [padd_at, scale_at, gm_comm]
  · rw [if_neg h]
    by_cases h2 : q < k
    · rw [if_pos h2, if_pos (by omega)]
    · rw [if_neg h2, if_neg (by omega)]
theorem lgf_at (A V : Nat → Nat) (n m k : Nat) : lgf A V n m k k = (lagr A V n m).getD k 0 := if_neg (by omega)
theorem others_apart {A : Nat → Nat} {n i : Nat} (hd : ∀ i j, i < n → j < n → i ≠ j → A i ≠ A j) (hi : i < n) : lprod (A i) (others A n i) ≠ 0 := by
  refine lprod_ne fun h => ?_
  unfold others at h
  obtain ⟨j, hj, e⟩ := List.mem_map.1 h
  have hj := List.mem_filter.1 hj
  have h1 := List.mem_range.1 hj.1
  have h2 : j ≠ i := by simpa using hj.2
  exact hd j i h1 hi h2 e
end Go.Proofs.Ytnffmegicgbinaa
