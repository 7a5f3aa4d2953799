/- Texts of this claim, joined: Wbytes, Sshares, Lsplit, Sumsp. -/
import Derived.Test.YtnffmegicgbinaaJ01
import Derived.Deep.QuietTactic
import Derived.BigQuiet
import Derived.Test.YtnffmegicgbinaaJ05
import Derived.Deep.RegionHeld3
import Derived.Deep.DeepCutAuto
import Derived.Test.YtnffmegicgbinaaJ13
import Derived.Test.YtnffmegicgbinaaJ07
/- The contract of oathbooksame.Bytes: it tells whether two slices read as one list. -/
namespace Go.Proofs.Ytnffmegicgbinaa
open Go.RowKit
set_option linter.unusedVariables false
set_option linter.unusedSimpArgs false

set_option maxHeartbeats 400000 in
theorem bytes_any (a1 a2 : Option Addr) (n1 n2 c1 c2 : Nat) (l1 l2 : List UInt8) (w : World) (h1 : Row w a1 n1 l1) (h2 : Row w a2 n2 l2) (hm : n1 ≤ 281474976710656) :
    Calls Try.prog 9 #[.slice a1 n1 c1, .slice a2 n2 c2] w fun e w' => e = .returned (.bool (decide (l1 = l2))) ∧ ∃ n, w' = w.drewN n := by
  obtain ⟨e1, k1⟩ := h1
  obtain ⟨e2, k2⟩ := h2
  by_cases hn : n1 = n2
  · subst hn
    have hne : ((n1 : Int) != (n1 : Int)) = false := by simp
    have HE : Hid (l1.length = n1 ∧ l2.length = n1) := ⟨e1, e2⟩
    clear e1 e2
    go_enter Try.func9, Try.ntmps9
    go_wp2
    go_loopw [5] (fun i wr => ∃ k nn : Nat, k ≤ n1 ∧ i = .int .i64 k ∧ wr = w.drewN nn ∧ ∀ j, j < k → nth l1 j = nth l2 j) (fun i _ => n1 - (intOf i).toNat)
    case atStart => exact ⟨0, 0, Nat.zero_le _, rfl, rfl, fun j hj => by omega⟩
    case round =>
      obtain ⟨k, nn, hk, rfl, rfl, hall⟩ := hrel
      have HA : Hid (∀ j, j < k → nth l1 j = nth l2 j) := hall
      clear hall
      by_cases hlt : k < n1
      · rcases k1 with k1 | ⟨b1, o1, rfl, k1⟩
        · omega
        rcases k2 with k2 | ⟨b2, o2, rfl, k2⟩
        · omega
        have g1 := k1 k hlt
        have g2 := k2 k hlt
        have hi : (0 : Int) ≤ (k : Int) := by omega
        have hj : (k : Int) < (n1 : Int) := by omega
        clear k1 k2
        by_cases hq : nth l1 k = nth l2 k
        · have HQ : Hid (nth l1 k = nth l2 k) := hq
          have hb : (nth l1 k != nth l2 k) = false := by simp [hq]
          clear hq
          go_wp2
          go_quiet (fail)
          go_wp2
          go_roundw
          case rel => exact ⟨k + 1, nn + nq, by omega, by go_num, rfl, fun j hj => by
            by_cases hjk : j = k
            · subst hjk; exact HQ.out
            · exact HA.out j (by omega)⟩
          case measure => simp [intOf]; omega
        · have HQ : Hid (¬ nth l1 k = nth l2 k) := hq
          have hb : (nth l1 k != nth l2 k) = true := by simp [hq]
          clear hq
          go_wp2
          go_quiet (fail)
          go_wp2
          go_ret
          exact ⟨ret_bool (by symm; rw [decide_eq_false_iff_not]; intro h; subst h; exact HQ.out rfl), nn + nq, by rw [drewN_add]⟩
      · go_wp2
        go_ret
        exact ⟨ret_bool (by
          have hE := HE.out
          symm
          rw [decide_eq_true_iff]
          exact nth_inj (by omega) fun j hj => HA.out j (by omega)), nn, rfl⟩
  · have hne : ((n1 : Int) != (n2 : Int)) = true := by simp; omega
    go_enter Try.func9, Try.ntmps9
    go_wp2
    go_ret
    exact ⟨ret_bool (by symm; rw [decide_eq_false_iff_not]; intro h; subst h; omega), 0, rfl⟩
end Go.Proofs.Ytnffmegicgbinaa
/- The contract of oathbooksame.Shares: it tells whether two slices of shares read as one list. -/
namespace Go.Proofs.Ytnffmegicgbinaa
open Go.RowKit
set_option linter.unusedVariables false
set_option linter.unusedSimpArgs false

theorem SRow.head {w : World} {b o n : Nat} {ss : List Shr} (R : SRow w (some ⟨b, o, none⟩) n ss) (i : Nat) (hi : i < n) : ∃ (ai : Option Addr) (ni ci : Nat), ni ≤ 140737488351232 ∧ (ss.getD i noS).1 < 256 ∧ ni ≤ ci ∧ ∀ wx, Below w.heap.size w wx → wx.cell? ⟨b, o + i * 2, none⟩ = some (.int .u8 ((ss.getD i noS).1 : Int)) ∧ wx.cell? ⟨b, o + i * 2 + 1, none⟩ = some (.slice ai ni ci) ∧ Row wx ai ni (ss.getD i noS).2 := by
  obtain ⟨hp, c0, ai, ni, ci, c1, h4, h5, hR⟩ := R.at i hi
  exact ⟨ai, ni, ci, h5, hp, h4, fun wx hb => ⟨(hb.cell (p := ⟨b, o + i * 2, none⟩) (cell_block c0)).trans c0, (hb.cell (p := ⟨b, o + i * 2 + 1, none⟩) (cell_block c1)).trans c1, hR.below hb⟩⟩
theorem shr_ext {ss ts : List Shr} {n : Nat} (h1 : ss.length = n) (h2 : ts.length = n) (h : ∀ j, j < n → ss.getD j noS = ts.getD j noS) : ss = ts := by
  apply List.ext_getElem (by omega)
  intro j a b
  have := h j (by omega)
  rw [List.getD_eq_getElem?_getD, List.getD_eq_getElem?_getD, List.getElem?_eq_getElem a, List.getElem?_eq_getElem b] at this
  exact this
end Go.Proofs.Ytnffmegicgbinaa
/- The laws' split: the program splits a byte as the document says. -/
namespace Go.Proofs.Ytnffmegicgbinaa
open Go.RowKit
set_option linter.unusedVariables false
set_option linter.unusedSimpArgs false

theorem row_first' {w : World} {a : Option Addr} {n : Nat} {l : List UInt8} (R : Row w a n l) (hn : 0 < n) : ∃ b o, a = some ⟨b, o, none⟩ ∧ w.cell? ⟨b, o, none⟩ = some (.int .u8 (nth l 0)) := by
  rcases R.2 with h | ⟨b, o, e, hc⟩
  · omega
  · exact ⟨b, o, e, hc 0 hn⟩
/-- A literal of one slice of bytes. -/
theorem rowsB_lit1 {w : World} {t : TypeId} {a : Option Addr} {n c : Nat} {l : List UInt8} (hc : n ≤ c) (hn : n ≤ 140737488351232) (R : Row w a n l) : BRowsB (w.alloc (.cells #[.slice a n c] t)) (some ⟨w.heap.size, 0, none⟩) 1 [l] := by
  refine ⟨⟨rfl, .inr ⟨_, 0, rfl, fun i hi => ?_⟩⟩, fun i hi => ?_⟩
  · have : i = 0 := by omega
    subst this
    refine ⟨a, n, c, ?_, hc, R.below ((Below.refl _ _).alloc (Nat.le_refl _) _)⟩
    have := cells_new w [.slice a n c] t 0
    exact this
  · have : i = 0 := by omega
    subst this
    show l.length ≤ _
    rw [R.1]
    exact hn
set_option maxRecDepth 100000 in
set_option maxHeartbeats 2000000 in
theorem lsplit_any (w : World) (G : Env w) :
    Calls Try.prog 6 #[] w fun r w' => r = .returned (.bool true) ∧ Below w.heap.size w w' := by
  obtain ⟨w1, hw1⟩ : ∃ w1, w.alloc (.cells #[.int .u8 9] 5) = w1 := ⟨_, rfl⟩
  obtain ⟨w2, hw2⟩ : ∃ w2, w1.alloc (.cells #[.int .u8 1] 5) = w2 := ⟨_, rfl⟩
  obtain ⟨w3, hw3⟩ : ∃ w3, w2.alloc (.cells #[.slice (some ⟨w.heap.size + 1, 0, none⟩) 1 1] 22) = w3 := ⟨_, rfl⟩
  have hs1 : w1.heap.size = w.heap.size + 1 := by rw [← hw1]; simp
  have hs2 : w2.heap.size = w.heap.size + 1 + 1 := by rw [← hw2]; simp [hs1]
  have b1 : Below w.heap.size w w1 := by rw [← hw1]; exact (Below.refl _ _).alloc (Nat.le_refl _) _
  have b12 : Below w1.heap.size w1 w2 := by rw [← hw2]; exact (Below.refl _ _).alloc (Nat.le_refl _) _
  have b23 : Below w2.heap.size w2 w3 := by rw [← hw3]; exact (Below.refl _ _).alloc (Nat.le_refl _) _
  have HB3 : Hid (Below w.heap.size w w3) := (b1.trans (b12.mono b1.size)).trans (b23.mono (by omega))
  have HR1 : Hid (Row w3 (some ⟨w.heap.size, 0, none⟩) 1 [9]) := by
    have r : Row w1 (some ⟨w.heap.size, 0, none⟩) 1 [9] := by rw [← hw1]; exact Row.lit1v w 9 _ 9 rfl
    exact (r.below b12).below b23
  have HR2 : Hid (BRowsB w3 (some ⟨w.heap.size + 1 + 1, 0, none⟩) 1 [[1]]) := by
    have r : Row w2 (some ⟨w.heap.size + 1, 0, none⟩) 1 [1] := by rw [← hw2, ← hs1]; exact Row.lit1v w1 1 _ 1 rfl
    rw [← hw3, ← hs2]
    exact rowsB_lit1 (Nat.le_refl _) (by omega) r
  have HW : Hid (((w.alloc (.cells #[.int .u8 9] 5)).alloc (.cells #[.int .u8 1] 5)).alloc (.cells #[.slice (some ⟨w.heap.size + 1, 0, none⟩) 1 1] 22) = w3) := by unfold Hid; rw [hw1, hw2, hw3]
  have HG : Hid (Env w3) := G.below HB3.out
  clear hw1 hw2 hw3 hs1 hs2 b1 b12 b23 G
  go_enter Try.func6, Try.ntmps6
  go_wp2_with fail
  rw [HW.out]
  refine (wshare_split (some ⟨w.heap.size, 0, none⟩) 1 1 [9] 2 (some ⟨w.heap.size + 1 + 1, 0, none⟩) 1 1 [[1]] w3 HG.out HR1.out (Nat.le_refl _) HR2.out (Nat.le_refl _) splitE_eleven).mono ?_
  rintro r w4 ⟨⟨a4, c4, rfl, hc4, r4⟩, hb4⟩
  have HB4 : Hid (Below w.heap.size w w4) := HB3.out.trans (hb4.mono HB3.out.size)
  rw [split_eleven] at r4
  obtain ⟨b, o, rfl⟩ := r4.addr (by omega)
  obtain ⟨ai, ni, ci, hni, _, hnc, HC⟩ := r4.head 1 (by omega)
  have q := HC w4 (Below.refl _ _)
  have k1 : w4.cell? ⟨b, o + 2, none⟩ = some (.int .u8 2) := q.1
  have R := q.2.2
  have hl : ni = 1 := R.1.symm
  subst hl
  obtain ⟨bi, oi, rfl, k3⟩ := row_first' R (by omega)
  have k2 : w4.cell? ⟨b, o + 3, none⟩ = some (.slice (some ⟨bi, oi, none⟩) 1 ci) := q.2.1
  have k4 : w4.cell? ⟨bi, oi, none⟩ = some (.int .u8 11) := k3
  clear HC q R k3 hb4 r4 HW HG HB3 HR1 HR2
  go_wp2_with fail
  go_ret
  exact ⟨rfl, HB4.out⟩
end Go.Proofs.Ytnffmegicgbinaa
/- Plain facts: the sum of shares is a share of the sum. -/
namespace Go.Proofs.Ytnffmegicgbinaa
open Go.RowKit
set_option linter.unusedVariables false
set_option linter.unusedSimpArgs false

/-- What a Join tells of shares of polynomials, one at each place. -/
theorem enough_poly {ss : List Shr} {C : Nat → List Nat} {l : List UInt8} (hp : ∀ s ∈ ss, s.1 < 256) (h2 : (ss.map (·.1)).Nodup) (hC : ∀ k, bys (C k)) (hL : ∀ k, (C k).length ≤ ss.length)
    (hv : ∀ k, k < l.length → ∀ i, i < ss.length → ((ss.getD i noS).2.getD k 0).toNat = polyv (C k) (ss.getD i noS).1) (h : joinedP ss 0 l) : ∀ k, k < l.length → (l.getD k 0).toNat = polyv (C k) 0 := by
  intro k hk
  have hr := shamir (at' := ss.map (·.1)) (v := colN ss k) (c := C k) (x := 0) (places_bys hp) h2 (by omega) (hC k) (by rw [List.length_map]; exact hL k) (fun i hi => by
    rw [List.length_map] at hi
    have e1 : (colN ss k).getD i 0 = ((ss.getD i noS).2.getD k 0).toNat := by
      unfold colN
      simp [List.getD_eq_getElem?_getD, List.getElem?_eq_getElem hi]
    have e2 : (ss.map (·.1)).getD i 0 = (ss.getD i noS).1 := by
      simp [List.getD_eq_getElem?_getD, List.getElem?_eq_getElem hi]
    rw [e1, e2]
    exact hv k hk i hi) (h.2 k hk)
  rw [← nb_at]
  exact hr
/-- Shares that are added, and their bytes so far. -/
def sumN (a : List UInt8) (p : List (List UInt8)) (b : List UInt8) (q : List (List UInt8)) (i k : Nat) : Nat := shareN a p i k ^^^ shareN b q i k
theorem sumN_lt (a : List UInt8) (p : List (List UInt8)) (b : List UInt8) (q : List (List UInt8)) (i k : Nat) : sumN a p b q i k < 256 := Nat.xor_lt_two_pow (n := 8) (shareN_lt a p i k) (shareN_lt b q i k)
def sumD (a : List UInt8) (p : List (List UInt8)) (b : List UInt8) (q : List (List UInt8)) (i m : Nat) : List UInt8 := (List.range m).map fun k => UInt8.ofNat (sumN a p b q i k)
theorem sumD_length (a : List UInt8) (p : List (List UInt8)) (b : List UInt8) (q : List (List UInt8)) (i m : Nat) : (sumD a p b q i m).length = m := by simp [sumD]
theorem sumD_succ (a : List UInt8) (p : List (List UInt8)) (b : List UInt8) (q : List (List UInt8)) (i m : Nat) : sumD a p b q i m ++ [UInt8.ofNat (sumN a p b q i m)] = sumD a p b q i (m + 1) := by
  unfold sumD
  rw [List.range_succ, List.map_append]
  rfl
theorem sumD_at (a : List UInt8) (p : List (List UInt8)) (b : List UInt8) (q : List (List UInt8)) (i m k : Nat) (h : k < m) : ((sumD a p b q i m).getD k 0).toNat = sumN a p b q i k := by
  unfold sumD
  rw [List.getD_eq_getElem?_getD, List.getElem?_map, List.getElem?_range h]
  show (UInt8.ofNat (sumN a p b q i k)).toNat = _
  rw [UInt8.toNat_ofNat']
  have := sumN_lt a p b q i k
  omega
def sumsL (a : List UInt8) (p : List (List UInt8)) (b : List UInt8) (q : List (List UInt8)) (n : Nat) : List Shr := (List.range n).map fun i => (i + 1, sumD a p b q (i + 1) a.length)
theorem sumsL_length (a : List UInt8) (p : List (List UInt8)) (b : List UInt8) (q : List (List UInt8)) (n : Nat) : (sumsL a p b q n).length = n := by simp [sumsL]
theorem sumsL_succ (a : List UInt8) (p : List (List UInt8)) (b : List UInt8) (q : List (List UInt8)) (n : Nat) : sumsL a p b q n ++ [(n + 1, sumD a p b q (n + 1) a.length)] = sumsL a p b q (n + 1) := by
  unfold sumsL
  rw [List.range_succ, List.map_append]
  rfl
theorem sumsL_at (a : List UInt8) (p : List (List UInt8)) (b : List UInt8) (q : List (List UInt8)) (n i : Nat) (h : i < n) : (sumsL a p b q n).getD i noS = (i + 1, sumD a p b q (i + 1) a.length) := by
  unfold sumsL
  rw [List.getD_eq_getElem?_getD, List.getElem?_map, List.getElem?_range h]
  rfl
theorem sumsL_places (a : List UInt8) (p : List (List UInt8)) (b : List UInt8) (q : List (List UInt8)) (n : Nat) : (sumsL a p b q n).map (·.1) = (List.range n).map (· + 1) := by
  unfold sumsL
  rw [List.map_map]
  rfl
theorem sumsL_nodup (a : List UInt8) (p : List (List UInt8)) (b : List UInt8) (q : List (List UInt8)) (n : Nat) : ((sumsL a p b q n).map (·.1)).Nodup := by
  rw [sumsL_places]
  refine List.pairwise_map.2 ?_
  exact (List.pairwise_lt_range (n := n)).imp (fun {x y} h e => by omega)
theorem sumsL_join (a : List UInt8) (p : List (List UInt8)) (b : List UInt8) (q : List (List UInt8)) (n : Nat) (h1 : 1 ≤ n) (h2 : n ≤ 20) : joinE (sumsL a p b q n) = 0 :=
  joinE_none (F := a.length) (by rw [sumsL_length]; exact h1) (by rw [sumsL_length]; exact h2) (fun s hs => by
    obtain ⟨i, hi, rfl⟩ := List.mem_map.1 hs
    have := List.mem_range.1 hi
    exact ⟨⟨by show 1 ≤ i + 1; omega, by show i + 1 ≤ 255; omega⟩, sumD_length _ _ _ _ _ _⟩) (sumsL_nodup a p b q n)
/-- THE SUM OF SHARES IS A SHARE OF THE SUM. -/
theorem sums_all {a b : List UInt8} {p q : List (List UInt8)} {n : Nat} {l : List UInt8} (hn : n ≤ 20) (hp : p.length + 1 ≤ n) (hpq : p.length = q.length) (h : joinedP (sumsL a p b q n) 0 l) : l.length = a.length ∧ ∀ k, k < a.length → (l.getD k 0).toNat = (a.getD k 0).toNat ^^^ (b.getD k 0).toNat := by
  have hl : l.length = a.length := by
    rw [h.1, sumsL_at a p b q n 0 (by omega)]
    exact sumD_length _ _ _ _ _ _
  refine ⟨hl, fun k hk => ?_⟩
  have e := enough_poly (ss := sumsL a p b q n) (C := fun k => padd (nb (polyC a p k)) (nb (polyC b q k))) (l := l) (fun s hs => by
      obtain ⟨i, hi, rfl⟩ := List.mem_map.1 hs
      have := List.mem_range.1 hi
      show i + 1 < 256
      omega) (sumsL_nodup a p b q n) (fun k => padd_bys (nb_bys _) (nb_bys _)) (fun k => by
      rw [padd_len, nb_len, nb_len, polyC_length, polyC_length, sumsL_length, ← hpq]
      omega) (fun k hk i hi => by
      rw [sumsL_length] at hi
      rw [sumsL_at a p b q n i hi]
      show ((sumD a p b q (i + 1) a.length).getD k 0).toNat = polyv _ (i + 1)
      rw [sumD_at a p b q (i + 1) a.length k (by omega), padd_val (nb_bys _) (nb_bys _) _ (by omega)]
      rfl) h k (by omega)
  rw [e, padd_val (nb_bys _) (nb_bys _) _ (by omega)]
  unfold polyC nb
  rw [List.map_cons, polyv_0, List.map_cons, polyv_0]
end Go.Proofs.Ytnffmegicgbinaa
