/- Texts of this claim, joined: Sshares, Lsplit, Coeffp, Hidesp. -/
import Derived.Test.YtegpgkadlfpfcaaJ13
import Derived.Test.YtegpgkadlfpfcaaJ05
import Derived.Deep.RegionHeld3
import Derived.Deep.DeepCutAuto
import Derived.Test.YtegpgkadlfpfcaaJ07
import Derived.Test.YtegpgkadlfpfcaaJ04
/- The contract of oathbooksame.Shares: it tells whether two slices of shares read as one list. -/
namespace Go.Proofs.Ytegpgkadlfpfcaa
open Go.RowKit
set_option linter.unusedVariables false
set_option linter.unusedSimpArgs false

theorem SRow.head {w : World} {b o n : Nat} {ss : List Shr} (R : SRow w (some ⟨b, o, none⟩) n ss) (i : Nat) (hi : i < n) : ∃ (ai : Option Addr) (ni ci : Nat), ni ≤ 140737488351232 ∧ (ss.getD i noS).1 < 256 ∧ ni ≤ ci ∧ ∀ wx, Below w.heap.size w wx → wx.cell? ⟨b, o + i * 2, none⟩ = some (.int .u8 ((ss.getD i noS).1 : Int)) ∧ wx.cell? ⟨b, o + i * 2 + 1, none⟩ = some (.slice ai ni ci) ∧ Row wx ai ni (ss.getD i noS).2 := by
  obtain ⟨hp, c0, ai, ni, ci, c1, h4, h5, hR⟩ := R.at i hi
  exact ⟨ai, ni, ci, h5, hp, h4, fun wx hb => ⟨(hb.cell (p := ⟨b, o + i * 2, none⟩) (cell_block c0)).trans c0, (hb.cell (p := ⟨b, o + i * 2 + 1, none⟩) (cell_block c1)).trans c1, hR.below hb⟩⟩
theorem shr_ext {ss ts : List Shr} {n : Nat} (h1 : ss.length = n) (h2 : ts.length = n) (h : ∀ j, j < n → ss.getD j noS = ts.getD j noS) : ss = ts := by
  apply List.ext_getElem (by omega)
  intro j a b
  have := h j (by omega)
  rw [List.getD_eq_getElem?_getD, List.getD_eq_getElem?_getD, List.getElem?_eq_getElem a, List.getElem?_eq_getElem b] at this
  exact this
end Go.Proofs.Ytegpgkadlfpfcaa
/- The laws' split: the program splits a byte as the document says. -/
namespace Go.Proofs.Ytegpgkadlfpfcaa
open Go.RowKit
set_option linter.unusedVariables false
set_option linter.unusedSimpArgs false

theorem row_first' {w : World} {a : Option Addr} {n : Nat} {l : List UInt8} (R : Row w a n l) (hn : 0 < n) : ∃ b o, a = some ⟨b, o, none⟩ ∧ w.cell? ⟨b, o, none⟩ = some (.int .u8 (nth l 0)) := by
  rcases R.2 with h | ⟨b, o, e, hc⟩
  · omega
  · exact ⟨b, o, e, hc 0 hn⟩
/-- A literal of one slice of bytes. -/
theorem rowsB_lit1 {w : World} {t : TypeId} {a : Option Addr} {n c : Nat} {l : List UInt8} (hc : n ≤ c) (hn : n ≤ 140737488351232) (R : Row w a n l) : BRowsB (w.alloc (.cells #[.slice a n c] t)) (some ⟨w.heap.size, 0, none⟩) 1 [l] := by
  refine ⟨⟨rfl, .inr ⟨_, 0, rfl, fun i hi => ?_⟩⟩, fun i hi => ?_⟩
  · have : i = 0 := by omega
    subst this
    refine ⟨a, n, c, ?_, hc, R.below ((Below.refl _ _).alloc (Nat.le_refl _) _)⟩
    have := cells_new w [.slice a n c] t 0
    exact this
  · have : i = 0 := by omega
    subst this
    show l.length ≤ _
    rw [R.1]
    exact hn
set_option maxRecDepth 100000 in
set_option maxHeartbeats 2000000 in
theorem lsplit_any (w : World) (G : Env w) :
    Calls Try.prog 6 #[] w fun r w' => r = .returned (.bool true) ∧ Below w.heap.size w w' := by
  obtain ⟨w1, hw1⟩ : ∃ w1, w.alloc (.cells #[.int .u8 9] 5) = w1 := ⟨_, rfl⟩
  obtain ⟨w2, hw2⟩ : ∃ w2, w1.alloc (.cells #[.int .u8 1] 5) = w2 := ⟨_, rfl⟩
  obtain ⟨w3, hw3⟩ : ∃ w3, w2.alloc (.cells #[.slice (some ⟨w.heap.size + 1, 0, none⟩) 1 1] 22) = w3 := ⟨_, rfl⟩
  have hs1 : w1.heap.size = w.heap.size + 1 := by rw [← hw1]; simp
  have hs2 : w2.heap.size = w.heap.size + 1 + 1 := by rw [← hw2]; simp [hs1]
  have b1 : Below w.heap.size w w1 := by rw [← hw1]; exact (Below.refl _ _).alloc (Nat.le_refl _) _
  have b12 : Below w1.heap.size w1 w2 := by rw [← hw2]; exact (Below.refl _ _).alloc (Nat.le_refl _) _
  have b23 : Below w2.heap.size w2 w3 := by rw [← hw3]; exact (Below.refl _ _).alloc (Nat.le_refl _) _
  have HB3 : Hid (Below w.heap.size w w3) := (b1.trans (b12.mono b1.size)).trans (b23.mono (by omega))
  have HR1 : Hid (Row w3 (some ⟨w.heap.size, 0, none⟩) 1 [9]) := by
    have r : Row w1 (some ⟨w.heap.size, 0, none⟩) 1 [9] := by rw [← hw1]; exact Row.lit1v w 9 _ 9 rfl
    exact (r.below b12).below b23
  have HR2 : Hid (BRowsB w3 (some ⟨w.heap.size + 1 + 1, 0, none⟩) 1 [[1]]) := by
    have r : Row w2 (some ⟨w.heap.size + 1, 0, none⟩) 1 [1] := by rw [← hw2, ← hs1]; exact Row.lit1v w1 1 _ 1 rfl
    rw [← hw3, ← hs2]
    exact rowsB_lit1 (Nat.le_refl _) (by omega) r
  have HW : Hid (((w.alloc (.cells #[.int .u8 9] 5)).alloc (.cells #[.int .u8 1] 5)).alloc (.cells #[.slice (some ⟨w.heap.size + 1, 0, none⟩) 1 1] 22) = w3) := by unfold Hid; rw [hw1, hw2, hw3]
  have HG : Hid (Env w3) := G.below HB3.out
  clear hw1 hw2 hw3 hs1 hs2 b1 b12 b23 G
  go_enter Try.func6, Try.ntmps6
  go_wp2_with fail
  rw [HW.out]
  refine (wshare_split (some ⟨w.heap.size, 0, none⟩) 1 1 [9] 2 (some ⟨w.heap.size + 1 + 1, 0, none⟩) 1 1 [[1]] w3 HG.out HR1.out (Nat.le_refl _) HR2.out (Nat.le_refl _) splitE_eleven).mono ?_
  rintro r w4 ⟨⟨a4, c4, rfl, hc4, r4⟩, hb4⟩
  have HB4 : Hid (Below w.heap.size w w4) := HB3.out.trans (hb4.mono HB3.out.size)
  rw [split_eleven] at r4
  obtain ⟨b, o, rfl⟩ := r4.addr (by omega)
  obtain ⟨ai, ni, ci, hni, _, hnc, HC⟩ := r4.head 1 (by omega)
  have q := HC w4 (Below.refl _ _)
  have k1 : w4.cell? ⟨b, o + 2, none⟩ = some (.int .u8 2) := q.1
  have R := q.2.2
  have hl : ni = 1 := R.1.symm
  subst hl
  obtain ⟨bi, oi, rfl, k3⟩ := row_first' R (by omega)
  have k2 : w4.cell? ⟨b, o + 3, none⟩ = some (.slice (some ⟨bi, oi, none⟩) 1 ci) := q.2.1
  have k4 : w4.cell? ⟨bi, oi, none⟩ = some (.int .u8 11) := k3
  clear HC q R k3 hb4 r4 HW HG HB3 HR1 HR2
  go_wp2_with fail
  go_ret
  exact ⟨rfl, HB4.out⟩
end Go.Proofs.Ytegpgkadlfpfcaa
/- Plain facts: Lagrange's coefficients, as they are reckoned in rows. -/
namespace Go.Proofs.Ytegpgkadlfpfcaa
open Go.RowKit
set_option linter.unusedVariables false
set_option linter.unusedSimpArgs false

theorem others_succ (A : Nat → Nat) (j i : Nat) : others A (j + 1) i = others A j i ++ (if j = i then [] else [A j]) := by
  unfold others
  rw [List.range_succ, List.filter_append, List.map_append]
  congr 1
  by_cases h : j = i
  · simp [h]
  · simp [h]
theorem mono_app (xs : List Nat) (a : Nat) : mono (xs ++ [a]) = nxt (mono xs) a := by simp [mono, List.foldl_append]
theorem others_zero (A : Nat → Nat) (i : Nat) : others A 0 i = [] := rfl
theorem mono_nil : mono [] = [1] := rfl
/-- The next row, behind k rounds. -/
def nxf (c : List Nat) (a k j : Nat) : Nat := (if 1 ≤ j ∧ j ≤ k then c.getD (j - 1) 0 else 0) ^^^ (if j < k then gm a (c.getD j 0) else 0)
theorem nxf_zero (c : List Nat) (a j : Nat) : nxf c a 0 j = 0 := by
  unfold nxf
  rw [if_neg (by omega), if_neg (by omega)]
  rfl
theorem nxf_lt {c : List Nat} (hc : bys c) (a k j : Nat) : nxf c a k j < 256 := by
  unfold nxf
  refine Nat.xor_lt_two_pow (n := 8) ?_ ?_
  · split
    · exact getD_bys hc _
    · omega
  · split
    · exact gm_lt _ _
    · omega
theorem nxf_top (c : List Nat) (a k : Nat) : nxf c a k (k + 1) = 0 := by
  unfold nxf
  rw [if_neg (by omega), if_neg (by omega)]
  rfl
theorem nxf_step (c : List Nat) (a k q : Nat) : nxf c a (k + 1) q = if q = k then nxf c a k k ^^^ gm (c.getD k 0) a else if q = k + 1 then c.getD k 0 else nxf c a k q := by
  by_cases h1 : q = k
  · subst h1
    rw [if_pos rfl]
    unfold nxf
    rw [if_pos (show q < q + 1 by omega), if_neg (show ¬ q < q by omega), Nat.xor_zero, gm_comm a]
    congr 1
    by_cases h : 1 ≤ q
    · rw [if_pos ⟨h, by omega⟩, if_pos ⟨h, by omega⟩]
    · rw [if_neg (by omega), if_neg (by omega)]
  · rw [if_neg h1]
    by_cases h2 : q = k + 1
    · subst h2
      rw [if_pos rfl]
      unfold nxf
      rw [if_pos ⟨by omega, by omega⟩, if_neg (by omega), Nat.xor_zero]
      rfl
    · rw [if_neg h2]
      unfold nxf
      congr 1
      · by_cases h : 1 ≤ q ∧ q ≤ k
        · rw [if_pos h, if_pos ⟨h.1, by omega⟩]
        · rw [if_neg h, if_neg (by omega)]
      · by_cases h : q < k
        · rw [if_pos h, if_pos (by omega)]
        · rw [if_neg h, if_neg (by omega)]
theorem nxf_end (c : List Nat) (a j : Nat) (hj : j ≤ c.length) : nxf c a c.length j = (nxt c a).getD j 0 := by
  rw [nxt_at]
  unfold nxf
  congr 1
  · by_cases h : j = 0
    · rw [if_pos h, if_neg (by omega)]
    · rw [if_neg h, if_pos ⟨by omega, hj⟩]
  · by_cases h : j < c.length
    · rw [if_pos h]
    · rw [if_neg h]
      have : c.getD j 0 = 0 := by rw [List.getD_eq_getElem?_getD, List.getElem?_eq_none (by omega)]; rfl
      rw [this, gm_zero]
/-- The sum, behind k places of the m-th row. -/
def lgf (A V : Nat → Nat) (n m k q : Nat) : Nat := if q < k then (lagr A V n (m + 1)).getD q 0 else (lagr A V n m).getD q 0
def lgs (A V : Nat → Nat) (n m : Nat) : Nat := gm (V m) (ginv (lprod (A m) (others A n m)))
theorem lgf_zero (A V : Nat → Nat) (n m q : Nat) : lgf A V n m 0 q = (lagr A V n m).getD q 0 := if_neg (by omega)
theorem lgf_end (A V : Nat → Nat) (n m q : Nat) (h : q < n) : lgf A V n m n q = (lagr A V n (m + 1)).getD q 0 := if_pos h
theorem lgf_step (A V : Nat → Nat) (n m k q : Nat) : lgf A V n m (k + 1) q = if q = k then (lagr A V n m).getD k 0 ^^^ gm ((mono (others A n m)).getD k 0) (lgs A V n m) else lgf A V n m k q := by
  unfold lgf
  by_cases h : q = k
  · subst h
    rw [if_pos (by omega), if_pos rfl]
    show (padd (lagr A V n m) ((mono (others A n m)).map (gm (lgs A V n m)))).getD q 0 = _
    rw [padd_at, scale_at, gm_comm]
  · rw [if_neg h]
    by_cases h2 : q < k
    · rw [if_pos h2, if_pos (by omega)]
    · rw [if_neg h2, if_neg (by omega)]
theorem lgf_at (A V : Nat → Nat) (n m k : Nat) : lgf A V n m k k = (lagr A V n m).getD k 0 := if_neg (by omega)
theorem others_apart {A : Nat → Nat} {n i : Nat} (hd : ∀ i j, i < n → j < n → i ≠ j → A i ≠ A j) (hi : i < n) : lprod (A i) (others A n i) ≠ 0 := by
  refine lprod_ne fun h => ?_
  unfold others at h
  obtain ⟨j, hj, e⟩ := List.mem_map.1 h
  have hj := List.mem_filter.1 hj
  have h1 := List.mem_range.1 hj.1
  have h2 : j ≠ i := by simpa using hj.2
  exact hd j i h1 hi h2 e
end Go.Proofs.Ytegpgkadlfpfcaa
/- Plain facts: fewer shares tell nothing. -/
namespace Go.Proofs.Ytegpgkadlfpfcaa
open Go.RowKit
set_option linter.unusedVariables false
set_option linter.unusedSimpArgs false

theorem getElem_getD0 (l : List Nat) (k : Nat) (h : k < l.length) : l[k] = l.getD k 0 := by rw [List.getD_eq_getElem?_getD, List.getElem?_eq_getElem h]; rfl
def hidP (ss : List Shr) : List UInt8 := 0 :: placesL ss
def hidV (secret : List UInt8) (ss : List Shr) (k : Nat) : List UInt8 := secret.getD k 0 :: colL ss k
/-- The coefficients at a place. -/
def hidC (secret : List UInt8) (ss : List Shr) (k : Nat) : List Nat := lagr (fun i => (nb (hidP ss)).getD i 0) (fun i => (nb (hidV secret ss k)).getD i 0) (ss.length + 1) (ss.length + 1)
theorem hidP_length (ss : List Shr) : (hidP ss).length = ss.length + 1 := by simp [hidP, placesL]
theorem hidV_length (secret : List UInt8) (ss : List Shr) (k : Nat) : (hidV secret ss k).length = ss.length + 1 := by simp [hidV, colL]
theorem hidP_nb {ss : List Shr} (hp : ∀ s ∈ ss, s.1 < 256) : nb (hidP ss) = 0 :: ss.map (·.1) := by
  show (0 : UInt8).toNat :: nb (placesL ss) = _
  rw [nb_places hp]
  rfl
theorem hidP_nodup {ss : List Shr} (hp : ∀ s ∈ ss, 1 ≤ s.1 ∧ s.1 < 256) (hd : (ss.map (·.1)).Nodup) : (nb (hidP ss)).Nodup := by
  rw [hidP_nb (fun s hs => (hp s hs).2), List.nodup_cons]
  refine ⟨fun h => ?_, hd⟩
  obtain ⟨s, hs, e⟩ := List.mem_map.1 h
  have := (hp s hs).1
  omega
theorem hid_apart {ss : List Shr} (hp : ∀ s ∈ ss, 1 ≤ s.1 ∧ s.1 < 256) (hd : (ss.map (·.1)).Nodup) : ∀ i j, i < ss.length + 1 → j < ss.length + 1 → i ≠ j → (nb (hidP ss)).getD i 0 ≠ (nb (hidP ss)).getD j 0 := fun i j hi hj hij e => by
  have hn := hidP_nodup hp hd
  have li : i < (nb (hidP ss)).length := by rw [nb_len, hidP_length]; exact hi
  have lj : j < (nb (hidP ss)).length := by rw [nb_len, hidP_length]; exact hj
  simp only [List.getD_eq_getElem?_getD, List.getElem?_eq_getElem li, List.getElem?_eq_getElem lj, Option.getD_some] at e
  have hq := List.pairwise_iff_getElem.1 (List.nodup_iff_pairwise_ne.1 hn)
  rcases Nat.lt_or_gt_of_ne hij with q | q
  · exact hq i j li lj q e
  · exact hq j i lj li q e.symm
theorem hidC_ok {secret : List UInt8} {ss : List Shr} {k : Nat} (hp : ∀ s ∈ ss, 1 ≤ s.1 ∧ s.1 < 256) (hd : (ss.map (·.1)).Nodup) : bys (hidC secret ss k) ∧ (hidC secret ss k).length = ss.length + 1 ∧ ∀ i, i < ss.length + 1 → polyv (hidC secret ss k) ((nb (hidP ss)).getD i 0) = (nb (hidV secret ss k)).getD i 0 :=
  lagr_ok (fun i => getD_nb_lt _ _) (fun i => getD_nb_lt _ _) (hid_apart hp hd)
/-- The i-th row, of so many bytes. -/
def hidR (secret : List UInt8) (ss : List Shr) (i m : Nat) : List UInt8 := (List.range m).map fun k => UInt8.ofNat ((hidC secret ss k).getD (i + 1) 0)
theorem hidR_length (secret : List UInt8) (ss : List Shr) (i m : Nat) : (hidR secret ss i m).length = m := by simp [hidR]
theorem hidR_succ (secret : List UInt8) (ss : List Shr) (i m : Nat) : hidR secret ss i m ++ [UInt8.ofNat ((hidC secret ss m).getD (i + 1) 0)] = hidR secret ss i (m + 1) := by
  unfold hidR
  rw [List.range_succ, List.map_append]
  rfl
def hidM (secret : List UInt8) (ss : List Shr) (m : Nat) : List (List UInt8) := (List.range ss.length).map fun i => hidR secret ss i m
theorem hidM_length (secret : List UInt8) (ss : List Shr) (m : Nat) : (hidM secret ss m).length = ss.length := by simp [hidM]
theorem hidM_at (secret : List UInt8) (ss : List Shr) (m i : Nat) (hi : i < ss.length) : (hidM secret ss m).getD i [] = hidR secret ss i m := by
  unfold hidM
  rw [List.getD_eq_getElem?_getD, List.getElem?_map, List.getElem?_range hi]
  rfl
theorem hidM_all (secret : List UInt8) (ss : List Shr) (m : Nat) : ∀ l ∈ hidM secret ss m, l.length = m := fun l hl => by
  obtain ⟨i, _, rfl⟩ := List.mem_map.1 hl
  exact hidR_length _ _ _ _
/-- The polynomial of the rows is that of the coefficients. -/
theorem hid_poly {secret : List UInt8} {ss : List Shr} {k : Nat} (hp : ∀ s ∈ ss, 1 ≤ s.1 ∧ s.1 < 256) (hd : (ss.map (·.1)).Nodup) (hk : k < secret.length) : nb (polyC secret (hidM secret ss secret.length) k) = hidC secret ss k := by
  obtain ⟨h1, h2, h3⟩ := hidC_ok (secret := secret) (ss := ss) (k := k) hp hd
  apply List.ext_getElem
  · rw [nb_len, polyC_length, hidM_length, h2]
  · intro i a b
    have e1 : (nb (polyC secret (hidM secret ss secret.length) k))[i] = (nb (polyC secret (hidM secret ss secret.length) k)).getD i 0 := by rw [List.getD_eq_getElem?_getD, List.getElem?_eq_getElem a]; rfl
    have e2 : (hidC secret ss k)[i] = (hidC secret ss k).getD i 0 := by rw [List.getD_eq_getElem?_getD, List.getElem?_eq_getElem b]; rfl
    rw [e1, e2, nb_at]
    cases i with
    | zero =>
      have q := h3 0 (by omega)
      have p0 : (nb (hidP ss)).getD 0 0 = 0 := rfl
      rw [p0] at q
      have c0 : polyv (hidC secret ss k) 0 = (hidC secret ss k).getD 0 0 := by
        cases hc : hidC secret ss k with
        | nil => rw [hc] at h2; simp at h2
        | cons x r => rw [polyv_0]; rfl
      rw [← c0, q]
      rfl
    | succ i =>
      have hi : i < ss.length := by rw [h2] at b; omega
      show (((hidM secret ss secret.length).map fun (l : List UInt8) => l.getD k 0).getD i 0).toNat = _
      have e3 : ((hidM secret ss secret.length).map fun (l : List UInt8) => l.getD k 0).getD i 0 = (hidR secret ss i secret.length).getD k 0 := by
        rw [List.getD_eq_getElem?_getD, List.getElem?_map]
        have : (hidM secret ss secret.length)[i]? = some (hidR secret ss i secret.length) := by
          unfold hidM
          rw [List.getElem?_map, List.getElem?_range hi]
          rfl
        rw [this]
        rfl
      rw [e3]
      unfold hidR
      rw [List.getD_eq_getElem?_getD, List.getElem?_map, List.getElem?_range hk]
      show (UInt8.ofNat ((hidC secret ss k).getD (i + 1) 0)).toNat = _
      rw [UInt8.toNat_ofNat']
      have := getD_bys h1 (i + 1)
      omega
/-- These rows make just these shares. -/
theorem hides {secret : List UInt8} {ss : List Shr} (hp : ∀ s ∈ ss, (1 ≤ s.1 ∧ s.1 ≤ 20) ∧ s.2.length = secret.length) (hd : (ss.map (·.1)).Nodup) (i : Nat) (hi : i < ss.length) : dataS secret (hidM secret ss secret.length) (ss.getD i noS).1 secret.length = (ss.getD i noS).2 := by
  have hp' : ∀ s ∈ ss, 1 ≤ s.1 ∧ s.1 < 256 := fun s hs => ⟨(hp s hs).1.1, by have := (hp s hs).1.2; omega⟩
  have hg : ss.getD i noS ∈ ss := by
    rw [List.getD_eq_getElem?_getD, List.getElem?_eq_getElem hi]
    exact List.getElem_mem _
  refine nb_inj ?_
  apply List.ext_getElem
  · rw [nb_len, nb_len, dataS_length, (hp _ hg).2]
  · intro k a b
    have hk : k < secret.length := by rw [nb_len, dataS_length] at a; exact a
    have e1 : (nb (dataS secret (hidM secret ss secret.length) (ss.getD i noS).1 secret.length))[k] = (nb (dataS secret (hidM secret ss secret.length) (ss.getD i noS).1 secret.length)).getD k 0 := getElem_getD0 _ _ a
    have e2 : (nb (ss.getD i noS).2)[k] = (nb (ss.getD i noS).2).getD k 0 := getElem_getD0 _ _ b
    rw [e1, e2, nb_at, dataS_at _ _ _ _ _ hk]
    unfold shareN
    rw [hid_poly hp' hd hk]
    have q := (hidC_ok (secret := secret) (ss := ss) (k := k) hp' hd).2.2 (i + 1) (by omega)
    have p1 : (nb (hidP ss)).getD (i + 1) 0 = (ss.getD i noS).1 := by
      rw [hidP_nb fun s hs => (hp' s hs).2]
      show (ss.map (·.1)).getD i 0 = _
      simp [List.getD_eq_getElem?_getD, List.getElem?_eq_getElem hi]
    have v1 : (nb (hidV secret ss k)).getD (i + 1) 0 = (nb (ss.getD i noS).2).getD k 0 := by
      show (nb (colL ss k)).getD i 0 = _
      rw [nb_col, nb_at]
      unfold colN
      simp [List.getD_eq_getElem?_getD, List.getElem?_eq_getElem hi]
    rw [p1, v1] at q
    exact q
theorem hid_splitE {secret : List UInt8} {ss : List Shr} (h1 : ss.length ≤ 6) (h2 : secret.length ≤ 100) : splitE secret.length 20 (hidM secret ss secret.length) = 0 := by
  unfold splitE
  rw [if_neg (by omega), if_neg (by rw [hidM_length]; omega), if_pos (hidM_all secret ss secret.length)]
theorem hidP_take {ss : List Shr} {i : Nat} (h : i < ss.length) : (hidP ss).take (i + 1) ++ [UInt8.ofNat (ss.getD i noS).1] = (hidP ss).take (i + 1 + 1) := by
  show (0 : UInt8) :: ((placesL ss).take i ++ [_]) = (0 : UInt8) :: (placesL ss).take (i + 1)
  rw [places_take h]
theorem hidV_take {secret : List UInt8} {ss : List Shr} {i k : Nat} (h : i < ss.length) : (hidV secret ss k).take (i + 1) ++ [(ss.getD i noS).2.getD k 0] = (hidV secret ss k).take (i + 1 + 1) := by
  show secret.getD k 0 :: ((colL ss k).take i ++ [_]) = secret.getD k 0 :: (colL ss k).take (i + 1)
  rw [col_take h]
end Go.Proofs.Ytegpgkadlfpfcaa
