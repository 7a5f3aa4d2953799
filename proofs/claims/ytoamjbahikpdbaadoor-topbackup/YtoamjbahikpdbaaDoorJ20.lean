/- Texts of this claim, joined: Wsumof, Wsum, Wunlike, Copyb. -/
import Derived.Test.YtoamjbahikpdbaaDoorJ19
import Derived.Test.YtoamjbahikpdbaaDoorJ08
import Derived.Test.YtoamjbahikpdbaaDoorJ16
import Derived.Test.YtoamjbahikpdbaaDoorJ18
import Derived.Laws.CopyOwn
/- The contract of sha.SumOf: the digest of pieces, each behind the one ahead of it. -/
namespace Go.Proofs.YtoamjbahikpdbaaDoor
open Go.RowKit
set_option linter.unusedVariables false
set_option linter.unusedSimpArgs false

/-- All of the first k pieces. -/
def firstL (ls : List (List UInt8)) (k : Nat) : List UInt8 := (ls.take k).flatten
theorem firstL_zero (ls : List (List UInt8)) : firstL ls 0 = [] := rfl
theorem firstL_all (ls : List (List UInt8)) (k : Nat) (h : ls.length ≤ k) : firstL ls k = ls.flatten := by
  unfold firstL
  rw [List.take_of_length_le h]
theorem firstL_succ (ls : List (List UInt8)) (k : Nat) (h : k < ls.length) : firstL ls (k + 1) = firstL ls k ++ ls.getD k [] := by
  unfold firstL
  rw [List.take_succ_eq_append_getElem h, List.flatten_append]
  simp [List.getD_eq_getElem?_getD, h]
theorem firstL_le (ls : List (List UInt8)) (k : Nat) : (firstL ls k).length ≤ ls.flatten.length := by
  have h : ls.flatten = (ls.take k).flatten ++ (ls.drop k).flatten := by rw [← List.flatten_append, List.take_append_drop]
  rw [h, List.length_append]
  exact Nat.le_add_right _ _

/-- A literal of slices of bytes. -/
theorem BRows.lit {w : World} {cs : Array Value} {t : TypeId} {ls : List (List UInt8)} (h : ∀ i, i < ls.length → ∃ (ai : Option Addr) (ni ci : Nat), cs[i]? = some (.slice ai ni ci) ∧ ni ≤ ci ∧ Row w ai ni (ls.getD i [])) :
    BRows (w.alloc (.cells cs t)) (some ⟨w.heap.size, 0, none⟩) ls.length ls := by
  refine ⟨rfl, .inr ⟨w.heap.size, 0, rfl, fun i hi => ?_⟩⟩
  obtain ⟨ai, ni, ci, h1, h2, h3⟩ := h i hi
  refine ⟨ai, ni, ci, ?_, h2, h3.below ((Below.refl _ _).alloc (Nat.le_refl _) _)⟩
  have hb : (w.alloc (.cells cs t)).heap[w.heap.size]? = some (.cells cs t) := by
    show (w.heap.push _)[w.heap.size]? = _
    simp
  unfold World.cell?
  rw [hb, Nat.zero_add]
  simpa using h1
theorem BRows.lit1 {w : World} {t : TypeId} {a : Option Addr} {n c : Nat} {l : List UInt8} (hc : n ≤ c) (R : Row w a n l) : BRows (w.alloc (.cells #[.slice a n c] t)) (some ⟨w.heap.size, 0, none⟩) 1 [l] := by
  refine BRows.lit (ls := [l]) fun i hi => ?_
  obtain rfl : i = 0 := by simp at hi; omega
  exact ⟨a, n, c, rfl, hc, R⟩
theorem BRows.lit2 {w : World} {t : TypeId} {a a' : Option Addr} {n c n' c' : Nat} {l l' : List UInt8} (hc : n ≤ c) (R : Row w a n l) (hc' : n' ≤ c') (R' : Row w a' n' l') : BRows (w.alloc (.cells #[.slice a n c, .slice a' n' c'] t)) (some ⟨w.heap.size, 0, none⟩) 2 [l, l'] := by
  refine BRows.lit (ls := [l, l']) fun i hi => ?_
  have : i = 0 ∨ i = 1 := by simp at hi; omega
  rcases this with rfl | rfl
  · exact ⟨a, n, c, rfl, hc, R⟩
  · exact ⟨a', n', c', rfl, hc', R'⟩
theorem BRows.lit3 {w : World} {t : TypeId} {a a' b : Option Addr} {n c n' c' m d : Nat} {l l' k : List UInt8} (hc : n ≤ c) (R : Row w a n l) (hc' : n' ≤ c') (R' : Row w a' n' l') (hd : m ≤ d) (Rk : Row w b m k) : BRows (w.alloc (.cells #[.slice a n c, .slice a' n' c', .slice b m d] t)) (some ⟨w.heap.size, 0, none⟩) 3 [l, l', k] := by
  refine BRows.lit (ls := [l, l', k]) fun i hi => ?_
  have : i = 0 ∨ i = 1 ∨ i = 2 := by simp at hi; omega
  rcases this with rfl | rfl | rfl
  · exact ⟨a, n, c, rfl, hc, R⟩
  · exact ⟨a', n', c', rfl, hc', R'⟩
  · exact ⟨b, m, d, rfl, hd, Rk⟩

set_option maxRecDepth 100000 in
set_option maxHeartbeats 1000000 in
theorem wsumof_any (a : Option Addr) (n c : Nat) (ls : List (List UInt8)) (w : World) (G : Tab w) (R : BRows w a n ls) (hl : ls.flatten.length ≤ 1000000000000000000) (hn : n ≤ 1000000000000000000) :
    Calls Tryd.prog 53 #[.slice a n c] w fun e w' => e = .returned (digestV (shaL ls.flatten)) ∧ Below w.heap.size w w' := by
  have h0 : 0 < w.heap.size := cell_block (G 0 (by omega))
  obtain ⟨w1, hw1⟩ : ∃ w1, w.alloc (.cells (cellsB z32).toArray 23) = w1 := ⟨_, rfl⟩
  have hs1 : w1.heap.size = w.heap.size + 1 := by rw [← hw1]; simp
  have hb1 : Below w.heap.size w w1 := by rw [← hw1]; exact (Below.refl _ _).alloc (Nat.le_refl _) _
  have ht1 : Hid (w1.there w.heap.size 0 32) := by rw [← hw1]; exact alloc_thereAt _ _ _ 32 _ rfl z32_size.symm
  have HG : Hid (Tab w ∧ BRows w a n ls) := ⟨G, R⟩
  have hln := R.1
  clear G R
  go_enter Tryd.func53, Tryd.ntmps53
  go_wp2_with (refine wpList_allocE (by rfl) 23 (by rfl) (cellsB z32).toArray Tryd.zeroDigest w.heap.size rfl w1 hw1 ?_)
  refine (wnew_any w1).mono ?_
  rintro e w2 ⟨rfl, H2, hb2⟩
  have HH2 : Hid (Hasher w2 w1.heap.size []) := H2
  have HB2 : Hid (Below w.heap.size w w2 ∧ w2.there w.heap.size 0 32) := ⟨below_trans hb1 hb2, there_below ht1.out hb2 (by omega)⟩
  rw [hs1] at HH2 ⊢
  clear H2 hb2 ht1 hb1 hw1
  go_wp2_with fail
  go_loopw [9] (fun i wr => ∃ k : Nat, k ≤ n ∧ i = .int .i64 (k : Int) ∧ Hasher wr (w.heap.size + 1) (firstL ls k) ∧ Below w.heap.size w wr ∧ wr.there w.heap.size 0 32) (fun i _ => n - (intOf i).toNat)
  case atStart => exact ⟨0, Nat.zero_le _, rfl, HH2.out, HB2.out.1, HB2.out.2⟩
  case round =>
    clear HH2 HB2
    obtain ⟨k, hk, rfl, hH, hB, hT⟩ := hrel
    have hle := firstL_le ls k
    have HH : Hid (Hasher wr (w.heap.size + 1) (firstL ls k)) := hH
    have hgs : w.heap.size + 1 < wr.heap.size := hH.block
    have HT : Hid (wr.there w.heap.size 0 32) := hT
    by_cases hlt : k < n
    · rcases HG.out.2.2 with hq | ⟨b, o, rfl, hcells⟩
      · omega
      obtain ⟨ai, ni, ci, e1, e3, e2⟩ := hcells k hlt
      have hcell := (hB.cell (p := ⟨b, o + k, none⟩) (cell_block e1)).trans e1
      have hni := e2.1
      have hsucc := firstL_succ ls k (by omega)
      have hle1 := firstL_le ls (k + 1)
      rw [hsucc, List.length_append] at hle1
      have HS : Hid (firstL ls (k + 1) = firstL ls k ++ ls.getD k []) := hsucc
      clear hsucc
      generalize ls.getD k [] = x at *
      generalize hp : firstL ls k = p at *
      clear hp
      have HB : Hid (Below w.heap.size w wr) := hB
      have HR : Hid (Row w ai ni x) := e2
      clear hH hB e2 e1 hT
      have hk0 : (0 : Int) ≤ (k : Int) := by omega
      have hkn : (k : Int) < (n : Int) := by omega
      go_wp2_with fail
      refine (wwrite_any (w.heap.size + 1) p ai ni ci x wr (HG.out.1.below HB.out) HH.out (HR.out.below HB.out) e3 (row_ne HR.out (by omega)) (by omega) (by omega)).mono ?_
      rintro e w3 ⟨rfl, H3, hg3⟩
      have HX : Hid (Hasher w3 (w.heap.size + 1) (firstL ls (k + 1)) ∧ Below w.heap.size w w3 ∧ w3.there w.heap.size 0 32) := by
        refine ⟨by rw [HS.out]; exact H3, below_gr HB.out hg3 HB.out.size (by omega), ?_⟩
        have hkk := hg3.block w.heap.size (by omega) (by intro e; have := Option.some.inj e; omega)
        intro j hj
        rw [World.cell?_of_block (w := wr) (a := ⟨w.heap.size, 0 + j, none⟩) hkk, World.frozen?_of_block (w := wr) (a := ⟨w.heap.size, 0 + j, none⟩) hkk]
        exact HT.out j hj
      clear H3 hg3 HH HB HT hcell hgs
      go_wp2
      go_roundw
      case rel => exact ⟨k + 1, by omega, by go_num, HX.out.1, HX.out.2.1, HX.out.2.2⟩
      case measure => simp [intOf]; omega
    · obtain rfl : k = n := by omega
      rw [firstL_all ls k (by omega)] at HH hle
      have HB : Hid (Below w.heap.size w wr) := hB
      clear hH hB hT
      go_wp2_with fail
      refine (wsumh_any (w.heap.size + 1) ls.flatten wr (HG.out.1.below HB.out) HH.out (by omega)).mono ?_
      rintro e w4 ⟨rfl, hb4⟩
      have HB4 : Hid (Below w.heap.size w w4) := below_trans HB.out hb4
      have HT4 : Hid (w4.there w.heap.size 0 32) := there_below HT.out hb4 (by omega)
      have hlen := shaL_length ls.flatten
      clear hb4 HB HT HH
      generalize hD : shaL ls.flatten = D at *
      have HD : Hid (shaL ls.flatten = D) := hD
      clear hD
      go_wp2_with (refine wpList_store_mid (by rfl) 23 (.tmp 2) (.tmp 18) (by rfl) w.heap.size 0 (cellsB D).toArray (by rfl) (by rfl) (by rw [cellsB_size, hlen]; exact HT4.out) (by rw [cellsB_size, hlen]; exact Tryd.sizeDigest) (all_oneCell_toArray (cellsB_one _)) ?_)
      refine bodyPost_ret (v := digestV D) (run_results_row Tryd.results53 _ _ w.heap.size 0 (by rfl) (cellsB D) (World.rangeAt_setCells_same _ _ _ _ (by rw [cellsB_length, hlen]; exact HT4.out)) _ Tryd.underlying23 (by rfl) (by rw [cellsB_length, hlen]; exact Tryd.sizeDigest)) rfl ⟨by rw [HD.out], ?_⟩
      exact below_setCells _ (Nat.le_refl _) _ _ _ HB4.out
end Go.Proofs.YtoamjbahikpdbaaDoor
/- The contract of sha.Sum: the digest of bytes. -/
namespace Go.Proofs.YtoamjbahikpdbaaDoor
open Go.RowKit
set_option linter.unusedVariables false
set_option linter.unusedSimpArgs false

set_option maxRecDepth 100000 in
set_option maxHeartbeats 1000000 in
theorem wsum_any (a : Option Addr) (n c : Nat) (l : List UInt8) (w : World) (G : Tab w) (R : Row w a n l) (hc : n ≤ c) (hn : n ≤ 1000000000000000000) :
    Calls Tryd.prog 42 #[.slice a n c] w fun e w' => e = .returned (digestV (shaL l)) ∧ Below w.heap.size w w' := by
  obtain ⟨w1, hw1⟩ : ∃ w1, w.alloc (.cells (cellsB z32).toArray 23) = w1 := ⟨_, rfl⟩
  have hs1 : w1.heap.size = w.heap.size + 1 := by rw [← hw1]; simp
  have hb1 : Below w.heap.size w w1 := by rw [← hw1]; exact (Below.refl _ _).alloc (Nat.le_refl _) _
  have ht1 : Hid (w1.there w.heap.size 0 32) := by rw [← hw1]; exact alloc_thereAt _ _ _ 32 _ rfl z32_size.symm
  have HG : Hid (Tab w1 ∧ BRows (w1.alloc (.cells #[.slice a n c] 33)) (some ⟨w1.heap.size, 0, none⟩) 1 [l]) := ⟨G.below hb1, BRows.lit1 hc (R.below hb1)⟩
  rw [hs1] at HG
  have hln := R.1
  clear G R
  go_enter Tryd.func42, Tryd.ntmps42
  go_wp2_with (refine wpList_allocE (by rfl) 23 (by rfl) (cellsB z32).toArray Tryd.zeroDigest w.heap.size rfl w1 hw1 ?_)
  refine (wsumof_any _ 1 1 [l] _ (HG.out.1.below ((Below.refl _ _).alloc (Nat.le_refl _) _)) HG.out.2 (by simp; omega) (by omega)).mono ?_
  rintro e w2 ⟨rfl, hb2⟩
  rw [show [l].flatten = l by simp]
  have HB2 : Hid (Below w.heap.size w w2) := below_trans hb1 (below_trans ((Below.refl _ _).alloc (Nat.le_refl _) _) hb2)
  have HT2 : Hid (w2.there w.heap.size 0 32) := there_below ht1.out (below_trans ((Below.refl _ _).alloc (Nat.le_refl _) _) hb2) (by omega)
  have hlen := shaL_length l
  clear hb2 hb1 ht1 hw1 HG
  generalize hD : shaL l = D at *
  have HD : Hid (shaL l = D) := hD
  clear hD
  go_wp2_with (refine wpList_store_mid (by rfl) 23 (.tmp 2) (.tmp 5) (by rfl) w.heap.size 0 (cellsB D).toArray (by rfl) (by rfl) (by rw [cellsB_size, hlen]; exact HT2.out) (by rw [cellsB_size, hlen]; exact Tryd.sizeDigest) (all_oneCell_toArray (cellsB_one _)) ?_)
  refine bodyPost_ret (v := digestV D) (run_results_row Tryd.results42 _ _ w.heap.size 0 (by rfl) (cellsB D) (World.rangeAt_setCells_same _ _ _ _ (by rw [cellsB_length, hlen]; exact HT2.out)) _ Tryd.underlying23 (by rfl) (by rw [cellsB_length, hlen]; exact Tryd.sizeDigest)) rfl ⟨by rw [HD.out], ?_⟩
  exact below_setCells _ (Nat.le_refl _) _ _ _ HB2.out
end Go.Proofs.YtoamjbahikpdbaaDoor
/- The contract of block.unlike: a block of which each bit is another where x has one. -/
namespace Go.Proofs.YtoamjbahikpdbaaDoor
open Go.RowKit
set_option linter.unusedVariables false
set_option linter.unusedSimpArgs false

/-- A new variable for a block. -/
def z64 : List UInt8 := List.replicate 64 0
theorem z64_size : (cellsB z64).toArray.size = 64 := by rw [cellsB_size]; rfl
theorem Tryd.zeroKblock : (Tryd.prog.info? 100).map (·.zero) = some (some (.agg (cellsB z64).toArray)) := by kernel_rfl
theorem Tryd.sizeKblock : (Tryd.prog.info? 100).map (·.size) = some 64 := by kernel_rfl
theorem cellsB_range (l : List UInt8) (n : Nat) (h : l.length = n) : cellsB l = (List.range n).map fun i => Value.int .u8 (nth l i) := by
  apply List.ext_getElem?
  intro i
  by_cases hi : i < n
  · rw [cellsB_at l i (by omega)]
    simp [hi]
  · rw [List.getElem?_eq_none (by rw [cellsB_length]; omega), List.getElem?_eq_none (by simp; omega)]
theorem nth_padX (k : List UInt8) (x : UInt8) (n i : Nat) (h : i < n) : nth (padX k x n) i = (((xorB k i x).toNat : Nat) : Int) := by
  unfold padX
  rw [nth_map_range _ _ _ h]

set_option maxRecDepth 100000 in
set_option maxHeartbeats 1000000 in
theorem wunlike_any (kk : List UInt8) (x : UInt8) (v : Int) (hv : v = (x.toNat : Int)) (w : World) (h64 : kk.length = 64) :
    Calls Tryd.prog 57 #[.agg (cellsB kk).toArray, .int .u8 v] w fun e w' => e = .returned (.agg (cellsB (padX kk x 64)).toArray) ∧ Below w.heap.size w w' := by
  have HV : Hid (v = (x.toNat : Int)) := hv
  clear hv
  obtain ⟨w2, hw2⟩ : ∃ w2, (w.alloc (.cells (cellsB kk).toArray 100)).alloc (.cells (cellsB z64).toArray 100) = w2 := ⟨_, rfl⟩
  have hs1 : (w.alloc (.cells (cellsB kk).toArray 100)).heap.size = w.heap.size + 1 := by simp
  have HO2 : Hid (OwnK .u8 100 w2 w.heap.size w.heap.size 64 64 (nth kk)) := by
    rw [← hw2]
    exact World.ownsRow.alloc (OwnK.new w _ 100 64 (by omega) (nth kk) (cellsB_range kk 64 h64)) _
  have HB2 : Hid (Below w.heap.size w w2) := by
    rw [← hw2]
    exact ((Below.refl _ _).alloc (Nat.le_refl _) _).alloc (by simp) _
  have HT2 : Hid (w2.there (w.heap.size + 1) 0 64) := by rw [← hw2]; exact alloc_thereAt _ _ _ 64 _ hs1 z64_size.symm
  go_enter Tryd.func57, Tryd.ntmps57
  go_wp2_with (refine wpList_allocE (by rfl) 100 (by rfl) (cellsB z64).toArray Tryd.zeroKblock (w.heap.size + 1) hs1 w2 hw2 ?_)
  clear hw2 hs1
  go_loopw [6] (fun i wr => ∃ t : Nat, t ≤ 64 ∧ i = .int .i64 (t : Int) ∧ OwnK .u8 100 wr w.heap.size w.heap.size 64 64 (fun q => if q < t then nth (padX kk x 64) q else nth kk q) ∧ wr.there (w.heap.size + 1) 0 64 ∧ Below w.heap.size w wr) (fun i _ => 64 - (intOf i).toNat)
  case atStart =>
    refine ⟨0, Nat.zero_le _, rfl, ?_, HT2.out, HB2.out⟩
    exact OwnK.congr HO2.out (fun i hi => by rw [if_neg (by omega)])
  case round =>
    clear HO2 HB2 HT2
    obtain ⟨t, ht, rfl, hO, hT, hB⟩ := hrel
    by_cases hlt : t < 64
    · have c0 := hO.cell t hlt
      rw [if_neg (by omega)] at c0
      have z0 := hO.frozen t
      have E1 : bits .xor .u8 (nth kk t) v = (((xorB kk t x).toNat : Nat) : Int) := by rw [HV.out]; exact xor_byte kk t x
      have HN : Hid (nth (padX kk x 64) t = (((xorB kk t x).toNat : Nat) : Int)) := nth_padX _ _ _ _ hlt
      have HO : Hid (OwnK .u8 100 wr w.heap.size w.heap.size 64 64 (fun q => if q < t then nth (padX kk x 64) q else nth kk q)) := hO
      have HT : Hid (wr.there (w.heap.size + 1) 0 64) := hT
      clear hO hT
      have ht0 : (0 : Int) ≤ (t : Int) := by omega
      have ht1 : (t : Int) < 64 := by omega
      generalize hy : (((xorB kk t x).toNat : Nat) : Int) = y at *
      clear hy
      go_wp2
      go_roundw
      case rel =>
        refine ⟨t + 1, by omega, by go_num, (OwnK.store HO.out t _).congr fun q hq => ?_, there_set HT.out _ _ _, hB.setCell (Nat.le_refl _) _⟩
        by_cases hqt : q = t
        · subst hqt
          rw [if_pos rfl, if_pos (by omega), HN.out]
        · rw [if_neg hqt]
          by_cases hlt2 : q < t
          · rw [if_pos hlt2, if_pos (by omega)]
          · rw [if_neg hlt2, if_neg (by omega)]
      case measure => simp [intOf]; omega
    · obtain rfl : t = 64 := by omega
      have HD : Hid (DAt wr w.heap.size 0 (padX kk x 64)) := hO.bat (padX_length _ _ _) fun i hi => by rw [if_pos hi]
      have HT : Hid (wr.there (w.heap.size + 1) 0 64) := hT
      have hlen := padX_length kk x 64
      clear hO hT
      generalize hD : padX kk x 64 = D at *
      have HE : Hid (padX kk x 64 = D) := hD
      clear hD
      go_wp2_with (first
        | (refine wpList_load_mid (by rfl) 100 (.tmp 2) (by rfl) w.heap.size 0 (by rfl) (cellsB D) _ HD.out Tryd.underlying100 (by rfl) (by rw [cellsB_length, hlen]; exact Tryd.sizeKblock) ?_)
        | (refine wpList_store_mid (by rfl) 100 (.tmp 4) (.tmp 16) (by rfl) (w.heap.size + 1) 0 (cellsB D).toArray (by rfl) (by rfl) (by rw [cellsB_size, hlen]; exact HT.out) (by rw [cellsB_size, hlen]; exact Tryd.sizeKblock) (all_oneCell_toArray (cellsB_one _)) ?_))
      refine bodyPost_ret (v := .agg (cellsB D).toArray) (run_results_row Tryd.results57 _ _ (w.heap.size + 1) 0 (by rfl) (cellsB D) (World.rangeAt_setCells_same _ _ _ _ (by rw [cellsB_length, hlen]; exact HT.out)) _ Tryd.underlying100 (by rfl) (by rw [cellsB_length, hlen]; exact Tryd.sizeKblock)) rfl ⟨by rw [HE.out], ?_⟩
      exact below_setCells _ (by omega) _ _ _ hB
end Go.Proofs.YtoamjbahikpdbaaDoor
/- copy of bytes: whatever the slice, into cells that are there. -/
namespace Go.Proofs.YtoamjbahikpdbaaDoor
open Go.RowKit
set_option linter.unusedVariables false
set_option linter.unusedSimpArgs false

theorem blkPut_len {blk : List UInt8} {r : Nat} {y : List UInt8} (hr : r + y.length ≤ blk.length) : (blkPut blk r y).length = blk.length := by
  simp [blkPut]; omega
theorem blkPut_at {blk : List UInt8} {r : Nat} {y : List UInt8} (hr : r + y.length ≤ blk.length) (i : Nat) :
    nth (blkPut blk r y) i = if i < r then nth blk i else if i < r + y.length then nth y (i - r) else nth blk i := by
  unfold nth blkPut
  have hl : (blk.take r).length = r := by simp; omega
  simp only [List.getD_eq_getElem?_getD]
  by_cases h1 : i < r
  · rw [if_pos h1, List.append_assoc, List.getElem?_append_left (by omega), List.getElem?_take, if_pos h1]
  · rw [if_neg h1]
    by_cases h2 : i < r + y.length
    · rw [if_pos h2, List.append_assoc, List.getElem?_append_right (by omega), hl, List.getElem?_append_left (by omega)]
    · rw [if_neg h2, List.append_assoc, List.getElem?_append_right (by omega), hl, List.getElem?_append_right (by omega), List.getElem?_drop]
      rw [show r + y.length + (i - r - y.length) = i by omega]
/-- Bytes put into a row that lies there. -/
theorem dat_put {w : World} {b o r : Nat} {blk y : List UInt8} (h : DAt w b o blk) (ht : w.there b o blk.length) (hr : r + y.length ≤ blk.length) : DAt (w.setCells b (o + r) (cellsB y)) b o (blkPut blk r y) := by
  have hs : ∀ j, j < (cellsB y).length → (w.cell? ⟨b, o + r + j, none⟩).isSome = true := fun j hj => by
    rw [cellsB_length] at hj
    have := (ht (r + j) (by omega)).1
    rwa [← Nat.add_assoc] at this
  refine DAt.mk fun i hi => ?_
  rw [blkPut_len hr] at hi
  rw [blkPut_at hr i]
  by_cases c1 : i < r
  · rw [if_pos c1, World.cell?_setCells_out _ _ _ _ _ (fun _ _ => Or.inl (by show o + i < o + r; omega))]
    exact DAt.cell h i (by omega)
  · rw [if_neg c1]
    by_cases c2 : i < r + y.length
    · rw [if_pos c2]
      have := World.cell?_setCells_in b (cellsB y) (o + r) w hs (i - r) (by rw [cellsB_length]; omega)
      rw [show o + r + (i - r) = o + i by omega] at this
      rw [this]
      have := cellsB_at y (i - r) (by omega)
      rw [List.getElem?_eq_getElem (by rw [cellsB_length]; omega)] at this
      exact this
    · rw [if_neg c2, World.cell?_setCells_out _ _ _ _ _ (fun _ _ => Or.inr (by show o + r + (cellsB y).length ≤ o + i; rw [cellsB_length]; omega))]
      exact DAt.cell h i (by omega)
/-- 'copy(d, s)', s any slice of bytes. -/
theorem wpList_copy_bytes {P : Program} {w : World} {ops : Array Oper} {rest : List Oper} {o : Oper} {a : Act} {Q : Exit → Act → World → Prop} (hgd : o.guard = none) (d s : Operand) (dT sT : TypeId)
    (ho : o.op = .call { callee := .builtin .copy, args := #[d, s], argTypes := #[dT, sT] }) (elem : TypeId) (hu : P.underlying dT = some (.slice elem)) (hsz : (P.info? elem).map (·.size) = some 1)
    (dp : Option Addr) (dLen dCap : Nat) (hd : a.eval d = .slice dp dLen dCap) (ad : Option Addr) (n c : Nat) (l : List UInt8) (hs : a.eval s = .slice ad n c) (R : Row w ad n l)
    (m : Nat) (hm : m = Nat.min n dLen) (b off : Nat) (hdp : 0 < m → dp = some ⟨b, off, none⟩) (ht : w.there b off m)
    (h : wpList P ops Q rest (a.put o.dst (.int .i64 (m : Int))) (w.setCells b off (cellsB (l.take m)))) : wpList P ops Q (o :: rest) a w := by
  obtain ⟨hl, hR⟩ := R
  have hmn : m ≤ n := by rw [hm]; exact Nat.min_le_left _ _
  by_cases h0 : m = 0
  · subst h0
    exact wpList_copy_nothing hgd d s dT sT ho elem hu hsz dp ad dLen dCap n c hd hs hm.symm h
  · rcases hR with h1 | ⟨sb, so, rfl, hcells⟩
    · omega
    obtain rfl := hdp (by omega)
    have hlen : (cellsB (l.take m)).length = m := by rw [cellsB_length, List.length_take]; omega
    refine wpList_plain hgd fun K hK => ?_
    have hrun := run_copy_cells (P := P) w dT sT o.type elem b off dLen dCap ⟨sb, so, none⟩ n c (cellsB (l.take m)) hu hsz (by rw [hlen, hm]) (fun j v hj => by
      have hj' : j < m := by have := (List.getElem?_eq_some_iff.1 hj).1; omega
      rw [Go.WideShapes.add_plain, hcells j (by omega), ← hj, cellsB_at _ j (by rw [List.length_take]; omega)]
      unfold nth
      simp only [List.getD_eq_getElem?_getD, List.getElem?_take, if_pos hj']) (fun j hj => (ht j (by omega)).1) (fun j hj => (ht j (by omega)).2) (cellsB_one _)
    rw [hlen] at hrun
    unfold Oper.wp
    simp [execOp, ho, resolve, invoke, builtin, hd, hs, hrun, Result.andThen]
    exact hK _ _ h
end Go.Proofs.YtoamjbahikpdbaaDoor
