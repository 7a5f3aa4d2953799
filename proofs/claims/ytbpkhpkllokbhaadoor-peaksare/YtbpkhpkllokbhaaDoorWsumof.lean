/- The contract of sha.SumOf: the digest of pieces, each behind the one ahead of it. -/
import Derived.Test.YtbpkhpkllokbhaaDoorWsumh
import Derived.Test.YtbpkhpkllokbhaaDoorOpenR
namespace Go.Proofs.YtbpkhpkllokbhaaDoor
open Go.RowKit
set_option linter.unusedVariables false
set_option linter.unusedSimpArgs false

/-- All of the first k pieces. -/
def firstL (ls : List (List UInt8)) (k : Nat) : List UInt8 := (ls.take k).flatten
theorem firstL_zero (ls : List (List UInt8)) : firstL ls 0 = [] := rfl
theorem firstL_all (ls : List (List UInt8)) (k : Nat) (h : ls.length ≤ k) : firstL ls k = ls.flatten := by
  unfold firstL
  rw [List.take_of_length_le h]
theorem firstL_succ (ls : List (List UInt8)) (k : Nat) (h : k < ls.length) : firstL ls (k + 1) = firstL ls k ++ ls.getD k [] := by
  unfold firstL
  rw [List.take_succ_eq_append_getElem h, List.flatten_append]
  simp [List.getD_eq_getElem?_getD, h]
theorem firstL_le (ls : List (List UInt8)) (k : Nat) : (firstL ls k).length ≤ ls.flatten.length := by
  have h : ls.flatten = (ls.take k).flatten ++ (ls.drop k).flatten := by rw [← List.flatten_append, List.take_append_drop]
  rw [h, List.length_append]
  exact Nat.le_add_right _ _

/-- A literal of slices of bytes. -/
theorem BRows.lit {w : World} {cs : Array Value} {t : TypeId} {ls : List (List UInt8)} (h : ∀ i, i < ls.length → ∃ (ai : Option Addr) (ni ci : Nat), cs[i]? = some (.slice ai ni ci) ∧ ni ≤ ci ∧ Row w ai ni (ls.getD i [])) :
    BRows (w.alloc (.cells cs t)) (some ⟨w.heap.size, 0, none⟩) ls.length ls := by
  refine ⟨rfl, .inr ⟨w.heap.size, 0, rfl, fun i hi => ?_⟩⟩
  obtain ⟨ai, ni, ci, h1, h2, h3⟩ := h i hi
  refine ⟨ai, ni, ci, ?_, h2, h3.below ((Below.refl _ _).alloc (Nat.le_refl _) _)⟩
  have hb : (w.alloc (.cells cs t)).heap[w.heap.size]? = some (.cells cs t) := by
    show (w.heap.push _)[w.heap.size]? = _
    simp
  unfold World.cell?
  rw [hb, Nat.zero_add]
  simpa using h1
theorem BRows.lit1 {w : World} {t : TypeId} {a : Option Addr} {n c : Nat} {l : List UInt8} (hc : n ≤ c) (R : Row w a n l) : BRows (w.alloc (.cells #[.slice a n c] t)) (some ⟨w.heap.size, 0, none⟩) 1 [l] := by
  refine BRows.lit (ls := [l]) fun i hi => ?_
  obtain rfl : i = 0 := by simp at hi; omega
  exact ⟨a, n, c, rfl, hc, R⟩
theorem BRows.lit2 {w : World} {t : TypeId} {a a' : Option Addr} {n c n' c' : Nat} {l l' : List UInt8} (hc : n ≤ c) (R : Row w a n l) (hc' : n' ≤ c') (R' : Row w a' n' l') : BRows (w.alloc (.cells #[.slice a n c, .slice a' n' c'] t)) (some ⟨w.heap.size, 0, none⟩) 2 [l, l'] := by
  refine BRows.lit (ls := [l, l']) fun i hi => ?_
  have : i = 0 ∨ i = 1 := by simp at hi; omega
  rcases this with rfl | rfl
  · exact ⟨a, n, c, rfl, hc, R⟩
  · exact ⟨a', n', c', rfl, hc', R'⟩
theorem BRows.lit3 {w : World} {t : TypeId} {a a' b : Option Addr} {n c n' c' m d : Nat} {l l' k : List UInt8} (hc : n ≤ c) (R : Row w a n l) (hc' : n' ≤ c') (R' : Row w a' n' l') (hd : m ≤ d) (Rk : Row w b m k) : BRows (w.alloc (.cells #[.slice a n c, .slice a' n' c', .slice b m d] t)) (some ⟨w.heap.size, 0, none⟩) 3 [l, l', k] := by
  refine BRows.lit (ls := [l, l', k]) fun i hi => ?_
  have : i = 0 ∨ i = 1 ∨ i = 2 := by simp at hi; omega
  rcases this with rfl | rfl | rfl
  · exact ⟨a, n, c, rfl, hc, R⟩
  · exact ⟨a', n', c', rfl, hc', R'⟩
  · exact ⟨b, m, d, rfl, hd, Rk⟩

set_option maxRecDepth 100000 in
set_option maxHeartbeats 1000000 in
theorem wsumof_any (a : Option Addr) (n c : Nat) (ls : List (List UInt8)) (w : World) (G : Tab w) (R : BRows w a n ls) (hl : ls.flatten.length ≤ 1000000000000000000) (hn : n ≤ 1000000000000000000) :
    Calls Tryd.prog 25 #[.slice a n c] w fun e w' => e = .returned (digestV (shaL ls.flatten)) ∧ Below w.heap.size w w' := by
  have h0 : 1 < w.heap.size := cell_block (G 0 (by omega))
  obtain ⟨w1, hw1⟩ : ∃ w1, w.alloc (.cells (cellsB z32).toArray 24) = w1 := ⟨_, rfl⟩
  have hs1 : w1.heap.size = w.heap.size + 1 := by rw [← hw1]; simp
  have hb1 : Below w.heap.size w w1 := by rw [← hw1]; exact (Below.refl _ _).alloc (Nat.le_refl _) _
  have ht1 : Hid (w1.there w.heap.size 0 32) := by rw [← hw1]; exact alloc_thereAt _ _ _ 32 _ rfl z32_size.symm
  have HG : Hid (Tab w ∧ BRows w a n ls) := ⟨G, R⟩
  have hln := R.1
  clear G R
  go_enter Tryd.func25, Tryd.ntmps25
  go_wp2_with (refine wpList_allocE (by rfl) 24 (by rfl) (cellsB z32).toArray Tryd.zeroDigest w.heap.size rfl w1 hw1 ?_)
  refine (wnew_any w1).mono ?_
  rintro e w2 ⟨rfl, H2, hb2⟩
  have HH2 : Hid (Hasher w2 w1.heap.size []) := H2
  have HB2 : Hid (Below w.heap.size w w2 ∧ w2.there w.heap.size 0 32) := ⟨below_trans hb1 hb2, there_below ht1.out hb2 (by omega)⟩
  rw [hs1] at HH2 ⊢
  clear H2 hb2 ht1 hb1 hw1
  go_wp2_with fail
  go_loopw [9] (fun i wr => ∃ k : Nat, k ≤ n ∧ i = .int .i64 (k : Int) ∧ Hasher wr (w.heap.size + 1) (firstL ls k) ∧ Below w.heap.size w wr ∧ wr.there w.heap.size 0 32) (fun i _ => n - (intOf i).toNat)
  case atStart => exact ⟨0, Nat.zero_le _, rfl, HH2.out, HB2.out.1, HB2.out.2⟩
  case round =>
    clear HH2 HB2
    obtain ⟨k, hk, rfl, hH, hB, hT⟩ := hrel
    have hle := firstL_le ls k
    have HH : Hid (Hasher wr (w.heap.size + 1) (firstL ls k)) := hH
    have hgs : w.heap.size + 1 < wr.heap.size := hH.block
    have HT : Hid (wr.there w.heap.size 0 32) := hT
    by_cases hlt : k < n
    · rcases HG.out.2.2 with hq | ⟨b, o, rfl, hcells⟩
      · omega
      obtain ⟨ai, ni, ci, e1, e3, e2⟩ := hcells k hlt
      have hcell := (hB.cell (p := ⟨b, o + k, none⟩) (cell_block e1)).trans e1
      have hni := e2.1
      have hsucc := firstL_succ ls k (by omega)
      have hle1 := firstL_le ls (k + 1)
      rw [hsucc, List.length_append] at hle1
      have HS : Hid (firstL ls (k + 1) = firstL ls k ++ ls.getD k []) := hsucc
      clear hsucc
      generalize ls.getD k [] = x at *
      generalize hp : firstL ls k = p at *
      clear hp
      have HB : Hid (Below w.heap.size w wr) := hB
      have HR : Hid (Row w ai ni x) := e2
      clear hH hB e2 e1 hT
      have hk0 : (0 : Int) ≤ (k : Int) := by omega
      have hkn : (k : Int) < (n : Int) := by omega
      go_wp2_with fail
      refine (wwrite_any (w.heap.size + 1) p ai ni ci x wr (HG.out.1.below HB.out) HH.out (HR.out.below HB.out) e3 (row_ne HR.out (by omega)) (by omega) (by omega)).mono ?_
      rintro e w3 ⟨rfl, H3, hg3⟩
      have HX : Hid (Hasher w3 (w.heap.size + 1) (firstL ls (k + 1)) ∧ Below w.heap.size w w3 ∧ w3.there w.heap.size 0 32) := by
        refine ⟨by rw [HS.out]; exact H3, below_gr HB.out hg3 HB.out.size (by omega), ?_⟩
        have hkk := hg3.block w.heap.size (by omega) (by intro e; have := Option.some.inj e; omega)
        intro j hj
        rw [World.cell?_of_block (w := wr) (a := ⟨w.heap.size, 0 + j, none⟩) hkk, World.frozen?_of_block (w := wr) (a := ⟨w.heap.size, 0 + j, none⟩) hkk]
        exact HT.out j hj
      clear H3 hg3 HH HB HT hcell hgs
      go_wp2
      go_roundw
      case rel => exact ⟨k + 1, by omega, by go_num, HX.out.1, HX.out.2.1, HX.out.2.2⟩
      case measure => simp [intOf]; omega
    · obtain rfl : k = n := by omega
      rw [firstL_all ls k (by omega)] at HH hle
      have HB : Hid (Below w.heap.size w wr) := hB
      clear hH hB hT
      go_wp2_with fail
      refine (wsumh_any (w.heap.size + 1) ls.flatten wr (HG.out.1.below HB.out) HH.out (by omega)).mono ?_
      rintro e w4 ⟨rfl, hb4⟩
      have HB4 : Hid (Below w.heap.size w w4) := below_trans HB.out hb4
      have HT4 : Hid (w4.there w.heap.size 0 32) := there_below HT.out hb4 (by omega)
      have hlen := shaL_length ls.flatten
      clear hb4 HB HT HH
      generalize hD : shaL ls.flatten = D at *
      have HD : Hid (shaL ls.flatten = D) := hD
      clear hD
      go_wp2_with (refine wpList_store_mid (by rfl) 24 (.tmp 2) (.tmp 18) (by rfl) w.heap.size 0 (cellsB D).toArray (by rfl) (by rfl) (by rw [cellsB_size, hlen]; exact HT4.out) (by rw [cellsB_size, hlen]; exact Tryd.sizeDigest) (all_oneCell_toArray (cellsB_one _)) ?_)
      refine bodyPost_ret (v := digestV D) (run_results_row Tryd.results25 _ _ w.heap.size 0 (by rfl) (cellsB D) (World.rangeAt_setCells_same _ _ _ _ (by rw [cellsB_length, hlen]; exact HT4.out)) _ Tryd.underlying24 (by rfl) (by rw [cellsB_length, hlen]; exact Tryd.sizeDigest)) rfl ⟨by rw [HD.out], ?_⟩
      exact below_setCells _ (Nat.le_refl _) _ _ _ HB4.out
end Go.Proofs.YtbpkhpkllokbhaaDoor
