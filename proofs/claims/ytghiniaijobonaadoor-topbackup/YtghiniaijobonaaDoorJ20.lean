/- Texts of this claim, joined: Wsumh, Wsumof, Wsum, Wunlike. -/
import Derived.Test.YtghiniaijobonaaDoorJ19
import Derived.Test.YtghiniaijobonaaDoorJ08
import Derived.Test.YtghiniaijobonaaDoorJ16
/- The contract of Hasher.Sum: the digest of all that was taken. -/
namespace Go.Proofs.YtghiniaijobonaaDoor
open Go.RowKit
set_option linter.unusedVariables false
set_option linter.unusedSimpArgs false

/-- A Hasher's cells. -/
def hcells (h : List Nat) (blk : List UInt8) (n : Nat) : List Value := cellsW h ++ cellsB blk ++ [.int .i64 (n : Int)]
theorem hcells_length {h : List Nat} {blk : List UInt8} (n : Nat) (h8 : h.length = 8) (h64 : blk.length = 64) : (hcells h blk n).length = 73 := by
  unfold hcells
  rw [List.length_append, List.length_append, cellsW_length, cellsB_length, h8, h64]
  rfl
theorem hcells_one (h : List Nat) (blk : List UInt8) (n : Nat) : ∀ v ∈ hcells h blk n, v.oneCell' = true := by
  intro v hv
  unfold hcells at hv
  rcases List.mem_append.1 hv with h1 | h1
  · rcases List.mem_append.1 h1 with h1 | h1
    · exact cellsW_one _ _ h1
    · exact cellsB_one _ _ h1
  · rw [List.mem_singleton.1 h1]; rfl
theorem HAt.range {w : World} {g n : Nat} {h : List Nat} {blk : List UInt8} (H : HAt w g h blk n) : w.rangeAt g 0 (hcells h blk n) := by
  obtain ⟨h1, h2, h3, h4, h5, h6⟩ := H
  intro j v hj
  unfold hcells at hj
  rw [Nat.zero_add]
  have lw := cellsW_length h
  have lb := cellsB_length blk
  by_cases c1 : j < 8
  · rw [List.append_assoc, List.getElem?_append_left (by omega)] at hj
    have := h1 j v hj
    rwa [Nat.zero_add] at this
  · by_cases c2 : j < 72
    · rw [List.append_assoc, List.getElem?_append_right (by omega), List.getElem?_append_left (by omega)] at hj
      have := h2 (j - (cellsW h).length) v hj
      rwa [show 8 + (j - (cellsW h).length) = j by omega] at this
    · rw [List.getElem?_append_right (by rw [List.length_append]; omega)] at hj
      have hlt := (List.getElem?_eq_some_iff.1 hj).1
      rw [List.length_append, lw, lb] at hlt hj
      simp only [List.length_singleton] at hlt
      have hj2 : j = 72 := by omega
      subst hj2
      rw [h5, h6] at hj
      have : Value.int .i64 (n : Int) = v := Option.some.inj hj
      rw [← this]
      exact h3
theorem hat_of_range {w : World} {g n : Nat} {h : List Nat} {blk : List UInt8} (h8 : h.length = 8) (h64 : blk.length = 64) (hr : w.rangeAt g 0 (hcells h blk n)) (ht : w.there g 0 73) : HAt w g h blk n := by
  have lw := cellsW_length h
  have lb := cellsB_length blk
  refine ⟨?_, ?_, ?_, ht, h8, h64⟩
  · intro j v hj
    refine hr j v ?_
    have := (List.getElem?_eq_some_iff.1 hj).1
    unfold hcells
    rw [List.append_assoc, List.getElem?_append_left this]
    exact hj
  · intro j v hj
    have := (List.getElem?_eq_some_iff.1 hj).1
    have h2 := hr (8 + j) v (by
      unfold hcells
      rw [List.append_assoc, List.getElem?_append_right (by omega), lw, h8, Nat.add_sub_cancel_left, List.getElem?_append_left this]
      exact hj)
    rwa [Nat.zero_add] at h2
  · have h2 := hr 72 (.int .i64 (n : Int)) (by
      unfold hcells
      rw [List.getElem?_append_right (by rw [List.length_append]; omega), List.length_append, lw, lb, h8, h64]
      rfl)
    rwa [Nat.zero_add] at h2
/-- A new variable for a Hasher. -/
def zH : List Value := cellsW (List.replicate 8 0) ++ cellsB (List.replicate 64 0) ++ [.int .i64 0]
theorem zH_length : zH.toArray.size = 73 := by
  show zH.length = 73
  unfold zH
  rw [List.length_append, List.length_append, cellsW_length, cellsB_length, List.length_replicate, List.length_replicate]
  rfl
theorem Tryd.zeroHasher : (Tryd.prog.info? 118).map (·.zero) = some (some (.agg zH.toArray)) := by kernel_rfl
theorem Tryd.sizeHasher : (Tryd.prog.info? 118).map (·.size) = some 73 := by kernel_rfl
/-- A new variable for a digest. -/
def z32 : List UInt8 := List.replicate 32 0
theorem z32_size : (cellsB z32).toArray.size = 32 := by rw [cellsB_size]; rfl
theorem Tryd.zeroDigest : (Tryd.prog.info? 23).map (·.zero) = some (some (.agg (cellsB z32).toArray)) := by kernel_rfl
theorem Tryd.sizeDigest : (Tryd.prog.info? 23).map (·.size) = some 32 := by kernel_rfl
theorem padL_mod (l : List UInt8) : (padL l).length % 64 = 0 := by
  rw [padL_end, List.length_append, endL_length]
  omega

set_option maxRecDepth 100000 in
set_option maxHeartbeats 1000000 in
theorem wsumh_any (g : Nat) (l : List UInt8) (w : World) (G : Tab w) (H : Hasher w g l) (hn : l.length ≤ 1000000000000000000) :
    Calls Tryd.prog 62 #[.pointer (some ⟨g, 0, none⟩)] w fun e w' => e = .returned (digestV (shaL l)) ∧ Below w.heap.size w w' := by
  have hgl := H.block
  have h0 : 0 < w.heap.size := cell_block (G 0 (by omega))
  obtain ⟨h, blk, HA, HK⟩ := H
  have hlw := HA.2.2.2.2.1
  have hlb := HA.2.2.2.2.2
  have HRN : Hid (w.rangeAt g 0 (hcells h blk l.length)) := HA.range
  have hlen := hcells_length l.length hlw hlb
  have hone := hcells_one h blk l.length
  have HHK : Hid (Took h blk l) := HK
  have HG : Hid (Tab w) := G
  clear HA HK G
  generalize hC : hcells h blk l.length = C at *
  have HC : Hid (hcells h blk l.length = C) := hC
  clear hC
  obtain ⟨w1, hw1⟩ : ∃ w1, w.alloc (.cells (cellsB z32).toArray 23) = w1 := ⟨_, rfl⟩
  obtain ⟨w2, hw2⟩ : ∃ w2, w1.alloc (.cells zH.toArray 118) = w2 := ⟨_, rfl⟩
  have hs1 : w1.heap.size = w.heap.size + 1 := by rw [← hw1]; simp
  have hr1 : Hid (w1.rangeAt g 0 C) := by rw [← hw1]; exact World.rangeAt_alloc HRN.out _
  have hb1 : Below w.heap.size w w1 := by rw [← hw1]; exact (Below.refl _ _).alloc (Nat.le_refl _) _
  have ht1 : w1.there w.heap.size 0 32 := by rw [← hw1]; exact alloc_thereAt _ _ _ 32 _ rfl z32_size.symm
  have hb2 : Below w1.heap.size w1 w2 := by rw [← hw2]; exact (Below.refl _ _).alloc (Nat.le_refl _) _
  have ht2 : Hid (w2.there (w.heap.size + 1) 0 73) := by rw [← hw2]; exact alloc_thereAt _ _ _ 73 _ hs1 zH_length.symm
  have HB2 : Hid (Below w.heap.size w w2 ∧ w2.there w.heap.size 0 32 ∧ w2.heap.size = w.heap.size + 1 + 1) := ⟨below_trans hb1 hb2, there_below ht1 hb2 (by omega), by rw [← hw2]; simp [hs1]⟩
  clear hb1 ht1 hb2
  have HC1 : Hid (w2.there (w.heap.size + 1) 0 C.toArray.size) := by
    have : C.toArray.size = 73 := hlen
    unfold Hid
    rw [this]
    exact ht2.out
  have HC2 : Hid ((Tryd.prog.info? 118).map (·.size) = some C.toArray.size) := by
    have : C.toArray.size = 73 := hlen
    unfold Hid
    rw [this]
    exact Tryd.sizeHasher
  have HC3 : Hid (C.toArray.all (·.oneCell') = true) := all_oneCell_toArray hone
  clear hone
  go_enter Tryd.func62, Tryd.ntmps62
  go_wp2_with (first
    | (refine wpList_allocE (by rfl) 23 (by rfl) (cellsB z32).toArray Tryd.zeroDigest w.heap.size rfl w1 hw1 ?_)
    | (refine wpList_load_mid (by rfl) 118 (.tmp 5) (by rfl) g 0 (by rfl) C _ hr1.out Tryd.underlying118 (by rfl) (by rw [hlen]; exact Tryd.sizeHasher) ?_)
    | (refine wpList_allocE (by rfl) 118 (by rfl) zH.toArray Tryd.zeroHasher (w.heap.size + 1) hs1 w2 hw2 ?_)
    | (refine wpList_store_mid (by rfl) 118 (.tmp 3) (.tmp 6) (by rfl) (w.heap.size + 1) 0 C.toArray (by rfl) (by rfl) HC1.out HC2.out HC3.out ?_))
  have H3 : Hid (Hasher (w2.setCells (w.heap.size + 1) 0 C) (w.heap.size + 1) l) := by
    refine ⟨h, blk, hat_of_range hlw hlb ?_ (World.there_setCells ht2.out _ _ _), HHK.out⟩
    rw [HC.out]
    exact World.rangeAt_setCells_same _ _ _ _ (by rw [hlen]; exact ht2.out)
  have HB3 : Hid (Below w.heap.size w (w2.setCells (w.heap.size + 1) 0 C) ∧ (w2.setCells (w.heap.size + 1) 0 C).there w.heap.size 0 32 ∧ w.heap.size + 1 < (w2.setCells (w.heap.size + 1) 0 C).heap.size) :=
    ⟨below_setCells _ (by omega) _ _ _ HB2.out.1, World.there_setCells HB2.out.2.1 _ _ _, by have := (gr_setCells (w.heap.size + 1) C 0 w2).size; have := HB2.out.2.2; omega⟩
  clear hr1 ht2 HB2 HC1 HC2 HC3 HRN hw1 hw2 hs1 HHK HC hlen
  generalize w2.setCells (w.heap.size + 1) 0 C = w3 at *
  refine (wfinish_any (w.heap.size + 1) l w3 (HG.out.below HB3.out.1) H3.out (by omega) hn).mono ?_
  rintro e w4 ⟨rfl, H4, hg4⟩
  have HB4 : Hid (Below w.heap.size w w4) := below_gr HB3.out.1 hg4 (by have := HB3.out.2.2; omega) (by omega)
  have HT4 : Hid (w4.there w.heap.size 0 32) := by
    have hk := hg4.block w.heap.size (by have := HB3.out.2.2; omega) (by intro e; have := Option.some.inj e; omega)
    intro j hj
    rw [World.cell?_of_block (w := w3) (a := ⟨w.heap.size, 0 + j, none⟩) hk, World.frozen?_of_block (w := w3) (a := ⟨w.heap.size, 0 + j, none⟩) hk]
    exact HB3.out.2.1 j hj
  have hs4 : w.heap.size < w4.heap.size := by have := hg4.size; have := HB3.out.2.2; omega
  obtain ⟨h', blk', HA', HK'⟩ := H4
  obtain ⟨h8', hf'⟩ := HK'.words
  have HE : Hid (shaL l = outL h') := by
    unfold Hid shaL
    rw [HK'.1]
  have HR4 : Hid (w4.rangeAt (w.heap.size + 1) 0 (cellsW h')) := HA'.1
  have HF : Hid (Fit h') := hf'
  clear HA' HK' H3 HB3 hg4 hf'
  go_wp2_with (refine wpList_load_mid (by rfl) 116 (.tmp 8) (by rfl) (w.heap.size + 1) 0 (by rfl) (cellsW h') _ HR4.out Tryd.underlying116 (by rfl) (by rw [cellsW_length, h8']; exact Tryd.sizeState) ?_)
  refine (wdigest_any h' w4 h8' HF.out).mono ?_
  rintro e w5 ⟨rfl, hb5⟩
  have HB5 : Hid (Below w.heap.size w w5) := below_trans HB4.out hb5
  have HT5 : Hid (w5.there w.heap.size 0 32) := there_below HT4.out hb5 hs4
  have hlen := outL_length h'
  rw [← HE.out] at hlen ⊢
  clear hb5 HB4 HT4 HR4 HF HE
  generalize hD : shaL l = D at *
  have HD : Hid (shaL l = D) := hD
  clear hD
  go_wp2_with (refine wpList_store_mid (by rfl) 23 (.tmp 2) (.tmp 10) (by rfl) w.heap.size 0 (cellsB D).toArray (by rfl) (by rfl) (by rw [cellsB_size, hlen]; exact HT5.out) (by rw [cellsB_size, hlen]; exact Tryd.sizeDigest) (all_oneCell_toArray (cellsB_one _)) ?_)
  refine bodyPost_ret (v := digestV D) (run_results_row Tryd.results62 _ _ w.heap.size 0 (by rfl) (cellsB D) (World.rangeAt_setCells_same _ _ _ _ (by rw [cellsB_length, hlen]; exact HT5.out)) _ Tryd.underlying23 (by rfl) (by rw [cellsB_length, hlen]; exact Tryd.sizeDigest)) rfl ⟨by rw [HD.out], ?_⟩
  exact below_setCells _ (Nat.le_refl _) _ _ _ HB5.out
end Go.Proofs.YtghiniaijobonaaDoor
/- The contract of sha.SumOf: the digest of pieces, each behind the one ahead of it. -/
namespace Go.Proofs.YtghiniaijobonaaDoor
open Go.RowKit
set_option linter.unusedVariables false
set_option linter.unusedSimpArgs false

/-- All of the first k pieces. -/
def firstL (ls : List (List UInt8)) (k : Nat) : List UInt8 := (ls.take k).flatten
theorem firstL_zero (ls : List (List UInt8)) : firstL ls 0 = [] := rfl
theorem firstL_all (ls : List (List UInt8)) (k : Nat) (h : ls.length ≤ k) : firstL ls k = ls.flatten := by
  unfold firstL
  rw [List.take_of_length_le h]
theorem firstL_succ (ls : List (List UInt8)) (k : Nat) (h : k < ls.length) : firstL ls (k + 1) = firstL ls k ++ ls.getD k [] := by
  unfold firstL
  rw [List.take_succ_eq_append_getElem h, List.flatten_append]
  simp [List.getD_eq_getElem?_getD, h]
theorem firstL_le (ls : List (List UInt8)) (k : Nat) : (firstL ls k).length ≤ ls.flatten.length := by
  have h : ls.flatten = (ls.take k).flatten ++ (ls.drop k).flatten := by rw [← List.flatten_append, List.take_append_drop]
  rw [h, List.length_append]
  exact Nat.le_add_right _ _

/-- A literal of slices of bytes. -/
theorem BRows.lit {w : World} {cs : Array Value} {t : TypeId} {ls : List (List UInt8)} (h : ∀ i, i < ls.length → ∃ (ai : Option Addr) (ni ci : Nat), cs[i]? = some (.slice ai ni ci) ∧ ni ≤ ci ∧ Row w ai ni (ls.getD i [])) :
    BRows (w.alloc (.cells cs t)) (some ⟨w.heap.size, 0, none⟩) ls.length ls := by
  refine ⟨rfl, .inr ⟨w.heap.size, 0, rfl, fun i hi => ?_⟩⟩
  obtain ⟨ai, ni, ci, h1, h2, h3⟩ := h i hi
  refine ⟨ai, ni, ci, ?_, h2, h3.below ((Below.refl _ _).alloc (Nat.le_refl _) _)⟩
  have hb : (w.alloc (.cells cs t)).heap[w.heap.size]? = some (.cells cs t) := by
    show (w.heap.push _)[w.heap.size]? = _
    simp
  unfold World.cell?
  rw [hb, Nat.zero_add]
  simpa using h1
theorem BRows.lit1 {w : World} {t : TypeId} {a : Option Addr} {n c : Nat} {l : List UInt8} (hc : n ≤ c) (R : Row w a n l) : BRows (w.alloc (.cells #[.slice a n c] t)) (some ⟨w.heap.size, 0, none⟩) 1 [l] := by
  refine BRows.lit (ls := [l]) fun i hi => ?_
  obtain rfl : i = 0 := by simp at hi; omega
  exact ⟨a, n, c, rfl, hc, R⟩
theorem BRows.lit2 {w : World} {t : TypeId} {a a' : Option Addr} {n c n' c' : Nat} {l l' : List UInt8} (hc : n ≤ c) (R : Row w a n l) (hc' : n' ≤ c') (R' : Row w a' n' l') : BRows (w.alloc (.cells #[.slice a n c, .slice a' n' c'] t)) (some ⟨w.heap.size, 0, none⟩) 2 [l, l'] := by
  refine BRows.lit (ls := [l, l']) fun i hi => ?_
  have : i = 0 ∨ i = 1 := by simp at hi; omega
  rcases this with rfl | rfl
  · exact ⟨a, n, c, rfl, hc, R⟩
  · exact ⟨a', n', c', rfl, hc', R'⟩
theorem BRows.lit3 {w : World} {t : TypeId} {a a' b : Option Addr} {n c n' c' m d : Nat} {l l' k : List UInt8} (hc : n ≤ c) (R : Row w a n l) (hc' : n' ≤ c') (R' : Row w a' n' l') (hd : m ≤ d) (Rk : Row w b m k) : BRows (w.alloc (.cells #[.slice a n c, .slice a' n' c', .slice b m d] t)) (some ⟨w.heap.size, 0, none⟩) 3 [l, l', k] := by
  refine BRows.lit (ls := [l, l', k]) fun i hi => ?_
  have : i = 0 ∨ i = 1 ∨ i = 2 := by simp at hi; omega
  rcases this with rfl | rfl | rfl
  · exact ⟨a, n, c, rfl, hc, R⟩
  · exact ⟨a', n', c', rfl, hc', R'⟩
  · exact ⟨b, m, d, rfl, hd, Rk⟩

set_option maxRecDepth 100000 in
set_option maxHeartbeats 1000000 in
theorem wsumof_any (a : Option Addr) (n c : Nat) (ls : List (List UInt8)) (w : World) (G : Tab w) (R : BRows w a n ls) (hl : ls.flatten.length ≤ 1000000000000000000) (hn : n ≤ 1000000000000000000) :
    Calls Tryd.prog 53 #[.slice a n c] w fun e w' => e = .returned (digestV (shaL ls.flatten)) ∧ Below w.heap.size w w' := by
  have h0 : 0 < w.heap.size := cell_block (G 0 (by omega))
  obtain ⟨w1, hw1⟩ : ∃ w1, w.alloc (.cells (cellsB z32).toArray 23) = w1 := ⟨_, rfl⟩
  have hs1 : w1.heap.size = w.heap.size + 1 := by rw [← hw1]; simp
  have hb1 : Below w.heap.size w w1 := by rw [← hw1]; exact (Below.refl _ _).alloc (Nat.le_refl _) _
  have ht1 : Hid (w1.there w.heap.size 0 32) := by rw [← hw1]; exact alloc_thereAt _ _ _ 32 _ rfl z32_size.symm
  have HG : Hid (Tab w ∧ BRows w a n ls) := ⟨G, R⟩
  have hln := R.1
  clear G R
  go_enter Tryd.func53, Tryd.ntmps53
  go_wp2_with (refine wpList_allocE (by rfl) 23 (by rfl) (cellsB z32).toArray Tryd.zeroDigest w.heap.size rfl w1 hw1 ?_)
  refine (wnew_any w1).mono ?_
  rintro e w2 ⟨rfl, H2, hb2⟩
  have HH2 : Hid (Hasher w2 w1.heap.size []) := H2
  have HB2 : Hid (Below w.heap.size w w2 ∧ w2.there w.heap.size 0 32) := ⟨below_trans hb1 hb2, there_below ht1.out hb2 (by omega)⟩
  rw [hs1] at HH2 ⊢
  clear H2 hb2 ht1 hb1 hw1
  go_wp2_with fail
  go_loopw [9] (fun i wr => ∃ k : Nat, k ≤ n ∧ i = .int .i64 (k : Int) ∧ Hasher wr (w.heap.size + 1) (firstL ls k) ∧ Below w.heap.size w wr ∧ wr.there w.heap.size 0 32) (fun i _ => n - (intOf i).toNat)
  case atStart => exact ⟨0, Nat.zero_le _, rfl, HH2.out, HB2.out.1, HB2.out.2⟩
  case round =>
    clear HH2 HB2
    obtain ⟨k, hk, rfl, hH, hB, hT⟩ := hrel
    have hle := firstL_le ls k
    have HH : Hid (Hasher wr (w.heap.size + 1) (firstL ls k)) := hH
    have hgs : w.heap.size + 1 < wr.heap.size := hH.block
    have HT : Hid (wr.there w.heap.size 0 32) := hT
    by_cases hlt : k < n
    · rcases HG.out.2.2 with hq | ⟨b, o, rfl, hcells⟩
      · omega
      obtain ⟨ai, ni, ci, e1, e3, e2⟩ := hcells k hlt
      have hcell := (hB.cell (p := ⟨b, o + k, none⟩) (cell_block e1)).trans e1
      have hni := e2.1
      have hsucc := firstL_succ ls k (by omega)
      have hle1 := firstL_le ls (k + 1)
      rw [hsucc, List.length_append] at hle1
      have HS : Hid (firstL ls (k + 1) = firstL ls k ++ ls.getD k []) := hsucc
      clear hsucc
      generalize ls.getD k [] = x at *
      generalize hp : firstL ls k = p at *
      clear hp
      have HB : Hid (Below w.heap.size w wr) := hB
      have HR : Hid (Row w ai ni x) := e2
      clear hH hB e2 e1 hT
      have hk0 : (0 : Int) ≤ (k : Int) := by omega
      have hkn : (k : Int) < (n : Int) := by omega
      go_wp2_with fail
      refine (wwrite_any (w.heap.size + 1) p ai ni ci x wr (HG.out.1.below HB.out) HH.out (HR.out.below HB.out) e3 (row_ne HR.out (by omega)) (by omega) (by omega)).mono ?_
      rintro e w3 ⟨rfl, H3, hg3⟩
      have HX : Hid (Hasher w3 (w.heap.size + 1) (firstL ls (k + 1)) ∧ Below w.heap.size w w3 ∧ w3.there w.heap.size 0 32) := by
        refine ⟨by rw [HS.out]; exact H3, below_gr HB.out hg3 HB.out.size (by omega), ?_⟩
        have hkk := hg3.block w.heap.size (by omega) (by intro e; have := Option.some.inj e; omega)
        intro j hj
        rw [World.cell?_of_block (w := wr) (a := ⟨w.heap.size, 0 + j, none⟩) hkk, World.frozen?_of_block (w := wr) (a := ⟨w.heap.size, 0 + j, none⟩) hkk]
        exact HT.out j hj
      clear H3 hg3 HH HB HT hcell hgs
      go_wp2
      go_roundw
      case rel => exact ⟨k + 1, by omega, by go_num, HX.out.1, HX.out.2.1, HX.out.2.2⟩
      case measure => simp [intOf]; omega
    · obtain rfl : k = n := by omega
      rw [firstL_all ls k (by omega)] at HH hle
      have HB : Hid (Below w.heap.size w wr) := hB
      clear hH hB hT
      go_wp2_with fail
      refine (wsumh_any (w.heap.size + 1) ls.flatten wr (HG.out.1.below HB.out) HH.out (by omega)).mono ?_
      rintro e w4 ⟨rfl, hb4⟩
      have HB4 : Hid (Below w.heap.size w w4) := below_trans HB.out hb4
      have HT4 : Hid (w4.there w.heap.size 0 32) := there_below HT.out hb4 (by omega)
      have hlen := shaL_length ls.flatten
      clear hb4 HB HT HH
      generalize hD : shaL ls.flatten = D at *
      have HD : Hid (shaL ls.flatten = D) := hD
      clear hD
      go_wp2_with (refine wpList_store_mid (by rfl) 23 (.tmp 2) (.tmp 18) (by rfl) w.heap.size 0 (cellsB D).toArray (by rfl) (by rfl) (by rw [cellsB_size, hlen]; exact HT4.out) (by rw [cellsB_size, hlen]; exact Tryd.sizeDigest) (all_oneCell_toArray (cellsB_one _)) ?_)
      refine bodyPost_ret (v := digestV D) (run_results_row Tryd.results53 _ _ w.heap.size 0 (by rfl) (cellsB D) (World.rangeAt_setCells_same _ _ _ _ (by rw [cellsB_length, hlen]; exact HT4.out)) _ Tryd.underlying23 (by rfl) (by rw [cellsB_length, hlen]; exact Tryd.sizeDigest)) rfl ⟨by rw [HD.out], ?_⟩
      exact below_setCells _ (Nat.le_refl _) _ _ _ HB4.out
end Go.Proofs.YtghiniaijobonaaDoor
/- The contract of sha.Sum: the digest of bytes. -/
namespace Go.Proofs.YtghiniaijobonaaDoor
open Go.RowKit
set_option linter.unusedVariables false
set_option linter.unusedSimpArgs false

set_option maxRecDepth 100000 in
set_option maxHeartbeats 1000000 in
theorem wsum_any (a : Option Addr) (n c : Nat) (l : List UInt8) (w : World) (G : Tab w) (R : Row w a n l) (hc : n ≤ c) (hn : n ≤ 1000000000000000000) :
    Calls Tryd.prog 40 #[.slice a n c] w fun e w' => e = .returned (digestV (shaL l)) ∧ Below w.heap.size w w' := by
  obtain ⟨w1, hw1⟩ : ∃ w1, w.alloc (.cells (cellsB z32).toArray 23) = w1 := ⟨_, rfl⟩
  have hs1 : w1.heap.size = w.heap.size + 1 := by rw [← hw1]; simp
  have hb1 : Below w.heap.size w w1 := by rw [← hw1]; exact (Below.refl _ _).alloc (Nat.le_refl _) _
  have ht1 : Hid (w1.there w.heap.size 0 32) := by rw [← hw1]; exact alloc_thereAt _ _ _ 32 _ rfl z32_size.symm
  have HG : Hid (Tab w1 ∧ BRows (w1.alloc (.cells #[.slice a n c] 33)) (some ⟨w1.heap.size, 0, none⟩) 1 [l]) := ⟨G.below hb1, BRows.lit1 hc (R.below hb1)⟩
  rw [hs1] at HG
  have hln := R.1
  clear G R
  go_enter Tryd.func40, Tryd.ntmps40
  go_wp2_with (refine wpList_allocE (by rfl) 23 (by rfl) (cellsB z32).toArray Tryd.zeroDigest w.heap.size rfl w1 hw1 ?_)
  refine (wsumof_any _ 1 1 [l] _ (HG.out.1.below ((Below.refl _ _).alloc (Nat.le_refl _) _)) HG.out.2 (by simp; omega) (by omega)).mono ?_
  rintro e w2 ⟨rfl, hb2⟩
  rw [show [l].flatten = l by simp]
  have HB2 : Hid (Below w.heap.size w w2) := below_trans hb1 (below_trans ((Below.refl _ _).alloc (Nat.le_refl _) _) hb2)
  have HT2 : Hid (w2.there w.heap.size 0 32) := there_below ht1.out (below_trans ((Below.refl _ _).alloc (Nat.le_refl _) _) hb2) (by omega)
  have hlen := shaL_length l
  clear hb2 hb1 ht1 hw1 HG
  generalize hD : shaL l = D at *
  have HD : Hid (shaL l = D) := hD
  clear hD
  go_wp2_with (refine wpList_store_mid (by rfl) 23 (.tmp 2) (.tmp 5) (by rfl) w.heap.size 0 (cellsB D).toArray (by rfl) (by rfl) (by rw [cellsB_size, hlen]; exact HT2.out) (by rw [cellsB_size, hlen]; exact Tryd.sizeDigest) (all_oneCell_toArray (cellsB_one _)) ?_)
  refine bodyPost_ret (v := digestV D) (run_results_row Tryd.results40 _ _ w.heap.size 0 (by rfl) (cellsB D) (World.rangeAt_setCells_same _ _ _ _ (by rw [cellsB_length, hlen]; exact HT2.out)) _ Tryd.underlying23 (by rfl) (by rw [cellsB_length, hlen]; exact Tryd.sizeDigest)) rfl ⟨by rw [HD.out], ?_⟩
  exact below_setCells _ (Nat.le_refl _) _ _ _ HB2.out
end Go.Proofs.YtghiniaijobonaaDoor
/- The contract of block.unlike: a block of which each bit is another where x has one. -/
namespace Go.Proofs.YtghiniaijobonaaDoor
open Go.RowKit
set_option linter.unusedVariables false
set_option linter.unusedSimpArgs false

/-- A new variable for a block. -/
def z64 : List UInt8 := List.replicate 64 0
theorem z64_size : (cellsB z64).toArray.size = 64 := by rw [cellsB_size]; rfl
theorem Tryd.zeroKblock : (Tryd.prog.info? 99).map (·.zero) = some (some (.agg (cellsB z64).toArray)) := by kernel_rfl
theorem Tryd.sizeKblock : (Tryd.prog.info? 99).map (·.size) = some 64 := by kernel_rfl
theorem cellsB_range (l : List UInt8) (n : Nat) (h : l.length = n) : cellsB l = (List.range n).map fun i => Value.int .u8 (nth l i) := by
  apply List.ext_getElem?
  intro i
  by_cases hi : i < n
  · rw [cellsB_at l i (by omega)]
    simp [hi]
  · rw [List.getElem?_eq_none (by rw [cellsB_length]; omega), List.getElem?_eq_none (by simp; omega)]
theorem nth_padX (k : List UInt8) (x : UInt8) (n i : Nat) (h : i < n) : nth (padX k x n) i = (((xorB k i x).toNat : Nat) : Int) := by
  unfold padX
  rw [nth_map_range _ _ _ h]

set_option maxRecDepth 100000 in
set_option maxHeartbeats 1000000 in
theorem wunlike_any (kk : List UInt8) (x : UInt8) (v : Int) (hv : v = (x.toNat : Int)) (w : World) (h64 : kk.length = 64) :
    Calls Tryd.prog 59 #[.agg (cellsB kk).toArray, .int .u8 v] w fun e w' => e = .returned (.agg (cellsB (padX kk x 64)).toArray) ∧ Below w.heap.size w w' := by
  have HV : Hid (v = (x.toNat : Int)) := hv
  clear hv
  obtain ⟨w2, hw2⟩ : ∃ w2, (w.alloc (.cells (cellsB kk).toArray 99)).alloc (.cells (cellsB z64).toArray 99) = w2 := ⟨_, rfl⟩
  have hs1 : (w.alloc (.cells (cellsB kk).toArray 99)).heap.size = w.heap.size + 1 := by simp
  have HO2 : Hid (OwnK .u8 99 w2 w.heap.size w.heap.size 64 64 (nth kk)) := by
    rw [← hw2]
    exact World.ownsRow.alloc (OwnK.new w _ 99 64 (by omega) (nth kk) (cellsB_range kk 64 h64)) _
  have HB2 : Hid (Below w.heap.size w w2) := by
    rw [← hw2]
    exact ((Below.refl _ _).alloc (Nat.le_refl _) _).alloc (by simp) _
  have HT2 : Hid (w2.there (w.heap.size + 1) 0 64) := by rw [← hw2]; exact alloc_thereAt _ _ _ 64 _ hs1 z64_size.symm
  go_enter Tryd.func59, Tryd.ntmps59
  go_wp2_with (refine wpList_allocE (by rfl) 99 (by rfl) (cellsB z64).toArray Tryd.zeroKblock (w.heap.size + 1) hs1 w2 hw2 ?_)
  clear hw2 hs1
  go_loopw [6] (fun i wr => ∃ t : Nat, t ≤ 64 ∧ i = .int .i64 (t : Int) ∧ OwnK .u8 99 wr w.heap.size w.heap.size 64 64 (fun q => if q < t then nth (padX kk x 64) q else nth kk q) ∧ wr.there (w.heap.size + 1) 0 64 ∧ Below w.heap.size w wr) (fun i _ => 64 - (intOf i).toNat)
  case atStart =>
    refine ⟨0, Nat.zero_le _, rfl, ?_, HT2.out, HB2.out⟩
    exact OwnK.congr HO2.out (fun i hi => by rw [if_neg (by omega)])
  case round =>
    clear HO2 HB2 HT2
    obtain ⟨t, ht, rfl, hO, hT, hB⟩ := hrel
    by_cases hlt : t < 64
    · have c0 := hO.cell t hlt
      rw [if_neg (by omega)] at c0
      have z0 := hO.frozen t
      have E1 : bits .xor .u8 (nth kk t) v = (((xorB kk t x).toNat : Nat) : Int) := by rw [HV.out]; exact xor_byte kk t x
      have HN : Hid (nth (padX kk x 64) t = (((xorB kk t x).toNat : Nat) : Int)) := nth_padX _ _ _ _ hlt
      have HO : Hid (OwnK .u8 99 wr w.heap.size w.heap.size 64 64 (fun q => if q < t then nth (padX kk x 64) q else nth kk q)) := hO
      have HT : Hid (wr.there (w.heap.size + 1) 0 64) := hT
      clear hO hT
      have ht0 : (0 : Int) ≤ (t : Int) := by omega
      have ht1 : (t : Int) < 64 := by omega
      generalize hy : (((xorB kk t x).toNat : Nat) : Int) = y at *
      clear hy
      go_wp2
      go_roundw
      case rel =>
        refine ⟨t + 1, by omega, by go_num, (OwnK.store HO.out t _).congr fun q hq => ?_, there_set HT.out _ _ _, hB.setCell (Nat.le_refl _) _⟩
        by_cases hqt : q = t
        · subst hqt
          rw [if_pos rfl, if_pos (by omega), HN.out]
        · rw [if_neg hqt]
          by_cases hlt2 : q < t
          · rw [if_pos hlt2, if_pos (by omega)]
          · rw [if_neg hlt2, if_neg (by omega)]
      case measure => simp [intOf]; omega
    · obtain rfl : t = 64 := by omega
      have HD : Hid (DAt wr w.heap.size 0 (padX kk x 64)) := hO.bat (padX_length _ _ _) fun i hi => by rw [if_pos hi]
      have HT : Hid (wr.there (w.heap.size + 1) 0 64) := hT
      have hlen := padX_length kk x 64
      clear hO hT
      generalize hD : padX kk x 64 = D at *
      have HE : Hid (padX kk x 64 = D) := hD
      clear hD
      go_wp2_with (first
        | (refine wpList_load_mid (by rfl) 99 (.tmp 2) (by rfl) w.heap.size 0 (by rfl) (cellsB D) _ HD.out Tryd.underlying99 (by rfl) (by rw [cellsB_length, hlen]; exact Tryd.sizeKblock) ?_)
        | (refine wpList_store_mid (by rfl) 99 (.tmp 4) (.tmp 16) (by rfl) (w.heap.size + 1) 0 (cellsB D).toArray (by rfl) (by rfl) (by rw [cellsB_size, hlen]; exact HT.out) (by rw [cellsB_size, hlen]; exact Tryd.sizeKblock) (all_oneCell_toArray (cellsB_one _)) ?_))
      refine bodyPost_ret (v := .agg (cellsB D).toArray) (run_results_row Tryd.results59 _ _ (w.heap.size + 1) 0 (by rfl) (cellsB D) (World.rangeAt_setCells_same _ _ _ _ (by rw [cellsB_length, hlen]; exact HT.out)) _ Tryd.underlying99 (by rfl) (by rw [cellsB_length, hlen]; exact Tryd.sizeKblock)) rfl ⟨by rw [HE.out], ?_⟩
      exact below_setCells _ (by omega) _ _ _ hB
end Go.Proofs.YtghiniaijobonaaDoor
