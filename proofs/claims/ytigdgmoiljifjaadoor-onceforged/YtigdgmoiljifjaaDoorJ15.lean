/- Texts of this claim, joined: Rof, Ronce, Roncep, Ronces. -/
import Derived.Test.YtigdgmoiljifjaaDoorJ14
import Derived.Test.YtigdgmoiljifjaaDoorJ04
import Derived.Test.YtigdgmoiljifjaaDoorJ13
import Derived.Test.YtigdgmoiljifjaaDoorJ03
/- The contract of oathbookref1.Of: the digest of a byte and digests. -/
namespace Go.Proofs.YtigdgmoiljifjaaDoor
open Go.RowKit
set_option linter.unusedVariables false
set_option linter.unusedSimpArgs false
theorem OwnL.lit1 (w : World) (B : Nat) (x : UInt8) (hB : B ≤ w.heap.size) : OwnL (w.alloc (.cells #[.int .u8 (x.toNat : Int)] 5)) B (.slice (some ⟨w.heap.size, 0, none⟩) 1 1) [x] :=
  World.ownsRow_lit w #[.int .u8 (x.toNat : Int)] 1 hB (by unfold maxLen; omega) rfl
theorem OwnL.lit1' (w : World) (B s : Nat) (x : UInt8) (hs : w.heap.size = s) (hB : B ≤ s) : OwnL (w.alloc (.cells #[.int .u8 (x.toNat : Int)] 5)) B (.slice (some ⟨s, 0, none⟩) 1 1) [x] := by
  subst hs
  exact OwnL.lit1 w B x hB
theorem take_flatten (ls : List (List UInt8)) (k : Nat) (h : k < ls.length) : (ls.take k).flatten ++ ls.getD k [] = (ls.take (k + 1)).flatten := by
  rw [List.take_succ_eq_append_getElem h, List.flatten_append]
  simp [List.getD_eq_getElem?_getD, List.getElem?_eq_getElem h]
theorem flatten_length {ls : List (List UInt8)} (h : ∀ l ∈ ls, l.length = 32) : ls.flatten.length = 32 * ls.length := by
  induction ls with
  | nil => rfl
  | cons a r ih =>
    rw [List.flatten_cons, List.length_append, h a (List.mem_cons_self ..), ih (fun l hl => h l (List.mem_cons_of_mem _ hl)), List.length_cons]
    omega
theorem take_len {ls : List (List UInt8)} (h : ∀ l ∈ ls, l.length = 32) (k : Nat) (hk : k ≤ ls.length) : (ls.take k).flatten.length = 32 * k := by
  rw [flatten_length (fun l hl => h l (List.mem_of_mem_take hl)), List.length_take, Nat.min_eq_left hk]

set_option maxRecDepth 100000 in
set_option maxHeartbeats 1000000 in
theorem rof_any (x : UInt8) (a : Option Addr) (n c : Nat) (ls : List (List UInt8)) (w : World) (R : DRow w a n ls) (hn : 32 * n ≤ 140737488351232) :
    Calls Tryd.prog 17 #[.int .u8 (x.toNat : Int), .slice a n c] w fun e w' => e = .returned (digestV (shaL (x :: ls.flatten))) ∧ Below w.heap.size w w' := by
  obtain ⟨i0, hi, hz0, hz1, hz2⟩ := info_parts Tryd.infoU8
  have HLS : Hid (ls.length = n ∧ ∀ l ∈ ls, l.length = 32) := ⟨R.1, R.2.1⟩
  have HLD : Hid (∀ i, i < n → (ls.getD i []).length = 32) := R.len
  have HD : Hid (n = 0 ∨ ∃ b o, a = some ⟨b, o, none⟩ ∧ ∀ i, i < n → DAt w b (o + 32 * i) (ls.getD i [])) := R.2.2
  clear R
  go_enter Tryd.func17, Tryd.ntmps17
  go_wp2
  go_loopw [5, 6] (fun v i wr => ∃ k : Nat, k ≤ n ∧ i = .int .i64 (k : Int) ∧ OwnL wr (w.heap.size + 1) v (x :: (ls.take k).flatten) ∧ Below (w.heap.size + 1) (w.alloc _) wr) (fun _ i _ => n - (intOf i).toNat)
  case atStart => exact ⟨0, Nat.zero_le _, rfl, OwnL.lit1' _ _ _ x (by simp) (Nat.le_refl _), (Below.refl _ _).alloc (by simp) _⟩
  case round =>
    obtain ⟨k, hk, rfl, hO, hB⟩ := hrel
    have hsz : w.heap.size + 1 ≤ wr.heap.size := by have := hB.size; simpa using this
    by_cases hlt : k < n
    · rcases HD.out with h0 | ⟨b, o, rfl, hc⟩
      · omega
      have BW : Below w.heap.size w wr := ((Below.refl _ _).alloc (Nat.le_refl _) _).trans (hB.mono (Nat.le_succ _))
      have hd := hc k hlt
      have hl := HLD.out k hlt
      have hd := hd.below BW (cell_block (hd.cell 0 (by omega)))
      have hk' := take_flatten ls k (by have := HLS.out.1; omega)
      generalize ls.getD k [] = d at *
      have HDk : Hid (DAt wr b (o + k * 32) d) := by rw [Nat.mul_comm k 32]; exact hd
      have HL : Hid (d.length = 32 ∧ (ls.take k).flatten ++ d = (ls.take (k + 1)).flatten) := ⟨hl, hk'⟩
      have HO : Hid (OwnL wr (w.heap.size + 1) u5 (x :: (ls.take k).flatten)) := hO
      have el : (x :: (ls.take k).flatten).length = 1 + 32 * k := by rw [List.length_cons, take_len HLS.out.2 k (by have := HLS.out.1; omega)]; omega
      have HEL : Hid ((x :: (ls.take k).flatten).length = 1 + 32 * k) := el
      clear hd hl hk' hc hO BW el
      go_wp2_with (first
        | (refine wpList_load_mid (by rfl) 23 (.tmp 18) (by rfl) b (o + k * 32) (by rfl) (cellsB d) _ HDk.out Tryd.underlying23 (by rfl) (by rw [cellsB_length, HL.out.1]; kernel_rfl) ?_)
        | (refine wpList_store_mid (by rfl) 23 (.tmp 7) (.tmp 19) (by rfl) wr.heap.size 0 (cellsB d).toArray (by rfl) (by rfl) (by rw [cells32 HL.out.1]; exact there_new wr _) (by rw [cells32 HL.out.1]; kernel_rfl) (all_oneCell_toArray (cellsB_one _)) ?_)
        | (at_builtin; refine wpList_append_bytes rfl (.tmp 20) (.tmp 21) 49 rfl (w.heap.size + 1) i0 Tryd.underlying49 hi hz0 hz1 hz2 u5 (x :: (ls.take k).flatten) rfl (OwnL.below HO.out (new_stored _ _ _)) (some ⟨wr.heap.size, 0, none⟩) 32 32 d rfl ((dat_stored (there_new wr _) HL.out.1).row HL.out.1) (by rw [HEL.out]; omega) (Nat.le_trans hsz (new_stored _ _ _).size) ?_; intro v5 w5 ho5 hg5))
      have B5 := OwnL.grown (OwnL.below HO.out (new_stored _ _ _)) (hB.trans ((new_stored wr _ _).mono hsz)) hg5 (Nat.le_refl _) (Nat.le_trans hsz (new_stored _ _ _).size)
      have ho5 : OwnL w5 (w.heap.size + 1) v5 (x :: (ls.take (k + 1)).flatten) := by rw [← HL.out.2]; exact ho5
      clear hg5 HO hB
      go_wp2
      go_roundw
      case rel => exact ⟨k + 1, by omega, by go_num, ho5, B5⟩
      case measure => simp [intOf]; omega
    · obtain rfl : k = n := by omega
      obtain ⟨g, c5, rfl, R5, _⟩ := hO.formSome (by simp)
      have el : (x :: (ls.take k).flatten).length = 1 + 32 * k := by rw [List.length_cons, take_len HLS.out.2 k (by have := HLS.out.1; omega)]; omega
      rw [el] at R5
      rw [el]
      have et : (ls.take k).flatten = ls.flatten := by rw [List.take_of_length_le (by have := HLS.out.1; omega)]
      rw [et] at R5
      have HT : Hid (wr.there w.heap.size 0 32) := there_digest hB
      clear hO el et
      go_wp2_with fail
      refine (rsum_any _ _ _ _ _ R5 (by omega)).mono ?_
      rintro e w6 ⟨rfl, hb6⟩
      go_wp2_with (refine wpList_store_mid (by rfl) 23 (.tmp 4) (.tmp 24) (by rfl) w.heap.size 0 (cellsB (shaL (x :: ls.flatten))).toArray (by rfl) (by rfl) (by rw [cells32 (shaL_length _)]; exact there_digest (hB.trans (hb6.mono hsz))) (by rw [cells32 (shaL_length _)]; kernel_rfl) (all_oneCell_toArray (cellsB_one _)) ?_)
      refine bodyPost_ret (v := digestV (shaL (x :: ls.flatten))) (run_results_digest Tryd.results17 _ _ w.heap.size 0 (by rfl) (shaL (x :: ls.flatten)) (dat_stored (there_digest (hB.trans (hb6.mono hsz))) (shaL_length _)) _ Tryd.underlying23 (by rfl) (by rw [shaL_length]; kernel_rfl)) rfl ⟨rfl, ?_⟩
      exact below_setCells _ (Nat.le_refl _) _ _ _ (((Below.refl _ _).alloc (Nat.le_refl _) _).trans ((hB.mono (Nat.le_succ _)).trans (hb6.mono (by omega))))
end Go.Proofs.YtigdgmoiljifjaaDoor
/- The contracts of oathbookref1's keyed, OnceSecret and OnceLeaf. -/
namespace Go.Proofs.YtigdgmoiljifjaaDoor
open Go.RowKit
set_option linter.unusedVariables false
set_option linter.unusedSimpArgs false

set_option maxRecDepth 100000 in
set_option maxHeartbeats 1000000 in
theorem rkeyed_any (seed : List UInt8) (a : Option Addr) (n c : Nat) (b : List UInt8) (w : World) (hs : seed.length = 32) (R : Row w a n b) (hn : n ≤ 140737488353000) :
    Calls Tryd.prog 23 #[digestV seed, .slice a n c] w fun e w' => e = .returned (digestV (macL seed b)) ∧ Below w.heap.size w w' := by
  obtain ⟨w2, hw2⟩ : ∃ w2, (w.alloc (.cells (cellsB seed).toArray 23)).alloc (.cells (cellsB zD).toArray 23) = w2 := ⟨_, rfl⟩
  have hs1 : (w.alloc (.cells (cellsB seed).toArray 23)).heap.size = w.heap.size + 1 := by simp
  have hs2 : w2.heap.size = w.heap.size + 1 + 1 := by rw [← hw2]; simp
  have HR2 : Hid (Row w2 (some ⟨w.heap.size, 0, none⟩) 32 seed) := by
    rw [← hw2]
    exact DAt.row (World.rangeAt_alloc (box_dat w seed _) _) hs
  have HT2 : Hid (w2.there (w.heap.size + 1) 0 32) := by rw [← hw2]; exact alloc_thereAt _ _ _ 32 _ hs1 zD_size.symm
  have HB2 : Hid (Below w.heap.size w w2) := by rw [← hw2]; exact ((Below.refl _ _).alloc (Nat.le_refl _) _).alloc (by simp) _
  have HRb : Hid (Row w2 a n b) := R.below HB2.out
  clear R
  go_enter Tryd.func23, Tryd.ntmps23
  go_wp2_with (refine wpList_allocE (by rfl) 23 (by rfl) (cellsB zD).toArray Tryd.zeroDg (w.heap.size + 1) hs1 w2 hw2 ?_)
  refine (rmac_any (some ⟨w.heap.size, 0, none⟩) a 32 n 32 c seed b w2 HR2.out HRb.out (by omega) hn).mono ?_
  rintro e w3 ⟨rfl, hb3⟩
  have HB3 : Hid (Below w.heap.size w w3) := below_trans HB2.out hb3
  have HT3 : Hid (w3.there (w.heap.size + 1) 0 32) := there_below HT2.out hb3 (by omega)
  have hlen := macL_length seed b
  clear hb3 HB2 HT2 HR2 HRb hw2 hs2 hs1
  generalize hD : macL seed b = D at *
  have HD : Hid (macL seed b = D) := hD
  clear hD
  go_wp2_with (refine wpList_store_mid (by rfl) 23 (.tmp 4) (.tmp 7) (by rfl) (w.heap.size + 1) 0 (cellsB D).toArray (by rfl) (by rfl) (by rw [cellsB_size, hlen]; exact HT3.out) (by rw [cellsB_size, hlen]; exact Tryd.sizeDg) (all_oneCell_toArray (cellsB_one _)) ?_)
  refine bodyPost_ret (v := digestV D) (run_results_row Tryd.results23 _ _ (w.heap.size + 1) 0 (by rfl) (cellsB D) (World.rangeAt_setCells_same _ _ _ _ (by rw [cellsB_length, hlen]; exact HT3.out)) _ Tryd.underlying23 (by rfl) (by rw [cellsB_length, hlen]; exact Tryd.sizeDg)) rfl ⟨by rw [HD.out], ?_⟩
  exact below_setCells _ (by omega) _ _ _ HB3.out

/-- A literal of bytes. -/
theorem Row.litL (w : World) (cs : Array Value) (t : TypeId) (l : List UInt8) (h : cs.toList = cellsB l) (n : Nat) (hn : l.length = n) : Row (w.alloc (.cells cs t)) (some ⟨w.heap.size, 0, none⟩) n l := by
  have : DAt (w.alloc (.cells cs t)) w.heap.size 0 l := by
    unfold DAt
    rw [← h]
    exact alloc_range w cs t
  exact ⟨hn, .inr ⟨w.heap.size, 0, rfl, fun i hi => this.cell i (by omega)⟩⟩

set_option maxRecDepth 100000 in
set_option maxHeartbeats 1000000 in
theorem ronceSecret_any (seed : List UInt8) (i bit : Nat) (w : World) (hs : seed.length = 32) (hi : i < 256) (hbit : bit < 256) :
    Calls Tryd.prog 16 #[digestV seed, .int .i64 (i : Int), .int .i64 (bit : Int)] w fun e w' => e = .returned (digestV (onceSecL seed i bit)) ∧ Below w.heap.size w w' := by
  obtain ⟨w2, hw2⟩ : ∃ w2, (w.alloc (.cells (cellsB seed).toArray 23)).alloc (.cells (cellsB zD).toArray 23) = w2 := ⟨_, rfl⟩
  have hs1 : (w.alloc (.cells (cellsB seed).toArray 23)).heap.size = w.heap.size + 1 := by simp
  have hs2 : w2.heap.size = w.heap.size + 1 + 1 := by rw [← hw2]; simp
  have HD2 : Hid (DAt w2 w.heap.size 0 seed) := by rw [← hw2]; exact World.rangeAt_alloc (box_dat w seed _) _
  have HT2 : Hid (w2.there (w.heap.size + 1) 0 32) := by rw [← hw2]; exact alloc_thereAt _ _ _ 32 _ hs1 zD_size.symm
  have HB2 : Hid (Below w.heap.size w w2) := by rw [← hw2]; exact ((Below.refl _ _).alloc (Nat.le_refl _) _).alloc (by simp) _
  have hR3 : Row (w2.alloc (.cells #[.int .u8 2, .int .u8 (i : Int), .int .u8 (bit : Int)] 5)) (some ⟨w2.heap.size, 0, none⟩) 3 [2, UInt8.ofNat i, UInt8.ofNat bit] := by
    refine Row.litL _ _ _ _ ?_ 3 rfl
    have e1 : (UInt8.ofNat i).toNat = i := by rw [UInt8.toNat_ofNat']; omega
    have e2 : (UInt8.ofNat bit).toNat = bit := by rw [UInt8.toNat_ofNat']; omega
    simp [cellsB, e1, e2]
  have HR3 : Hid (Row (w2.alloc (.cells #[.int .u8 2, .int .u8 (i : Int), .int .u8 (bit : Int)] 5)) (some ⟨w.heap.size + 1 + 1, 0, none⟩) 3 [2, UInt8.ofNat i, UInt8.ofNat bit]) := by rw [← hs2]; exact hR3
  have hb3 : Below w2.heap.size w2 (w2.alloc (.cells #[.int .u8 2, .int .u8 (i : Int), .int .u8 (bit : Int)] 5)) := (Below.refl _ _).alloc (Nat.le_refl _) _
  have HB3 : Hid (Below w.heap.size w (w2.alloc (.cells #[.int .u8 2, .int .u8 (i : Int), .int .u8 (bit : Int)] 5))) := below_trans HB2.out hb3
  have HT3 : Hid ((w2.alloc (.cells #[.int .u8 2, .int .u8 (i : Int), .int .u8 (bit : Int)] 5)).there (w.heap.size + 1) 0 32) := there_below HT2.out hb3 (by omega)
  clear hR3 hb3
  have i0 : (0 : Int) ≤ (i : Int) := by omega
  have i1 : (i : Int) < 256 := by omega
  have b0 : (0 : Int) ≤ (bit : Int) := by omega
  have b1 : (bit : Int) < 256 := by omega
  go_enter Tryd.func16, Tryd.ntmps16
  go_wp2_with (first
    | (refine wpList_allocE (by rfl) 23 (by rfl) (cellsB zD).toArray Tryd.zeroDg (w.heap.size + 1) hs1 w2 hw2 ?_)
    | (refine wpList_load_mid (by rfl) 23 (.tmp 3) (by rfl) w.heap.size 0 (by rfl) (cellsB seed) _ HD2.out Tryd.underlying23 (by rfl) (by rw [cellsB_length, hs]; exact Tryd.sizeDg) ?_))
  refine (rkeyed_any seed _ 3 3 _ _ hs HR3.out (by omega)).mono ?_
  rintro e w4 ⟨rfl, hb4⟩
  have hE : macL seed [2, UInt8.ofNat i, UInt8.ofNat bit] = onceSecL seed i bit := rfl
  rw [hE]
  have HB4 : Hid (Below w.heap.size w w4) := below_trans HB3.out hb4
  have HT4 : Hid (w4.there (w.heap.size + 1) 0 32) := there_below HT3.out hb4 (by simp; omega)
  have hlen := onceSecL_length seed i bit
  clear hb4 HB2 HT2 HD2 hw2 hs2 hs1 HR3 HB3 HT3 hE
  generalize hD : onceSecL seed i bit = D at *
  have HD : Hid (onceSecL seed i bit = D) := hD
  clear hD
  go_wp2_with (refine wpList_store_mid (by rfl) 23 (.tmp 6) (.tmp 13) (by rfl) (w.heap.size + 1) 0 (cellsB D).toArray (by rfl) (by rfl) (by rw [cellsB_size, hlen]; exact HT4.out) (by rw [cellsB_size, hlen]; exact Tryd.sizeDg) (all_oneCell_toArray (cellsB_one _)) ?_)
  refine bodyPost_ret (v := digestV D) (run_results_row Tryd.results16 _ _ (w.heap.size + 1) 0 (by rfl) (cellsB D) (World.rangeAt_setCells_same _ _ _ _ (by rw [cellsB_length, hlen]; exact HT4.out)) _ Tryd.underlying23 (by rfl) (by rw [cellsB_length, hlen]; exact Tryd.sizeDg)) rfl ⟨by rw [HD.out], ?_⟩
  exact below_setCells _ (by omega) _ _ _ HB4.out

set_option maxRecDepth 100000 in
set_option maxHeartbeats 1000000 in
theorem ronceLeaf_any (d : List UInt8) (w : World) (hd : d.length = 32) :
    Calls Tryd.prog 15 #[digestV d] w fun e w' => e = .returned (digestV (onceLeafL d)) ∧ Below w.heap.size w w' := by
  obtain ⟨iD, hiD, hzD0, hzD1, hzD2⟩ := info_parts Tryd.infoDg
  obtain ⟨w2, hw2⟩ : ∃ w2, (w.alloc (.cells (cellsB d).toArray 23)).alloc (.cells (cellsB zD).toArray 23) = w2 := ⟨_, rfl⟩
  have hs1 : (w.alloc (.cells (cellsB d).toArray 23)).heap.size = w.heap.size + 1 := by simp
  have hs2 : w2.heap.size = w.heap.size + 1 + 1 := by rw [← hw2]; simp
  have HD2 : Hid (DAt w2 w.heap.size 0 d) := by rw [← hw2]; exact World.rangeAt_alloc (box_dat w d _) _
  have HT2 : Hid (w2.there (w.heap.size + 1) 0 32) := by rw [← hw2]; exact alloc_thereAt _ _ _ 32 _ hs1 zD_size.symm
  have HB2 : Hid (Below w.heap.size w w2) := by rw [← hw2]; exact ((Below.refl _ _).alloc (Nat.le_refl _) _).alloc (by simp) _
  have hb3 : Below w2.heap.size w2 (w2.alloc (.cells (cellsB d).toArray 23)) := (Below.refl _ _).alloc (Nat.le_refl _) _
  have HR3 : Hid (DRow (w2.alloc (.cells (cellsB d).toArray 23)) (some ⟨w.heap.size + 1 + 1, 0, none⟩) 1 [d]) := by rw [← hs2]; exact DRow.lit1 w2 d _ hd
  have HB3 : Hid (Below w.heap.size w (w2.alloc (.cells (cellsB d).toArray 23))) := below_trans HB2.out hb3
  have HT3 : Hid ((w2.alloc (.cells (cellsB d).toArray 23)).there (w.heap.size + 1) 0 32) := there_below HT2.out hb3 (by omega)
  clear hb3
  go_enter Tryd.func15, Tryd.ntmps15
  go_wp2_with (first
    | (refine wpList_allocE (by rfl) 23 (by rfl) (cellsB zD).toArray Tryd.zeroDg (w.heap.size + 1) hs1 w2 hw2 ?_)
    | (refine wpList_load_mid (by rfl) 23 (.tmp 1) (by rfl) w.heap.size 0 (by rfl) (cellsB d) _ HD2.out Tryd.underlying23 (by rfl) (by rw [cellsB_length, hd]; exact Tryd.sizeDg) ?_)
    | (refine wpList_build1 (by rfl) (.tmp 3) 24 (by rfl) 23 (.agg zeros32) iD d hd (by rfl) Tryd.underlying24 hiD hzD0 (by rfl) hzD1 ?_))
  try rw [hs2]
  refine (rof_any 3 _ 1 1 [d] _ HR3.out (by omega)).mono ?_
  rintro e w4 ⟨rfl, hb4⟩
  have hE : shaL (3 :: [d].flatten) = onceLeafL d := by simp [onceLeafL]
  rw [hE]
  have HB4 : Hid (Below w.heap.size w w4) := below_trans HB3.out hb4
  have HT4 : Hid (w4.there (w.heap.size + 1) 0 32) := there_below HT3.out hb4 (by simp; omega)
  have hlen := onceLeafL_length d
  clear hb4 HB2 HT2 HD2 hw2 hs2 hs1 HR3 HB3 HT3 hE
  generalize hD : onceLeafL d = D at *
  have HD : Hid (onceLeafL d = D) := hD
  clear hD
  go_wp2_with (refine wpList_store_mid (by rfl) 23 (.tmp 2) (.tmp 5) (by rfl) (w.heap.size + 1) 0 (cellsB D).toArray (by rfl) (by rfl) (by rw [cellsB_size, hlen]; exact HT4.out) (by rw [cellsB_size, hlen]; exact Tryd.sizeDg) (all_oneCell_toArray (cellsB_one _)) ?_)
  refine bodyPost_ret (v := digestV D) (run_results_row Tryd.results15 _ _ (w.heap.size + 1) 0 (by rfl) (cellsB D) (World.rangeAt_setCells_same _ _ _ _ (by rw [cellsB_length, hlen]; exact HT4.out)) _ Tryd.underlying23 (by rfl) (by rw [cellsB_length, hlen]; exact Tryd.sizeDg)) rfl ⟨by rw [HD.out], ?_⟩
  exact below_setCells _ (by omega) _ _ _ HB4.out
end Go.Proofs.YtigdgmoiljifjaaDoor
/- The contract of oathbookref1.OncePublic. -/
namespace Go.Proofs.YtigdgmoiljifjaaDoor
open Go.RowKit
set_option linter.unusedVariables false
set_option linter.unusedSimpArgs false

theorem half_int (k : Nat) : (k : Int).tdiv 2 = ((k / 2 : Nat) : Int) ∧ (k : Int) / 2 = ((k / 2 : Nat) : Int) ∧ (k : Int).tmod 2 = ((k % 2 : Nat) : Int) ∧ (k : Int) % 2 = ((k % 2 : Nat) : Int) := by
  refine ⟨by rw [Int.tdiv_eq_ediv_of_nonneg (by omega)]; omega, by omega, by rw [Int.tmod_eq_emod_of_nonneg (by omega)]; omega, by omega⟩

set_option maxRecDepth 100000 in
set_option maxHeartbeats 1000000 in
theorem roncePublic_any (seed : List UInt8) (w : World) (hs : seed.length = 32) :
    Calls Tryd.prog 10 #[digestV seed] w fun e w' => e = .returned (digestV (oncePubL seed)) ∧ Below w.heap.size w w' := by
  obtain ⟨iD, hiD, hzD0, hzD1, hzD2⟩ := info_parts Tryd.infoDg
  obtain ⟨w2, hw2⟩ : ∃ w2, (w.alloc (.cells (cellsB seed).toArray 23)).alloc (.cells (cellsB zD).toArray 23) = w2 := ⟨_, rfl⟩
  have hs1 : (w.alloc (.cells (cellsB seed).toArray 23)).heap.size = w.heap.size + 1 := by simp
  have hs2 : w2.heap.size = w.heap.size + 1 + 1 := by rw [← hw2]; simp
  have HS2 : Hid (w2.heap.size = w.heap.size + 1 + 1) := hs2
  have HD2 : Hid (DAt w2 w.heap.size 0 seed) := by rw [← hw2]; exact World.rangeAt_alloc (box_dat w seed _) _
  have HT2 : Hid (w2.there (w.heap.size + 1) 0 32) := by rw [← hw2]; exact alloc_thereAt _ _ _ 32 _ hs1 zD_size.symm
  have HB2 : Hid (Below w.heap.size w w2) := by rw [← hw2]; exact ((Below.refl _ _).alloc (Nat.le_refl _) _).alloc (by simp) _
  clear hs2
  go_enter Tryd.func10, Tryd.ntmps10
  go_wp2_with (refine wpList_allocE (by rfl) 23 (by rfl) (cellsB zD).toArray Tryd.zeroDg (w.heap.size + 1) hs1 w2 hw2 ?_)
  clear hw2 hs1
  go_loopw [3, 4] (fun v i wr => ∃ k : Nat, k ≤ 512 ∧ i = .int .i64 (k : Int) ∧ OwnD wr w2.heap.size v (onceLeavesL seed k) ∧ Below w2.heap.size w2 wr) (fun _ i _ => 512 - (intOf i).toNat)
  case atStart => exact ⟨0, Nat.zero_le _, rfl, OwnD.nil _ _, Below.refl _ _⟩
  case round =>
    obtain ⟨k, hk, rfl, hO, hB⟩ := hrel
    have hs2 := HS2.out
    by_cases hlt : k < 512
    · have HO : Hid (OwnD wr w2.heap.size u3 (onceLeavesL seed k)) := hO
      have HB : Hid (Below w2.heap.size w2 wr) := hB
      have HDr : Hid (DAt wr w.heap.size 0 seed) := HD2.out.below hB (by omega)
      have HSN : Hid (onceLeavesL seed k ++ [onceLeafL (onceSecL seed (k / 2) (k % 2))] = onceLeavesL seed (k + 1)) := onceLeavesL_succ seed k
      have HLN : Hid ((onceLeavesL seed k).length = k) := onceLeavesL_len seed k
      obtain ⟨e1, e2, e3, e4⟩ := half_int k
      have hq : k / 2 < 256 := by omega
      have hr : k % 2 < 2 := by omega
      clear hO hB hs2
      generalize k / 2 = q at *
      generalize k % 2 = r at *
      have q0 : (0 : Int) ≤ (q : Int) := by omega
      have q1 : (q : Int) < 256 := by omega
      have r0 : (0 : Int) ≤ (r : Int) := by omega
      have r1 : (r : Int) < 2 := by omega
      go_wp2_with (refine wpList_load_mid (by rfl) 23 (.tmp 1) (by rfl) w.heap.size 0 (by rfl) (cellsB seed) _ HDr.out Tryd.underlying23 (by rfl) (by rw [cellsB_length, hs]; exact Tryd.sizeDg) ?_)
      refine (ronceSecret_any seed q r wr hs hq (by omega)).mono ?_
      rintro e w3 ⟨rfl, hb3⟩
      have hl3 := onceSecL_length seed q r
      have HLe : Hid (onceLeafL (onceSecL seed q r) = onceLeafL (onceSecL seed q r)) := rfl
      generalize onceSecL seed q r = X at *
      go_wp2_with fail
      refine (ronceLeaf_any X w3 hl3).mono ?_
      rintro e w4 ⟨rfl, hb4⟩
      have hl4 := onceLeafL_length X
      have b4 := below_trans hb3 hb4
      have HO4 : Hid (OwnD w4 w2.heap.size u3 (onceLeavesL seed k)) := OwnD.below HO.out b4
      have HB4 : Hid (Below w2.heap.size w2 w4) := HB.out.trans (b4.mono HB.out.size)
      clear hb3 hb4 b4 HO HB HDr HLe
      generalize onceLeafL X = Y at *
      have hs4 := HB4.out.size
      go_wp2_with (first
        | (refine wpList_build1 (by rfl) (.tmp 16) 24 (by rfl) 23 (.agg zeros32) iD Y hl4 (by rfl) Tryd.underlying24 hiD hzD0 (by rfl) hzD1 ?_)
        | (at_builtin; refine wpList_append_digests (by rfl) (.tmp 9) (.tmp 17) (by rfl) w2.heap.size u3 (onceLeavesL seed k) (by rfl) (OwnD.alloc HO4.out _) ⟨w4.heap.size, 0, none⟩ 1 1 [Y] (by rfl) (DRow.lit1 w4 Y _ hl4) (by omega) (by rw [HLN.out]; omega) (by simp; omega) ?_; intro v5 w5 ho5 hg5 _))
      have B5 := OwnD.grown (OwnD.alloc HO4.out _) (Below.alloc HB4.out hs4 _) hg5 (Nat.le_refl _) (by simp; omega)
      rw [HSN.out] at ho5
      clear hg5 HO4 HB4 HSN HLN
      go_wp2
      go_roundw
      case rel => exact ⟨k + 1, by omega, by go_num, ho5, B5⟩
      case measure => simp [intOf]; omega
    · obtain rfl : k = 512 := by omega
      obtain ⟨a5, c5, rfl, R5, hc5⟩ := OwnD.form hO
      have hl5 := onceLeavesL_len seed 512
      rw [hl5] at R5
      rw [hl5]
      have HR5 : Hid (DRow wr a5 512 (onceLeavesL seed 512)) := R5
      have HB : Hid (Below w2.heap.size w2 wr) := hB
      have hE : shaL (4 :: (onceLeavesL seed 512).flatten) = oncePubL seed := rfl
      have HE : Hid (shaL (4 :: (onceLeavesL seed 512).flatten) = oncePubL seed) := hE
      clear hO hB R5 hl5 hE hc5
      generalize onceLeavesL seed 512 = L at *
      go_wp2_with fail
      refine (rof_any 4 a5 512 c5 L wr HR5.out (by omega)).mono ?_
      rintro e w6 ⟨rfl, hb6⟩
      rw [HE.out]
      have HB6 : Hid (Below w2.heap.size w2 w6) := HB.out.trans (hb6.mono HB.out.size)
      have HT6 : Hid (w6.there (w.heap.size + 1) 0 32) := there_below HT2.out HB6.out (by omega)
      have hlen : (oncePubL seed).length = 32 := by rw [← HE.out]; exact shaL_length _
      clear hb6 HB HR5 HE
      generalize hD : oncePubL seed = D at *
      have HD : Hid (oncePubL seed = D) := hD
      clear hD
      go_wp2_with (refine wpList_store_mid (by rfl) 23 (.tmp 2) (.tmp 20) (by rfl) (w.heap.size + 1) 0 (cellsB D).toArray (by rfl) (by rfl) (by rw [cellsB_size, hlen]; exact HT6.out) (by rw [cellsB_size, hlen]; exact Tryd.sizeDg) (all_oneCell_toArray (cellsB_one _)) ?_)
      refine bodyPost_ret (v := digestV D) (run_results_row Tryd.results10 _ _ (w.heap.size + 1) 0 (by rfl) (cellsB D) (World.rangeAt_setCells_same _ _ _ _ (by rw [cellsB_length, hlen]; exact HT6.out)) _ Tryd.underlying23 (by rfl) (by rw [cellsB_length, hlen]; exact Tryd.sizeDg)) rfl ⟨by rw [HD.out], ?_⟩
      exact below_setCells _ (by omega) _ _ _ (HB2.out.trans (HB6.out.mono (by omega)))
end Go.Proofs.YtigdgmoiljifjaaDoor
/- The contract of oathbookref1.OnceSigned. -/
namespace Go.Proofs.YtigdgmoiljifjaaDoor
open Go.RowKit
set_option linter.unusedVariables false
set_option linter.unusedSimpArgs false

set_option maxRecDepth 100000 in
set_option maxHeartbeats 1000000 in
theorem ronceSigned_any (seed m : List UInt8) (w : World) (hs : seed.length = 32) (hm : m.length = 32) :
    Calls Tryd.prog 8 #[digestV seed, digestV m] w fun e w' => (∃ a c, e = .returned (.slice a 512 c) ∧ 512 ≤ c ∧ DRow w' a 512 (onceSigL seed m 256)) ∧ Below w.heap.size w w' := by
  obtain ⟨iD, hiD, hzD0, hzD1, hzD2⟩ := info_parts Tryd.infoDg
  obtain ⟨w2, hw2⟩ : ∃ w2, (w.alloc (.cells (cellsB seed).toArray 23)).alloc (.cells (cellsB m).toArray 23) = w2 := ⟨_, rfl⟩
  have hs1 : (w.alloc (.cells (cellsB seed).toArray 23)).heap.size = w.heap.size + 1 := by simp
  have HS2 : Hid (w2.heap.size = w.heap.size + 1 + 1) := by unfold Hid; rw [← hw2]; simp
  have HD2 : Hid (DAt w2 w.heap.size 0 seed) := by rw [← hw2]; exact World.rangeAt_alloc (box_dat w seed _) _
  have HM2 : Hid (DAt w2 (w.heap.size + 1) 0 m) := by rw [← hw2]; exact box_rangeAt _ _ _ _ hs1
  have HB2 : Hid (Below w.heap.size w w2) := by rw [← hw2]; exact ((Below.refl _ _).alloc (Nat.le_refl _) _).alloc (by simp) _
  go_enter Tryd.func8, Tryd.ntmps8
  go_wp2_with fail
  try rw [hw2]
  clear hw2 hs1
  go_loopw [5, 6] (fun v i wr => ∃ k : Nat, k ≤ 256 ∧ i = .int .i64 (k : Int) ∧ OwnD wr w2.heap.size v (onceSigL seed m k) ∧ Below w2.heap.size w2 wr) (fun _ i _ => 256 - (intOf i).toNat)
  case atStart => exact ⟨0, Nat.zero_le _, rfl, OwnD.nil _ _, Below.refl _ _⟩
  case round =>
    obtain ⟨k, hk, rfl, hO, hB⟩ := hrel
    have hs2 := HS2.out
    by_cases hlt : k < 256
    · have HO : Hid (OwnD wr w2.heap.size u5 (onceSigL seed m k)) := hO
      have HB : Hid (Below w2.heap.size w2 wr) := hB
      have HMr : Hid (DAt wr (w.heap.size + 1) 0 m) := HM2.out.below hB (by omega)
      have HSN : Hid (onceSigL seed m k ++ [onceSecL seed k (bitL m k)] ++ [onceLeafL (onceSecL seed k (1 - bitL m k))] = onceSigL seed m (k + 1)) := rfl
      have HLN : Hid ((onceSigL seed m k).length = 2 * k) := onceSigL_len seed m k
      have hbl := bitL_lt m k
      clear hO hB
      go_wp2_with (refine wpList_load_mid (by rfl) 23 (.tmp 3) (by rfl) (w.heap.size + 1) 0 (by rfl) (cellsB m) _ HMr.out Tryd.underlying23 (by rfl) (by rw [cellsB_length, hm]; exact Tryd.sizeDg) ?_)
      refine (rbit_any m k wr hm hlt).mono ?_
      rintro e w3 ⟨rfl, hb3⟩
      have HO3 : Hid (OwnD w3 w2.heap.size u5 (onceSigL seed m k)) := OwnD.below HO.out hb3
      have HB3 : Hid (Below w2.heap.size w2 w3) := HB.out.trans (hb3.mono HB.out.size)
      have HDr : Hid (DAt w3 w.heap.size 0 seed) := HD2.out.below HB3.out (by omega)
      clear hb3 HO HB HMr
      generalize bitL m k = t at *
      have t0 : (0 : Int) ≤ (t : Int) := by omega
      have t1 : (t : Int) < 2 := by omega
      go_wp2_with (refine wpList_load_mid (by rfl) 23 (.tmp 2) (by rfl) w.heap.size 0 (by rfl) (cellsB seed) _ HDr.out Tryd.underlying23 (by rfl) (by rw [cellsB_length, hs]; exact Tryd.sizeDg) ?_)
      refine (ronceSecret_any seed k t w3 hs hlt (by omega)).mono ?_
      rintro e w4 ⟨rfl, hb4⟩
      have hl4 := onceSecL_length seed k t
      have HO4 : Hid (OwnD w4 w2.heap.size u5 (onceSigL seed m k)) := OwnD.below HO3.out hb4
      have HB4 : Hid (Below w2.heap.size w2 w4) := HB3.out.trans (hb4.mono HB3.out.size)
      clear hb4 HO3 HB3 HDr
      generalize onceSecL seed k t = X at *
      have hs4 := HB4.out.size
      go_wp2_with (first
        | (refine wpList_build1 (by rfl) (.tmp 19) 24 (by rfl) 23 (.agg zeros32) iD X hl4 (by rfl) Tryd.underlying24 hiD hzD0 (by rfl) hzD1 ?_)
        | (at_builtin; refine wpList_append_digests (by rfl) (.tmp 15) (.tmp 20) (by rfl) w2.heap.size u5 (onceSigL seed m k) (by rfl) (OwnD.alloc HO4.out _) ⟨w4.heap.size, 0, none⟩ 1 1 [X] (by rfl) (DRow.lit1 w4 X _ hl4) (by omega) (by rw [HLN.out]; omega) (by simp; omega) ?_; intro v5 w5 ho5 hg5 _; have HO5 : Hid (OwnD w5 w2.heap.size v5 (onceSigL seed m k ++ [X])) := ho5; have HB5 : Hid (Below w2.heap.size w2 w5) := OwnD.grown (OwnD.alloc HO4.out _) (Below.alloc HB4.out hs4 _) hg5 (Nat.le_refl _) (by simp; omega); have HDr : Hid (DAt w5 w.heap.size 0 seed) := HD2.out.below HB5.out (by omega); clear ho5 hg5)
        | (refine wpList_load_mid (by rfl) 23 (.tmp 2) (by rfl) w.heap.size 0 (by rfl) (cellsB seed) _ HDr.out Tryd.underlying23 (by rfl) (by rw [cellsB_length, hs]; exact Tryd.sizeDg) ?_))
      clear HO4 HB4 hs4
      have hct : (1 : Int) - (t : Int) = ((1 - t : Nat) : Int) := by omega
      rw [hct]
      refine (ronceSecret_any seed k (1 - t) w5 hs hlt (by omega)).mono ?_
      rintro e w6 ⟨rfl, hb6⟩
      have hl6 := onceSecL_length seed k (1 - t)
      generalize onceSecL seed k (1 - t) = Y at *
      clear hct
      go_wp2_with fail
      refine (ronceLeaf_any Y w6 hl6).mono ?_
      rintro e w7 ⟨rfl, hb7⟩
      have hl7 := onceLeafL_length Y
      have b7 := below_trans hb6 hb7
      have HO7 : Hid (OwnD w7 w2.heap.size v5 (onceSigL seed m k ++ [X])) := OwnD.below HO5.out b7
      have HB7 : Hid (Below w2.heap.size w2 w7) := HB5.out.trans (b7.mono HB5.out.size)
      clear hb6 hb7 b7 HO5 HB5 HDr
      generalize onceLeafL Y = Z at *
      have hs7 := HB7.out.size
      have HLM : Hid ((onceSigL seed m k ++ [X]).length = 2 * k + 1) := by unfold Hid; rw [List.length_append, HLN.out]; rfl
      go_wp2_with (first
        | (refine wpList_build1 (by rfl) (.tmp 28) 24 (by rfl) 23 (.agg zeros32) iD Z hl7 (by rfl) Tryd.underlying24 hiD hzD0 (by rfl) hzD1 ?_)
        | (at_builtin; refine wpList_append_digests (by rfl) (.tmp 22) (.tmp 29) (by rfl) w2.heap.size v5 (onceSigL seed m k ++ [X]) (by rfl) (OwnD.alloc HO7.out _) ⟨w7.heap.size, 0, none⟩ 1 1 [Z] (by rfl) (DRow.lit1 w7 Z _ hl7) (by omega) (by rw [HLM.out]; omega) (by simp; omega) ?_; intro v8 w8 ho8 hg8 _))
      have B8 := OwnD.grown (OwnD.alloc HO7.out _) (Below.alloc HB7.out hs7 _) hg8 (Nat.le_refl _) (by simp; omega)
      rw [HSN.out] at ho8
      clear hg8 HO7 HB7 HSN HLN HLM
      go_wp2
      go_roundw
      case rel => exact ⟨k + 1, by omega, by go_num, ho8, B8⟩
      case measure => simp [intOf]; omega
    · obtain rfl : k = 256 := by omega
      obtain ⟨a5, c5, rfl, R5, hc5⟩ := OwnD.form hO
      have hl5 : (onceSigL seed m 256).length = 512 := by rw [onceSigL_len]
      rw [hl5] at R5 hc5
      rw [hl5]
      have HR5 : Hid (DRow wr a5 512 (onceSigL seed m 256)) := R5
      have HB : Hid (Below w2.heap.size w2 wr) := hB
      clear hO hB R5 hl5
      generalize hL : onceSigL seed m 256 = L at *
      have HL : Hid (onceSigL seed m 256 = L) := hL
      clear hL
      go_wp2
      go_ret
      exact ⟨⟨a5, c5, rfl, hc5, by rw [HL.out]; exact HR5.out⟩, HB2.out.trans (HB.out.mono (by omega))⟩
end Go.Proofs.YtigdgmoiljifjaaDoor
