/- Texts of this claim, joined: Wwalkf, Wkpub, Wdigf, News1. -/
import Derived.Test.YtghiniaijobonaaDoorJ23
import Derived.Test.YtghiniaijobonaaDoorJ22
import Derived.Test.YtghiniaijobonaaDoorJ04
import Derived.Test.YtghiniaijobonaaDoorYPairs
/- The contract of wots.walk: on each chain as many steps as its place has. -/
namespace Go.Proofs.YtghiniaijobonaaDoor
open Go.RowKit
set_option linter.unusedVariables false
set_option linter.unusedSimpArgs false

theorem Tryd.infoI64 : (Tryd.prog.info? 3).map (fun i => (i.zero, i.size, i.bytes)) = some (some (.int .i64 0), 1, 8) := by kernel_rfl
set_option maxRecDepth 100000 in
set_option maxHeartbeats 1000000 in
theorem wwots_walk (fn : Nat) (p : Value) (F : Nat → List UInt8) (st : List Int) (nn : Nat → Nat) (w : World) (G : Env w) (hS : Source fn p F w) (h32 : ∀ i, i < 67 → (F i).length = 32) (hst : st.length = 67) (hn : ∀ i, i < 67 → st.getD i 0 = (nn i : Int) ∧ nn i ≤ 1000) :
    Calls Tryd.prog 31 #[.func (.func fn) #[] #[p], .agg (cellsI st).toArray] w fun e w' => e = .returned (knotsV ((List.range 67).map fun i => walkL (F i) (nn i))) ∧ Below w.heap.size w w' := by
  obtain ⟨i8, hi8, _, hs8, _⟩ := info_parts Tryd.infoI64
  obtain ⟨zs, hzs, hzero⟩ := zeroKnots
  obtain ⟨w2, hw2⟩ : ∃ w2, (w.alloc (.cells (cellsI st).toArray 79)).alloc (.cells zs 73) = w2 := ⟨_, rfl⟩
  have hs1 : (w.alloc (.cells (cellsI st).toArray 79)).heap.size = w.heap.size + 1 := by simp
  have hs2 : w2.heap.size = w.heap.size + 1 + 1 := by rw [← hw2]; simp
  obtain ⟨w3, hw3⟩ : ∃ w3, w2.alloc (.cells zs 73) = w3 := ⟨_, rfl⟩
  have HS3 : Hid (w3.heap.size = w.heap.size + 1 + 1 + 1) := by unfold Hid; rw [← hw3]; simp [hs2]
  have HB3 : Hid (Below w.heap.size w w3) := by rw [← hw3, ← hw2]; exact (((Below.refl _ _).alloc (Nat.le_refl _) _).alloc (by simp) _).alloc (by simp; omega) _
  have HT3 : Hid (w3.there (w.heap.size + 1) 0 2144) := by rw [← hw3, ← hw2]; exact World.there_alloc (alloc_thereAt _ _ _ 2144 _ hs1 hzs.symm) _
  have HA3 : Hid (KArr w3 (w.heap.size + 1 + 1) (tillF (fun i => walkL (F i) (nn i)) 0)) := by rw [tillF_zero, ← hw3]; exact KArr.newAt w2 zs _ hzs _ hs2
  have HM3 : Hid (w3.rangeAt w.heap.size 0 (cellsI st)) := by rw [← hw3, ← hw2]; exact World.rangeAt_alloc (World.rangeAt_alloc (box_range w (cellsI st) _) _) _
  have HG : Hid (Env w ∧ Source fn p F w) := ⟨G, hS⟩
  have HF : Hid ((∀ i, i < 67 → (F i).length = 32) ∧ ∀ i, i < 67 → st.getD i 0 = (nn i : Int) ∧ nn i ≤ 1000) := ⟨h32, hn⟩
  clear G hS h32 hn
  go_enter Tryd.func31, Tryd.ntmps31
  go_wp2_with (first
    | (refine wpList_allocE (by rfl) 73 (by rfl) zs hzero (w.heap.size + 1) hs1 w2 hw2 ?_)
    | (refine wpList_allocE (by rfl) 73 (by rfl) zs hzero (w.heap.size + 1 + 1) hs2 w3 hw3 ?_)
    | (refine wpList_load_mid (by rfl) 79 (.tmp 3) (by rfl) w.heap.size 0 (by rfl) (cellsI st) _ HM3.out Tryd.underlying79 (by rfl) (by rw [cellsI_length, hst]; exact Tryd.sizeDgt) ?_))
  clear hw2 hs1 hs2 hw3 HM3 hzero hzs
  go_loopw [9] (fun i wr => ∃ k : Nat, k ≤ 67 ∧ i = .int .i64 (k : Int) ∧ KArr wr (w.heap.size + 1 + 1) (tillF (fun i => walkL (F i) (nn i)) k) ∧ wr.there (w.heap.size + 1) 0 2144 ∧ Below w.heap.size w wr ∧ w.heap.size + 1 + 1 < wr.heap.size) (fun i _ => 67 - (intOf i).toNat)
  case atStart => exact ⟨0, Nat.zero_le _, rfl, HA3.out, HT3.out, HB3.out, by have := HS3.out; omega⟩
  case round =>
    clear HA3 HT3 HB3 HS3
    obtain ⟨k, hk, rfl, hA, hT, hB, hsz⟩ := hrel
    have HA : Hid (KArr wr (w.heap.size + 1 + 1) (tillF (fun i => walkL (F i) (nn i)) k)) := hA
    have HT : Hid (wr.there (w.heap.size + 1) 0 2144) := hT
    have HB : Hid (Below w.heap.size w wr) := hB
    clear hA hT hB
    by_cases hlt : k < 67
    · obtain ⟨en, hnk⟩ := HF.out.2 k hlt
      have hx : ∀ w : World, (Instr.index 79 (.agg (cellsI st).toArray) (.int .i64 (k : Int))).run Tryd.prog w = .ok (.int .i64 (nn k : Int)) w := fun w => run_index_int w _ _ 67 .i64 i8 _ k _ hlt Tryd.underlying79 Tryd.underlying3 hi8 hs8 (by rw [← en]; simpa using cellsI_at st k (by omega))
      have hl := HF.out.1 k hlt
      have HC : Hid (Calls Tryd.prog fn #[.int .i64 (k : Int), p] wr fun e w' => e = .returned (digestV (F k)) ∧ Below wr.heap.size wr w') := HG.out.2.2 wr HB.out k hlt
      have HSN : Hid (∀ Y, walkL (F k) (nn k) = Y → putF (tillF (fun i => walkL (F i) (nn i)) k) k Y = tillF (fun i => walkL (F i) (nn i)) (k + 1)) := fun Y hY => by rw [← hY]; exact tillF_succ (fun i => walkL (F i) (nn i)) k
      have hwl := walkL_length hl (nn k)
      have HCW : Hid (∀ wx, Env wx → Calls Tryd.prog 48 #[digestV (F k), .int .i64 (nn k : Int)] wx fun e w' => e = .returned (.tuple #[digestV (walkL (F k) (nn k)), .nilIface]) ∧ Below wx.heap.size wx w') := fun wx gx => wchain_walk (F k) (nn k) wx gx hl hnk
      clear en
      generalize walkL (F k) (nn k) = Y at *
      generalize F k = X at *
      generalize nn k = d at *
      go_wp2_with fail
      rw [HG.out.2.1, Oper.upon_enter]
      refine HC.out.mono ?_
      rintro e w4 ⟨rfl, hb4⟩
      have HB4 : Hid (Below wr.heap.size wr w4) := hb4
      clear hb4
      go_wp2_with fail
      refine (HCW.out w4 (HG.out.1.below (below_trans HB.out HB4.out))).mono ?_
      rintro e w5 ⟨rfl, hb5⟩
      have b5 := below_trans HB4.out hb5
      have HA5 : Hid (KArr w5 (w.heap.size + 1 + 1) (tillF (fun i => walkL (F i) (nn i)) k)) := HA.out.below b5 hsz
      have HT5 : Hid (w5.there (w.heap.size + 1) 0 2144) := there_below HT.out b5 (by omega)
      have HW5 : Hid (w5.there (w.heap.size + 1 + 1) (k * 32) 32) := HA5.out.slot k hlt
      have HA6 : Hid (KArr (w5.setCells (w.heap.size + 1 + 1) (k * 32) (cellsB Y)) (w.heap.size + 1 + 1) (tillF (fun i => walkL (F i) (nn i)) (k + 1))) := by
        have := HA5.out.set k hlt Y hwl
        rwa [HSN.out Y rfl] at this
      have HB6 : Hid (Below w.heap.size w (w5.setCells (w.heap.size + 1 + 1) (k * 32) (cellsB Y))) := below_setCells _ (by omega) _ _ _ (below_trans HB.out b5)
      have HT6 : Hid ((w5.setCells (w.heap.size + 1 + 1) (k * 32) (cellsB Y)).there (w.heap.size + 1) 0 2144) := World.there_setCells HT5.out _ _ _
      have HZ6 : Hid (w.heap.size + 1 + 1 < (w5.setCells (w.heap.size + 1 + 1) (k * 32) (cellsB Y)).heap.size) := HA6.out.block
      clear b5 hb5 HA5 HT5 HB4 HC HCW HSN hx
      go_wp2_with (refine wpList_store_mid (by rfl) 23 (.tmp 22) (.tmp 20) (by rfl) (w.heap.size + 1 + 1) (k * 32) (cellsB Y).toArray (by rfl) (by rfl) (by rw [cellsB_size, hwl]; exact HW5.out) (by rw [cellsB_size, hwl]; exact Tryd.sizeDg) (all_oneCell_toArray (cellsB_one _)) ?_)
      go_roundw
      case rel => exact ⟨k + 1, by omega, by go_num, HA6.out, HT6.out, HB6.out, HZ6.out⟩
      case measure => simp [intOf]; omega
    · obtain rfl : k = 67 := by omega
      have h32 : ∀ i, i < 67 → (walkL (F i) (nn i)).length = 32 := fun i hi => walkL_length (HF.out.1 i hi) _
      have hL : (cellsB ((List.range 67).map fun i => walkL (F i) (nn i)).flatten).length = 2144 := knots_cells (by simp) (by
        intro l hl
        obtain ⟨i, hi, rfl⟩ := List.mem_map.1 hl
        exact h32 i (List.mem_range.1 hi))
      have HR : Hid (wr.rangeAt (w.heap.size + 1 + 1) 0 (cellsB ((List.range 67).map fun i => walkL (F i) (nn i)).flatten)) := HA.out.range h32
      clear HA h32
      generalize hD : (List.range 67).map (fun i => walkL (F i) (nn i)) = D at *
      have HD : Hid ((List.range 67).map (fun i => walkL (F i) (nn i)) = D) := hD
      clear hD
      have hL2 : (cellsB D.flatten).toArray.size = 2144 := hL
      go_wp2_with (first
        | (refine wpList_load_mid (by rfl) 73 (.tmp 5) (by rfl) (w.heap.size + 1 + 1) 0 (by rfl) (cellsB D.flatten) _ HR.out Tryd.underlying73 (by rfl) (by rw [hL]; exact Tryd.sizeKn) ?_)
        | (refine wpList_store_mid (by rfl) 73 (.tmp 4) (.tmp 24) (by rfl) (w.heap.size + 1) 0 (cellsB D.flatten).toArray (by rfl) (by rfl) (by rw [hL2]; exact HT.out) (by rw [hL2]; exact Tryd.sizeKn) (all_oneCell_toArray (cellsB_one _)) ?_))
      refine bodyPost_ret (v := knotsV D) (run_results_row Tryd.results31 _ _ (w.heap.size + 1) 0 (by rfl) (cellsB D.flatten) (World.rangeAt_setCells_same _ _ _ _ (by rw [hL]; exact HT.out)) _ Tryd.underlying73 (by rfl) (by rw [hL]; exact Tryd.sizeKn)) rfl ⟨by rw [HD.out], ?_⟩
      exact below_setCells _ (by omega) _ _ _ HB.out
end Go.Proofs.YtghiniaijobonaaDoor
/- The contract of knots.public: the digest of a byte 7 and the ends of all chains. -/
namespace Go.Proofs.YtghiniaijobonaaDoor
open Go.RowKit
set_option linter.unusedVariables false
set_option linter.unusedSimpArgs false

def kpc (g gb k : Nat) : List Value := Value.slice (some ⟨gb, 0, none⟩) 1 1 :: (List.range k).map fun i => Value.slice (some ⟨g, i * 32, none⟩) 32 32
theorem kpc_succ (g gb k : Nat) : kpc g gb k ++ [Value.slice (some ⟨g, k * 32, none⟩) 32 32] = kpc g gb (k + 1) := by
  unfold kpc
  rw [List.range_succ, List.map_append]
  rfl
theorem kpc_len (g gb k : Nat) : (kpc g gb k).length = k + 1 := by simp [kpc]
theorem one_newK (w : World) (a : Value) (t : TypeId) (g : Nat) (hg : w.heap.size = g) : ∀ j u, [a][j]? = some u → (w.alloc (.cells #[a] t)).cell? ((⟨g, 0, none⟩ : Addr).add j) = some u := by
  intro j u hj
  subst hg
  have e : (w.alloc (.cells #[a] t)).cell? ((⟨w.heap.size, 0, none⟩ : Addr).add j) = (w.alloc (.cells #[a] t)).cell? ⟨w.heap.size, j, none⟩ := by rw [add0]
  rw [e, World.cell?_alloc_mark]
  simpa using hj
theorem ownsRow_belowK {w w' : World} {B : Nat} {e : TypeId} {sz : Nat} {v : Value} {n : Nat} {xs : List Value} (h : w.ownsRow B e sz v n xs) (hb : Below w.heap.size w w') : w'.ownsRow B e sz v n xs := by
  rcases h.2 with ⟨h1, h0⟩ | ⟨g, cap, cur, e1, e2, e3, e4⟩
  · exact ⟨h.1, .inl ⟨h1, h0⟩⟩
  · have hg : g < w.heap.size := (World.ownsRow.lt h g (by rw [e1]; rfl)).2
    exact ⟨h.1, .inr ⟨g, cap, cur, e1, e2, (hb.block g hg).trans e3, e4⟩⟩
/-- The pieces, in memory: a byte 7, and the digests. -/
theorem kpc_rows {w : World} {g gb g2 : Nat} {B : Nat} {ls : List (List UInt8)} (hA : ∀ i, i < 67 → DAt w g (i * 32) (ls.getD i [])) (hl : ls.length = 67) (h32 : ∀ l ∈ ls, l.length = 32) (h4 : w.cell? ⟨gb, 0, none⟩ = some (.int .u8 7))
    (ho : w.ownsRow B 33 1 (.slice (some ⟨g2, 0, none⟩) 68 68) 68 (kpc g gb 67)) : BRows w (some ⟨g2, 0, none⟩) 68 ([7] :: ls) := by
  refine ⟨by simp [hl], .inr ⟨g2, 0, rfl, fun i hi => ?_⟩⟩
  have hc := World.ownsRow.cellAt ho i (by omega)
  rw [Nat.zero_add]
  cases i with
  | zero =>
    refine ⟨some ⟨gb, 0, none⟩, 1, 1, hc, Nat.le_refl _, rfl, .inr ⟨gb, 0, rfl, fun j hj => ?_⟩⟩
    obtain rfl : j = 0 := by omega
    exact h4
  | succ i =>
    have hi' : i < 67 := by omega
    refine ⟨some ⟨g, i * 32, none⟩, 32, 32, ?_, Nat.le_refl _, ?_⟩
    · rw [hc]
      simp [kpc, hi']
    · have e : ([7] :: ls).getD (i + 1) [] = ls.getD i [] := by simp [List.getD_eq_getElem?_getD]
      rw [e]
      refine DAt.row (hA i hi') ?_
      rw [List.getD_eq_getElem?_getD, List.getElem?_eq_getElem (by omega)]
      exact h32 _ (List.getElem_mem _)

set_option maxRecDepth 100000 in
set_option maxHeartbeats 1000000 in
theorem wwots_knots (ls : List (List UInt8)) (w : World) (G : Env w) (hl : ls.length = 67) (h32 : ∀ l ∈ ls, l.length = 32) :
    Calls Tryd.prog 37 #[knotsV ls] w fun e w' => e = .returned (digestV (shaL (7 :: ls.flatten))) ∧ Below w.heap.size w w' := by
  unfold knotsV
  obtain ⟨i0, hi, hz0, hz1, hz2⟩ := info_parts Tryd.infoS8
  obtain ⟨w1, hw1⟩ : ∃ w1, (w.alloc (.cells (cellsB ls.flatten).toArray 73)).alloc (.cells (cellsB zD).toArray 23) = w1 := ⟨_, rfl⟩
  have hs0 : (w.alloc (.cells (cellsB ls.flatten).toArray 73)).heap.size = w.heap.size + 1 := by simp
  have hs1 : w1.heap.size = w.heap.size + 1 + 1 := by rw [← hw1]; simp
  have HB1 : Hid (Below w.heap.size w w1) := by rw [← hw1]; exact ((Below.refl _ _).alloc (Nat.le_refl _) _).alloc (by simp) _
  have HT1 : Hid (w1.there (w.heap.size + 1) 0 32) := by rw [← hw1]; exact alloc_thereAt _ _ _ 32 _ hs0 zD_size.symm
  have HM1 : Hid (w1.rangeAt w.heap.size 0 (cellsB ls.flatten)) := by rw [← hw1]; exact World.rangeAt_alloc (box_range w _ _) _
  have HG : Hid ((∀ wx, Below w.heap.size w wx → Env wx) ∧ ∀ wx, Below w1.heap.size w1 wx → ∀ i, i < 67 → DAt wx w.heap.size (i * 32) (ls.getD i [])) := ⟨fun wx hx => G.below hx, fun wx hx i hi' => (knots_at h32 HM1.out i (by omega)).below hx (by omega)⟩
  clear G
  go_enter Tryd.func37, Tryd.ntmps37
  go_wp2_with (first
    | (refine wpList_allocE (by rfl) 23 (by rfl) (cellsB zD).toArray Tryd.zeroDg (w.heap.size + 1) hs0 w1 hw1 ?_)
    | (at_make; refine wpList_make_own _ rfl _ _ 24 rfl w1.heap.size 33 i0 (.slice none 0 0) 1 Tryd.underlying24 hi hz0 hz1 _ _ _ 68 rfl rfl (by omega) (by rw [hz2]; omega) (by unfold maxLen; omega) (Nat.le_refl _) ?_; intro w2 hown hgrow; rw [hs1] at hown; have HO2 : Hid (w2.ownsRow (w.heap.size + 1 + 1) 33 1 (.slice (some ⟨w.heap.size + 1 + 1, 0, none⟩) 0 68) 0 []) := hown; have HB2 : Hid (Below w1.heap.size w1 w2) := (Below.refl _ _).grown hgrow (Nat.le_refl _) (fun _ h => by cases h); clear hown hgrow)
    | (at_builtin; refine wpList_append_fits _ (by rfl) (.tmp 6) (.tmp 8) 24 (by rfl) (w.heap.size + 1 + 1) 33 i0 1 Tryd.underlying24 hi hz1 (w.heap.size + 1 + 1) 0 68 [] (by rfl) (ownsRow_belowK (ownsRow_belowK HO2.out ((Below.refl _ _).alloc (Nat.le_refl _) _)) ((Below.refl _ _).alloc (Nat.le_refl _) _)) ⟨w2.heap.size + 1, 0, none⟩ 1 1 [.slice (some ⟨w2.heap.size, 0, none⟩) 1 1] (by rfl) (by rfl) (one_newK _ _ _ _ (by simp)) (by simp [Value.oneCell']) (by omega) ?_; intro w3 ho3 hg3))
  clear hs0
  have hgb : w.heap.size + 1 + 1 < w2.heap.size := (World.ownsRow.lt HO2.out (w.heap.size + 1 + 1) rfl).2
  have hsa : (w2.alloc (.cells #[.int .u8 7] 5)).heap.size = w2.heap.size + 1 := by simp
  have H4 : Hid (w3.cell? ⟨w2.heap.size, 0, none⟩ = some (.int .u8 7)) := by
    have hb : w3.heap[w2.heap.size]? = _ := hg3.block w2.heap.size (by simp; omega) (by intro e; have := Option.some.inj e; omega)
    refine (World.cell?_of_block (a := ⟨w2.heap.size, 0, none⟩) hb).trans ?_
    rw [((Below.refl (w2.heap.size + 1) (w2.alloc (.cells #[.int .u8 7] 5))).alloc (by simp) (.cells #[.slice (some ⟨w2.heap.size, 0, none⟩) 1 1] 33)).cell (p := ⟨w2.heap.size, 0, none⟩) (Nat.lt_succ_self _), World.cell?_alloc_mark]
    rfl
  have HB3 : Hid (Below w1.heap.size w1 w3) := ((HB2.out.alloc HB2.out.size _).alloc (by have := HB2.out.size; simp; omega) _).grown hg3 (by have := HB2.out.size; simp; omega) (fun k e => by have := Option.some.inj e; omega)
  have HO3 : Hid (w3.ownsRow (w.heap.size + 1 + 1) 33 1 (.slice (some ⟨w.heap.size + 1 + 1, 0, none⟩) 1 68) 1 (kpc w.heap.size w2.heap.size 0)) := ho3
  clear ho3 hg3 HO2 HB2 hsa
  generalize w2.heap.size = gb at *
  go_loopw [3, 10] (fun v i wr => ∃ k : Nat, k ≤ 67 ∧ i = .int .i64 (k : Int) ∧ v = .slice (some ⟨w.heap.size + 1 + 1, 0, none⟩) (k + 1) 68 ∧ wr.ownsRow (w.heap.size + 1 + 1) 33 1 (.slice (some ⟨w.heap.size + 1 + 1, 0, none⟩) (k + 1) 68) (k + 1) (kpc w.heap.size gb k) ∧ wr.cell? ⟨gb, 0, none⟩ = some (.int .u8 7) ∧ Below w1.heap.size w1 wr) (fun _ i _ => 67 - (intOf i).toNat)
  case atStart => exact ⟨0, Nat.zero_le _, rfl, rfl, HO3.out, H4.out, HB3.out⟩
  case round =>
    clear HO3 H4 HB3
    obtain ⟨k, hk, rfl, rfl, hO, h4, hB⟩ := hrel
    by_cases hlt : k < 67
    · have HO : Hid (wr.ownsRow (w.heap.size + 1 + 1) 33 1 (.slice (some ⟨w.heap.size + 1 + 1, 0, none⟩) (k + 1) 68) (k + 1) (kpc w.heap.size gb k)) := hO
      have H4 : Hid (wr.cell? ⟨gb, 0, none⟩ = some (.int .u8 7)) := h4
      have HB : Hid (Below w1.heap.size w1 wr) := hB
      have HSN : Hid (kpc w.heap.size gb k ++ [Value.slice (some ⟨w.heap.size, k * 32, none⟩) 32 32] = kpc w.heap.size gb (k + 1)) := kpc_succ w.heap.size gb k
      clear hO h4 hB
      go_wp2_with (at_builtin; refine wpList_append_fits _ (by rfl) (.tmp 13) (.tmp 17) 24 (by rfl) (w.heap.size + 1 + 1) 33 i0 1 Tryd.underlying24 hi hz1 (w.heap.size + 1 + 1) (k + 1) 68 (kpc w.heap.size gb k) (by rfl) (ownsRow_belowK HO.out ((Below.refl _ _).alloc (Nat.le_refl _) _)) ⟨wr.heap.size, 0, none⟩ 1 1 [.slice (some ⟨w.heap.size, k * 32, none⟩) 32 32] (by rfl) (by rfl) (one_newK _ _ _ _ rfl) (by simp [Value.oneCell']) (by omega) ?_; intro w5 ho5 hg5)
      have hgw : gb < wr.heap.size := cell_block H4.out
      have h4' : w5.cell? ⟨gb, 0, none⟩ = some (.int .u8 7) := by
        have hb := hg5.block gb (by simp; omega) (by intro e; have := Option.some.inj e; omega)
        exact ((World.cell?_of_block (a := ⟨gb, 0, none⟩) hb).trans (((Below.refl wr.heap.size wr).alloc (Nat.le_refl _) _).cell (p := ⟨gb, 0, none⟩) hgw)).trans H4.out
      have hB' : Below w1.heap.size w1 w5 := (HB.out.alloc HB.out.size _).grown hg5 (by have := HB.out.size; simp; omega) (fun k e => by have := Option.some.inj e; omega)
      rw [HSN.out] at ho5
      go_roundw
      case rel => exact ⟨k + 1, by omega, by go_num, rfl, ho5, h4', hB'⟩
      case measure => simp [intOf]; omega
    · obtain rfl : k = 67 := by omega
      have hbw : Below w.heap.size w wr := HB1.out.trans (hB.mono (by omega))
      have HR : Hid (BRows wr (some ⟨w.heap.size + 1 + 1, 0, none⟩) 68 ([7] :: ls)) := kpc_rows (HG.out.2 _ hB) hl h32 h4 hO
      have HE : Hid (Env wr) := HG.out.1 _ hbw
      have HB : Hid (Below w1.heap.size w1 wr) := hB
      have hfl : ls.flatten.length = 32 * 67 := by rw [flat_len h32, hl]
      have hE : [7] :: ls = [7] :: ls := rfl
      have HF : Hid (([7] :: ls).flatten = 7 :: ls.flatten) := rfl
      have hfl2 : ([7] :: ls).flatten.length ≤ 1000000000000000000 := by rw [HF.out, List.length_cons, hfl]; omega
      clear hO h4 hB hbw hE hfl
      generalize [7] :: ls = L at *
      go_wp2_with fail
      refine (wsumof_any _ 68 68 L wr HE.out HR.out hfl2 (by omega)).mono ?_
      rintro e w6 ⟨rfl, hb6⟩
      rw [HF.out]
      have HB6 : Hid (Below w1.heap.size w1 w6) := HB.out.trans (hb6.mono HB.out.size)
      have HT6 : Hid (w6.there (w.heap.size + 1) 0 32) := there_below HT1.out HB6.out (by omega)
      have hlen := shaL_length (7 :: ls.flatten)
      clear hb6 HB HR HE HF hfl2
      generalize hD : shaL (7 :: ls.flatten) = D at *
      have HD : Hid (shaL (7 :: ls.flatten) = D) := hD
      clear hD
      go_wp2_with (refine wpList_store_mid (by rfl) 23 (.tmp 2) (.tmp 21) (by rfl) (w.heap.size + 1) 0 (cellsB D).toArray (by rfl) (by rfl) (by rw [cellsB_size, hlen]; exact HT6.out) (by rw [cellsB_size, hlen]; exact Tryd.sizeDg) (all_oneCell_toArray (cellsB_one _)) ?_)
      refine bodyPost_ret (v := digestV D) (run_results_row Tryd.results37 _ _ (w.heap.size + 1) 0 (by rfl) (cellsB D) (World.rangeAt_setCells_same _ _ _ _ (by rw [cellsB_length, hlen]; exact HT6.out)) _ Tryd.underlying23 (by rfl) (by rw [cellsB_length, hlen]; exact Tryd.sizeDg)) rfl ⟨by rw [HD.out], ?_⟩
      exact below_setCells _ (by omega) _ _ _ (HB1.out.trans (HB6.out.mono (by omega)))
end Go.Proofs.YtghiniaijobonaaDoor
/- The contract of wots.Digits. -/
namespace Go.Proofs.YtghiniaijobonaaDoor
open Go.RowKit
set_option linter.unusedVariables false
set_option linter.unusedSimpArgs false

theorem rangeI_row {w : World} {g : Nat} {l : List Int} {n : Nat} (h : w.rangeAt g 0 (cellsI l)) (hl : l.length = n) : IRow w (some ⟨g, 0, none⟩) n l :=
  ⟨hl, .inr ⟨g, 0, rfl, fun i hi => h i _ (cellsI_at l i (by omega))⟩⟩
end Go.Proofs.YtghiniaijobonaaDoor
/- A region that draws its order: operations in a row, and one new variable anywhere among them: every order at once. No theorem of the program yet. -/
namespace Go.Proofs.YtghiniaijobonaaDoor
open Go.RowKit
set_option linter.unusedVariables false
set_option linter.unusedSimpArgs false
section
variable {P : Program} {ops : Array Oper} {Q : Exit → Act → World → Prop} {md : Region.Mode} {S : World → Prop}
theorem news1_any (N f0 : Nat) (St : Nat → Option Nat → Act → World → Prop) (L : Nat → Bool → Array Bool)
    (step : ∀ k p a w fuel, k < N → St k p a w → (∀ a' w', St (k + 1) p a' w' → wpAnyH P md ops Q S fuel (L (k + 1) p.isSome) a' w') → (∀ g a' w', p = none → St k (some g) a' w' → wpAnyH P md ops Q S fuel (L k true) a' w') → wpAnyH P md ops Q S (fuel + 1) (L k p.isSome) a w)
    (last : ∀ a w fuel, St N none a w → (∀ g a' w', St N (some g) a' w' → wpAnyH P md ops Q S fuel (L N true) a' w') → wpAnyH P md ops Q S (fuel + 1) (L N false) a w)
    (fin : ∀ g a w, St N (some g) a w → wpAnyH P md ops Q S f0 (L N true) a w) :
    ∀ n k p a w, (N - k) + left1 p = n → k ≤ N → St k p a w → wpAnyH P md ops Q S (f0 + n) (L k p.isSome) a w := by
  intro n
  induction n with
  | zero =>
    intro k p a w hn hk hSt
    cases p with
    | none => simp [left1] at hn
    | some g =>
      simp [left1] at hn
      obtain rfl : k = N := by omega
      exact fin g a w hSt
  | succ n ih =>
    intro k p a w hn hk hSt
    rw [← Nat.add_assoc]
    by_cases hkN : k < N
    · refine step k p a w (f0 + n) hkN hSt (fun a' w' h' => ih (k + 1) p a' w' (by omega) (by omega) h') (fun g a' w' hp h' => ?_)
      subst hp
      exact ih k (some g) a' w' (by simp [left1] at hn ⊢; omega) hk h'
    · obtain rfl : k = N := by omega
      cases p with
      | some g => simp [left1] at hn
      | none => exact last a w (f0 + n) hSt fun g a' w' h' => ih k (some g) a' w' (by simp [left1] at hn ⊢; omega) hk h'
end
end Go.Proofs.YtghiniaijobonaaDoor
