/- Texts of this claim, joined: Wleaves, Woncep, Wround, Wbits. -/
import Derived.Test.YtigdgmoiljifjaaDoorJ05
import Derived.Test.YtigdgmoiljifjaaDoorJ03
import Derived.Test.YtigdgmoiljifjaaDoorJ09
import Derived.RangeFuncNested
import Derived.RangeFuncBound
import Derived.RangeFuncCalls
import Derived.RangeFuncLeaves
import Derived.Shelf.Abstract
import Derived.Shelf.RegionOpen
import Derived.WalkKit
import Derived.OwnWalkIn
import Derived.TacticsInMore
import Derived.LoopNIn
import Derived.LoopIn
import Derived.OrdersHeld
import Derived.Test.YtigdgmoiljifjaaDoorJ01
import Derived.Test.YtigdgmoiljifjaaDoorJ02
/- The contract of leaves.public: the digest of a byte 4 and all leaves. -/
namespace Go.Proofs.YtigdgmoiljifjaaDoor
open Go.RowKit
set_option linter.unusedVariables false
set_option linter.unusedSimpArgs false

def pcs (g gb k : Nat) : List Value := Value.slice (some ⟨gb, 0, none⟩) 1 1 :: (List.range k).map fun i => Value.slice (some ⟨g, i * 32, none⟩) 32 32
theorem pcs_succ (g gb k : Nat) : pcs g gb k ++ [Value.slice (some ⟨g, k * 32, none⟩) 32 32] = pcs g gb (k + 1) := by
  unfold pcs
  rw [List.range_succ, List.map_append]
  rfl
theorem pcs_len (g gb k : Nat) : (pcs g gb k).length = k + 1 := by simp [pcs]
theorem one_new1 (w : World) (a : Value) (t : TypeId) (g : Nat) (hg : w.heap.size = g) : ∀ j u, [a][j]? = some u → (w.alloc (.cells #[a] t)).cell? ((⟨g, 0, none⟩ : Addr).add j) = some u := by
  intro j u hj
  subst hg
  have e : (w.alloc (.cells #[a] t)).cell? ((⟨w.heap.size, 0, none⟩ : Addr).add j) = (w.alloc (.cells #[a] t)).cell? ⟨w.heap.size, j, none⟩ := by rw [add0]
  rw [e, World.cell?_alloc_mark]
  simpa using hj
theorem ownsRow_below {w w' : World} {B : Nat} {e : TypeId} {sz : Nat} {v : Value} {n : Nat} {xs : List Value} (h : w.ownsRow B e sz v n xs) (hb : Below w.heap.size w w') : w'.ownsRow B e sz v n xs := by
  rcases h.2 with ⟨h1, h0⟩ | ⟨g, cap, cur, e1, e2, e3, e4⟩
  · exact ⟨h.1, .inl ⟨h1, h0⟩⟩
  · have hg : g < w.heap.size := (World.ownsRow.lt h g (by rw [e1]; rfl)).2
    exact ⟨h.1, .inr ⟨g, cap, cur, e1, e2, (hb.block g hg).trans e3, e4⟩⟩
/-- The pieces, in memory: a byte 4, and the leaves. -/
theorem pcs_rows {w : World} {g gb g2 : Nat} {B : Nat} {f : Nat → List UInt8} (hA : Arr w g f) (h32 : ∀ i, i < 512 → (f i).length = 32) (h4 : w.cell? ⟨gb, 0, none⟩ = some (.int .u8 4))
    (ho : w.ownsRow B 49 1 (.slice (some ⟨g2, 0, none⟩) 513 513) 513 (pcs g gb 512)) : BRows w (some ⟨g2, 0, none⟩) 513 ([4] :: (List.range 512).map f) := by
  refine ⟨by simp, .inr ⟨g2, 0, rfl, fun i hi => ?_⟩⟩
  have hc := World.ownsRow.cellAt ho i (by omega)
  rw [Nat.zero_add]
  cases i with
  | zero =>
    refine ⟨some ⟨gb, 0, none⟩, 1, 1, hc, Nat.le_refl _, rfl, .inr ⟨gb, 0, rfl, fun j hj => ?_⟩⟩
    obtain rfl : j = 0 := by omega
    exact h4
  | succ i =>
    have hi' : i < 512 := by omega
    refine ⟨some ⟨g, i * 32, none⟩, 32, 32, ?_, Nat.le_refl _, ?_⟩
    · rw [hc]
      simp [pcs, hi']
    · have e : ([4] :: (List.range 512).map f).getD (i + 1) [] = f i := by simp [List.getD_eq_getElem?_getD, hi']
      rw [e]
      exact DAt.row (hA.2.2 i hi') (h32 i hi')

set_option maxRecDepth 100000 in
set_option maxHeartbeats 1000000 in
theorem wonce_leaves (g : Nat) (f : Nat → List UInt8) (w : World) (G : Env w) (hA : Arr w g f) (h32 : ∀ i, i < 512 → (f i).length = 32) :
    Calls Tryd.prog 21 #[.pointer (some ⟨g, 0, none⟩)] w fun e w' => e = .returned (digestV (shaL (4 :: ((List.range 512).map f).flatten))) ∧ Below w.heap.size w w' := by
  obtain ⟨i0, hi, hz0, hz1, hz2⟩ := info_parts Tryd.infoS8
  obtain ⟨w1, hw1⟩ : ∃ w1, w.alloc (.cells (cellsB zD).toArray 23) = w1 := ⟨_, rfl⟩
  have hs1 : w1.heap.size = w.heap.size + 1 := by rw [← hw1]; simp
  have HB1 : Hid (Below w.heap.size w w1) := by rw [← hw1]; exact (Below.refl _ _).alloc (Nat.le_refl _) _
  have HT1 : Hid (w1.there w.heap.size 0 32) := by rw [← hw1]; exact alloc_thereAt _ _ _ 32 _ rfl zD_size.symm
  have HG : Hid (Env w ∧ Arr w g f) := ⟨G, hA⟩
  have hg := hA.block
  clear G hA
  go_enter Tryd.func21, Tryd.ntmps21
  go_wp2_with (first
    | (refine wpList_allocE (by rfl) 23 (by rfl) (cellsB zD).toArray Tryd.zeroDg w.heap.size rfl w1 hw1 ?_)
    | (at_make; refine wpList_make_own _ rfl _ _ 55 rfl w1.heap.size 49 i0 (.slice none 0 0) 1 Tryd.underlying55 hi hz0 hz1 _ _ _ 513 rfl rfl (by omega) (by rw [hz2]; omega) (by unfold maxLen; omega) (Nat.le_refl _) ?_; intro w2 hown hgrow; rw [hs1] at hown; have HO2 : Hid (w2.ownsRow (w.heap.size + 1) 49 1 (.slice (some ⟨w.heap.size + 1, 0, none⟩) 0 513) 0 []) := hown; have HB2 : Hid (Below w1.heap.size w1 w2) := (Below.refl _ _).grown hgrow (Nat.le_refl _) (fun _ h => by cases h); clear hown hgrow)
    | (at_builtin; refine wpList_append_fits _ (by rfl) (.tmp 6) (.tmp 8) 55 (by rfl) (w.heap.size + 1) 49 i0 1 Tryd.underlying55 hi hz1 (w.heap.size + 1) 0 513 [] (by rfl) (ownsRow_below (ownsRow_below HO2.out ((Below.refl _ _).alloc (Nat.le_refl _) _)) ((Below.refl _ _).alloc (Nat.le_refl _) _)) ⟨w2.heap.size + 1, 0, none⟩ 1 1 [.slice (some ⟨w2.heap.size, 0, none⟩) 1 1] (by rfl) (by rfl) (one_new1 _ _ _ _ (by simp)) (by simp [Value.oneCell']) (by omega) ?_; intro w3 ho3 hg3))
  have hgb : w.heap.size + 1 < w2.heap.size := (World.ownsRow.lt HO2.out (w.heap.size + 1) rfl).2
  have hsa : (w2.alloc (.cells #[.int .u8 4] 5)).heap.size = w2.heap.size + 1 := by simp
  have H4 : Hid (w3.cell? ⟨w2.heap.size, 0, none⟩ = some (.int .u8 4)) := by
    have hb : w3.heap[w2.heap.size]? = _ := hg3.block w2.heap.size (by simp; omega) (by intro e; have := Option.some.inj e; omega)
    refine (World.cell?_of_block (a := ⟨w2.heap.size, 0, none⟩) hb).trans ?_
    rw [((Below.refl (w2.heap.size + 1) (w2.alloc (.cells #[.int .u8 4] 5))).alloc (by simp) (.cells #[.slice (some ⟨w2.heap.size, 0, none⟩) 1 1] 49)).cell (p := ⟨w2.heap.size, 0, none⟩) (Nat.lt_succ_self _), World.cell?_alloc_mark]
    rfl
  have HB3 : Hid (Below w1.heap.size w1 w3) := ((HB2.out.alloc HB2.out.size _).alloc (by have := HB2.out.size; simp; omega) _).grown hg3 (by have := HB2.out.size; simp; omega) (fun k e => by have := Option.some.inj e; omega)
  have HO3 : Hid (w3.ownsRow (w.heap.size + 1) 49 1 (.slice (some ⟨w.heap.size + 1, 0, none⟩) 1 513) 1 (pcs g w2.heap.size 0)) := ho3
  clear ho3 hg3 HO2 HB2 hsa
  generalize w2.heap.size = gb at *
  go_loopw [3, 10] (fun v i wr => ∃ k : Nat, k ≤ 512 ∧ i = .int .i64 (k : Int) ∧ v = .slice (some ⟨w.heap.size + 1, 0, none⟩) (k + 1) 513 ∧ wr.ownsRow (w.heap.size + 1) 49 1 (.slice (some ⟨w.heap.size + 1, 0, none⟩) (k + 1) 513) (k + 1) (pcs g gb k) ∧ wr.cell? ⟨gb, 0, none⟩ = some (.int .u8 4) ∧ Below w1.heap.size w1 wr) (fun _ i _ => 512 - (intOf i).toNat)
  case atStart => exact ⟨0, Nat.zero_le _, rfl, rfl, HO3.out, H4.out, HB3.out⟩
  case round =>
    clear HO3 H4 HB3
    obtain ⟨k, hk, rfl, rfl, hO, h4, hB⟩ := hrel
    by_cases hlt : k < 512
    · have HO : Hid (wr.ownsRow (w.heap.size + 1) 49 1 (.slice (some ⟨w.heap.size + 1, 0, none⟩) (k + 1) 513) (k + 1) (pcs g gb k)) := hO
      have H4 : Hid (wr.cell? ⟨gb, 0, none⟩ = some (.int .u8 4)) := h4
      have HB : Hid (Below w1.heap.size w1 wr) := hB
      have HSN : Hid (pcs g gb k ++ [Value.slice (some ⟨g, k * 32, none⟩) 32 32] = pcs g gb (k + 1)) := pcs_succ g gb k
      clear hO h4 hB
      go_wp2_with (at_builtin; refine wpList_append_fits _ (by rfl) (.tmp 13) (.tmp 19) 55 (by rfl) (w.heap.size + 1) 49 i0 1 Tryd.underlying55 hi hz1 (w.heap.size + 1) (k + 1) 513 (pcs g gb k) (by rfl) (ownsRow_below HO.out ((Below.refl _ _).alloc (Nat.le_refl _) _)) ⟨wr.heap.size, 0, none⟩ 1 1 [.slice (some ⟨g, k * 32, none⟩) 32 32] (by rfl) (by rfl) (one_new1 _ _ _ _ rfl) (by simp [Value.oneCell']) (by omega) ?_; intro w5 ho5 hg5)
      have hgw : gb < wr.heap.size := cell_block H4.out
      have h4' : w5.cell? ⟨gb, 0, none⟩ = some (.int .u8 4) := by
        have hb := hg5.block gb (by simp; omega) (by intro e; have := Option.some.inj e; omega)
        exact ((World.cell?_of_block (a := ⟨gb, 0, none⟩) hb).trans (((Below.refl wr.heap.size wr).alloc (Nat.le_refl _) _).cell (p := ⟨gb, 0, none⟩) hgw)).trans H4.out
      have hB' : Below w1.heap.size w1 w5 := (HB.out.alloc HB.out.size _).grown hg5 (by have := HB.out.size; simp; omega) (fun k e => by have := Option.some.inj e; omega)
      rw [HSN.out] at ho5
      go_roundw
      case rel => exact ⟨k + 1, by omega, by go_num, rfl, ho5, h4', hB'⟩
      case measure => simp [intOf]; omega
    · obtain rfl : k = 512 := by omega
      have hbw : Below w.heap.size w wr := HB1.out.trans (hB.mono (by omega))
      have HR : Hid (BRows wr (some ⟨w.heap.size + 1, 0, none⟩) 513 ([4] :: (List.range 512).map f)) := pcs_rows (HG.out.2.below hbw hg) h32 h4 hO
      have HE : Hid (Env wr) := HG.out.1.below hbw
      have HB : Hid (Below w1.heap.size w1 wr) := hB
      have hfl : ((List.range 512).map f).flatten.length = 32 * 512 := by
        have := flat_len (ls := (List.range 512).map f) (by intro l hl; obtain ⟨i, hi, rfl⟩ := List.mem_map.1 hl; exact h32 i (List.mem_range.1 hi))
        simpa using this
      have hE : [4] :: (List.range 512).map f = [4] :: (List.range 512).map f := rfl
      have HF : Hid (([4] :: (List.range 512).map f).flatten = 4 :: ((List.range 512).map f).flatten) := rfl
      have hfl2 : ([4] :: (List.range 512).map f).flatten.length ≤ 1000000000000000000 := by rw [HF.out, List.length_cons, hfl]; omega
      clear hO h4 hB hbw hE hfl
      generalize [4] :: (List.range 512).map f = L at *
      go_wp2_with fail
      refine (wsumof_any _ 513 513 L wr HE.out HR.out hfl2 (by omega)).mono ?_
      rintro e w6 ⟨rfl, hb6⟩
      rw [HF.out]
      have HB6 : Hid (Below w1.heap.size w1 w6) := HB.out.trans (hb6.mono HB.out.size)
      have HT6 : Hid (w6.there w.heap.size 0 32) := there_below HT1.out HB6.out (by omega)
      have hlen := shaL_length (4 :: ((List.range 512).map f).flatten)
      clear hb6 HB HR HE HF hfl2
      generalize hD : shaL (4 :: ((List.range 512).map f).flatten) = D at *
      have HD : Hid (shaL (4 :: ((List.range 512).map f).flatten) = D) := hD
      clear hD
      go_wp2_with (refine wpList_store_mid (by rfl) 23 (.tmp 2) (.tmp 23) (by rfl) w.heap.size 0 (cellsB D).toArray (by rfl) (by rfl) (by rw [cellsB_size, hlen]; exact HT6.out) (by rw [cellsB_size, hlen]; exact Tryd.sizeDg) (all_oneCell_toArray (cellsB_one _)) ?_)
      refine bodyPost_ret (v := digestV D) (run_results_row Tryd.results21 _ _ w.heap.size 0 (by rfl) (cellsB D) (World.rangeAt_setCells_same _ _ _ _ (by rw [cellsB_length, hlen]; exact HT6.out)) _ Tryd.underlying23 (by rfl) (by rw [cellsB_length, hlen]; exact Tryd.sizeDg)) rfl ⟨by rw [HD.out], ?_⟩
      exact below_setCells _ (Nat.le_refl _) _ _ _ (HB1.out.trans (HB6.out.mono (by omega)))
end Go.Proofs.YtigdgmoiljifjaaDoor
/- The contract of once.Public. -/
namespace Go.Proofs.YtigdgmoiljifjaaDoor
open Go.RowKit
set_option linter.unusedVariables false
set_option linter.unusedSimpArgs false

def leafF (seed : List UInt8) (j : Nat) : List UInt8 := onceLeafL (onceSecL seed (j / 2) (j % 2))
theorem leafF_at (seed : List UInt8) (k t : Nat) (ht : t < 2) : leafF seed (2 * k + t) = onceLeafL (onceSecL seed k t) := by
  unfold leafF
  rw [show (2 * k + t) / 2 = k by omega, show (2 * k + t) % 2 = t by omega]
theorem leafF_all (seed : List UInt8) : (List.range 512).map (upF (leafF seed) 512) = onceLeavesL seed 512 := by
  unfold onceLeavesL
  refine List.map_congr_left fun k hk => ?_
  unfold upF
  rw [if_pos (List.mem_range.1 hk)]
  rfl

set_option maxRecDepth 100000 in
set_option maxHeartbeats 1000000 in
theorem wonce_public (seed : List UInt8) (w : World) (G : Env w) (hs : seed.length = 32) :
    Calls Tryd.prog 9 #[digestV seed] w fun e w' => e = .returned (digestV (oncePubL seed)) ∧ Below w.heap.size w w' := by
  obtain ⟨zs, hzs, hzero⟩ := zeroLeaves
  obtain ⟨w2, hw2⟩ : ∃ w2, (w.alloc (.cells (cellsB seed).toArray 23)).alloc (.cells (cellsB zD).toArray 23) = w2 := ⟨_, rfl⟩
  have hs1 : (w.alloc (.cells (cellsB seed).toArray 23)).heap.size = w.heap.size + 1 := by simp
  have hs2 : w2.heap.size = w.heap.size + 1 + 1 := by rw [← hw2]; simp
  have HB2 : Hid (Below w.heap.size w w2) := by rw [← hw2]; exact ((Below.refl _ _).alloc (Nat.le_refl _) _).alloc (by simp) _
  have HD2 : Hid (DAt w2 w.heap.size 0 seed) := by rw [← hw2]; exact World.rangeAt_alloc (box_dat w seed _) _
  have HT2 : Hid (w2.there (w.heap.size + 1) 0 32) := by rw [← hw2]; exact alloc_thereAt _ _ _ 32 _ hs1 zD_size.symm
  obtain ⟨w3, hw3⟩ : ∃ w3, w2.alloc (.cells zs 45) = w3 := ⟨_, rfl⟩
  have HA3 : Hid (Arr w3 (w.heap.size + 1 + 1) (upF (leafF seed) 0)) := by rw [upF_zero, ← hw3, ← hs2]; exact Arr.new w2 zs _ hzs
  have HB3 : Hid (Below w2.heap.size w2 w3) := by rw [← hw3]; exact (Below.refl _ _).alloc (Nat.le_refl _) _
  have HS2 : Hid (w2.heap.size = w.heap.size + 1 + 1) := hs2
  have HG : Hid (∀ wx, Below w2.heap.size w2 wx → Env wx ∧ DAt wx w.heap.size 0 seed ∧ wx.there (w.heap.size + 1) 0 32 ∧ Below w.heap.size w wx) := fun wx hx => by
    have b : Below w.heap.size w wx := HB2.out.trans (hx.mono (by omega))
    exact ⟨G.below b, HD2.out.below hx (by omega), there_below HT2.out hx (by omega), b⟩
  clear G HD2 HT2 HB2
  go_enter Tryd.func9, Tryd.ntmps9
  go_wp2_with (first
    | (refine wpList_allocE (by rfl) 23 (by rfl) (cellsB zD).toArray Tryd.zeroDg (w.heap.size + 1) hs1 w2 hw2 ?_)
    | (refine wpList_allocE (by rfl) 45 (by rfl) zs hzero (w.heap.size + 1 + 1) hs2 w3 hw3 ?_))
  clear hw2 hs1 hs2 hw3 hzero hzs
  go_loopw [6] (fun i wr => ∃ k : Nat, k ≤ 256 ∧ i = .int .i64 (k : Int) ∧ Arr wr (w.heap.size + 1 + 1) (upF (leafF seed) (2 * k)) ∧ Below w2.heap.size w2 wr) (fun i _ => 256 - (intOf i).toNat)
  case atStart => exact ⟨0, Nat.zero_le _, rfl, HA3.out, HB3.out⟩
  case round =>
    clear HA3 HB3
    obtain ⟨k, hk, rfl, hA, hB⟩ := hrel
    by_cases hlt : k < 256
    · have HA : Hid (Arr wr (w.heap.size + 1 + 1) (upF (leafF seed) (2 * k)) ∧ Below w2.heap.size w2 wr) := ⟨hA, hB⟩
      clear hA hB
      go_wp2_with fail
      try rw [decide_eq_true (show (k : Int) < 256 by omega)]
      go_loopw [9] (fun i wr => ∃ t : Nat, t ≤ 2 ∧ i = .int .i64 (t : Int) ∧ Arr wr (w.heap.size + 1 + 1) (upF (leafF seed) (2 * k + t)) ∧ Below w2.heap.size w2 wr) (fun i _ => 2 - (intOf i).toNat)
      case atStart => exact ⟨0, Nat.zero_le _, rfl, HA.out⟩
      case round =>
        clear HA
        obtain ⟨t, ht, rfl, hA, hB⟩ := hrel
        by_cases hlt2 : t < 2
        · have HA : Hid (Arr wr (w.heap.size + 1 + 1) (upF (leafF seed) (2 * k + t))) := hA
          have HB : Hid (Below w2.heap.size w2 wr) := hB
          have HK := HG.out _ hB
          clear hA hB
          go_wp2_with (refine wpList_load_mid (by rfl) 23 (.tmp 1) (by rfl) w.heap.size 0 (by rfl) (cellsB seed) _ (HG.out _ HB.out).2.1 Tryd.underlying23 (by rfl) (by rw [cellsB_length, hs]; exact Tryd.sizeDg) ?_)
          obtain ⟨q, hq⟩ : ∃ q : Nat, 2 * k + t = q := ⟨_, rfl⟩
          have eq1 : (2 : Int) * (k : Int) + (t : Int) = (q : Int) := by omega
          rw [eq1]
          have hq5 : q < 512 := by omega
          have HSN : Hid (leafF seed q = onceLeafL (onceSecL seed k t)) := by rw [← hq]; exact leafF_at seed k t hlt2
          have HQ : Hid (2 * k + t = q) := hq
          rw [hq] at HA
          clear hq eq1
          refine (wonce_secret seed k t wr HK.1 hs hlt (by omega)).mono ?_
          rintro e w4 ⟨rfl, hb4⟩
          have HE4 : Hid (Env w4) := Env.below HK.1 hb4
          have hl4 := onceSecL_length seed k t
          clear HK
          generalize onceSecL seed k t = X at *
          go_wp2_with fail
          refine (wonce_leaf X w4 HE4.out hl4).mono ?_
          rintro e w5 ⟨rfl, hb5⟩
          have hl5 := onceLeafL_length X
          have b5 := below_trans hb4 hb5
          have hAb := HA.out.block
          have HA5 : Hid (Arr w5 (w.heap.size + 1 + 1) (upF (leafF seed) q)) := HA.out.below b5 hAb
          have HT5 : Hid (w5.there (w.heap.size + 1 + 1) (q * 32) 32) := HA5.out.slot q hq5
          have HB5 : Hid (Below w2.heap.size w2 w5) := HB.out.trans (b5.mono HB.out.size)
          have HA6 : Hid (Arr (w5.setCells (w.heap.size + 1 + 1) (q * 32) (cellsB (onceLeafL X))) (w.heap.size + 1 + 1) (upF (leafF seed) (q + 1))) := by
            have := HA5.out.set q hq5 _ hl5
            rw [← HSN.out, upF_succ] at this
            rw [← HSN.out]
            exact this
          have HB6 : Hid (Below w2.heap.size w2 (w5.setCells (w.heap.size + 1 + 1) (q * 32) (cellsB (onceLeafL X)))) := below_setCells _ (by rw [HS2.out]; exact Nat.le_refl _) _ _ _ HB5.out
          clear hb4 hb5 b5 HE4 HA HB hAb HSN HA5 HB5
          generalize onceLeafL X = Y at *
          go_wp2_with (refine wpList_store_mid (by rfl) 23 (.tmp 21) (.tmp 20) (by rfl) (w.heap.size + 1 + 1) (q * 32) (cellsB Y).toArray (by rfl) (by rfl) (by rw [cellsB_size, hl5]; exact HT5.out) (by rw [cellsB_size, hl5]; exact Tryd.sizeDg) (all_oneCell_toArray (cellsB_one _)) ?_)
          go_roundw
          case rel => exact ⟨t + 1, by omega, by go_num, by rw [show 2 * k + (t + 1) = q + 1 by have := HQ.out; omega]; exact HA6.out, HB6.out⟩
          case measure => simp [intOf]; omega
        · obtain rfl : t = 2 := by omega
          have HA : Hid (Arr wr (w.heap.size + 1 + 1) (upF (leafF seed) (2 * k + 2)) ∧ Below w2.heap.size w2 wr) := ⟨hA, hB⟩
          clear hA hB
          go_wp2_with fail
          go_roundw
          case rel => exact ⟨k + 1, by omega, by go_num, HA.out⟩
          case measure => simp [intOf]; omega
    · obtain rfl : k = 256 := by omega
      have HA : Hid (Arr wr (w.heap.size + 1 + 1) (upF (leafF seed) 512)) := hA
      have HB : Hid (Below w2.heap.size w2 wr) := hB
      have HF : Hid (shaL (4 :: ((List.range 512).map (upF (leafF seed) 512)).flatten) = oncePubL seed) := by unfold Hid; rw [leafF_all]; rfl
      have H32 : Hid (∀ i, i < 512 → (upF (leafF seed) 512 i).length = 32) := fun i hi => by unfold upF; rw [if_pos hi]; exact onceLeafL_length _
      clear hA hB
      generalize upF (leafF seed) 512 = f at *
      go_wp2_with fail
      refine (wonce_leaves _ f wr (HG.out _ HB.out).1 HA.out H32.out).mono ?_
      rintro e w6 ⟨rfl, hb6⟩
      rw [HF.out]
      have HB6 : Hid (Below w2.heap.size w2 w6) := HB.out.trans (hb6.mono HB.out.size)
      have HT6 : Hid (w6.there (w.heap.size + 1) 0 32) := (HG.out _ HB6.out).2.2.1
      have hlen : (oncePubL seed).length = 32 := shaL_length _
      clear hb6 HB HA HF H32
      generalize hD : oncePubL seed = D at *
      have HD : Hid (oncePubL seed = D) := hD
      clear hD
      go_wp2_with (refine wpList_store_mid (by rfl) 23 (.tmp 2) (.tmp 24) (by rfl) (w.heap.size + 1) 0 (cellsB D).toArray (by rfl) (by rfl) (by rw [cellsB_size, hlen]; exact HT6.out) (by rw [cellsB_size, hlen]; exact Tryd.sizeDg) (all_oneCell_toArray (cellsB_one _)) ?_)
      refine bodyPost_ret (v := digestV D) (run_results_row Tryd.results9 _ _ (w.heap.size + 1) 0 (by rfl) (cellsB D) (World.rangeAt_setCells_same _ _ _ _ (by rw [cellsB_length, hlen]; exact HT6.out)) _ Tryd.underlying23 (by rfl) (by rw [cellsB_length, hlen]; exact Tryd.sizeDg)) rfl ⟨by rw [HD.out], ?_⟩
      exact below_setCells _ (by omega) _ _ _ (HG.out _ HB6.out).2.2.2
end Go.Proofs.YtigdgmoiljifjaaDoor
/- A region in a round of a range over a function: as anywhere, under the wide fence. -/
namespace Go.Proofs.YtigdgmoiljifjaaDoor
open Go.RowKit
set_option linter.unusedVariables false
set_option linter.unusedSimpArgs false

theorem rows_wide {P : Program} {row : String} {args : Array Value} {w : World} {R : Value → World → Prop} (l n : Nat) (h : Rows P row args w R) : RowsIn (Fence.wide.inRound l) n P row args w R :=
  fun c cs _ => let ⟨v, w', r, s⟩ := h c cs; ⟨v, w', r, stepsIn_wide.2 s⟩
theorem uponIn_round_wide {P : Program} {o : Oper} {a : Act} {K K' : Act → World → Prop} {Q : Exit → Act → World → Prop} (l n : Nat) (hK : ∀ a w, K a w → K' a w) (r : Result Next) (h : o.upon P a K Q r) :
    o.uponIn (Fence.wide.inRound l) n P a K' Q r := by
  unfold Oper.upon at h
  unfold Oper.uponIn
  split at h
  · exact hK _ _ h
  · exact hK _ _ h
  · exact hK _ _ h
  · refine ⟨fun hd => (by cases hd), CallsIn.inRound l (callsIn_wide.2 (h.mono ?_))⟩
    intro e w' he
    cases e with
    | returned v => exact hK _ _ he
    | panicked c => exact he
    | outgrown => exact he
  · exact ⟨fun hd => (by cases hd), rows_wide l _ (h.mono fun v w' hv => hK _ _ hv)⟩
  · exact h
  · exact h.elim
/-- No statement in it is a 'defer'. -/
def noDefer (ops : Array Oper) : Bool := ops.toList.all fun o => match o.op with | .defer _ => false | _ => true
theorem noDefer_spec {ops : Array Oper} (h : noDefer ops = true) {i : Nat} {o : Oper} (ho : ops[i]? = some o) : ∀ c, o.op ≠ .defer c := by
  intro c hc
  have hm : o ∈ ops.toList := by
    have := (Array.getElem?_eq_some_iff.1 ho).2
    have hi := (Array.getElem?_eq_some_iff.1 ho).1
    rw [← this]
    exact Array.mem_toList_iff.2 (Array.getElem_mem hi)
  have := List.all_eq_true.1 h o hm
  rw [hc] at this
  cases this
theorem wpOps_round {P : Program} {ops : Array Oper} {Q : Exit → Act → World → Prop} (l n : Nat) (hd : noDefer ops = true) (hQ : ¬ LetsOut Q) :
    ∀ (js : List Nat) (a : Act) (w : World), wpOps P ops Q js a w → wpOpsIn (Fence.wide.inRound l) n P ops Q js a w
  | [], _, _, h => h
  | i :: rest, a, w, h => by
    have ih := wpOps_round (P := P) l n hd hQ rest
    unfold wpOps at h
    unfold wpOpsIn
    cases ho : ops[i]? with
    | none =>
      rw [ho] at h
      exact ih a w h
    | some o =>
      rw [ho] at h
      simp only at h ⊢
      by_cases hw : Region.wanted o (yielded ops a.tmps) = true
      · rw [if_pos hw] at h ⊢
        rcases h with h | ⟨_, h⟩
        · refine ⟨fun _ _ => trivial, ?_⟩
          rw [Oper.semAt_eq _ _ _ (noDefer_spec hd ho)]
          exact uponIn_round_wide l n ih _ h
        · exact absurd h hQ
      · rw [if_neg hw] at h ⊢
        exact ⟨fun _ _ => trivial, ih _ _ h⟩
theorem wpIn_round_list {P : Program} {ops : Array Oper} {Q : Exit → Act → World → Prop} {id : Nat} {a : Act} {w : World} (l n : Nat) (hd : noDefer ops = true) (hQ : ¬ LetsOut Q) (h : wpList P ops Q ops.toList a w) :
    (Code.region id ops false).wpIn (Fence.wide.inRound l) n P Q a w := by
  refine wpIn_region (wpOps_round l n hd hQ _ _ _ ?_)
  rw [List.range_eq_range', show ops.size = ops.toList.length from rfl, wpOps_eq_wpList ops.toList 0 (by simp)]
  exact h
theorem wpIn_round_held {P : Program} {ops : Array Oper} {Q : Exit → Act → World → Prop} {S : World → Prop} {id : Nat} {a : Act} {w : World} (l n : Nat) (hm : P.follows .mixedOrders = true) (hd : noDefer ops = true) (hQ : ¬ LetsOut Q)
    (h : wpAnyH P .any ops Q S ops.size (Array.replicate ops.size false) a { w with drawn := w.drawn + 1 }) : (Code.region id ops true).wpIn (Fence.wide.inRound l) n P Q a w :=
  wpIn_region_draw fun t => by
    refine wpOps_round l n hd hQ _ _ _ ?_
    simp only [Region.schedule, hm, Bool.true_or, if_true]
    exact wpAny_sound ops.size t _ a _ (wpAny_of_held _ _ _ _ h)
end Go.Proofs.YtigdgmoiljifjaaDoor
/- The contract of once.bits: it goes through a digest's bits with their places. -/
namespace Go.Proofs.YtigdgmoiljifjaaDoor
open Go.RowKit Go.Shelf
set_option linter.unusedVariables false
set_option linter.unusedSimpArgs false
attribute [local go_sem] Oper.semAt_some

/-- The first k places. -/
def places (k : Nat) : List (Fin 256) := (List.range k).map (Fin.ofNat 256)
theorem places_succ (k : Nat) : places (k + 1) = places k ++ [Fin.ofNat 256 k] := by simp [places, List.range_succ]
theorem places_len (k : Nat) : (places k).length = k := by simp [places]
/-- A digest in memory stays. -/
def KpD (B : Nat) (m : List UInt8) (W W' : World) : Prop := DAt W B 0 m → DAt W' B 0 m
abbrev bitA (m : List UInt8) (x : Fin 256) : Array Value := #[.int .i64 (x.1 : Int), .int .i64 ((bitL m x.1 : Nat) : Int)]

set_option maxRecDepth 100000 in
set_option maxHeartbeats 1000000 in
theorem wbits_any (m : List UInt8) (w : World) :
    CallsIn Fence.wide 3 Tryd.prog 18 #[digestV m] w fun e w' => e = .returned (.func (.func 25) #[] #[.pointer (some ⟨w.heap.size, 0, none⟩)]) ∧ w' = w.alloc (.cells (cellsB m).toArray 23) := by
  refine callsIn_wide.2 ?_
  go_enter Tryd.func18, Tryd.ntmps18
  go_wp2
  go_ret
  exact ⟨rfl, rfl⟩

theorem u8_bit (x s : Nat) (hx : x < 256) : bits .and .u8 ((x : Int) / 2 ^ s) 1 = ((x / 2 ^ s % 2 : Nat) : Int) := by
  have h : x / 2 ^ s < 256 := Nat.lt_of_le_of_lt (Nat.div_le_self _ _) hx
  have e : (x : Int) / 2 ^ s = ((x / 2 ^ s : Nat) : Int) := by simp
  rw [e, show (1 : Int) = ((1 : Nat) : Int) from rfl, u8_and_nat _ _ h (by omega), Nat.and_one_is_mod]

set_option maxRecDepth 100000 in
set_option maxHeartbeats 2000000 in
theorem wbits1 (n : Nat) (hn : 1 ≤ n) (l B : Nat) (m : List UInt8) (hm : m.length = 32) (J Jx : List (Fin 256) → World → Prop)
    (hY : ∀ pre x W, J pre W → pre.length < 256 → YieldAt Fence.wide (n - 1) Tryd.prog l (bitA m x) W fun e W' =>
      (e = .returned (.bool true) ∧ J (pre ++ [x]) W' ∧ KpD B m W W') ∨ (e = .returned (.bool false) ∧ Jx (pre ++ [x]) W'))
    (W : World) (hD : DAt W B 0 m) (h0 : J [] W) :
    CallsIn Fence.wide n Tryd.prog 25 #[.func (.yield l) #[] #[], .pointer (some ⟨B, 0, none⟩)] W fun e W' => (∃ v, e = .returned v) ∧
      ((∃ ys, ys = places 256 ∧ J ys W') ∨ (∃ pre, True ∧ Jx pre W')) := by
  refine callsIn_of_wp Tryd.func25 rfl trivial ?_ rfl
  simp only [Tryd.ntmps25, List.size_toArray, List.length_cons, List.length_nil, Nat.reduceAdd, Nat.reduceSub, Array.replicate_succ, Array.replicate_zero, List.push_toArray, List.append_toArray, List.nil_append, List.cons_append]
  gi_wp2
  gi_loopw [4] (fun i wr => ∃ k : Nat, k ≤ 256 ∧ i = .int .i64 k ∧ J (places k) wr ∧ DAt wr B 0 m) (fun i _ => 256 - (intOf i).toNat)
  case atStart => exact ⟨0, Nat.zero_le _, rfl, h0, hD⟩
  case round =>
    obtain ⟨k, hk, rfl, hJs, hDr⟩ := hrel
    by_cases hlt : k < 256
    · have hof : (Fin.ofNat 256 k).1 = k := by show k % 256 = k; omega
      obtain ⟨fn, tmps, assign, body, hy, hR⟩ := hY _ (Fin.ofNat 256 k) wr hJs (by rw [places_len]; exact hlt)
      simp only [bitA, hof] at hy
      have hq : (k : Int).tdiv 8 = ((k / 8 : Nat) : Int) := by rw [Int.tdiv_eq_ediv_of_nonneg (by omega)]; omega
      have hr : (k : Int).tmod 8 = ((k % 8 : Nat) : Int) := by rw [Int.tmod_eq_emod_of_nonneg (by omega)]; omega
      have hq2 : (k : Int) / 8 = ((k / 8 : Nat) : Int) := by omega
      have hr2 : (k : Int) % 8 = ((k % 8 : Nat) : Int) := by omega
      have hlq : k / 8 < 32 := by omega
      have hlr : k % 8 < 8 := by omega
      have hc := hDr.cell (k / 8) (by omega)
      rw [Nat.zero_add] at hc
      unfold nth at hc
      have hx := (m.getD (k / 8) 0).toNat_lt
      unfold bitL at hy
      generalize (m.getD (k / 8) 0).toNat = x at *
      generalize k / 8 = q at *
      generalize k % 8 = r at *
      have q0 : (0 : Int) ≤ (q : Int) := by omega
      have q1 : (q : Int) < 32 := by omega
      have hb := u8_bit x (7 - r) (by omega)
      have hz : x / 2 ^ (7 - r) % 2 < 2 := Nat.mod_lt _ (by omega)
      generalize x / 2 ^ (7 - r) % 2 = z at *
      have hz0 : (0 : Int) ≤ (z : Int) := by omega
      have hz1 : (z : Int) < 2 := by omega
      gi_wp2
      refine hR.mono ?_
      rintro e W3 (⟨rfl, hJ3, hk3⟩ | ⟨rfl, hJx3⟩)
      · gi_wp2
        go_roundw
        case rel => exact ⟨k + 1, by omega, by simp, by rw [places_succ]; exact hJ3, hk3 hDr⟩
        case measure => simp [intOf]; omega
      · gi_wp2
        refine bodyPost_ret (results_none rfl _ _ _) rfl ?_
        exact ⟨⟨_, rfl⟩, .inr ⟨_, trivial, hJx3⟩⟩
    · obtain rfl : k = 256 := by omega
      gi_wp2
      go_end0
      exact ⟨⟨_, rfl⟩, .inl ⟨_, rfl, hJs⟩⟩

/-- What bits hands back goes through all places, as long as the digest stays. -/
theorem wbits_stops (n : Nat) (hn : 1 ≤ n) (B : Nat) (m : List UInt8) (hm : m.length = 32) (w : World) (hB : B < w.heap.size) (hD : DAt w B 0 m) :
    SeqStopsK Fence.wide n Tryd.prog 25 #[.pointer (some ⟨B, 0, none⟩)] (bitA m) (KpD B m) (fun ys => ys = places 256) (fun _ => True) 256 w := fun l J Jx W hW _ _ hY h0 =>
  wbits1 n hn l B m hm J Jx hY W (hD.below hW hB) h0
end Go.Proofs.YtigdgmoiljifjaaDoor
