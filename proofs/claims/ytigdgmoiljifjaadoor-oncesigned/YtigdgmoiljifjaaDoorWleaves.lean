/- The contract of leaves.public: the digest of a byte 4 and all leaves. -/
import Derived.Test.YtigdgmoiljifjaaDoorArr
import Derived.Test.YtigdgmoiljifjaaDoorEnv
import Derived.Test.YtigdgmoiljifjaaDoorWkmac
import Derived.Test.YtigdgmoiljifjaaDoorWsec
namespace Go.Proofs.YtigdgmoiljifjaaDoor
open Go.RowKit
set_option linter.unusedVariables false
set_option linter.unusedSimpArgs false

def pcs (g gb k : Nat) : List Value := Value.slice (some ⟨gb, 0, none⟩) 1 1 :: (List.range k).map fun i => Value.slice (some ⟨g, i * 32, none⟩) 32 32
theorem pcs_succ (g gb k : Nat) : pcs g gb k ++ [Value.slice (some ⟨g, k * 32, none⟩) 32 32] = pcs g gb (k + 1) := by
  unfold pcs
  rw [List.range_succ, List.map_append]
  rfl
theorem pcs_len (g gb k : Nat) : (pcs g gb k).length = k + 1 := by simp [pcs]
theorem one_new1 (w : World) (a : Value) (t : TypeId) (g : Nat) (hg : w.heap.size = g) : ∀ j u, [a][j]? = some u → (w.alloc (.cells #[a] t)).cell? ((⟨g, 0, none⟩ : Addr).add j) = some u := by
  intro j u hj
  subst hg
  have e : (w.alloc (.cells #[a] t)).cell? ((⟨w.heap.size, 0, none⟩ : Addr).add j) = (w.alloc (.cells #[a] t)).cell? ⟨w.heap.size, j, none⟩ := by rw [add0]
  rw [e, World.cell?_alloc_mark]
  simpa using hj
theorem ownsRow_below {w w' : World} {B : Nat} {e : TypeId} {sz : Nat} {v : Value} {n : Nat} {xs : List Value} (h : w.ownsRow B e sz v n xs) (hb : Below w.heap.size w w') : w'.ownsRow B e sz v n xs := by
  rcases h.2 with ⟨h1, h0⟩ | ⟨g, cap, cur, e1, e2, e3, e4⟩
  · exact ⟨h.1, .inl ⟨h1, h0⟩⟩
  · have hg : g < w.heap.size := (World.ownsRow.lt h g (by rw [e1]; rfl)).2
    exact ⟨h.1, .inr ⟨g, cap, cur, e1, e2, (hb.block g hg).trans e3, e4⟩⟩
/-- The pieces, in memory: a byte 4, and the leaves. -/
theorem pcs_rows {w : World} {g gb g2 : Nat} {B : Nat} {f : Nat → List UInt8} (hA : Arr w g f) (h32 : ∀ i, i < 512 → (f i).length = 32) (h4 : w.cell? ⟨gb, 0, none⟩ = some (.int .u8 4))
    (ho : w.ownsRow B 49 1 (.slice (some ⟨g2, 0, none⟩) 513 513) 513 (pcs g gb 512)) : BRows w (some ⟨g2, 0, none⟩) 513 ([4] :: (List.range 512).map f) := by
  refine ⟨by simp, .inr ⟨g2, 0, rfl, fun i hi => ?_⟩⟩
  have hc := World.ownsRow.cellAt ho i (by omega)
  rw [Nat.zero_add]
  cases i with
  | zero =>
    refine ⟨some ⟨gb, 0, none⟩, 1, 1, hc, Nat.le_refl _, rfl, .inr ⟨gb, 0, rfl, fun j hj => ?_⟩⟩
    obtain rfl : j = 0 := by omega
    exact h4
  | succ i =>
    have hi' : i < 512 := by omega
    refine ⟨some ⟨g, i * 32, none⟩, 32, 32, ?_, Nat.le_refl _, ?_⟩
    · rw [hc]
      simp [pcs, hi']
    · have e : ([4] :: (List.range 512).map f).getD (i + 1) [] = f i := by simp [List.getD_eq_getElem?_getD, hi']
      rw [e]
      exact DAt.row (hA.2.2 i hi') (h32 i hi')

set_option maxRecDepth 100000 in
set_option maxHeartbeats 1000000 in
theorem wonce_leaves (g : Nat) (f : Nat → List UInt8) (w : World) (G : Env w) (hA : Arr w g f) (h32 : ∀ i, i < 512 → (f i).length = 32) :
    Calls Tryd.prog 21 #[.pointer (some ⟨g, 0, none⟩)] w fun e w' => e = .returned (digestV (shaL (4 :: ((List.range 512).map f).flatten))) ∧ Below w.heap.size w w' := by
  obtain ⟨i0, hi, hz0, hz1, hz2⟩ := info_parts Tryd.infoS8
  obtain ⟨w1, hw1⟩ : ∃ w1, w.alloc (.cells (cellsB zD).toArray 23) = w1 := ⟨_, rfl⟩
  have hs1 : w1.heap.size = w.heap.size + 1 := by rw [← hw1]; simp
  have HB1 : Hid (Below w.heap.size w w1) := by rw [← hw1]; exact (Below.refl _ _).alloc (Nat.le_refl _) _
  have HT1 : Hid (w1.there w.heap.size 0 32) := by rw [← hw1]; exact alloc_thereAt _ _ _ 32 _ rfl zD_size.symm
  have HG : Hid (Env w ∧ Arr w g f) := ⟨G, hA⟩
  have hg := hA.block
  clear G hA
  go_enter Tryd.func21, Tryd.ntmps21
  go_wp2_with (first
    | (refine wpList_allocE (by rfl) 23 (by rfl) (cellsB zD).toArray Tryd.zeroDg w.heap.size rfl w1 hw1 ?_)
    | (at_make; refine wpList_make_own _ rfl _ _ 55 rfl w1.heap.size 49 i0 (.slice none 0 0) 1 Tryd.underlying55 hi hz0 hz1 _ _ _ 513 rfl rfl (by omega) (by rw [hz2]; omega) (by unfold maxLen; omega) (Nat.le_refl _) ?_; intro w2 hown hgrow; rw [hs1] at hown; have HO2 : Hid (w2.ownsRow (w.heap.size + 1) 49 1 (.slice (some ⟨w.heap.size + 1, 0, none⟩) 0 513) 0 []) := hown; have HB2 : Hid (Below w1.heap.size w1 w2) := (Below.refl _ _).grown hgrow (Nat.le_refl _) (fun _ h => by cases h); clear hown hgrow)
    | (at_builtin; refine wpList_append_fits _ (by rfl) (.tmp 6) (.tmp 8) 55 (by rfl) (w.heap.size + 1) 49 i0 1 Tryd.underlying55 hi hz1 (w.heap.size + 1) 0 513 [] (by rfl) (ownsRow_below (ownsRow_below HO2.out ((Below.refl _ _).alloc (Nat.le_refl _) _)) ((Below.refl _ _).alloc (Nat.le_refl _) _)) ⟨w2.heap.size + 1, 0, none⟩ 1 1 [.slice (some ⟨w2.heap.size, 0, none⟩) 1 1] (by rfl) (by rfl) (one_new1 _ _ _ _ (by simp)) (by simp [Value.oneCell']) (by omega) ?_; intro w3 ho3 hg3))
  have hgb : w.heap.size + 1 < w2.heap.size := (World.ownsRow.lt HO2.out (w.heap.size + 1) rfl).2
  have hsa : (w2.alloc (.cells #[.int .u8 4] 5)).heap.size = w2.heap.size + 1 := by simp
  have H4 : Hid (w3.cell? ⟨w2.heap.size, 0, none⟩ = some (.int .u8 4)) := by
    have hb : w3.heap[w2.heap.size]? = _ := hg3.block w2.heap.size (by simp; omega) (by intro e; have := Option.some.inj e; omega)
    refine (World.cell?_of_block (a := ⟨w2.heap.size, 0, none⟩) hb).trans ?_
    rw [((Below.refl (w2.heap.size + 1) (w2.alloc (.cells #[.int .u8 4] 5))).alloc (by simp) (.cells #[.slice (some ⟨w2.heap.size, 0, none⟩) 1 1] 49)).cell (p := ⟨w2.heap.size, 0, none⟩) (Nat.lt_succ_self _), World.cell?_alloc_mark]
    rfl
  have HB3 : Hid (Below w1.heap.size w1 w3) := ((HB2.out.alloc HB2.out.size _).alloc (by have := HB2.out.size; simp; omega) _).grown hg3 (by have := HB2.out.size; simp; omega) (fun k e => by have := Option.some.inj e; omega)
  have HO3 : Hid (w3.ownsRow (w.heap.size + 1) 49 1 (.slice (some ⟨w.heap.size + 1, 0, none⟩) 1 513) 1 (pcs g w2.heap.size 0)) := ho3
  clear ho3 hg3 HO2 HB2 hsa
  generalize w2.heap.size = gb at *
  go_loopw [3, 10] (fun v i wr => ∃ k : Nat, k ≤ 512 ∧ i = .int .i64 (k : Int) ∧ v = .slice (some ⟨w.heap.size + 1, 0, none⟩) (k + 1) 513 ∧ wr.ownsRow (w.heap.size + 1) 49 1 (.slice (some ⟨w.heap.size + 1, 0, none⟩) (k + 1) 513) (k + 1) (pcs g gb k) ∧ wr.cell? ⟨gb, 0, none⟩ = some (.int .u8 4) ∧ Below w1.heap.size w1 wr) (fun _ i _ => 512 - (intOf i).toNat)
  case atStart => exact ⟨0, Nat.zero_le _, rfl, rfl, HO3.out, H4.out, HB3.out⟩
  case round =>
    clear HO3 H4 HB3
    obtain ⟨k, hk, rfl, rfl, hO, h4, hB⟩ := hrel
    by_cases hlt : k < 512
    · have HO : Hid (wr.ownsRow (w.heap.size + 1) 49 1 (.slice (some ⟨w.heap.size + 1, 0, none⟩) (k + 1) 513) (k + 1) (pcs g gb k)) := hO
      have H4 : Hid (wr.cell? ⟨gb, 0, none⟩ = some (.int .u8 4)) := h4
      have HB : Hid (Below w1.heap.size w1 wr) := hB
      have HSN : Hid (pcs g gb k ++ [Value.slice (some ⟨g, k * 32, none⟩) 32 32] = pcs g gb (k + 1)) := pcs_succ g gb k
      clear hO h4 hB
      go_wp2_with (at_builtin; refine wpList_append_fits _ (by rfl) (.tmp 13) (.tmp 19) 55 (by rfl) (w.heap.size + 1) 49 i0 1 Tryd.underlying55 hi hz1 (w.heap.size + 1) (k + 1) 513 (pcs g gb k) (by rfl) (ownsRow_below HO.out ((Below.refl _ _).alloc (Nat.le_refl _) _)) ⟨wr.heap.size, 0, none⟩ 1 1 [.slice (some ⟨g, k * 32, none⟩) 32 32] (by rfl) (by rfl) (one_new1 _ _ _ _ rfl) (by simp [Value.oneCell']) (by omega) ?_; intro w5 ho5 hg5)
      have hgw : gb < wr.heap.size := cell_block H4.out
      have h4' : w5.cell? ⟨gb, 0, none⟩ = some (.int .u8 4) := by
        have hb := hg5.block gb (by simp; omega) (by intro e; have := Option.some.inj e; omega)
        exact ((World.cell?_of_block (a := ⟨gb, 0, none⟩) hb).trans (((Below.refl wr.heap.size wr).alloc (Nat.le_refl _) _).cell (p := ⟨gb, 0, none⟩) hgw)).trans H4.out
      have hB' : Below w1.heap.size w1 w5 := (HB.out.alloc HB.out.size _).grown hg5 (by have := HB.out.size; simp; omega) (fun k e => by have := Option.some.inj e; omega)
      rw [HSN.out] at ho5
      go_roundw
      case rel => exact ⟨k + 1, by omega, by go_num, rfl, ho5, h4', hB'⟩
      case measure => simp [intOf]; omega
    · obtain rfl : k = 512 := by omega
      have hbw : Below w.heap.size w wr := HB1.out.trans (hB.mono (by omega))
      have HR : Hid (BRows wr (some ⟨w.heap.size + 1, 0, none⟩) 513 ([4] :: (List.range 512).map f)) := pcs_rows (HG.out.2.below hbw hg) h32 h4 hO
      have HE : Hid (Env wr) := HG.out.1.below hbw
      have HB : Hid (Below w1.heap.size w1 wr) := hB
      have hfl : ((List.range 512).map f).flatten.length = 32 * 512 := by
        have := flat_len (ls := (List.range 512).map f) (by intro l hl; obtain ⟨i, hi, rfl⟩ := List.mem_map.1 hl; exact h32 i (List.mem_range.1 hi))
        simpa using this
      have hE : [4] :: (List.range 512).map f = [4] :: (List.range 512).map f := rfl
      have HF : Hid (([4] :: (List.range 512).map f).flatten = 4 :: ((List.range 512).map f).flatten) := rfl
      have hfl2 : ([4] :: (List.range 512).map f).flatten.length ≤ 1000000000000000000 := by rw [HF.out, List.length_cons, hfl]; omega
      clear hO h4 hB hbw hE hfl
      generalize [4] :: (List.range 512).map f = L at *
      go_wp2_with fail
      refine (wsumof_any _ 513 513 L wr HE.out HR.out hfl2 (by omega)).mono ?_
      rintro e w6 ⟨rfl, hb6⟩
      rw [HF.out]
      have HB6 : Hid (Below w1.heap.size w1 w6) := HB.out.trans (hb6.mono HB.out.size)
      have HT6 : Hid (w6.there w.heap.size 0 32) := there_below HT1.out HB6.out (by omega)
      have hlen := shaL_length (4 :: ((List.range 512).map f).flatten)
      clear hb6 HB HR HE HF hfl2
      generalize hD : shaL (4 :: ((List.range 512).map f).flatten) = D at *
      have HD : Hid (shaL (4 :: ((List.range 512).map f).flatten) = D) := hD
      clear hD
      go_wp2_with (refine wpList_store_mid (by rfl) 23 (.tmp 2) (.tmp 23) (by rfl) w.heap.size 0 (cellsB D).toArray (by rfl) (by rfl) (by rw [cellsB_size, hlen]; exact HT6.out) (by rw [cellsB_size, hlen]; exact Tryd.sizeDg) (all_oneCell_toArray (cellsB_one _)) ?_)
      refine bodyPost_ret (v := digestV D) (run_results_row Tryd.results21 _ _ w.heap.size 0 (by rfl) (cellsB D) (World.rangeAt_setCells_same _ _ _ _ (by rw [cellsB_length, hlen]; exact HT6.out)) _ Tryd.underlying23 (by rfl) (by rw [cellsB_length, hlen]; exact Tryd.sizeDg)) rfl ⟨by rw [HD.out], ?_⟩
      exact below_setCells _ (Nat.le_refl _) _ _ _ (HB1.out.trans (HB6.out.mono (by omega)))
end Go.Proofs.YtigdgmoiljifjaaDoor
