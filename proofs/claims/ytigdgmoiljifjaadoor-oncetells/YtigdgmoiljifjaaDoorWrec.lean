/- The contract of once.Recover. -/
import Derived.Test.YtigdgmoiljifjaaDoorReci
import Derived.Test.YtigdgmoiljifjaaDoorWsec
import Derived.Test.YtigdgmoiljifjaaDoorSameH
namespace Go.Proofs.YtigdgmoiljifjaaDoor
open Go.RowKit Go.Shelf
set_option linter.unusedVariables false
set_option linter.unusedSimpArgs false
attribute [local go_sem] Oper.semAt_some

set_option maxRecDepth 100000 in
set_option maxHeartbeats 2000000 in
theorem wonce_recover (m : List UInt8) (a : Option Addr) (c : Nat) (sig : List (List UInt8)) (w : World) (G : Env w) (hm : m.length = 32) (R : DRow w a 512 sig) :
    Calls Tryd.prog 12 #[digestV m, .slice a 512 c] w fun e w' => e = .returned (.tuple #[digestV (onceKeyL m sig), .nilIface]) ∧ Below w.heap.size w w' := by
  obtain ⟨zs, hzs, hzero⟩ := zeroLeaves
  obtain ⟨w3, hw3⟩ : ∃ w3, ((w.alloc (.cells (cellsB m).toArray 23)).alloc (.cells #[.slice a 512 c] 24)).alloc (.cells (cellsB zD).toArray 23) = w3 := ⟨_, rfl⟩
  have hs2 : ((w.alloc (.cells (cellsB m).toArray 23)).alloc (.cells #[.slice a 512 c] 24)).heap.size = w.heap.size + 2 := by simp
  have hs3 : w3.heap.size = w.heap.size + 3 := by rw [← hw3]; simp
  have HB3 : Hid (Below w.heap.size w w3) := by rw [← hw3]; exact (((Below.refl _ _).alloc (Nat.le_refl _) _).alloc (by simp) _).alloc (by simp; omega) _
  have HM3 : Hid (DAt w3 w.heap.size 0 m) := by rw [← hw3]; exact World.rangeAt_alloc (World.rangeAt_alloc (box_dat w m _) _) _
  have hc3 : w3.cell? ⟨w.heap.size + 1, 0, none⟩ = some (.slice a 512 c) := by
    rw [← hw3]
    have hb := Boxed.new (w.alloc (.cells (cellsB m).toArray 23)) 24 (.slice a 512 c)
    have := (hb.alloc (.cells (cellsB zD).toArray 23)).cell
    rw [World.size_alloc] at this
    exact this
  have HT3 : Hid (w3.there (w.heap.size + 2) 0 32) := by rw [← hw3]; exact alloc_thereAt _ _ _ 32 _ hs2 zD_size.symm
  obtain ⟨w4, hw4⟩ : ∃ w4, w3.alloc (.cells zs 45) = w4 := ⟨_, rfl⟩
  have HA4 : Hid (Arr w4 (w.heap.size + 3) (memF (onceAt m sig) [])) := by rw [memF_nil, ← hw4, ← hs3]; exact Arr.new w3 zs _ hzs
  have hb4 : Below w3.heap.size w3 w4 := by rw [← hw4]; exact (Below.refl _ _).alloc (Nat.le_refl _) _
  have hs4 : w4.heap.size = w.heap.size + 4 := by rw [← hw4]; simp [hs3]
  have HM4 : Hid (DAt w4 w.heap.size 0 m) := HM3.out.below hb4 (by omega)
  refine (callsIn_wide (n := 5)).1 ?_
  refine callsIn_of_wp_marks Tryd.func12 rfl trivial ?_ rfl
  simp only [Tryd.ntmps12, List.size_toArray, List.length_cons, List.length_nil, Nat.reduceAdd, Nat.reduceSub, Array.replicate_succ, Array.replicate_zero, List.push_toArray, List.append_toArray, List.nil_append, List.cons_append]
  refine wpIn_wide.2 ?_
  go_wp2_with (first
    | (refine wpList_allocE (by rfl) 23 (by rfl) (cellsB zD).toArray Tryd.zeroDg (w.heap.size + 2) hs2 w3 hw3 ?_)
    | (refine wpList_allocE (by rfl) 45 (by rfl) zs hzero (w.heap.size + 3) hs3 w4 hw4 ?_)
    | (refine wpList_load_mid (by rfl) 23 (.tmp 2) (by rfl) w.heap.size 0 (by rfl) (cellsB m) _ HM4.out Tryd.underlying23 (by rfl) (by rw [cellsB_length, hm]; exact Tryd.sizeDg) ?_))
  refine (callsIn_wide.1 (wbits_any m w4)).mono ?_
  rintro e w5 ⟨rfl, rfl⟩
  rw [hs4]
  go_wp2_with fail
  obtain ⟨W0, hW0⟩ : ∃ W0, w4.alloc (.cells (cellsB m).toArray 23) = W0 := ⟨_, rfl⟩
  rw [hW0]
  have hsz : W0.heap.size = w.heap.size + 5 := by rw [← hW0]; simp [hs4]
  have hb0 : Below w4.heap.size w4 W0 := by rw [← hW0]; exact (Below.refl _ _).alloc (Nat.le_refl _) _
  have HD0 : Hid (DAt W0 (w.heap.size + 4) 0 m) := by rw [← hW0]; exact box_rangeAt _ _ _ _ hs4
  have hb30 : Below w3.heap.size w3 W0 := hb4.trans (hb0.mono (by omega))
  have HI0 : Hid (RecI w m a c sig [] W0) :=
    ⟨HA4.out.below hb0 (by omega), (hb30.cell (p := ⟨w.heap.size + 1, 0, none⟩) (by show w.heap.size + 1 < w3.heap.size; omega)).trans hc3, there_below HT3.out hb30 (by omega), HB3.out.trans (hb30.mono (by omega)), by omega⟩
  clear hW0 hb0 hb30 HA4 hb4 HM4 hw4 hs4 HT3 hc3 HM3 HB3 hs3 hs2 hw3 hzero hzs
  clear w3 w4
  refine (wpIn_wide (n := 5)).1 ?_
  refine wpIn_rangeFunc_ownG (α := Fin 256) rfl (by omega) (gf := 25) (lb := #[.pointer (some ⟨w.heap.size + 4, 0, none⟩)]) rfl trivial (enters_of Tryd.func25 (by kernel_rfl) rfl)
    (wbits_stops 4 (by omega) (w.heap.size + 4) m hm W0 (by omega) HD0.out) (fun h1 h2 h => h2 (h1 h))
    (fun W l o o' hl ho h1 h2 hd => DAt.below hd (belowK_b (n₀ := w.heap.size + 5) (w := W0) (by omega) W l o o' hl ho h1 h2) (by omega)) (Below.refl _ _) (fun _ => rfl)
    (fun pre W => RecI w m a c sig pre W) (fun _ _ _ => False)
    (ownFrom_keep (fun s W h => by rw [hsz]; exact h.2.2.2.2) (fun s W W' h hb => h.keep (by rw [← hsz]; exact hb)))
    (fun _ _ _ _ _ hs _ _ => hs) HI0.out
    (fun x => { tmps := #[digestV m, .slice a 512 c, .pointer (some ⟨w.heap.size, 0, none⟩), .pointer (some ⟨w.heap.size + 1, 0, none⟩), .pointer (some ⟨w.heap.size + 2, 0, none⟩), .nilIface, .pointer (some ⟨w.heap.size + 3, 0, none⟩), .int .i64 (x.1 : Int), .int .i64 ((bitL m x.1 : Nat) : Int), .slice a 512 c, .int .i64 512, .bool false, undef, undef, .agg (cellsB m).toArray, .func (.func 25) #[] #[.pointer (some ⟨w.heap.size + 4, 0, none⟩)], .int .i64 (x.1 : Int), .int .i64 ((bitL m x.1 : Nat) : Int), undef, undef, undef, undef, undef, undef, undef, undef, undef, undef, undef, undef, undef, undef, undef, undef, undef, undef, undef, undef, undef, undef, undef, undef], defers := [] }) ?assign ?body ?done ?stop
  case assign =>
    intro l x W K hK
    gi_wp2
    exact hK
  case body =>
    rintro l pre x W hi hlen
    obtain ⟨h1, h2, h3, h4, h5⟩ := hi
    obtain ⟨ba, oa, rfl, hcs⟩ : ∃ ba oa, a = some ⟨ba, oa, none⟩ ∧ ∀ i, i < 512 → DAt w ba (oa + 32 * i) (sig.getD i []) := by
      rcases R.2.2 with h | h
      · omega
      · exact h
    have hlen32 := R.len
    have hba : ba < w.heap.size := cell_block ((hcs 0 (by omega)).cell 0 (by rw [hlen32 0 (by omega)]; omega))
    have hxl := x.2
    have htl := bitL_lt m x.1
    have HF1 : Hid (onceAt m sig (2 * x.1 + bitL m x.1) = onceLeafL (sig.getD (2 * x.1) [])) := onceAt_first m sig x.1
    have HF2 : Hid (onceAt m sig (2 * x.1 + 1 - bitL m x.1) = sig.getD (2 * x.1 + 1) []) := onceAt_second m sig x.1
    have HSN : Hid (setF (setF (memF (onceAt m sig) pre) (2 * x.1 + bitL m x.1) (onceAt m sig (2 * x.1 + bitL m x.1))) (2 * x.1 + 1 - bitL m x.1) (onceAt m sig (2 * x.1 + 1 - bitL m x.1)) = memF (onceAt m sig) (pre ++ [x])) := memF_snoc (onceAt m sig) pre x _ htl
    generalize hxi : x.1 = xi at *
    generalize bitL m xi = t at *
    have t0 : (0 : Int) ≤ (t : Int) := by omega
    have t1 : (t : Int) < 2 := by omega
    have HX : Hid (DAt W ba (oa + 2 * xi * 32) (sig.getD (2 * xi) [])) := by have := (hcs (2 * xi) (by omega)).below h4 hba; rwa [show oa + 32 * (2 * xi) = oa + 2 * xi * 32 by omega] at this
    have HY : Hid (∀ wx, Below w.heap.size w wx → DAt wx ba (oa + (2 * xi + 1) * 32) (sig.getD (2 * xi + 1) [])) := fun wx hx => by have := (hcs (2 * xi + 1) (by omega)).below hx hba; rwa [show oa + 32 * (2 * xi + 1) = oa + (2 * xi + 1) * 32 by omega] at this
    have lX := hlen32 (2 * xi) (by omega)
    have lY := hlen32 (2 * xi + 1) (by omega)
    have HI : Hid (RecI w m (some ⟨ba, oa, none⟩) c sig pre W) := ⟨h1, h2, h3, h4, h5⟩
    have HR : Hid (DRow w (some ⟨ba, oa, none⟩) 512 sig) := R
    clear R hcs HD0 HI0 hlen32 h1 h3 h4
    generalize sig.getD (2 * xi) [] = X at *
    generalize sig.getD (2 * xi + 1) [] = Y at *
    refine wpIn_block ?_
    refine wpIn_seq ?_
    refine wpIn_round_list l _ (by kernel_rfl) (fun h => by obtain ⟨a, w, h⟩ := h; exact h) ?_
    obtain ⟨q, hq⟩ : ∃ q : Nat, 2 * xi + t = q := ⟨_, rfl⟩
    have eq1 : (2 : Int) * (xi : Int) + (t : Int) = (q : Int) := by omega
    have hq5 : q < 512 := by omega
    rw [hq] at HF1 HSN
    go_wp2_with (refine wpList_load_mid (by rfl) 23 (.tmp 25) (by rfl) ba (oa + 2 * xi * 32) (by rfl) (cellsB X) _ HX.out Tryd.underlying23 (by rfl) (by rw [cellsB_length, lX]; exact Tryd.sizeDg) ?_)
    refine (wonce_leaf X W (G.below HI.out.2.2.2.1) lX).mono ?_
    rintro e w1 ⟨rfl, hb1⟩
    have lZ := onceLeafL_length X
    have HB1 : Hid (Below W.heap.size W w1) := hb1
    have hA1 : Arr w1 (w.heap.size + 3) (memF (onceAt m sig) pre) := HI.out.1.below hb1 (by omega)
    have HT1 : Hid (w1.there (w.heap.size + 3) (q * 32) 32) := hA1.slot q hq5
    have HA2 : Hid (Arr (w1.setCells (w.heap.size + 3) (q * 32) (cellsB (onceLeafL X))) (w.heap.size + 3) (setF (memF (onceAt m sig) pre) q (onceAt m sig q))) := by
      have := hA1.set q hq5 _ lZ
      rw [HF1.out]
      exact this
    clear hb1 hA1 HX HF1
    generalize onceLeafL X = Z at *
    have hc1 : w1.cell? ⟨w.heap.size + 1, 0, none⟩ = some (.slice (some ⟨ba, oa, none⟩) 512 c) := (HB1.out.cell (p := ⟨w.heap.size + 1, 0, none⟩) (by show w.heap.size + 1 < W.heap.size; omega)).trans h2
    clear h2
    go_wp2_with (refine wpList_store_mid (by rfl) 23 (.tmp 28) (.tmp 27) (by rfl) (w.heap.size + 3) (q * 32) (cellsB Z).toArray (by rfl) (by rfl) (by rw [cellsB_size, lZ]; exact HT1.out) (by rw [cellsB_size, lZ]; exact Tryd.sizeDg) (all_oneCell_toArray (cellsB_one _)) ?_)
    have hg2 := gr_setCells (w.heap.size + 3) (cellsB Z) (q * 32) w1
    have HSM : Hid (∀ k, k < W.heap.size → k ≠ w.heap.size + 3 → (w1.setCells (w.heap.size + 3) (q * 32) (cellsB Z)).heap[k]? = W.heap[k]?) := fun k hk hne =>
      (hg2.block k (Nat.lt_of_lt_of_le hk HB1.out.size) (fun e => hne (Option.some.inj e))).trans (HB1.out.block k hk)
    have HS2 : Hid (W.heap.size ≤ (w1.setCells (w.heap.size + 3) (q * 32) (cellsB Z)).heap.size) := Nat.le_trans HB1.out.size hg2.size
    have HBw : Hid (Below w.heap.size w (w1.setCells (w.heap.size + 3) (q * 32) (cellsB Z))) := below_setCells _ (by omega) _ _ _ (HI.out.2.2.2.1.trans (HB1.out.mono (by omega)))
    clear hg2 HB1 HT1 hc1
    generalize w1.setCells (w.heap.size + 3) (q * 32) (cellsB Z) = w2 at *
    have hc2 : w2.cell? ⟨w.heap.size + 1, 0, none⟩ = some (.slice (some ⟨ba, oa, none⟩) 512 c) := (World.cell?_of_block (w := W) (a := ⟨w.heap.size + 1, 0, none⟩) (HSM.out (w.heap.size + 1) (by omega) (by omega))).trans HI.out.2.1
    obtain ⟨p, hp⟩ : ∃ p : Nat, 2 * xi + 1 - t = p := ⟨_, rfl⟩
    have ep1 : (2 : Int) * (xi : Int) + 1 - (t : Int) = (p : Int) := by omega
    have hp5 : p < 512 := by omega
    rw [hp] at HF2 HSN
    have HT2 : Hid (w2.there (w.heap.size + 3) (p * 32) 32) := HA2.out.slot p hp5
    have HA3 : Hid (Arr (w2.setCells (w.heap.size + 3) (p * 32) (cellsB Y)) (w.heap.size + 3) (memF (onceAt m sig) (pre ++ [x]))) := by
      have := HA2.out.set p hp5 _ lY
      rw [← HSN.out, HF2.out]
      exact this
    have HYw := HY.out _ HBw.out
    clear HF2 HSN HY HA2
    refine wpIn_round_list l _ (by kernel_rfl) (fun h => by obtain ⟨a, w, h⟩ := h; exact h) ?_
    go_wp2_with (first
      | (refine wpList_load_mid (by rfl) 23 (.tmp 38) (by rfl) ba (oa + (2 * xi + 1) * 32) (by rfl) (cellsB Y) _ HYw Tryd.underlying23 (by rfl) (by rw [cellsB_length, lY]; exact Tryd.sizeDg) ?_)
      | (refine wpList_store_mid (by rfl) 23 (.tmp 40) (.tmp 39) (by rfl) (w.heap.size + 3) (p * 32) (cellsB Y).toArray (by rfl) (by rfl) (by rw [cellsB_size, lY]; exact HT2.out) (by rw [cellsB_size, lY]; exact Tryd.sizeDg) (all_oneCell_toArray (cellsB_one _)) ?_))
    have hg3 := gr_setCells (w.heap.size + 3) (cellsB Y) (p * 32) w2
    have same : ∀ k, k < W.heap.size → k ≠ w.heap.size + 3 → (w2.setCells (w.heap.size + 3) (p * 32) (cellsB Y)).heap[k]? = W.heap[k]? := fun k hk hne =>
      (hg3.block k (Nat.lt_of_lt_of_le hk HS2.out) (fun e => hne (Option.some.inj e))).trans (HSM.out k hk hne)
    have hs2 := HS2.out
    have hs3 := hg3.size
    show KeepsFrom _ _ _ ∧ KpD _ _ _ _ ∧ RecI _ _ _ _ _ _ _
    refine ⟨keepsFrom_of (by omega) (fun k hk hk2 => same k hk2 (by omega)), fun hd j v hj => ?_, HA3.out, ?_, ?_, ?_, by omega⟩
    · exact (World.cell?_of_block (w := W) (a := ⟨w.heap.size + 4, 0 + j, none⟩) (same (w.heap.size + 4) (by omega) (by omega))).trans (hd j v hj)
    · exact (World.cell?_of_block (w := W) (a := ⟨w.heap.size + 1, 0, none⟩) (same (w.heap.size + 1) (by omega) (by omega))).trans HI.out.2.1
    · intro j hj
      have hk := same (w.heap.size + 2) (by omega) (by omega)
      rw [World.cell?_of_block (w := W) (a := ⟨w.heap.size + 2, 0 + j, none⟩) hk, World.frozen?_of_block (w := W) (a := ⟨w.heap.size + 2, 0 + j, none⟩) hk]
      exact HI.out.2.2.1 j hj
    · exact below_setCells _ (by omega) _ _ _ HBw.out
  case done =>
    rintro D ys W hD rfl hi hK
    obtain ⟨h1, h2, h3, h4, h5⟩ := hi
    have hlen32 := R.len
    have HA : Hid (Arr W (w.heap.size + 3) (memF (onceAt m sig) (places 256))) := h1
    have HT : Hid (W.there (w.heap.size + 2) 0 32) := h3
    have H32 : Hid (∀ i, i < 512 → (memF (onceAt m sig) (places 256) i).length = 32) := fun i hi => by rw [memF_at _ i hi]; exact onceAt_32 m sig hlen32 i hi
    have HF : Hid (shaL (4 :: ((List.range 512).map (memF (onceAt m sig) (places 256))).flatten) = onceKeyL m sig) := by unfold Hid; rw [memF_all]; rfl
    clear h1 h3
    generalize memF (onceAt m sig) (places 256) = f at *
    go_wp2_with fail
    refine (wonce_leaves _ f W (G.below h4) HA.out H32.out).mono ?_
    rintro e w6 ⟨rfl, hb6⟩
    rw [HF.out]
    have HB6 : Hid (Below W.heap.size W w6) := hb6
    have HT6 : Hid (w6.there (w.heap.size + 2) 0 32) := there_below HT.out hb6 (by omega)
    have hlen : (onceKeyL m sig).length = 32 := shaL_length _
    have hDW : D < W.heap.size := (Array.getElem?_eq_some_iff.1 hK).1
    clear hb6 HA HF H32 HT
    generalize hDD : onceKeyL m sig = DD at *
    have HDD : Hid (onceKeyL m sig = DD) := hDD
    clear hDD
    go_wp2_with (refine wpList_store_mid (by rfl) 23 (.tmp 4) (.tmp 41) (by rfl) (w.heap.size + 2) 0 (cellsB DD).toArray (by rfl) (by rfl) (by rw [cellsB_size, hlen]; exact HT6.out) (by rw [cellsB_size, hlen]; exact Tryd.sizeDg) (all_oneCell_toArray (cellsB_one _)) ?_)
    have hg7 := gr_setCells (w.heap.size + 2) (cellsB DD) 0 w6
    have hd7 : DAt (w6.setCells (w.heap.size + 2) 0 (cellsB DD)) (w.heap.size + 2) 0 DD := dat_stored HT6.out hlen
    have hB7 : Below w.heap.size w (w6.setCells (w.heap.size + 2) 0 (cellsB DD)) := below_setCells _ (by omega) _ _ _ (h4.trans (HB6.out.mono (by omega)))
    have hK7 : (w6.setCells (w.heap.size + 2) 0 (cellsB DD)).heap[D]? = some (.deferred (some [])) := (hg7.block D (Nat.lt_of_lt_of_le hDW HB6.out.size) (fun e => by have := Option.some.inj e; omega)).trans ((HB6.out.block D hDW).trans hK)
    generalize w6.setCells (w.heap.size + 2) 0 (cellsB DD) = w7 at *
    have hbl := belowK_b (n₀ := W0.heap.size) (w := W0) (Nat.le_refl _) w7 D _ (.deferred none) hD hK7 rfl rfl
    refine ⟨by simp, .inl ⟨_, _, rfl, run_takeDeferred hK7, ?_⟩⟩
    refine ⟨.tuple #[digestV DD, .nilIface], run_results_row2 (by rfl) _ _ (w.heap.size + 2) 0 (by rfl) .nilIface (by rfl) (cellsB DD) (DAt.below hd7 hbl (by omega)) _ Tryd.underlying23 (by rfl) (by rw [cellsB_length, hlen]; exact Tryd.sizeDg), by rw [HDD.out], hB7.trans (hbl.mono (by omega))⟩
  case stop =>
    rintro D c pre W _ _ h _
    exact h.elim

set_option maxRecDepth 100000 in
set_option maxHeartbeats 1000000 in
theorem wonce_short (m : List UInt8) (a : Option Addr) (n c : Nat) (w : World) (G : Env w) (hm : m.length = 32) (hn : n ≠ 512) (hn2 : n ≤ 140737488351232) :
    Calls Tryd.prog 12 #[digestV m, .slice a n c] w fun e w' => e = .returned (.tuple #[digestV zD, .iface 28 (.int .i64 3)]) ∧ Below w.heap.size w w' := by
  obtain ⟨w3, hw3⟩ : ∃ w3, ((w.alloc (.cells (cellsB m).toArray 23)).alloc (.cells #[.slice a n c] 24)).alloc (.cells (cellsB zD).toArray 23) = w3 := ⟨_, rfl⟩
  have hs2 : ((w.alloc (.cells (cellsB m).toArray 23)).alloc (.cells #[.slice a n c] 24)).heap.size = w.heap.size + 2 := by simp
  have HB3 : Hid (Below w.heap.size w w3) := by rw [← hw3]; exact (((Below.refl _ _).alloc (Nat.le_refl _) _).alloc (by simp) _).alloc (by simp; omega) _
  have hc3 : w3.cell? ⟨w.heap.size + 1, 0, none⟩ = some (.slice a n c) := by
    rw [← hw3]
    have hb := Boxed.new (w.alloc (.cells (cellsB m).toArray 23)) 24 (.slice a n c)
    have := (hb.alloc (.cells (cellsB zD).toArray 23)).cell
    rw [World.size_alloc] at this
    exact this
  have HT3 : Hid (w3.there (w.heap.size + 2) 0 32) := by rw [← hw3]; exact alloc_thereAt _ _ _ 32 _ hs2 zD_size.symm
  have lz : zD.length = 32 := rfl
  go_enter Tryd.func12, Tryd.ntmps12
  go_wp2_with (first
    | (refine wpList_allocE (by rfl) 23 (by rfl) (cellsB zD).toArray Tryd.zeroDg (w.heap.size + 2) hs2 w3 hw3 ?_)
    | (refine wpList_store_mid (by rfl) 23 (.tmp 4) (.tmp 12) (by rfl) (w.heap.size + 2) 0 (cellsB zD).toArray (by rfl) (by first | rfl | (rw [zD_lit]; rfl)) (by rw [cellsB_size, lz]; exact HT3.out) (by rw [cellsB_size, lz]; exact Tryd.sizeDg) (all_oneCell_toArray (cellsB_one _)) ?_))
  refine bodyPost_ret (v := .tuple #[digestV zD, .iface 28 (.int .i64 3)]) (run_results_row2 (by rfl) _ _ (w.heap.size + 2) 0 (by rfl) (.iface 28 (.int .i64 3)) (by rfl) (cellsB zD) (World.rangeAt_setCells_same _ _ _ _ (by rw [cellsB_length, lz]; exact HT3.out)) _ Tryd.underlying23 (by rfl) (by rw [cellsB_length, lz]; exact Tryd.sizeDg)) rfl ⟨rfl, ?_⟩
  exact below_setCells _ (by omega) _ _ _ HB3.out
end Go.Proofs.YtigdgmoiljifjaaDoor
