/- The contracts of chain.New and Chain.Next. -/
import Derived.Test.YtggkieemleibjaaDoorWpush
import Derived.Test.YtggkieemleibjaaDoorWtz
namespace Go.Proofs.YtggkieemleibjaaDoor
open Go.RowKit
set_option linter.unusedVariables false
set_option linter.unusedSimpArgs false

theorem gr_new {w w' : World} {g b : Nat} {vs : List Value} {o : Nat} (h1 : w.grownBy w' (some g)) (hb : w.heap.size ≤ b) : w.grownBy (w'.setCells b o vs) (some g) := by
  have h2 : Below w.heap.size w' (w'.setCells b o vs) := below_setCells _ hb _ _ _ (Below.refl _ _)
  exact ⟨h2.os.trans h1.os, h2.tape.trans h1.tape, h2.output.trans h1.output, Nat.le_trans h1.size h2.size, fun i hi hne => (h2.block i hi).trans (h1.block i hi hne)⟩
theorem Db.grown {w w' : World} {g : Nat} (h : Db w) (hg : w.grownBy w' (some g)) (hne : g ≠ 2) : Db w' := fun t ht => by
  have hk := hg.block 2 (cell_block (h t ht)) (by intro e; exact hne (Option.some.inj e).symm)
  rw [World.cell?_of_block (w := w) (a := ⟨2, t, none⟩) hk]
  exact h t ht
theorem kc_new (w : World) (t : TypeId) (p : Nat) : KC (w.alloc (.cells (Tryd.zeroCells46.setIfInBounds 353 (.int .i64 (p : Int))) t)) w.heap.size [] p := by
  have hz : Tryd.zeroCells46.size = 354 := by kernel_rfl
  have h2 : Tryd.zeroCells46[352]? = some (.int .i64 0) := by kernel_rfl
  refine ⟨fun i hi => absurd hi (by simp), fun d hd => absurd hd (by simp), by simp, ?_, ?_, alloc_there _ _ _ 354 (by rw [Array.size_setIfInBounds, hz]; omega)⟩
  · rw [World.cell?_alloc_new, Array.getElem?_setIfInBounds_ne (by omega), h2]
    rfl
  · rw [World.cell?_alloc_new, Array.getElem?_setIfInBounds_self_of_lt (by rw [hz]; omega)]

set_option maxRecDepth 100000 in
set_option maxHeartbeats 1000000 in
theorem wcnew_out (d : List UInt8) (m : Int) (w : World) (hd : d.length = 32) (hm : m < 0 ∨ 10 < m) :
    Calls Tryd.prog 10 #[digestV d, .int .i64 m] w fun e w' => e = .returned (.tuple #[.pointer none, .iface 24 (.int .i64 2)]) ∧ Below w.heap.size w w' := by
  go_enter Tryd.func10, Tryd.ntmps10
  by_cases h1 : m < 0
  · clear hm
    go_wp2
    go_ret2
    exact ⟨rfl, (Below.refl _ _).alloc (Nat.le_refl _) _⟩
  · have h2 : 10 < m := by omega
    clear hm
    go_wp2
    go_ret2
    exact ⟨rfl, (Below.refl _ _).alloc (Nat.le_refl _) _⟩

set_option maxRecDepth 100000 in
set_option maxHeartbeats 1000000 in
theorem wcnew_any (d : List UInt8) (k : Nat) (w : World) (G : Env w) (hd : d.length = 32) (hk : k ≤ 10) :
    Calls Tryd.prog 10 #[digestV d, .int .i64 (k : Int)] w fun e w' => ∃ g, e = .returned (.tuple #[.pointer (some ⟨g, 0, none⟩), .nilIface]) ∧ KC w' g (d :: fillL d k) (2 ^ k - 1) ∧ w.heap.size ≤ g ∧ Below w.heap.size w w' := by
  obtain ⟨w2, hw2⟩ : ∃ w2, w.alloc (.cells (cellsB d).toArray 23) = w2 := ⟨_, rfl⟩
  have hs2 : w2.heap.size = w.heap.size + 1 := by rw [← hw2]; simp
  have HB2 : Hid (Below w.heap.size w w2) := by rw [← hw2]; exact (Below.refl _ _).alloc (Nat.le_refl _) _
  have HD2 : Hid (DAt w2 w.heap.size 0 d) := by rw [← hw2]; exact box_dat w d _
  have HG : Hid (Env w2) := G.below HB2.out
  have h1 : ¬ (k : Int) < 0 := by omega
  have h2 : ¬ (10 : Int) < (k : Int) := by omega
  clear G
  go_enter Tryd.func10, Tryd.ntmps10
  obtain ⟨r, hr⟩ : ∃ r, 2 ^ k = r + 1 := ⟨2 ^ k - 1, by have := Nat.pow_pos (n := k) (show 0 < 2 by omega); omega⟩
  have hr10 : r + 1 ≤ 1024 := by rw [← hr]; exact Nat.pow_le_pow_right (by omega) hk
  have key : wrap64 ((2 : Int) ^ k) = (r : Int) + 1 := by
    have e : ((2 : Int) ^ k) = ((2 ^ k : Nat) : Int) := by simp
    rw [e, hr]
    simp only [wrap64]
    omega
  have HR : Hid (2 ^ k - 1 = r) := by unfold Hid; omega
  have HN : Hid (KC (w2.alloc (.cells (Tryd.zeroCells46.setIfInBounds 353 (.int .i64 (r : Int))) 46)) (w.heap.size + 1) [] r) := by rw [← hs2]; exact kc_new _ _ _
  have HBN : Hid (Below w2.heap.size w2 (w2.alloc (.cells (Tryd.zeroCells46.setIfInBounds 353 (.int .i64 (r : Int))) 46))) := (Below.refl _ _).alloc (Nat.le_refl _) _
  have HDN : Hid (DAt (w2.alloc (.cells (Tryd.zeroCells46.setIfInBounds 353 (.int .i64 (r : Int))) 46)) w.heap.size 0 d) := World.rangeAt_alloc HD2.out _
  clear hr
  generalize hwn : w2.alloc (.cells (Tryd.zeroCells46.setIfInBounds 353 (.int .i64 (r : Int))) 46) = wn at *
  go_wp2_with (refine wpList_load_mid (by rfl) 23 (.tmp 2) (by rfl) w.heap.size 0 (by rfl) (cellsB d) _ HDN.out Tryd.underlying23 (by rfl) (by rw [cellsB_length, hd]; exact Tryd.sizeDg) ?_)
  have htab : 3 < w2.heap.size := cell_block (HG.out 0 (by omega))
  have hgt : w.heap.size + 1 ≠ 3 := by omega
  have hpush := wpush_any (w.heap.size + 1) r [] d wn HN.out hd (by simp)
  refine hpush.mono ?_
  clear hpush
  rintro e w3 ⟨rfl, hk3, hg3⟩
  have HK3 : Hid (KC w3 (w.heap.size + 1) ([] ++ [d]) r) := hk3
  have HG3 : Hid (Env w3) := Tab.grown (HG.out.below HBN.out) hg3 hgt
  have HB3 : Hid (Below w.heap.size w w3) := below_gr (below_trans HB2.out HBN.out) hg3 (below_trans HB2.out HBN.out).size (by omega)
  clear hk3 hg3 HN HBN HDN hwn hw2 hs2 HD2 HG HB2
  go_wp2_with fail
  have hfill := wfill_any (w.heap.size + 1) r k [] d w3 HG3.out hgt HK3.out (by simp; omega)
  refine hfill.mono ?_
  clear hfill
  rintro e w4 ⟨rfl, hk4, hg4⟩
  have HK4 : Hid (KC w4 (w.heap.size + 1) ([] ++ [d] ++ fillL d k) r) := hk4
  have HB4 : Hid (Below w.heap.size w w4) := below_gr HB3.out hg4 HB3.out.size (by omega)
  clear hk4 hg4 HK3 HG3 HB3
  go_wp2
  go_ret2
  refine ⟨w.heap.size + 1, rfl, ?_, by omega, HB4.out⟩
  rw [HR.out]
  exact HK4.out

set_option maxRecDepth 100000 in
set_option maxHeartbeats 1000000 in
theorem wcnext_none (g p : Nat) (w : World) (H : KC w g [] p) :
    Calls Tryd.prog 12 #[.pointer (some ⟨g, 0, none⟩)] w fun e w' => e = .returned (.tuple #[digestV zD, .iface 24 (.int .i64 6)]) ∧ KC w' g [] p ∧ Below w.heap.size w w' := by
  obtain ⟨w2, hw2⟩ : ∃ w2, w.alloc (.cells (cellsB zD).toArray 23) = w2 := ⟨_, rfl⟩
  have HT2 : Hid (w2.there w.heap.size 0 32) := by rw [← hw2]; exact alloc_thereAt _ _ _ 32 _ rfl zD_size.symm
  have HB2 : Hid (Below w.heap.size w w2) := by rw [← hw2]; exact (Below.refl _ _).alloc (Nat.le_refl _) _
  have HK : Hid (KC w g [] p) := H
  have hc : w2.cell? ⟨g, 352, none⟩ = some (.int .i64 0) := (H.below HB2.out H.block).count
  clear H
  go_enter Tryd.func12, Tryd.ntmps12
  go_wp2_with (first
    | (refine wpList_allocE (by rfl) 23 (by rfl) (cellsB zD).toArray Tryd.zeroDg w.heap.size rfl w2 hw2 ?_)
    | (refine wpList_buildC (by rfl) 23 _ (by rfl) (cellsB zD).toArray (by kernel_rfl) ?_)
    | (refine wpList_store_mid (by rfl) 23 (.tmp 2) (.tmp 10) (by rfl) w.heap.size 0 (cellsB zD).toArray (by rfl) (by rfl) (by rw [cellsB_size]; exact HT2.out) (by rw [cellsB_size]; exact Tryd.sizeDg) (all_oneCell_toArray (cellsB_one _)) ?_))
  refine bodyPost_ret (v := .tuple #[digestV zD, .iface 24 (.int .i64 6)]) (run_results_row2 Tryd.results12 _ _ w.heap.size 0 (by rfl) _ (by rfl) (cellsB zD) (World.rangeAt_setCells_same _ _ _ _ (by rw [cellsB_length]; exact HT2.out)) _ Tryd.underlying23 (by rfl) (by rw [cellsB_length]; exact Tryd.sizeDg)) rfl ⟨rfl, ?_, ?_⟩
  · exact HK.out.below (below_setCells _ (Nat.le_refl _) _ _ _ HB2.out) HK.out.block
  · exact below_setCells _ (Nat.le_refl _) _ _ _ HB2.out

set_option maxRecDepth 100000 in
set_option maxHeartbeats 1000000 in
theorem wcnext_last (g : Nat) (ds : List (List UInt8)) (d : List UInt8) (w : World) (H : KC w g (ds ++ [d]) 0) :
    Calls Tryd.prog 12 #[.pointer (some ⟨g, 0, none⟩)] w fun e w' => e = .returned (.tuple #[digestV d, .nilIface]) ∧ KC w' g ds 0 ∧ w.grownBy w' (some g) := by
  obtain ⟨w2, hw2⟩ : ∃ w2, w.alloc (.cells (cellsB zD).toArray 23) = w2 := ⟨_, rfl⟩
  have HT2 : Hid (w2.there w.heap.size 0 32) := by rw [← hw2]; exact alloc_thereAt _ _ _ 32 _ rfl zD_size.symm
  have HB2 : Hid (Below w.heap.size w w2) := by rw [← hw2]; exact (Below.refl _ _).alloc (Nat.le_refl _) _
  have HK2 : Hid (KC w2 g (ds ++ [d]) 0) := H.below HB2.out H.block
  have hg := H.block
  have hld := HK2.out.last.2
  have hc : w2.cell? ⟨g, 352, none⟩ = some (.int .i64 (((ds).length : Int) + 1)) := by
    rw [HK2.out.count, List.length_append, List.length_singleton]
    simp
  have HG2 : Hid (w.grownBy w2 (some g)) := gr_below HB2.out _
  clear H
  generalize hN : (ds).length = N at *
  have hne : ¬ (N : Int) + 1 = 0 := by omega
  go_enter Tryd.func12, Tryd.ntmps12
  go_wp2_with (first
    | (refine wpList_allocE (by rfl) 23 (by rfl) (cellsB zD).toArray Tryd.zeroDg w.heap.size rfl w2 hw2 ?_))
  clear hw2
  refine (wpop_any g 0 (ds) d w2 HK2.out).mono ?_
  rintro e w3 ⟨rfl, hk3, hg3⟩
  have hs3 := HB2.out.size
  have hs3b : w.heap.size < w2.heap.size := there_block HT2.out (by omega)
  have hs3' := hg3.size
  obtain ⟨w4, hw4⟩ : ∃ w4, w3.alloc (.cells (cellsB zD).toArray 23) = w4 := ⟨_, rfl⟩
  have ht4 : Hid (w4.there w3.heap.size 0 32) := by rw [← hw4]; exact alloc_thereAt _ _ _ 32 _ rfl zD_size.symm
  have hb5 : Below w3.heap.size w3 (w4.setCells w3.heap.size 0 (cellsB d)) := by rw [← hw4]; exact new_stored _ _ _
  have HD5 : Hid (DAt (w4.setCells w3.heap.size 0 (cellsB d)) w3.heap.size 0 d) := dat_stored ht4.out hld
  have HK5 : Hid (KC (w4.setCells w3.heap.size 0 (cellsB d)) g (ds) 0) := hk3.below hb5 hk3.block
  have HG5 : Hid (w.grownBy (w4.setCells w3.heap.size 0 (cellsB d)) (some g)) := gr_trans HG2.out (gr_trans hg3 (gr_below hb5 _))
  have HT5 : Hid ((w4.setCells w3.heap.size 0 (cellsB d)).there w.heap.size 0 32) := by
    have hkk := hg3.block w.heap.size hs3b (by intro e; have := Option.some.inj e; omega)
    refine there_below (B := w3.heap.size) (w := w3) ?_ hb5 (by omega)
    intro j hj
    rw [World.cell?_of_block (w := w2) (a := ⟨w.heap.size, 0 + j, none⟩) hkk, World.frozen?_of_block (w := w2) (a := ⟨w.heap.size, 0 + j, none⟩) hkk]
    exact HT2.out j hj
  have hat : (w4.setCells w3.heap.size 0 (cellsB d)).cell? ⟨g, 353, none⟩ = some (.int .i64 (0)) := HK5.out.2.2.2.2.1
  have hgf : (w4.setCells w3.heap.size 0 (cellsB d)).frozen? ⟨g, 353, none⟩ = false := HK5.out.free 353 (by omega)
  have HS5 : Hid (w3.heap.size < (w4.setCells w3.heap.size 0 (cellsB d)).heap.size ∧ g < w3.heap.size) := ⟨cell_block (HD5.out.cell 0 (by omega)), hk3.block⟩
  clear hk3 hg3 HB2 HT2 HG2 hc hne HK2 hb5 hs3 hs3b hs3'
  generalize hw5 : w4.setCells w3.heap.size 0 (cellsB d) = w5 at *
  go_wp2_with (first
    | (refine wpList_allocE (by rfl) 23 (by rfl) (cellsB zD).toArray Tryd.zeroDg w3.heap.size rfl w4 hw4 ?_)
    | (refine wpList_store_mid (by rfl) 23 (.tmp 4) (.tmp 13) (by rfl) w3.heap.size 0 (cellsB d).toArray (by rfl) (by rfl) (by rw [cellsB_size, hld]; exact ht4.out) (by rw [cellsB_size, hld]; exact Tryd.sizeDg) (all_oneCell_toArray (cellsB_one _)) ?_; rw [show (cellsB d).toArray.toList = cellsB d from rfl, hw5])
    | (refine wpList_load_mid (by rfl) 23 (.tmp 4) (by rfl) w3.heap.size 0 (by rfl) (cellsB d) _ HD5.out Tryd.underlying23 (by rfl) (by rw [cellsB_length, hld]; exact Tryd.sizeDg) ?_)
    | (refine wpList_store_mid (by rfl) 23 (.tmp 2) (.tmp 34) (by rfl) w.heap.size 0 (cellsB d).toArray (by rfl) (by rfl) (by rw [cellsB_size, hld]; exact HT5.out) (by rw [cellsB_size, hld]; exact Tryd.sizeDg) (all_oneCell_toArray (cellsB_one _)) ?_))
  refine bodyPost_ret (v := .tuple #[digestV d, .nilIface]) (run_results_row2 Tryd.results12 _ _ w.heap.size 0 (by rfl) _ (by rfl) (cellsB d) (World.rangeAt_setCells_same _ _ _ _ (by rw [cellsB_length, hld]; exact HT5.out)) _ Tryd.underlying23 (by rfl) (by rw [cellsB_length, hld]; exact Tryd.sizeDg)) rfl ⟨rfl, ?_, ?_⟩
  · exact HK5.out.other (gr_setCells _ _ _ _) (by omega)
  · exact gr_new HG5.out (Nat.le_refl _)

set_option maxRecDepth 100000 in
set_option maxHeartbeats 1000000 in
theorem wcnext_more (g p : Nat) (A : List (List UInt8)) (x d : List UInt8) (w : World) (G : Env w) (Z : Db w) (hgt : g ≠ 3) (hgz : g ≠ 2) (H : KC w g (A ++ [x] ++ [d]) p) (h0 : 0 < p) (hp : p < 1024) (hl : A.length + 1 + tzN 10 p ≤ 11) :
    Calls Tryd.prog 12 #[.pointer (some ⟨g, 0, none⟩)] w fun e w' => e = .returned (.tuple #[digestV d, .nilIface]) ∧ KC w' g (A ++ [x] ++ fillL x (tzN 10 p)) (p - 1) ∧ w.grownBy w' (some g) := by
  obtain ⟨w2, hw2⟩ : ∃ w2, w.alloc (.cells (cellsB zD).toArray 23) = w2 := ⟨_, rfl⟩
  have HT2 : Hid (w2.there w.heap.size 0 32) := by rw [← hw2]; exact alloc_thereAt _ _ _ 32 _ rfl zD_size.symm
  have HB2 : Hid (Below w.heap.size w w2) := by rw [← hw2]; exact (Below.refl _ _).alloc (Nat.le_refl _) _
  have HK2 : Hid (KC w2 g (A ++ [x] ++ [d]) p) := H.below HB2.out H.block
  have hg := H.block
  have hld := HK2.out.last.2
  have hc : w2.cell? ⟨g, 352, none⟩ = some (.int .i64 (((A ++ [x]).length : Int) + 1)) := by
    rw [HK2.out.count, List.length_append, List.length_singleton]
    simp
  have HG2 : Hid (w.grownBy w2 (some g)) := gr_below HB2.out _
  clear H
  generalize hN : (A ++ [x]).length = N at *
  have hne : ¬ (N : Int) + 1 = 0 := by omega
  go_enter Tryd.func12, Tryd.ntmps12
  go_wp2_with (first
    | (refine wpList_allocE (by rfl) 23 (by rfl) (cellsB zD).toArray Tryd.zeroDg w.heap.size rfl w2 hw2 ?_))
  clear hw2
  refine (wpop_any g p (A ++ [x]) d w2 HK2.out).mono ?_
  rintro e w3 ⟨rfl, hk3, hg3⟩
  have hs3 := HB2.out.size
  have hs3b : w.heap.size < w2.heap.size := there_block HT2.out (by omega)
  have hs3' := hg3.size
  obtain ⟨w4, hw4⟩ : ∃ w4, w3.alloc (.cells (cellsB zD).toArray 23) = w4 := ⟨_, rfl⟩
  have ht4 : Hid (w4.there w3.heap.size 0 32) := by rw [← hw4]; exact alloc_thereAt _ _ _ 32 _ rfl zD_size.symm
  have hb5 : Below w3.heap.size w3 (w4.setCells w3.heap.size 0 (cellsB d)) := by rw [← hw4]; exact new_stored _ _ _
  have HD5 : Hid (DAt (w4.setCells w3.heap.size 0 (cellsB d)) w3.heap.size 0 d) := dat_stored ht4.out hld
  have HK5 : Hid (KC (w4.setCells w3.heap.size 0 (cellsB d)) g (A ++ [x]) p) := hk3.below hb5 hk3.block
  have HG5 : Hid (w.grownBy (w4.setCells w3.heap.size 0 (cellsB d)) (some g)) := gr_trans HG2.out (gr_trans hg3 (gr_below hb5 _))
  have HT5 : Hid ((w4.setCells w3.heap.size 0 (cellsB d)).there w.heap.size 0 32) := by
    have hkk := hg3.block w.heap.size hs3b (by intro e; have := Option.some.inj e; omega)
    refine there_below (B := w3.heap.size) (w := w3) ?_ hb5 (by omega)
    intro j hj
    rw [World.cell?_of_block (w := w2) (a := ⟨w.heap.size, 0 + j, none⟩) hkk, World.frozen?_of_block (w := w2) (a := ⟨w.heap.size, 0 + j, none⟩) hkk]
    exact HT2.out j hj
  have hat : (w4.setCells w3.heap.size 0 (cellsB d)).cell? ⟨g, 353, none⟩ = some (.int .i64 ((p : Int))) := HK5.out.2.2.2.2.1
  have hgf : (w4.setCells w3.heap.size 0 (cellsB d)).frozen? ⟨g, 353, none⟩ = false := HK5.out.free 353 (by omega)
  have HS5 : Hid (w3.heap.size < (w4.setCells w3.heap.size 0 (cellsB d)).heap.size ∧ g < w3.heap.size) := ⟨cell_block (HD5.out.cell 0 (by omega)), hk3.block⟩
  clear hk3 hg3 HB2 HT2 HG2 hc hne HK2 hb5 hs3 hs3b hs3'
  generalize hw5 : w4.setCells w3.heap.size 0 (cellsB d) = w5 at *
  have HE5 : Hid (Env w5 ∧ Db w5) := ⟨Tab.grown G HG5.out hgt, Db.grown Z HG5.out hgz⟩
  clear G Z
  have hp0 : (0 : Int) < (p : Int) := by omega
  go_wp2_with (first
    | (refine wpList_allocE (by rfl) 23 (by rfl) (cellsB zD).toArray Tryd.zeroDg w3.heap.size rfl w4 hw4 ?_)
    | (refine wpList_store_mid (by rfl) 23 (.tmp 4) (.tmp 13) (by rfl) w3.heap.size 0 (cellsB d).toArray (by rfl) (by rfl) (by rw [cellsB_size, hld]; exact ht4.out) (by rw [cellsB_size, hld]; exact Tryd.sizeDg) (all_oneCell_toArray (cellsB_one _)) ?_; rw [show (cellsB d).toArray.toList = cellsB d from rfl, hw5]))
  clear hw4 hw5 ht4
  refine (wtz_any p w5 HE5.out.2 h0 hp).mono ?_
  rintro e w6 ⟨rfl, hb6⟩
  have HK6 : Hid (KC w6 g (A ++ [x]) p) := HK5.out.below hb6 HK5.out.block
  have HE6 : Hid (Env w6) := HE5.out.1.below hb6
  have HG6 : Hid (w5.grownBy w6 (some g)) := gr_below hb6 _
  clear hb6 hat hgf
  generalize htz : tzN 10 p = tz at *
  have HTZ : Hid (tzN 10 p = tz) := htz
  clear htz
  go_wp2_with fail
  refine (wfill_any g p tz A x w6 HE6.out hgt HK6.out hl).mono ?_
  rintro e w7 ⟨rfl, hk7, hg7⟩
  have hgr := gr_trans HG6.out hg7
  have hsz := HS5.out
  have HD7 : Hid (DAt w7 w3.heap.size 0 d) := by
    have hkk := hgr.block w3.heap.size hsz.1 (by intro e; have := Option.some.inj e; omega)
    intro j v hj
    rw [World.cell?_of_block (w := w5) (a := ⟨w3.heap.size, 0 + j, none⟩) hkk]
    exact HD5.out j v hj
  have HT7 : Hid (w7.there w.heap.size 0 32) := by
    have hkk := hgr.block w.heap.size (there_block HT5.out (by omega)) (by intro e; have := Option.some.inj e; omega)
    intro j hj
    rw [World.cell?_of_block (w := w5) (a := ⟨w.heap.size, 0 + j, none⟩) hkk, World.frozen?_of_block (w := w5) (a := ⟨w.heap.size, 0 + j, none⟩) hkk]
    exact HT5.out j hj
  have HG7 : Hid (w.grownBy w7 (some g)) := gr_trans HG5.out hgr
  obtain ⟨q, rfl⟩ : ∃ q, p = q + 1 := ⟨p - 1, by omega⟩
  have hat : w7.cell? ⟨g, 353, none⟩ = some (.int .i64 ((q : Int) + 1)) := by
    rw [hk7.2.2.2.2.1]
    simp
  have hgf : w7.frozen? ⟨g, 353, none⟩ = false := hk7.free 353 (by omega)
  have HK8 : Hid (KC (w7.setCell ⟨g, 353, none⟩ (.int .i64 (q : Int))) g (A ++ [x] ++ fillL x tz) q) := hk7.place q
  have HG8 : Hid (w.grownBy (w7.setCell ⟨g, 353, none⟩ (.int .i64 (q : Int))) (some g)) := gr_trans HG7.out (gr_setCell _ _ _ _)
  have HD8 : Hid (DAt (w7.setCell ⟨g, 353, none⟩ (.int .i64 (q : Int))) w3.heap.size 0 d) := World.rangeAt_setCells_apart HD7.out g 353 [_] (.inl (by omega))
  have HT8 : Hid ((w7.setCell ⟨g, 353, none⟩ (.int .i64 (q : Int))).there w.heap.size 0 32) := there_set HT7.out _ _ _
  clear hk7 hg7 hgr hsz HD7 HT7 HG7 HD5 HT5 HG5 HS5 HK5 HE5 HK6 HE6 HG6
  go_wp2_with (first
    | (refine wpList_load_mid (by rfl) 23 (.tmp 4) (by rfl) w3.heap.size 0 (by rfl) (cellsB d) _ HD8.out Tryd.underlying23 (by rfl) (by rw [cellsB_length, hld]; exact Tryd.sizeDg) ?_)
    | (refine wpList_store_mid (by rfl) 23 (.tmp 2) (.tmp 34) (by rfl) w.heap.size 0 (cellsB d).toArray (by rfl) (by rfl) (by rw [cellsB_size, hld]; exact HT8.out) (by rw [cellsB_size, hld]; exact Tryd.sizeDg) (all_oneCell_toArray (cellsB_one _)) ?_))
  refine bodyPost_ret (v := .tuple #[digestV d, .nilIface]) (run_results_row2 Tryd.results12 _ _ w.heap.size 0 (by rfl) _ (by rfl) (cellsB d) (World.rangeAt_setCells_same _ _ _ _ (by rw [cellsB_length, hld]; exact HT8.out)) _ Tryd.underlying23 (by rfl) (by rw [cellsB_length, hld]; exact Tryd.sizeDg)) rfl ⟨rfl, ?_, ?_⟩
  · first | rw [HTZ.out] | skip
    exact HK8.out.other (gr_setCells _ _ _ _) (by omega)
  · exact gr_new HG8.out (Nat.le_refl _)
end Go.Proofs.YtggkieemleibjaaDoor
