/- The contracts of Chain.push, pop, Kept. -/
import Derived.Test.YtggkieemleibjaaDoorKch
import Derived.Test.YtggkieemleibjaaDoorWcstep
import Derived.Deep.RegionHeld3
import Derived.Test.YtggkieemleibjaaDoorPairs
namespace Go.Proofs.YtggkieemleibjaaDoor
open Go.RowKit
set_option linter.unusedVariables false
set_option linter.unusedSimpArgs false

theorem wrap_i64_nat (n : Nat) (h : n < 9223372036854775808) : IntKind.i64.wrap (n : Int) = n := by
  simp only [IntKind.wrap, IntKind.bits, IntKind.signed, Bool.true_and]
  rw [if_neg (by simp; omega)]
  omega
set_option maxRecDepth 100000 in
set_option maxHeartbeats 1000000 in
theorem wpush_any (g p : Nat) (ds : List (List UInt8)) (d : List UInt8) (w : World) (H : KC w g ds p) (hd : d.length = 32) (hl : ds.length < 11) :
    Calls Tryd.prog 17 #[.pointer (some ⟨g, 0, none⟩), digestV d] w fun e w' => e = .returned (.tuple #[]) ∧ KC w' g (ds ++ [d]) p ∧ w.grownBy w' (some g) := by
  obtain ⟨w2, hw2⟩ : ∃ w2, w.alloc (.cells (cellsB d).toArray 23) = w2 := ⟨_, rfl⟩
  have hb2 : Below w.heap.size w w2 := by rw [← hw2]; exact (Below.refl _ _).alloc (Nat.le_refl _) _
  have hD2 : DAt w2 w.heap.size 0 d := by rw [← hw2]; exact box_dat w d _
  have hne : w.heap.size ≠ g := by have := H.block; omega
  have hbd : Below w2.heap.size w2 w2.drew := below_drewN w2 1
  have HK : Hid (KC w2.drew g ds p) := (H.below hb2 H.block).below hbd (Nat.lt_of_lt_of_le H.block hb2.size)
  have HG : Hid (w.grownBy w2.drew (some g)) := gr_below (below_trans hb2 hbd) _
  have HS : Hid (w2.drew.rangeAt w.heap.size 0 (cellsB d) ∧ w2.drew.cell? ⟨g, 352, none⟩ = some (.int .i64 (ds.length : Int))) := ⟨hD2.below hbd (by rw [← hw2]; simp), HK.out.2.2.2.1⟩
  clear H hb2 hbd hD2
  go_enter Tryd.func17, Tryd.ntmps17
  go_wp2_with fail
  try rw [hw2]
  clear hw2
  refine wp_region_noPanic ?_
  refine wp_region_held_drew (S := fun w' => w'.rangeAt w.heap.size 0 (cellsB d) ∧ w'.cell? ⟨g, 352, none⟩ = some (.int .i64 (ds.length : Int))) (by kernel_rfl) HS.out (fun hHeld => ?_)
  try simp only [Act.put, List.setIfInBounds_toArray, List.set_cons_zero, List.set_cons_succ]
  generalize hwd : w2.drew = wd at *
  have hbd0 : (0 : Int) ≤ (ds.length : Int) := by omega
  have hbd1 : (ds.length : Int) < 11 := by omega
  refine wpAnyH_take (i := 0) (v := ?_) (by simp only [List.getElem?_toArray, List.getElem?_cons_zero, List.getElem?_cons_succ]; rfl) (by kernel_rfl) (by kernel_rfl) (by kernel_rfl) (fun _ _ _ h => h) (Or.inl ⟨by rfl, ?_⟩) hHeld ?_
  rotate_left
  · intro w hSw
    obtain ⟨hSw0, hSw1⟩ := hSw
    go_simp
    try with_reducible rfl
  try simp only [Act.put, List.setIfInBounds_toArray, List.set_cons_zero, List.set_cons_succ]
  refine wpAnyH_take (i := 1) (v := ?_) (by simp only [List.getElem?_toArray, List.getElem?_cons_zero, List.getElem?_cons_succ]; rfl) (by kernel_rfl) (by kernel_rfl) (by kernel_rfl) (fun _ _ _ h => h) (Or.inl ⟨by rfl, ?_⟩) hHeld ?_
  rotate_left
  · intro w hSw
    obtain ⟨hSw0, hSw1⟩ := hSw
    go_simp
    try with_reducible rfl
  try simp only [Act.put, List.setIfInBounds_toArray, List.set_cons_zero, List.set_cons_succ]
  refine wpAnyH_take (i := 2) (v := ?_) (by simp only [List.getElem?_toArray, List.getElem?_cons_zero, List.getElem?_cons_succ]; rfl) (by kernel_rfl) (by kernel_rfl) (by kernel_rfl) (fun _ _ _ h => h) (Or.inl ⟨by rfl, ?_⟩) hHeld ?_
  rotate_left
  · intro w hSw
    obtain ⟨hSw0, hSw1⟩ := hSw
    go_simp
    try with_reducible rfl
  try simp only [Act.put, List.setIfInBounds_toArray, List.set_cons_zero, List.set_cons_succ]
  refine wpAnyH_take (i := 3) (v := ?_) (by simp only [List.getElem?_toArray, List.getElem?_cons_zero, List.getElem?_cons_succ]; rfl) (by kernel_rfl) (by kernel_rfl) (by kernel_rfl) (fun _ _ _ h => h) (Or.inl ⟨by rfl, ?_⟩) hHeld ?_
  rotate_left
  · intro w hSw
    obtain ⟨hSw0, hSw1⟩ := hSw
    go_simp
    try with_reducible rfl
  try simp only [Act.put, List.setIfInBounds_toArray, List.set_cons_zero, List.set_cons_succ]
  refine wpAnyH_take (i := 4) (v := ?_) (by simp only [List.getElem?_toArray, List.getElem?_cons_zero, List.getElem?_cons_succ]; rfl) (by kernel_rfl) (by kernel_rfl) (by kernel_rfl) (fun _ _ _ h => h) (Or.inl ⟨by rfl, ?_⟩) hHeld ?_
  rotate_left
  · intro w hSw
    obtain ⟨hSw0, hSw1⟩ := hSw
    go_simp
    try with_reducible rfl
  try simp only [Act.put, List.setIfInBounds_toArray, List.set_cons_zero, List.set_cons_succ]
  refine wpAnyH_take (i := 5) (v := .agg (cellsB d).toArray) (by simp only [List.getElem?_toArray, List.getElem?_cons_zero, List.getElem?_cons_succ]; rfl) (by kernel_rfl) (by kernel_rfl) (by kernel_rfl) (fun _ _ _ h => h)
    (yieldsIf_load_mid (by rfl) _ _ rfl _ _ rfl _ _ (fun w hw => hw.1) Tryd.underlying23 rfl (by rw [cellsB_length, hd]; exact Tryd.sizeDg)) hHeld ?_
  try simp only [Act.put, List.setIfInBounds_toArray, List.set_cons_zero, List.set_cons_succ]
  refine wpAnyH_take (i := 6) (v := ?_) (by simp only [List.getElem?_toArray, List.getElem?_cons_zero, List.getElem?_cons_succ]; rfl) (by kernel_rfl) (by kernel_rfl) (by kernel_rfl) (fun _ _ _ h => h) (Or.inl ⟨by rfl, ?_⟩) hHeld ?_
  rotate_left
  · intro w hSw
    obtain ⟨hSw0, hSw1⟩ := hSw
    go_simp
    try with_reducible rfl
  try simp only [Act.put, List.setIfInBounds_toArray, List.set_cons_zero, List.set_cons_succ]
  refine wpAnyH_take (i := 7) (v := ?_) (by simp only [List.getElem?_toArray, List.getElem?_cons_zero, List.getElem?_cons_succ]; rfl) (by kernel_rfl) (by kernel_rfl) (by kernel_rfl) (fun _ _ _ h => h) (Or.inl ⟨by rfl, ?_⟩) hHeld ?_
  rotate_left
  · intro w hSw
    obtain ⟨hSw0, hSw1⟩ := hSw
    go_simp
    try with_reducible rfl
  try simp only [Act.put, List.setIfInBounds_toArray, List.set_cons_zero, List.set_cons_succ]
  refine wpAnyH_take (i := 8) (v := ?_) (by simp only [List.getElem?_toArray, List.getElem?_cons_zero, List.getElem?_cons_succ]; rfl) (by kernel_rfl) (by kernel_rfl) (by kernel_rfl) (fun _ _ _ h => h) (Or.inl ⟨by rfl, ?_⟩) hHeld ?_
  rotate_left
  · intro w hSw
    obtain ⟨hSw0, hSw1⟩ := hSw
    go_simp
    try with_reducible rfl
  try simp only [Act.put, List.setIfInBounds_toArray, List.set_cons_zero, List.set_cons_succ]
  refine wpAnyH_ready (rs := [9]) (by kernel_rfl) (by simp) ?_
  refine AllReadyH.cons (by simp only [List.getElem?_toArray, List.getElem?_cons_zero, List.getElem?_cons_succ]; rfl) (fun K hK => ?_) AllReadyH.nil
  rw [if_pos (by rfl)]
  refine wp_store_mid _ _ _ rfl g (ds.length * 32) (cellsB d).toArray rfl rfl (by rw [cellsB_size, hd]; exact HK.out.slot _ hl) (by rw [cellsB_size, hd]; exact Tryd.sizeDg) (all_oneCell_toArray (cellsB_one _)) ?_
  refine hK.out _ _ ⟨World.rangeAt_setCells_apart hHeld.1 _ _ _ (.inl hne), ?_⟩ (fun hHeld => ?_)
  · rw [World.cell?_setCells_out _ _ _ _ _ (fun _ _ => Or.inr (by show ds.length * 32 + (cellsB d).length ≤ 352; rw [cellsB_length, hd]; omega))]
    exact hHeld.2
  clear hK K
  try simp only [Act.put, List.setIfInBounds_toArray, List.set_cons_zero, List.set_cons_succ]
  refine wpAnyH_done (by kernel_rfl) (NoPanic.normal ?_) _
  have hc : (wd.setCells g (ds.length * 32) (cellsB d)).cell? ⟨g, 352, none⟩ = some (.int .i64 (ds.length : Int)) := hHeld.2
  have hf : (wd.setCells g (ds.length * 32) (cellsB d)).frozen? ⟨g, 352, none⟩ = false := (HK.out.wipe d hd hl).free 352 (by omega)
  have HKP : Hid (KC ((wd.setCells g (ds.length * 32) (cellsB d)).setCell ⟨g, 352, none⟩ (.int .i64 ((ds.length : Int) + 1))) g (ds ++ [d]) p) := HK.out.push hd hl
  have HGP : Hid (w.grownBy ((wd.setCells g (ds.length * 32) (cellsB d)).setCell ⟨g, 352, none⟩ (.int .i64 ((ds.length : Int) + 1))) (some g)) := gr_trans (gr_trans HG.out (gr_setCells _ _ _ _)) (gr_setCell _ _ _ _)
  clear hHeld HK HG HS hwd
  generalize wd.setCells g (ds.length * 32) (cellsB d) = wq at *
  go_wp2
  go_end0
  exact ⟨rfl, HKP.out, HGP.out⟩

set_option maxRecDepth 100000 in
set_option maxHeartbeats 1000000 in
theorem wkept_any (g p : Nat) (ds : List (List UInt8)) (w : World) (H : KC w g ds p) :
    Calls Tryd.prog 11 #[.pointer (some ⟨g, 0, none⟩)] w fun e w' => e = .returned (.int .i64 (ds.length : Int)) ∧ w' = w := by
  have hc := H.2.2.2.1
  clear H
  go_enter Tryd.func11, Tryd.ntmps11
  go_wp2
  go_ret
  exact ⟨rfl, rfl⟩

set_option maxRecDepth 100000 in
set_option maxHeartbeats 1000000 in
theorem wpop_any (g p : Nat) (ds : List (List UInt8)) (d : List UInt8) (w : World) (H : KC w g (ds ++ [d]) p) :
    Calls Tryd.prog 19 #[.pointer (some ⟨g, 0, none⟩)] w fun e w' => e = .returned (digestV d) ∧ KC w' g ds p ∧ w.grownBy w' (some g) := by
  obtain ⟨w2, hw2⟩ : ∃ w2, w.alloc (.cells (cellsB zD).toArray 23) = w2 := ⟨_, rfl⟩
  have hg := H.block
  have HT2 : Hid (w2.there w.heap.size 0 32) := by rw [← hw2]; exact alloc_thereAt _ _ _ 32 _ rfl zD_size.symm
  have hb2 : Below w.heap.size w w2 := by rw [← hw2]; exact (Below.refl _ _).alloc (Nat.le_refl _) _
  have HG2 : Hid (w.grownBy w2 (some g)) := gr_below hb2 _
  have HK2 : Hid (KC w2 g (ds ++ [d]) p) := H.below hb2 hg
  have hc : w2.cell? ⟨g, 352, none⟩ = some (.int .i64 ((ds.length : Int) + 1)) := by
    have := HK2.out.2.2.2.1
    rw [this, List.length_append, List.length_singleton]
    simp
  have hl : ds.length < 11 := by have := H.2.2.1; simp at this; omega
  have hf : w2.frozen? ⟨g, 352, none⟩ = false := HK2.out.free 352 (by omega)
  have hld : d.length = 32 := H.2.1 d (by simp)
  clear H hb2
  go_enter Tryd.func19, Tryd.ntmps19
  go_wp2_with (refine wpList_allocE (by rfl) 23 (by rfl) (cellsB zD).toArray Tryd.zeroDg w.heap.size rfl w2 hw2 ?_)
  clear hw2
  have hbd : Below (w2.setCell ⟨g, 352, none⟩ (.int .i64 (ds.length : Int))).heap.size (w2.setCell ⟨g, 352, none⟩ (.int .i64 (ds.length : Int))) (w2.setCell ⟨g, 352, none⟩ (.int .i64 (ds.length : Int))).drew := below_drewN _ 1
  have hdr := HK2.out.drop
  have HKD : Hid (KC (w2.setCell ⟨g, 352, none⟩ (.int .i64 (ds.length : Int))).drew g ds p ∧ DAt (w2.setCell ⟨g, 352, none⟩ (.int .i64 (ds.length : Int))).drew g (ds.length * 32) d) := ⟨hdr.1.below hbd hdr.1.block, hdr.2.below hbd hdr.1.block⟩
  have hgr := gr_trans (gr_trans HG2.out (gr_setCell w2 g 352 (.int .i64 (ds.length : Int)))) (gr_below hbd _)
  have HGD : Hid (w.grownBy (w2.setCell ⟨g, 352, none⟩ (.int .i64 (ds.length : Int))).drew (some g)) := hgr
  have HTD : Hid ((w2.setCell ⟨g, 352, none⟩ (.int .i64 (ds.length : Int))).drew.there w.heap.size 0 32) := there_below (there_set HT2.out _ _ _) hbd (by have := (gr_setCell w2 g 352 (.int .i64 (ds.length : Int))).size; have h2 := there_block HT2.out (by omega); omega)
  clear hdr hbd hgr HK2 HG2 HT2 hc hf
  have hbd0 : (0 : Int) ≤ (ds.length : Int) := by omega
  have hbd1 : (ds.length : Int) < 11 := by omega
  refine wp_region_noPanic ?_
  refine wp_region_held_drew (S := fun w' => w'.rangeAt g (ds.length * 32) (cellsB d) ∧ w'.cell? ⟨g, 352, none⟩ = some (.int .i64 (ds.length : Int))) (by kernel_rfl) ⟨HKD.out.2, HKD.out.1.count⟩ (fun hHeld => ?_)
  try simp only [Act.put, List.setIfInBounds_toArray, List.set_cons_zero, List.set_cons_succ]
  generalize (w2.setCell ⟨g, 352, none⟩ (.int .i64 (ds.length : Int))).drew = wd at *
  refine wpAnyH_take (i := 0) (v := ?_) (by simp only [List.getElem?_toArray, List.getElem?_cons_zero, List.getElem?_cons_succ]; rfl) (by kernel_rfl) (by kernel_rfl) (by kernel_rfl) (fun _ _ _ h => h) (Or.inl ⟨by rfl, ?_⟩) hHeld ?_
  rotate_left
  · intro w hSw
    obtain ⟨hSw0, hSw1⟩ := hSw
    go_simp
    try with_reducible rfl
  try simp only [Act.put, List.setIfInBounds_toArray, List.set_cons_zero, List.set_cons_succ]
  refine wpAnyH_take (i := 1) (v := ?_) (by simp only [List.getElem?_toArray, List.getElem?_cons_zero, List.getElem?_cons_succ]; rfl) (by kernel_rfl) (by kernel_rfl) (by kernel_rfl) (fun _ _ _ h => h) (Or.inl ⟨by rfl, ?_⟩) hHeld ?_
  rotate_left
  · intro w hSw
    obtain ⟨hSw0, hSw1⟩ := hSw
    go_simp
    try with_reducible rfl
  try simp only [Act.put, List.setIfInBounds_toArray, List.set_cons_zero, List.set_cons_succ]
  refine wpAnyH_take (i := 2) (v := ?_) (by simp only [List.getElem?_toArray, List.getElem?_cons_zero, List.getElem?_cons_succ]; rfl) (by kernel_rfl) (by kernel_rfl) (by kernel_rfl) (fun _ _ _ h => h) (Or.inl ⟨by rfl, ?_⟩) hHeld ?_
  rotate_left
  · intro w hSw
    obtain ⟨hSw0, hSw1⟩ := hSw
    go_simp
    try with_reducible rfl
  try simp only [Act.put, List.setIfInBounds_toArray, List.set_cons_zero, List.set_cons_succ]
  refine wpAnyH_take (i := 3) (v := ?_) (by simp only [List.getElem?_toArray, List.getElem?_cons_zero, List.getElem?_cons_succ]; rfl) (by kernel_rfl) (by kernel_rfl) (by kernel_rfl) (fun _ _ _ h => h) (Or.inl ⟨by rfl, ?_⟩) hHeld ?_
  rotate_left
  · intro w hSw
    obtain ⟨hSw0, hSw1⟩ := hSw
    go_simp
    try with_reducible rfl
  try simp only [Act.put, List.setIfInBounds_toArray, List.set_cons_zero, List.set_cons_succ]
  refine wpAnyH_take (i := 4) (v := ?_) (by simp only [List.getElem?_toArray, List.getElem?_cons_zero, List.getElem?_cons_succ]; rfl) (by kernel_rfl) (by kernel_rfl) (by kernel_rfl) (fun _ _ _ h => h) (Or.inl ⟨by rfl, ?_⟩) hHeld ?_
  rotate_left
  · intro w hSw
    obtain ⟨hSw0, hSw1⟩ := hSw
    go_simp
    try with_reducible rfl
  try simp only [Act.put, List.setIfInBounds_toArray, List.set_cons_zero, List.set_cons_succ]
  refine wpAnyH_take (i := 5) (v := ?_) (by simp only [List.getElem?_toArray, List.getElem?_cons_zero, List.getElem?_cons_succ]; rfl) (by kernel_rfl) (by kernel_rfl) (by kernel_rfl) (fun _ _ _ h => h) (Or.inl ⟨by rfl, ?_⟩) hHeld ?_
  rotate_left
  · intro w hSw
    obtain ⟨hSw0, hSw1⟩ := hSw
    go_simp
    try with_reducible rfl
  try simp only [Act.put, List.setIfInBounds_toArray, List.set_cons_zero, List.set_cons_succ]
  refine wpAnyH_take (i := 6) (v := ?_) (by simp only [List.getElem?_toArray, List.getElem?_cons_zero, List.getElem?_cons_succ]; rfl) (by kernel_rfl) (by kernel_rfl) (by kernel_rfl) (fun _ _ _ h => h) (Or.inl ⟨by rfl, ?_⟩) hHeld ?_
  rotate_left
  · intro w hSw
    obtain ⟨hSw0, hSw1⟩ := hSw
    go_simp
    try with_reducible rfl
  try simp only [Act.put, List.setIfInBounds_toArray, List.set_cons_zero, List.set_cons_succ]
  refine wpAnyH_take (i := 7) (v := ?_) (by simp only [List.getElem?_toArray, List.getElem?_cons_zero, List.getElem?_cons_succ]; rfl) (by kernel_rfl) (by kernel_rfl) (by kernel_rfl) (fun _ _ _ h => h) (Or.inl ⟨by rfl, ?_⟩) hHeld ?_
  rotate_left
  · intro w hSw
    obtain ⟨hSw0, hSw1⟩ := hSw
    go_simp
    try with_reducible rfl
  try simp only [Act.put, List.setIfInBounds_toArray, List.set_cons_zero, List.set_cons_succ]
  refine wpAnyH_take (i := 8) (v := .agg (cellsB d).toArray) (by simp only [List.getElem?_toArray, List.getElem?_cons_zero, List.getElem?_cons_succ]; rfl) (by kernel_rfl) (by kernel_rfl) (by kernel_rfl) (fun _ _ _ h => h)
    (yieldsIf_load_mid (by rfl) _ _ rfl _ _ rfl _ _ (fun w hw => hw.1) Tryd.underlying23 rfl (by rw [cellsB_length, hld]; exact Tryd.sizeDg)) hHeld ?_
  try simp only [Act.put, List.setIfInBounds_toArray, List.set_cons_zero, List.set_cons_succ]
  refine wpAnyH_ready (rs := [9]) (by kernel_rfl) (by simp) ?_
  refine AllReadyH.cons (by simp only [List.getElem?_toArray, List.getElem?_cons_zero, List.getElem?_cons_succ]; rfl) (fun K hK => ?_) AllReadyH.nil
  rw [if_pos (by rfl)]
  refine wp_allocE 23 (by rfl) (cellsB zD).toArray Tryd.zeroDg ?_
  refine hK.out _ _ ⟨World.rangeAt_alloc hHeld.1 _, ?_⟩ (fun hHeld => ?_)
  · rw [World.cell?_alloc_some _ _ _ (by rw [hHeld.2]; rfl)]
    exact hHeld.2
  clear hK K
  try simp only [Act.put, List.setIfInBounds_toArray, List.set_cons_zero, List.set_cons_succ]
  have hse : (wd.alloc (.cells (cellsB zD).toArray 23)).heap.size = wd.heap.size + 1 := by simp
  have hte : (wd.alloc (.cells (cellsB zD).toArray 23)).there wd.heap.size 0 32 := alloc_thereAt _ _ _ 32 _ rfl zD_size.symm
  have hbe : Below wd.heap.size wd (wd.alloc (.cells (cellsB zD).toArray 23)) := (Below.refl _ _).alloc (Nat.le_refl _) _
  have hgd : g ≠ wd.heap.size := by have := HKD.out.1.block; omega
  refine wpAnyH_ready (rs := [10]) (by kernel_rfl) (by simp) ?_
  refine AllReadyH.cons (by simp only [List.getElem?_toArray, List.getElem?_cons_zero, List.getElem?_cons_succ]; rfl) (fun K hK => ?_) AllReadyH.nil
  rw [if_pos (by rfl)]
  refine wp_store_mid _ _ _ rfl wd.heap.size 0 (cellsB d).toArray rfl rfl (by rw [cellsB_size, hld]; exact hte) (by rw [cellsB_size, hld]; exact Tryd.sizeDg) (all_oneCell_toArray (cellsB_one _)) ?_
  refine hK.out _ _ ⟨World.rangeAt_setCells_apart hHeld.1 _ _ _ (.inl hgd), ?_⟩ (fun hHeld => ?_)
  · rw [World.cell?_setCells_out _ _ _ _ _ (fun hh _ => absurd hh hgd)]
    exact hHeld.2
  clear hK K
  try simp only [Act.put, List.setIfInBounds_toArray, List.set_cons_zero, List.set_cons_succ]
  refine wpAnyH_done (by kernel_rfl) (NoPanic.normal ?_) _
  try rw [show (cellsB d).toArray.toList = cellsB d from rfl]
  have hbf : Below wd.heap.size wd ((wd.alloc (.cells (cellsB zD).toArray 23)).setCells wd.heap.size 0 (cellsB d)) := new_stored _ _ _
  have hDf : DAt ((wd.alloc (.cells (cellsB zD).toArray 23)).setCells wd.heap.size 0 (cellsB d)) wd.heap.size 0 d := dat_stored hte hld
  clear hHeld hse hte hbe
  generalize (wd.alloc (.cells (cellsB zD).toArray 23)).setCells wd.heap.size 0 (cellsB d) = wf at *
  have hbh : Below wf.heap.size wf wf.drew := below_drewN wf 1
  have hgk := HKD.out.1.block
  have hgf : wd.heap.size < wf.heap.size := cell_block (hDf.cell 0 (by omega))
  have HKH : Hid (KC wf.drew g ds p ∧ DAt wf.drew wd.heap.size 0 d) := ⟨(HKD.out.1.below hbf hgk).below hbh (by omega), hDf.below hbh hgf⟩
  have HGH : Hid (w.grownBy wf.drew (some g)) := gr_trans HGD.out (gr_below (below_trans hbf hbh) _)
  have htb := there_block HTD.out (by omega)
  have HTH : Hid (wf.drew.there w.heap.size 0 32) := there_below (there_below HTD.out hbf htb) hbh (by omega)
  clear hbf hDf hbh HKD HGD HTD hgf hgk htb
  generalize wd.heap.size = gd at *
  go_wp2_with fail
  refine wp_region_noPanic ?_
  refine wp_region_held_drew (S := fun w' => w'.cell? ⟨g, 352, none⟩ = some (.int .i64 (ds.length : Int))) (by kernel_rfl) HKH.out.1.count (fun hHeld => ?_)
  try simp only [Act.put, List.setIfInBounds_toArray, List.set_cons_zero, List.set_cons_succ]
  generalize wf.drew = wh at *
  refine wpAnyH_take (i := 0) (v := ?_) (by simp only [List.getElem?_toArray, List.getElem?_cons_zero, List.getElem?_cons_succ]; rfl) (by kernel_rfl) (by kernel_rfl) (by kernel_rfl) (fun _ _ _ h => h) (Or.inl ⟨by rfl, ?_⟩) hHeld ?_
  rotate_left
  · intro w hSw
    go_simp
    try with_reducible rfl
  try simp only [Act.put, List.setIfInBounds_toArray, List.set_cons_zero, List.set_cons_succ]
  refine wpAnyH_take (i := 1) (v := ?_) (by simp only [List.getElem?_toArray, List.getElem?_cons_zero, List.getElem?_cons_succ]; rfl) (by kernel_rfl) (by kernel_rfl) (by kernel_rfl) (fun _ _ _ h => h) (Or.inl ⟨by rfl, ?_⟩) hHeld ?_
  rotate_left
  · intro w hSw
    go_simp
    try with_reducible rfl
  try simp only [Act.put, List.setIfInBounds_toArray, List.set_cons_zero, List.set_cons_succ]
  refine wpAnyH_take (i := 2) (v := ?_) (by simp only [List.getElem?_toArray, List.getElem?_cons_zero, List.getElem?_cons_succ]; rfl) (by kernel_rfl) (by kernel_rfl) (by kernel_rfl) (fun _ _ _ h => h) (Or.inl ⟨by rfl, ?_⟩) hHeld ?_
  rotate_left
  · intro w hSw
    go_simp
    try with_reducible rfl
  try simp only [Act.put, List.setIfInBounds_toArray, List.set_cons_zero, List.set_cons_succ]
  refine wpAnyH_take (i := 3) (v := ?_) (by simp only [List.getElem?_toArray, List.getElem?_cons_zero, List.getElem?_cons_succ]; rfl) (by kernel_rfl) (by kernel_rfl) (by kernel_rfl) (fun _ _ _ h => h) (Or.inl ⟨by rfl, ?_⟩) hHeld ?_
  rotate_left
  · intro w hSw
    go_simp
    try with_reducible rfl
  try simp only [Act.put, List.setIfInBounds_toArray, List.set_cons_zero, List.set_cons_succ]
  refine wpAnyH_take (i := 4) (v := ?_) (by simp only [List.getElem?_toArray, List.getElem?_cons_zero, List.getElem?_cons_succ]; rfl) (by kernel_rfl) (by kernel_rfl) (by kernel_rfl) (fun _ _ _ h => h) (Or.inl ⟨by rfl, ?_⟩) hHeld ?_
  rotate_left
  · intro w hSw
    go_simp
    try with_reducible rfl
  try simp only [Act.put, List.setIfInBounds_toArray, List.set_cons_zero, List.set_cons_succ]
  refine wpAnyH_take (i := 5) (v := .agg (cellsB zD).toArray) (by simp only [List.getElem?_toArray, List.getElem?_cons_zero, List.getElem?_cons_succ]; rfl) (by kernel_rfl) (by kernel_rfl) (by kernel_rfl) (fun _ _ _ h => h) (Or.inl ⟨by rfl, ?_⟩) hHeld ?_
  · intro w hSw
    rw [zD_lit]
    go_simp
  try simp only [Act.put, List.setIfInBounds_toArray, List.set_cons_zero, List.set_cons_succ]
  refine wpAnyH_take (i := 6) (v := ?_) (by simp only [List.getElem?_toArray, List.getElem?_cons_zero, List.getElem?_cons_succ]; rfl) (by kernel_rfl) (by kernel_rfl) (by kernel_rfl) (fun _ _ _ h => h) (Or.inl ⟨by rfl, ?_⟩) hHeld ?_
  rotate_left
  · intro w hSw
    go_simp
    try with_reducible rfl
  try simp only [Act.put, List.setIfInBounds_toArray, List.set_cons_zero, List.set_cons_succ]
  refine wpAnyH_take (i := 7) (v := ?_) (by simp only [List.getElem?_toArray, List.getElem?_cons_zero, List.getElem?_cons_succ]; rfl) (by kernel_rfl) (by kernel_rfl) (by kernel_rfl) (fun _ _ _ h => h) (Or.inl ⟨by rfl, ?_⟩) hHeld ?_
  rotate_left
  · intro w hSw
    go_simp
    try with_reducible rfl
  try simp only [Act.put, List.setIfInBounds_toArray, List.set_cons_zero, List.set_cons_succ]
  refine wpAnyH_take (i := 8) (v := ?_) (by simp only [List.getElem?_toArray, List.getElem?_cons_zero, List.getElem?_cons_succ]; rfl) (by kernel_rfl) (by kernel_rfl) (by kernel_rfl) (fun _ _ _ h => h) (Or.inl ⟨by rfl, ?_⟩) hHeld ?_
  rotate_left
  · intro w hSw
    go_simp
    try with_reducible rfl
  try simp only [Act.put, List.setIfInBounds_toArray, List.set_cons_zero, List.set_cons_succ]
  refine wpAnyH_ready (rs := [9]) (by kernel_rfl) (by simp) ?_
  refine AllReadyH.cons (by simp only [List.getElem?_toArray, List.getElem?_cons_zero, List.getElem?_cons_succ]; rfl) (fun K hK => ?_) AllReadyH.nil
  rw [if_pos (by rfl)]
  refine wp_store_mid _ _ _ rfl g (ds.length * 32) (cellsB zD).toArray rfl rfl (by rw [cellsB_size]; exact HKH.out.1.slot _ hl) (by rw [cellsB_size]; exact Tryd.sizeDg) (all_oneCell_toArray (cellsB_one _)) ?_
  refine hK.out _ _ (HKH.out.1.wipe zD rfl hl).count (fun hHeld => ?_)
  clear hK K
  try simp only [Act.put, List.setIfInBounds_toArray, List.set_cons_zero, List.set_cons_succ]
  refine wpAnyH_done (by kernel_rfl) (NoPanic.normal ?_) _
  try rw [show (cellsB zD).toArray.toList = cellsB zD from rfl]
  have HKI : Hid (KC (wh.setCells g (ds.length * 32) (cellsB zD)) g ds p ∧ DAt (wh.setCells g (ds.length * 32) (cellsB zD)) gd 0 d) := ⟨HKH.out.1.wipe zD rfl hl, World.rangeAt_setCells_apart HKH.out.2 _ _ _ (.inl (Ne.symm hgd))⟩
  have HGI : Hid (w.grownBy (wh.setCells g (ds.length * 32) (cellsB zD)) (some g)) := gr_trans HGH.out (gr_setCells _ _ _ _)
  have HTI : Hid ((wh.setCells g (ds.length * 32) (cellsB zD)).there w.heap.size 0 32) := World.there_setCells HTH.out _ _ _
  clear hHeld HKH HGH HTH
  generalize wh.setCells g (ds.length * 32) (cellsB zD) = wi at *
  go_wp2_with (first
    | (refine wpList_load_mid (by rfl) 23 (.tmp 3) (by rfl) gd 0 (by rfl) (cellsB d) _ HKI.out.2 Tryd.underlying23 (by rfl) (by rw [cellsB_length, hld]; exact Tryd.sizeDg) ?_)
    | (refine wpList_store_mid (by rfl) 23 (.tmp 2) (.tmp 29) (by rfl) w.heap.size 0 (cellsB d).toArray (by rfl) (by rfl) (by rw [cellsB_size, hld]; exact HTI.out) (by rw [cellsB_size, hld]; exact Tryd.sizeDg) (all_oneCell_toArray (cellsB_one _)) ?_))
  refine bodyPost_ret (v := digestV d) (run_results_row Tryd.results19 _ _ w.heap.size 0 (by rfl) (cellsB d) (World.rangeAt_setCells_same _ _ _ _ (by rw [cellsB_length, hld]; exact HTI.out)) _ Tryd.underlying23 (by rfl) (by rw [cellsB_length, hld]; exact Tryd.sizeDg)) rfl ⟨rfl, ?_, ?_⟩
  · exact HKI.out.1.other (gr_setCells _ _ _ _) (by omega)
  · have h1 := HGI.out
    have h2 : Below w.heap.size wi (wi.setCells w.heap.size 0 (cellsB d)) := below_setCells _ (Nat.le_refl _) _ _ _ (Below.refl _ _)
    exact ⟨h2.os.trans h1.os, h2.tape.trans h1.tape, h2.output.trans h1.output, Nat.le_trans h1.size h2.size, fun i hi hne => (h2.block i hi).trans (h1.block i hi hne)⟩

set_option maxRecDepth 100000 in
set_option maxHeartbeats 1000000 in
theorem wfill_any (g p lv : Nat) (ds : List (List UInt8)) (x : List UInt8) (w : World) (G : Env w) (hgt : g ≠ 3) (H : KC w g (ds ++ [x]) p) (hlv : ds.length + 1 + lv ≤ 11) :
    Calls Tryd.prog 18 #[.pointer (some ⟨g, 0, none⟩), .int .i64 (lv : Int)] w fun e w' => e = .returned (.tuple #[]) ∧ KC w' g (ds ++ [x] ++ fillL x lv) p ∧ w.grownBy w' (some g) := by
  have HG : Hid (Env w) := G
  have HK : Hid (KC w g (ds ++ [x]) p) := H
  clear G H
  go_enter Tryd.func18, Tryd.ntmps18
  go_wp2_with fail
  go_loopw [1] (fun i wr => ∃ (l : Nat) (A : List (List UInt8)) (y : List UInt8), i = .int .i64 (l : Int) ∧ KC wr g (A ++ [y]) p ∧ A.length + 1 + l = ds.length + 1 + lv ∧ A ++ [y] ++ fillL y l = ds ++ [x] ++ fillL x lv ∧ w.grownBy wr (some g)) (fun i _ => (intOf i).toNat)
  case atStart => exact ⟨lv, ds, x, rfl, HK.out, rfl, rfl, gr_below (Below.refl _ _) _⟩
  case round =>
    clear HK
    obtain ⟨l, A, y, rfl, hK', hlen, hfill, hgr⟩ := hrel
    have HK : Hid (KC wr g (A ++ [y]) p) := hK'
    have HGR : Hid (w.grownBy wr (some g)) := hgr
    have HF : Hid (A ++ [y] ++ fillL y l = ds ++ [x] ++ fillL x lv) := hfill
    clear hK' hgr hfill
    cases l with
    | zero =>
      go_wp2
      go_end0
      have hf := HF.out
      rw [fillL, List.append_nil] at hf
      exact ⟨rfl, by rw [← hf]; exact HK.out, HGR.out⟩
    | succ m =>
      have hlast := HK.out.last
      have hly := hlast.2
      have hbd : Below wr.heap.size wr wr.drew := below_drewN wr 1
      have hgb := HK.out.block
      have HKD : Hid (KC wr.drew g (A ++ [y]) p ∧ DAt wr.drew g (A.length * 32) y) := ⟨HK.out.below hbd hgb, hlast.1.below hbd hgb⟩
      have HGD : Hid (w.grownBy wr.drew (some g)) := gr_trans HGR.out (gr_below hbd _)
      have hc : wr.drew.cell? ⟨g, 352, none⟩ = some (.int .i64 ((A.length : Int) + 1)) := by
        rw [HKD.out.1.count, List.length_append, List.length_singleton]
        simp
      clear hlast hbd hgb HK HGR
      have hb0 : (0 : Int) ≤ (A.length : Int) := by omega
      have hb1 : (A.length : Int) < 11 := by omega
      have hm9 : m ≤ 9 := by omega
      go_wp2_with fail
      refine wp_region_noPanic ?_
      refine wp_region_held_drew (S := fun _ => True) (by kernel_rfl) trivial (fun hHeld => ?_)
      try simp only [Act.put, List.setIfInBounds_toArray, List.set_cons_zero, List.set_cons_succ]
      generalize wr.drew = wd at *
      refine wpAnyH_take (i := 0) (v := ?_) (by simp only [List.getElem?_toArray, List.getElem?_cons_zero, List.getElem?_cons_succ]; rfl) (by kernel_rfl) (by kernel_rfl) (by kernel_rfl) (fun _ _ _ h => h) (Or.inl ⟨by rfl, ?_⟩) hHeld ?_
      rotate_left
      · intro w hSw
        go_simp
        try with_reducible rfl
      try simp only [Act.put, List.setIfInBounds_toArray, List.set_cons_zero, List.set_cons_succ]
      refine wpAnyH_take (i := 1) (v := ?_) (by simp only [List.getElem?_toArray, List.getElem?_cons_zero, List.getElem?_cons_succ]; rfl) (by kernel_rfl) (by kernel_rfl) (by kernel_rfl) (fun _ _ _ h => h) (Or.inl ⟨by rfl, ?_⟩) hHeld ?_
      rotate_left
      · intro w hSw
        go_simp
        try with_reducible rfl
      try simp only [Act.put, List.setIfInBounds_toArray, List.set_cons_zero, List.set_cons_succ]
      refine wpAnyH_take (i := 2) (v := ?_) (by simp only [List.getElem?_toArray, List.getElem?_cons_zero, List.getElem?_cons_succ]; rfl) (by kernel_rfl) (by kernel_rfl) (by kernel_rfl) (fun _ _ _ h => h) (Or.inl ⟨by rfl, ?_⟩) hHeld ?_
      rotate_left
      · intro w hSw
        go_simp
        try with_reducible rfl
      try simp only [Act.put, List.setIfInBounds_toArray, List.set_cons_zero, List.set_cons_succ]
      refine wpAnyH_take (i := 3) (v := ?_) (by simp only [List.getElem?_toArray, List.getElem?_cons_zero, List.getElem?_cons_succ]; rfl) (by kernel_rfl) (by kernel_rfl) (by kernel_rfl) (fun _ _ _ h => h) (Or.inl ⟨by rfl, ?_⟩) hHeld ?_
      rotate_left
      · intro w hSw
        go_simp
        try with_reducible rfl
      try simp only [Act.put, List.setIfInBounds_toArray, List.set_cons_zero, List.set_cons_succ]
      refine wpAnyH_take (i := 4) (v := ?_) (by simp only [List.getElem?_toArray, List.getElem?_cons_zero, List.getElem?_cons_succ]; rfl) (by kernel_rfl) (by kernel_rfl) (by kernel_rfl) (fun _ _ _ h => h) (Or.inl ⟨by rfl, ?_⟩) hHeld ?_
      rotate_left
      · intro w hSw
        go_simp
        try with_reducible rfl
      try simp only [Act.put, List.setIfInBounds_toArray, List.set_cons_zero, List.set_cons_succ]
      refine wpAnyH_take (i := 7) (v := ?_) (by simp only [List.getElem?_toArray, List.getElem?_cons_zero, List.getElem?_cons_succ]; rfl) (by kernel_rfl) (by kernel_rfl) (by kernel_rfl) (fun _ _ _ h => h) (Or.inl ⟨by rfl, ?_⟩) hHeld ?_
      rotate_left
      · intro w hSw
        go_simp
        try with_reducible rfl
      try simp only [Act.put, List.setIfInBounds_toArray, List.set_cons_zero, List.set_cons_succ]
      refine wpAnyH_take (i := 8) (v := ?_) (by simp only [List.getElem?_toArray, List.getElem?_cons_zero, List.getElem?_cons_succ]; rfl) (by kernel_rfl) (by kernel_rfl) (by kernel_rfl) (fun _ _ _ h => h) (Or.inl ⟨by rfl, ?_⟩) hHeld ?_
      rotate_left
      · intro w hSw
        go_simp
        try with_reducible rfl
      try simp only [Act.put, List.setIfInBounds_toArray, List.set_cons_zero, List.set_cons_succ]
      refine wpAnyH_take (i := 11) (v := ?_) (by simp only [List.getElem?_toArray, List.getElem?_cons_zero, List.getElem?_cons_succ]; rfl) (by kernel_rfl) (by kernel_rfl) (by kernel_rfl) (fun _ _ _ h => h) (Or.inl ⟨by rfl, ?_⟩) hHeld ?_
      rotate_left
      · intro w hSw
        go_simp
        try with_reducible rfl
      try simp only [Act.put, List.setIfInBounds_toArray, List.set_cons_zero, List.set_cons_succ]
      refine wpAnyH_take (i := 12) (v := .int .i64 ((2 ^ m : Nat) : Int)) (by simp only [List.getElem?_toArray, List.getElem?_cons_zero, List.getElem?_cons_succ]; rfl) (by kernel_rfl) (by kernel_rfl) (by kernel_rfl) (fun _ _ _ h => h) (Or.inl ⟨by rfl, ?_⟩) hHeld ?_
      · intro w hSw
        have h10 : m = 0 ∨ m = 1 ∨ m = 2 ∨ m = 3 ∨ m = 4 ∨ m = 5 ∨ m = 6 ∨ m = 7 ∨ m = 8 ∨ m = 9 := by omega
        clear hm9 HF hlen
        rcases h10 with rfl | rfl | rfl | rfl | rfl | rfl | rfl | rfl | rfl | rfl <;> (go_simp; try decide)
      try simp only [Act.put, List.setIfInBounds_toArray, List.set_cons_zero, List.set_cons_succ]
      refine wpAnyH_ready (rs := [5]) (by kernel_rfl) (by simp) ?_
      refine AllReadyH.cons (by simp only [List.getElem?_toArray, List.getElem?_cons_zero, List.getElem?_cons_succ]; rfl) (fun K hK => ?_) AllReadyH.nil
      rw [if_pos (by rfl)]
      go_simp
      refine hK.out _ _ trivial (fun hHeld => ?_)
      clear hK K
      try simp only [Act.put, List.setIfInBounds_toArray, List.set_cons_zero, List.set_cons_succ]
      refine wpAnyH_take (i := 6) (v := .int .i64 (A.length : Int)) (by simp only [List.getElem?_toArray, List.getElem?_cons_zero, List.getElem?_cons_succ]; rfl) (by kernel_rfl) (by kernel_rfl) (by kernel_rfl) (fun _ _ _ h => h) (Or.inl ⟨by rfl, ?_⟩) hHeld ?_
      · intro w hSw
        go_simp
        first | done | exact wrap_i64_nat _ (by omega)
      try simp only [Act.put, List.setIfInBounds_toArray, List.set_cons_zero, List.set_cons_succ]
      refine wpAnyH_take (i := 9) (v := ?_) (by simp only [List.getElem?_toArray, List.getElem?_cons_zero, List.getElem?_cons_succ]; rfl) (by kernel_rfl) (by kernel_rfl) (by kernel_rfl) (fun _ _ _ h => h) (Or.inl ⟨by rfl, ?_⟩) hHeld ?_
      rotate_left
      · intro w hSw
        go_simp
        try with_reducible rfl
      try simp only [Act.put, List.setIfInBounds_toArray, List.set_cons_zero, List.set_cons_succ]
      refine wpAnyH_ready (rs := [10]) (by kernel_rfl) (by simp) ?_
      refine AllReadyH.cons (by simp only [List.getElem?_toArray, List.getElem?_cons_zero, List.getElem?_cons_succ]; rfl) (fun K hK => ?_) AllReadyH.nil
      rw [if_pos (by rfl)]
      refine wp_load_mid _ _ rfl g (A.length * 32) rfl (cellsB y) _ HKD.out.2 Tryd.underlying23 rfl (by rw [cellsB_length, hly]; exact Tryd.sizeDg) ?_
      refine hK.out _ _ trivial (fun hHeld => ?_)
      clear hK K
      try simp only [Act.put, List.setIfInBounds_toArray, List.set_cons_zero, List.set_cons_succ]
      refine wpAnyH_ready (rs := [13]) (by kernel_rfl) (by simp) ?_
      refine AllReadyH.cons (by simp only [List.getElem?_toArray, List.getElem?_cons_zero, List.getElem?_cons_succ]; rfl) (fun K hK => ?_) AllReadyH.nil
      rw [if_pos (by rfl)]
      go_simp
      refine (wchain_steps y (2 ^ m) wd (Tab.grown HG.out HGD.out hgt) hly (Nat.le_trans (Nat.pow_le_pow_right (by omega) hm9) (by decide))).mono ?_
      rintro e w4 ⟨rfl, hb4⟩
      have HK4 : Hid (KC w4 g (A ++ [y]) p) := HKD.out.1.below hb4 HKD.out.1.block
      have HG4 : Hid (w.grownBy w4 (some g)) := gr_trans HGD.out (gr_below hb4 _)
      have hlz := walkL_length hly (2 ^ m)
      have HZ : Hid (A ++ [y] ++ [walkL y (2 ^ m)] ++ fillL (walkL y (2 ^ m)) m = ds ++ [x] ++ fillL x lv) := by
        have := HF.out
        rw [fillL] at this
        unfold Hid
        rw [← this, List.append_assoc (A ++ [y])]
        rfl
      clear hb4
      generalize walkL y (2 ^ m) = z at *
      go_wp2_with fail
      refine hK.out _ _ trivial (fun hHeld => ?_)
      clear hK K
      try simp only [Act.put, List.setIfInBounds_toArray, List.set_cons_zero, List.set_cons_succ]
      refine wpAnyH_ready (rs := [14]) (by kernel_rfl) (by simp) ?_
      refine AllReadyH.cons (by simp only [List.getElem?_toArray, List.getElem?_cons_zero, List.getElem?_cons_succ]; rfl) (fun K hK => ?_) AllReadyH.nil
      rw [if_pos (by rfl)]
      go_simp
      refine (wpush_any g p (A ++ [y]) z w4 HK4.out hlz (by simp; omega)).mono ?_
      rintro e w5 ⟨rfl, hK5, hg5⟩
      have HK5 : Hid (KC w5 g (A ++ [y] ++ [z]) p) := hK5
      have HG5 : Hid (w.grownBy w5 (some g)) := gr_trans HG4.out hg5
      clear hK5 hg5
      go_wp2_with fail
      refine hK.out _ _ trivial (fun hHeld => ?_)
      clear hK K
      try simp only [Act.put, List.setIfInBounds_toArray, List.set_cons_zero, List.set_cons_succ]
      refine wpAnyH_done (by kernel_rfl) (NoPanic.normal ?_) _
      clear hHeld
      go_wp2
      go_roundw
      case rel => exact ⟨m, A ++ [y], z, by go_num, HK5.out, by simp; omega, HZ.out, HG5.out⟩
      case measure => simp [intOf]
end Go.Proofs.YtggkieemleibjaaDoor
