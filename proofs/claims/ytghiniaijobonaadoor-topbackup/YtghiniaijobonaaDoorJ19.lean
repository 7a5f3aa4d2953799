/- Texts of this claim, joined: Stmm, Wwrite, Wfinish, Wnew. -/
import Derived.Test.YtghiniaijobonaaDoorJ04
import Derived.Test.YtghiniaijobonaaDoorJ15
import Derived.Test.YtghiniaijobonaaDoorJ16
import Derived.Test.YtghiniaijobonaaDoorJ17
import Derived.Test.YtghiniaijobonaaDoorJ18
import Derived.Deep.RegionHeld3
import Derived.Deep.RegionLaw
/- A Stamp in memory: the seed, the leaves, the key that signs next. -/
namespace Go.Proofs.YtghiniaijobonaaDoor
open Go.RowKit
set_option linter.unusedVariables false
set_option linter.unusedSimpArgs false

/-- A Stamp at block g, its leaves at block lb. -/
def StmL (w : World) (g : Nat) (seed : List UInt8) (h next lb c : Nat) : Prop :=
  h ≤ 4 ∧ next ≤ 2 ^ h ∧ seed.length = 32 ∧ DAt w g 0 seed ∧ w.cell? ⟨g, 32, none⟩ = some (.slice (some ⟨lb, 0, none⟩) (2 ^ h) c) ∧ 2 ^ h ≤ c ∧ w.cell? ⟨g, 33, none⟩ = some (.int .i64 (next : Int)) ∧ w.there g 0 34 ∧
    DRow w (some ⟨lb, 0, none⟩) (2 ^ h) (stampLeavesL seed (2 ^ h)) ∧ lb ≠ g
def Stm (w : World) (g : Nat) (seed : List UInt8) (h next : Nat) : Prop := ∃ lb c, StmL w g seed h next lb c
theorem drow_grs {w w' : World} {b o n g : Nat} {ls : List (List UInt8)} (h : DRow w (some ⟨b, o, none⟩) n ls) (hg : w.grownBy w' (some g)) (hne : b ≠ g) : DRow w' (some ⟨b, o, none⟩) n ls := by
  refine ⟨h.1, h.2.1, .inr ⟨b, o, rfl, fun i hi => ?_⟩⟩
  have hd := h.at i hi
  rw [Nat.mul_comm] at hd
  exact dat_grs hd hg (cell_block (hd.cell 0 (by rw [h.len i hi]; omega))) hne
theorem StmL.block {w : World} {g h i lb c : Nat} {seed : List UInt8} (H : StmL w g seed h i lb c) : g < w.heap.size := by
  obtain ⟨_, _, _, _, _, _, k, _⟩ := H
  exact cell_block k
theorem Stm.block {w : World} {g h i : Nat} {seed : List UInt8} (H : Stm w g seed h i) : g < w.heap.size := by
  obtain ⟨lb, c, H⟩ := H
  exact H.block
theorem StmL.below {w w' : World} {g h i lb c : Nat} {seed : List UInt8} (H : StmL w g seed h i lb c) (hb : Below w.heap.size w w') : StmL w' g seed h i lb c := by
  have hB := H.block
  obtain ⟨h1, h2, h3, h4, h5, h6, h7, h8, h9, hne⟩ := H
  exact ⟨h1, h2, h3, h4.below hb hB, (hb.cell (p := ⟨g, 32, none⟩) hB).trans h5, h6, (hb.cell (p := ⟨g, 33, none⟩) hB).trans h7, there_below h8 hb hB, h9.below hb, hne⟩
theorem Stm.below {w w' : World} {g h i : Nat} {seed : List UInt8} (H : Stm w g seed h i) (hb : Below w.heap.size w w') : Stm w' g seed h i := by
  obtain ⟨lb, c, H⟩ := H
  exact ⟨lb, c, H.below hb⟩
theorem Stm.pow {h : Nat} (hh : h ≤ 4) : 1 ≤ 2 ^ h ∧ 2 ^ h ≤ 16 := ⟨Nat.pow_pos (by omega), Nat.pow_le_pow_right (n := 2) (by omega) hh⟩
theorem StmL.leaves {w : World} {g h i lb c : Nat} {seed : List UInt8} (H : StmL w g seed h i lb c) : lb < w.heap.size := by
  obtain ⟨h1, h2, h3, h4, h5, h6, h7, h8, h9, hne⟩ := H
  exact cell_block ((h9.at 0 (Stm.pow h1).1).cell 0 (by rw [h9.len 0 (Stm.pow h1).1]; omega))
/-- Another block turns. -/
theorem StmL.other {w w' : World} {g h i lb c b : Nat} {seed : List UInt8} (H : StmL w g seed h i lb c) (hg : w.grownBy w' (some b)) (h1 : g ≠ b) (h2 : lb ≠ b) : StmL w' g seed h i lb c := by
  have hB := H.block
  obtain ⟨k1, k2, k3, k4, k5, k6, k7, k8, k9, hne⟩ := H
  have hk := hg.block g hB (by intro e; exact h1 (Option.some.inj e))
  refine ⟨k1, k2, k3, dat_grs k4 hg hB h1, (World.cell?_of_block (w := w) (a := ⟨g, 32, none⟩) hk).trans k5, k6, (World.cell?_of_block (w := w) (a := ⟨g, 33, none⟩) hk).trans k7, ?_, drow_grs k9 hg h2, hne⟩
  intro j hj
  rw [World.cell?_of_block (w := w) (a := ⟨g, 0 + j, none⟩) hk, World.frozen?_of_block (w := w) (a := ⟨g, 0 + j, none⟩) hk]
  exact k8 j hj
/-- The next key is spent. -/
theorem StmL.spend {w : World} {g h i lb c : Nat} {seed : List UInt8} (H : StmL w g seed h i lb c) (hi : i < 2 ^ h) : StmL (w.setCell ⟨g, 33, none⟩ (.int .i64 ((i : Int) + 1))) g seed h (i + 1) lb c := by
  obtain ⟨h1, h2, h3, h4, h5, h6, h7, h8, h9, hne⟩ := H
  refine ⟨h1, hi, h3, ?_, ?_, h6, ?_, there_set h8 _ _ _, drow_grs h9 (gr_setCell _ _ _ _) hne, hne⟩
  · exact World.rangeAt_setCells_apart h4 g 33 [_] (.inr (.inl (by rw [cellsB_length, h3]; omega)))
  · rw [World.cell?_setCell_other _ _ _ _ (by simp)]; exact h5
  · rw [World.cell?_setCell_same _ _ _ h7]; simp
theorem Env.stm {w w' : World} {g h i lb c : Nat} {seed : List UInt8} (G : Env w) (H : StmL w g seed h i lb c) (hg : w.grownBy w' (some g)) : Env w' := by
  refine Tab.grown G hg ?_
  intro e
  have a := G 0 (by omega)
  rw [show (⟨0, 0, none⟩ : Addr) = ⟨g, 0, none⟩ by rw [e]] at a
  have b := H.2.2.2.1.cell 0 (by rw [H.2.2.1]; omega)
  rw [Nat.zero_add, a] at b
  cases b
end Go.Proofs.YtghiniaijobonaaDoor
/- The contract of Hasher.Write. -/
namespace Go.Proofs.YtghiniaijobonaaDoor
open Go.RowKit
set_option linter.unusedVariables false
set_option linter.unusedSimpArgs false
theorem Tryd.sizeW8 : (Tryd.prog.info? 5).map (·.size) = some 1 := by kernel_rfl
theorem Tryd.sizeBlock : (Tryd.prog.info? 98).map (·.size) = some 64 := by kernel_rfl
/-- How long a slice is. -/
def lenS : Value → Nat
  | .slice _ n _ => n
  | _ => 0

set_option maxRecDepth 100000 in
set_option maxHeartbeats 1000000 in
theorem wwrite_any (g : Nat) (l : List UInt8) (a : Option Addr) (n c : Nat) (x : List UInt8) (w : World) (G : Tab w) (H : Hasher w g l) (R : Row w a n x) (hc : n ≤ c) (hne : 0 < n → ∀ ad, a = some ad → ad.block ≠ g) (hG : g ≠ 0) (hn : l.length + n ≤ 9000000000000000000) :
    Calls Tryd.prog 61 #[.pointer (some ⟨g, 0, none⟩), .slice a n c] w fun e w' => e = .returned (.tuple #[]) ∧ Hasher w' g (l ++ x) ∧ w.grownBy w' (some g) := by
  go_enter Tryd.func61, Tryd.ntmps61
  go_wp2_with fail
  go_loopw [1] (fun v wr => ∃ k a' c', k ≤ n ∧ v = .slice a' (n - k) c' ∧ n - k ≤ c' ∧ Row wr a' (n - k) (x.drop k) ∧ (0 < n - k → ∀ ad, a' = some ad → ad.block ≠ g) ∧ Hasher wr g (l ++ x.take k) ∧ w.grownBy wr (some g)) (fun v _ => lenS v)
  case atStart => exact ⟨0, a, c, Nat.zero_le _, rfl, hc, R, hne, by simpa using H, World.grownBy.refl _ _⟩
  case round =>
    obtain ⟨k, a', c', hk, rfl, hc', R', hne', H', hg⟩ := hrel
    have hxl := R.1
    by_cases hlt : k < n
    · obtain ⟨ly, r0 | ⟨sb, so, rfl, hs⟩⟩ := R'
      · omega
      have hbne : sb ≠ g := hne' (by omega) _ rfl
      clear hne'
      obtain ⟨h, blk, HA, HK⟩ := H'
      have hlen : (l ++ x.take k).length = l.length + k := by simp; omega
      rw [hlen] at HA
      have hcnt := HA.2.2.1
      have hth := HA.2.2.2.1
      have HHA : Hid (HAt wr g h blk (l.length + k)) := HA
      clear HA
      generalize hP : l ++ x.take k = p at *
      have HP : Hid (l ++ x.take k = p) := hP
      clear hP
      generalize hL : l.length + k = L at *
      have HLn : Hid (l.length + k = L) := hL
      have hL1 : L ≤ 9000000000000000000 := by omega
      have hL2 : L + (n - k) ≤ 9000000000000000000 := by omega
      clear hL
      have hnk : n - k > 0 := by omega
      generalize hN : n - k = N at *
      have hr : L % 64 < 64 := Nat.mod_lt _ (by omega)
      have hmr : (L : Int).tmod 64 = ((L % 64 : Nat) : Int) := by rw [Int.tmod_eq_emod_of_nonneg (by omega)]; omega
      generalize hrr : L % 64 = r at *
      have HR : Hid (L % 64 = r) := hrr
      clear hrr
      have hr0 : (0 : Int) ≤ (r : Int) := by omega
      have hr1 : (r : Int) ≤ 64 := by omega
      have hr64 : ¬ 64 = r := by omega
      generalize hy : (x.drop k).take (Nat.min N (64 - r)) = y at *
      have hyl : y.length = Nat.min N (64 - r) := by rw [← hy, List.length_take, ly]; exact Nat.min_eq_left (Nat.min_le_left _ _)
      have hym : r + y.length ≤ 64 := by rw [hyl]; have : Nat.min N (64 - r) ≤ 64 - r := Nat.min_le_right _ _; omega
      have hyN : y.length ≤ N := by rw [hyl]; exact Nat.min_le_left _ _
      have hy0 : 0 < y.length := by
        rw [hyl]; exact Nat.lt_min.2 ⟨by omega, by omega⟩
      have HSRC : Hid (∀ j v, (cellsB y)[j]? = some v → wr.cell? ((⟨sb, so, none⟩ : Addr).add j) = some v) := by
        intro j v hj
        have hj' : j < y.length := by have := (List.getElem?_eq_some_iff.1 hj).1; rwa [cellsB_length] at this
        rw [Go.WideShapes.add_plain, hs j (by omega), ← hj, cellsB_at y j hj', ← hy]
        unfold nth
        rw [← hy] at hj'
        have hj2 : j < Nat.min N (64 - r) := by rw [List.length_take] at hj'; omega
        simp only [List.getD_eq_getElem?_getD, List.getElem?_take, if_pos hj2]
      have HTH : Hid (wr.there g (8 + r) (cellsB y).length) := by
        intro j hj
        rw [cellsB_length] at hj
        have := hth (8 + r + j) (by omega)
        rwa [Nat.zero_add] at this
      have HYL : Hid ((cellsB y).length = Nat.min N (64 - r)) := by unfold Hid; rw [cellsB_length, hyl]
      have HY : Hid ((x.drop k).take (Nat.min N (64 - r)) = y ∧ y.length = Nat.min N (64 - r)) := ⟨hy, hyl⟩
      clear hy hyl
      go_wp2_with fail
      go_region_held3 (fun w' => w'.cell? ⟨g, 72, none⟩ = some (.int .i64 (L : Int))) (first | go_keep | (rw [World.cell?_setCells_out _ _ _ _ _ (fun _ _ => Or.inr (by show 8 + r + (cellsB y).length ≤ 72; rw [cellsB_length]; omega))]; simpa using hcnt)) ((refine step_copy_cells (by rfl) (.tmp 16) (.tmp 17) 33 33 5 (by rfl) Tryd.underlying33 Tryd.sizeW8 g (8 + r) (64 - r) (64 - r) ⟨sb, so, none⟩ N c' (cellsB y) (by first | rfl | (simp only [hr64, if_false]; rfl)) (by rfl) HYL.out HSRC.out HTH.out (cellsB_one y) ?_))
      rw [cellsB_length]
      have HHA : Hid (HAt (wr.drew.setCells g (8 + r) (cellsB y)) g h (blkPut blk r y) L) := by
        have h1 : HAt wr.drew g h blk L := HHA.out
        exact h1.copy hym
      have hgw : wr.grownBy (wr.drew.setCells g (8 + r) (cellsB y)) (some g) := gr_trans (gr_drew wr _) (gr_setCells g _ _ _)
      clear HSRC HTH HYL hcnt hth hmr hr64
      generalize wr.drew.setCells g (8 + r) (cellsB y) = w1 at *
      have hct := HHA.out.2.2.1
      have hfz : w1.frozen? ⟨g, 72, none⟩ = false := by have := (HHA.out.2.2.2.1 72 (by omega)).2; rwa [Nat.zero_add] at this
      generalize hM : y.length = M at *
      have hM' : (M : Int) ≤ (N : Int) := by omega
      have hM0 : (0 : Int) ≤ (M : Int) := by omega
      have hNc : (N : Int) ≤ (c' : Int) := by omega
      have HHA : Hid (HAt (w1.setCell ⟨g, 72, none⟩ (.int .i64 ((L : Int) + (M : Int)))) g h (blkPut blk r y) (L + M)) := HAt.count HHA.out (L + M)
      have hgw : wr.grownBy (w1.setCell ⟨g, 72, none⟩ (.int .i64 ((L : Int) + (M : Int)))) (some g) := gr_trans hgw (gr_setCell _ _ _ _)
      have HD : Hid (l ++ x.take (k + M) = p ++ y) := by
        unfold Hid
        rw [← HP.out, List.append_assoc, List.take_add, HY.out.2, HY.out.1]
      obtain ⟨A0, hA0⟩ : ∃ A0, (if c' = M then (⟨sb, so, none⟩ : Addr) else ⟨sb, so + M, none⟩) = A0 := ⟨_, rfl⟩
      have hA1 : (if c' = M then some (⟨sb, so, none⟩ : Addr) else some ⟨sb, so + M, none⟩) = some A0 := by rw [← hA0]; split <;> rfl
      have HDD : Hid (∀ wF : World, wr.grownBy wF (some g) → Row wF (some A0) (n - (k + M)) (x.drop (k + M))) := by
        intro wF hgF
        rw [← hA1]
        rw [← List.drop_drop, show n - (k + M) = N - M by omega]
        exact row_rest hs ly hnk (by omega) hc' hgF hbne
      have HDN : Hid (∀ ad, some A0 = some ad → ad.block ≠ g) := by
        intro ad had
        cases had
        rw [← hA0]
        split <;> exact hbne
      have htm : ((L : Int) + (M : Int)).tmod 64 = (((L + M) % 64 : Nat) : Int) := by rw [Int.tmod_eq_emod_of_nonneg (by omega)]; omega
      have hpr : p.length % 64 = r := by rw [hlen]; exact HR.out
      have HPR : Hid (p.length % 64 = r ∧ p.length = L ∧ y.length = M) := ⟨hpr, hlen, hM⟩
      have HN : Hid (n - k = N) := hN
      have hrL : L % 64 = r := HR.out
      by_cases hfull : r + M = 64
      · have hz : ((L : Int) + (M : Int)).tmod 64 = 0 := by rw [htm]; omega
        clear htm hpr hlen hM hN hs ly
        go_wp2_with fail
        generalize w1.setCell ⟨g, 72, none⟩ (.int .i64 ((L : Int) + (M : Int))) = w2 at *
        generalize hBB : blkPut blk r y = B at *
        have HBB : Hid (blkPut blk r y = B) := hBB
        clear hBB
        have hu42 := Tryd.underlying98
        have hi42 : (Tryd.prog.info? 98).map (·.size) = some (cellsB B).length := by rw [Tryd.sizeBlock, cellsB_length, HHA.out.2.2.2.2.2]
        have hl42 : (cellsB B).length = 64 := by rw [cellsB_length, HHA.out.2.2.2.2.2]
        have ho42 := cellsB_one B
        have rB := HHA.out.2.1
        have rH := HHA.out.1
        have hu41 := Tryd.underlying116
        have hi41 : (Tryd.prog.info? 116).map (·.size) = some (cellsW h).length := by rw [Tryd.sizeState, cellsW_length, HHA.out.2.2.2.2.1]
        have HT : Hid (Tab w2.drew ∧ Fit h ∧ HAt w2.drew g h B (L + M)) := ⟨Tab.grown G (gr_trans (gr_trans hg hgw) (gr_drew w2 _)) hG, HK.words.2, HHA.out⟩
        refine wp_region_noPanic ?_
        refine wp_region_held_drew (S := fun w' => w'.rangeAt g 8 (cellsB B)) (by kernel_rfl) rB (fun hHeld => ?_)
        refine wpAnyH_take (i := 0) (v := ?_) (by simp only [List.getElem?_toArray, List.getElem?_cons_zero, List.getElem?_cons_succ]; rfl) (by kernel_rfl) (by kernel_rfl) (by kernel_rfl) (fun _ _ _ h => h) (Or.inl ⟨by rfl, ?_⟩) hHeld ?_
        rotate_left
        · intro w hSw
          go_simp
          try with_reducible rfl
        try simp only [Act.put, List.setIfInBounds_toArray, List.set_cons_zero, List.set_cons_succ]
        refine wpAnyH_take (i := 1) (v := ?_) (by simp only [List.getElem?_toArray, List.getElem?_cons_zero, List.getElem?_cons_succ]; rfl) (by kernel_rfl) (by kernel_rfl) (by kernel_rfl) (fun _ _ _ h => h) (Or.inl ⟨by rfl, ?_⟩) hHeld ?_
        rotate_left
        · intro w hSw
          go_simp
          try with_reducible rfl
        try simp only [Act.put, List.setIfInBounds_toArray, List.set_cons_zero, List.set_cons_succ]
        refine wpAnyH_take (i := 2) (v := ?_) (by simp only [List.getElem?_toArray, List.getElem?_cons_zero, List.getElem?_cons_succ]; rfl) (by kernel_rfl) (by kernel_rfl) (by kernel_rfl) (fun _ _ _ h => h) (Or.inl ⟨by rfl, ?_⟩) hHeld ?_
        rotate_left
        · intro w hSw
          go_simp
          try with_reducible rfl
        try simp only [Act.put, List.setIfInBounds_toArray, List.set_cons_zero, List.set_cons_succ]
        refine wpAnyH_take (i := 3) (v := ?_) (by simp only [List.getElem?_toArray, List.getElem?_cons_zero, List.getElem?_cons_succ]; rfl) (by kernel_rfl) (by kernel_rfl) (by kernel_rfl) (fun _ _ _ h => h) (Or.inl ⟨by rfl, ?_⟩) hHeld ?_
        rotate_left
        · intro w hSw
          go_simp
          try with_reducible rfl
        try simp only [Act.put, List.setIfInBounds_toArray, List.set_cons_zero, List.set_cons_succ]
        refine wpAnyH_take (i := 5) (v := ?_) (by simp only [List.getElem?_toArray, List.getElem?_cons_zero, List.getElem?_cons_succ]; rfl) (by kernel_rfl) (by kernel_rfl) (by kernel_rfl) (fun _ _ _ h => h) (Or.inl ⟨by rfl, ?_⟩) hHeld ?_
        rotate_left
        · intro w hSw
          go_simp
          try with_reducible rfl
        try simp only [Act.put, List.setIfInBounds_toArray, List.set_cons_zero, List.set_cons_succ]
        refine wpAnyH_take (i := 6) (v := ?_) (by simp only [List.getElem?_toArray, List.getElem?_cons_zero, List.getElem?_cons_succ]; rfl) (by kernel_rfl) (by kernel_rfl) (by kernel_rfl) (fun _ _ _ h => h) (Or.inl ⟨by rfl, ?_⟩) hHeld ?_
        rotate_left
        · intro w hSw
          go_simp
          try with_reducible rfl
        try simp only [Act.put, List.setIfInBounds_toArray, List.set_cons_zero, List.set_cons_succ]
        refine wpAnyH_take (i := 7) (v := ?_) (by simp only [List.getElem?_toArray, List.getElem?_cons_zero, List.getElem?_cons_succ]; rfl) (by kernel_rfl) (by kernel_rfl) (by kernel_rfl) (fun _ _ _ h => h) (Or.inl ⟨by rfl, ?_⟩) hHeld ?_
        rotate_left
        · intro w hSw
          go_simp
          try with_reducible rfl
        try simp only [Act.put, List.setIfInBounds_toArray, List.set_cons_zero, List.set_cons_succ]
        refine wpAnyH_take (i := 8) (v := .agg (cellsB B).toArray) (by simp only [List.getElem?_toArray, List.getElem?_cons_zero, List.getElem?_cons_succ]; rfl) (by kernel_rfl) (by kernel_rfl) (by kernel_rfl) (fun _ _ _ h => h)
          (yieldsIf_load_mid (by rfl) _ _ rfl _ _ rfl _ _ (fun w hw => hw) hu42 rfl hi42) hHeld ?_
        try simp only [Act.put, List.setIfInBounds_toArray, List.set_cons_zero, List.set_cons_succ]
        refine wpAnyH_ready (rs := [4]) (by kernel_rfl) (by simp) ?_
        refine AllReadyH.cons (by simp only [List.getElem?_toArray, List.getElem?_cons_zero, List.getElem?_cons_succ]; rfl) (fun K hK => ?_) AllReadyH.nil
        rw [if_pos (by rfl)]
        refine wp_load_mid _ _ rfl _ _ rfl _ _ rH hu41 rfl hi41 ?_
        refine hK.out _ _ hHeld (fun hHeld => ?_)
        clear hK K
        try simp only [Act.put, List.setIfInBounds_toArray, List.set_cons_zero, List.set_cons_succ]
        refine wpAnyH_ready (rs := [9]) (by kernel_rfl) (by simp) ?_
        refine AllReadyH.cons (by simp only [List.getElem?_toArray, List.getElem?_cons_zero, List.getElem?_cons_succ]; rfl) (fun K hK => ?_) AllReadyH.nil
        rw [if_pos (by rfl)]
        go_simp
        refine (wafter_in g (L + M) h B _ HT.out.1 HT.out.2.2 HT.out.2.1).mono ?_
        rintro e w' ⟨h', rfl, h8', hE', hb8, rB8, rT8⟩
        go_wp2_with fail
        refine hK.out _ _ rB8 (fun hHeld => ?_)
        clear hK K
        try simp only [Act.put, List.setIfInBounds_toArray, List.set_cons_zero, List.set_cons_succ]
        refine wpAnyH_take (i := 10) (v := ?_) (by simp only [List.getElem?_toArray, List.getElem?_cons_zero, List.getElem?_cons_succ]; rfl) (by kernel_rfl) (by kernel_rfl) (by kernel_rfl) (fun _ _ _ h => h) (Or.inl ⟨by rfl, ?_⟩) hHeld ?_
        rotate_left
        · intro w hSw
          go_simp
          try with_reducible rfl
        try simp only [Act.put, List.setIfInBounds_toArray, List.set_cons_zero, List.set_cons_succ]
        refine wpAnyH_take (i := 11) (v := ?_) (by simp only [List.getElem?_toArray, List.getElem?_cons_zero, List.getElem?_cons_succ]; rfl) (by kernel_rfl) (by kernel_rfl) (by kernel_rfl) (fun _ _ _ h => h) (Or.inl ⟨by rfl, ?_⟩) hHeld ?_
        rotate_left
        · intro w hSw
          go_simp
          try with_reducible rfl
        try simp only [Act.put, List.setIfInBounds_toArray, List.set_cons_zero, List.set_cons_succ]
        refine wpAnyH_ready (rs := [12]) (by kernel_rfl) (by simp) ?_
        refine AllReadyH.cons (by simp only [List.getElem?_toArray, List.getElem?_cons_zero, List.getElem?_cons_succ]; rfl) (fun K hK => ?_) AllReadyH.nil
        rw [if_pos (by rfl)]
        refine wp_store_mid _ _ _ rfl _ _ (cellsW h').toArray rfl rfl (by rw [List.size_toArray, h8']; exact rT8) (by rw [List.size_toArray, h8']; exact Tryd.sizeState) (all_oneCell_toArray (cellsW_one _)) ?_
        refine hK.out _ _ (World.rangeAt_setCells_apart rB8 _ _ _ (.inr (.inr (by rw [h8']; exact Nat.le_refl _)))) (fun hHeld => ?_)
        clear hK K
        try simp only [Act.put, List.setIfInBounds_toArray, List.set_cons_zero, List.set_cons_succ]
        refine wpAnyH_done (by kernel_rfl) (NoPanic.normal ?_) _
        have hbw := below_of_drew hb8.out
        have HF : Hid (HAt (w'.setCells g 0 (cellsW h')) g h' B (L + M)) := HAt.words (HAt.below HHA.out hbw) (by rw [← cellsW_length]; exact h8')
        have hgF : wr.grownBy (w'.setCells g 0 (cellsW h')) (some g) := gr_trans hgw (gr_trans (gr_below hbw _) (gr_setCells _ _ _ _))
        have HTK : Hid (Took h' B (p ++ y)) := by
          obtain ⟨e1, e2, e3⟩ := HPR.out
          have := took_full (y := y) HK (by rw [e1, e3]; exact hfull)
          rw [e1, HBB.out] at this
          unfold Hid
          rw [hE'.out]
          exact this
        generalize w'.setCells g 0 (cellsW h') = wF at *
        clear rT8 rB8 hb8 hbw hE' h8' hgw
        go_wp2
        go_roundw
        case rel =>
          have := HN.out
          refine ⟨k + M, _, c' - M, by omega, by rw [show n - (k + M) = N - M by omega], by omega, HDD.out _ hgF, fun _ => HDN.out, ?_, gr_trans hg hgF⟩
          rw [HD.out]
          refine ⟨h', B, ?_, HTK.out⟩
          rw [List.length_append, HPR.out.2.1, HPR.out.2.2]
          exact HF.out
        case measure => simp only [lenS]; omega
      · have hz : ¬ ((L : Int) + (M : Int)).tmod 64 = 0 := by rw [htm]; omega
        clear htm hpr hlen hM hN hs ly
        go_wp2
        go_roundw
        case rel =>
          have := HN.out
          refine ⟨k + M, _, c' - M, by omega, by rw [show n - (k + M) = N - M by omega], by omega, HDD.out _ hgw, fun _ => HDN.out, ?_, gr_trans hg hgw⟩
          rw [HD.out]
          obtain ⟨e1, e2, e3⟩ := HPR.out
          have ht := took_part (y := y) HK (by rw [e1, e3]; omega)
          rw [e1] at ht
          refine ⟨h, blkPut blk r y, ?_, ht⟩
          rw [List.length_append, e2, e3]
          exact HHA.out
        case measure => simp only [lenS]; omega
    · obtain rfl : k = n := by omega
      have HH : Hid (Hasher wr g (l ++ x)) := by
        rw [List.take_of_length_le (by omega)] at H'
        exact H'
      clear H' R'
      rw [Nat.sub_self]
      go_wp2
      go_end0
      exact ⟨rfl, HH.out, hg⟩
end Go.Proofs.YtghiniaijobonaaDoor
/- The contract of Hasher.finish: what stands behind the bytes. -/
namespace Go.Proofs.YtghiniaijobonaaDoor
open Go.RowKit
set_option linter.unusedVariables false
set_option linter.unusedSimpArgs false

/-- What stands behind n bytes: 128, zeros, eight bytes of their bits' number. -/
def endL (n : Nat) : List UInt8 := [128] ++ List.replicate ((119 - n % 64) % 64) 0 ++ putL (8 * n) 8
theorem endL_length (n : Nat) : (endL n).length = 1 + (119 - n % 64) % 64 + 8 := by simp [endL, putL_length]; omega
theorem padL_end (l : List UInt8) : padL l = l ++ endL l.length := by simp [padL, endL]
theorem endL_nth (n z : Nat) (hz : (119 - n % 64) % 64 = z) (q : Nat) (hq : q < 1 + z + 8) : nth (endL n) q = if q = 0 then 128 else if q < 1 + z then 0 else putB (8 * (n : Int)) 8 (q - (1 + z)) := by
  unfold endL
  rw [hz]
  by_cases h0 : q = 0
  · subst h0; rfl
  · rw [if_neg h0]
    obtain ⟨j, rfl⟩ : ∃ j, q = j + 1 := ⟨q - 1, by omega⟩
    have e1 : nth ([128] ++ List.replicate z 0 ++ putL (8 * (n : Int)) 8) (j + 1) = nth (List.replicate z 0 ++ putL (8 * (n : Int)) 8) j := by unfold nth; simp [List.getD_eq_getElem?_getD]
    rw [e1]
    by_cases h1 : j + 1 < 1 + z
    · rw [if_pos h1]
      unfold nth
      rw [List.getD_eq_getElem?_getD, List.getElem?_append_left (by simp; omega), List.getElem?_replicate, if_pos (by omega)]
      rfl
    · rw [if_neg h1, ← nth_putL _ _ _ (by omega)]
      unfold nth
      rw [List.getD_eq_getElem?_getD, List.getD_eq_getElem?_getD, List.getElem?_append_right (by simp; omega), List.length_replicate, show j + 1 - (1 + z) = j - z by omega]
theorem put_shr (n i e : Nat) (hi : i < 8) (h : e = 8 * (7 - i)) : (n : Int) * 8 / 2 ^ e % 256 = putB (8 * (n : Int)) 8 i := by
  unfold putB
  rw [h, Int.pow_mul, Int.mul_comm, show 8 - 1 - i = 7 - i by omega]
  rfl
/-- 72 bytes 0. -/
def z72 : List UInt8 := List.replicate 72 0
theorem z72_length : (cellsB z72).length = 72 := by rw [cellsB_length]; rfl
theorem Tryd.zero72 : (Tryd.prog.info? 123).map (·.zero) = some (some (.agg (cellsB z72).toArray)) := by kernel_rfl
theorem z72_cells : (cellsB z72) = (List.range 72).map fun _ => Value.int .u8 0 := by kernel_rfl

set_option maxRecDepth 100000 in
set_option maxHeartbeats 1000000 in
theorem wfinish_any (g : Nat) (l : List UInt8) (w : World) (G : Tab w) (H : Hasher w g l) (hG : g ≠ 0) (hn : l.length ≤ 1000000000000000000) :
    Calls Tryd.prog 67 #[.pointer (some ⟨g, 0, none⟩)] w fun e w' => e = .returned (.tuple #[]) ∧ Hasher w' g (padL l) ∧ w.grownBy w' (some g) := by
  have hgl := H.block
  have hct : w.cell? ⟨g, 72, none⟩ = some (.int .i64 ((l.length : Nat) : Int)) := by
    obtain ⟨h, blk, HA, HK⟩ := H
    exact HA.2.2.1
  obtain ⟨w1, hw1⟩ : ∃ w1, w.alloc (.cells (cellsB z72).toArray 123) = w1 := ⟨_, rfl⟩
  have hO : OwnK .u8 123 w1 w.heap.size w.heap.size 72 72 (fun _ => 0) := by
    rw [← hw1]
    exact OwnK.newAt w _ _ 72 (by omega) (fun _ => 0) _ rfl z72_cells
  have hB : Below w.heap.size w w1 := by rw [← hw1]; exact (Below.refl _ _).alloc (Nat.le_refl _) _
  have HH : Hid (Hasher w g l ∧ Tab w) := ⟨H, G⟩
  have hct1 := (hB.cell (p := ⟨g, 72, none⟩) hgl).trans hct
  clear H G
  have HL : Hid (padL l = l ++ endL l.length) := padL_end l
  have HLn : Hid (l.length = l.length) := rfl
  generalize hL : l.length = L at *
  have HLL : Hid (l.length = L) := hL
  clear hL HLn
  have c0 := hO.cell 0 (by omega)
  have z0 := hO.frozen 0
  have HO : Hid (OwnK .u8 123 w1 w.heap.size w.heap.size 72 72 (fun _ => 0)) := hO
  have HB : Hid (Below w.heap.size w w1) := hB
  clear hO hB
  go_enter Tryd.func67, Tryd.ntmps67
  go_wp2_with (refine wpList_allocE (by rfl) 123 (by rfl) (cellsB z72).toArray Tryd.zero72 w.heap.size rfl w1 hw1 ?_)
  obtain ⟨z, hz⟩ : ∃ z, (119 - L % 64) % 64 = z := ⟨_, rfl⟩
  have HZ : Hid ((119 - L % 64) % 64 = z) := hz
  have hz64 : z < 64 := by omega
  clear hz
  have HO : Hid (OwnK .u8 123 (w1.setCell ⟨w.heap.size, 0, none⟩ (.int .u8 128)) w.heap.size w.heap.size 72 72 (fun q => if q = 0 then 128 else 0)) := OwnK.store HO.out 0 128
  have HB : Hid (Below w.heap.size w (w1.setCell ⟨w.heap.size, 0, none⟩ (.int .u8 128))) := Below.setCell HB.out (Nat.le_refl _) _
  have hct2 : (w1.setCell ⟨w.heap.size, 0, none⟩ (.int .u8 128)).cell? ⟨g, 72, none⟩ = some (.int .i64 (L : Int)) := (Below.cell HB.out (p := ⟨g, 72, none⟩) hgl).trans hct
  clear c0 z0 hw1
  generalize w1.setCell ⟨w.heap.size, 0, none⟩ (.int .u8 128) = w2 at *
  clear hct1 hct
  go_loopw [4] (fun v wr => ∃ n : Nat, 1 ≤ n ∧ n ≤ 1 + z ∧ v = .int .i64 (n : Int) ∧ Hid (wr = w2)) (fun v _ => 100 - (intOf v).toNat)
  case atStart => exact ⟨1, by omega, by omega, rfl, rfl⟩
  case round =>
    obtain ⟨n, hn1, hnz, rfl, HW⟩ := hrel
    obtain rfl : wr = w2 := HW.out
    clear HW
    have htm : ((L : Int) + (n : Int) + 8).tmod 64 = (((L + n + 8) % 64 : Nat) : Int) := by rw [Int.tmod_eq_emod_of_nonneg (by omega)]; omega
    have hzz := HZ.out
    by_cases hend : n = 1 + z
    · have hz : ((L : Int) + (n : Int) + 8).tmod 64 = 0 := by rw [htm]; omega
      clear htm hzz
      have HNZ : Hid (n = 1 + z) := hend
      have hn64 : n ≤ 64 := by omega
      clear hend
      go_wp2_with fail
      go_loopw [24] (fun i wx => ∃ t : Nat, t ≤ 8 ∧ i = .int .i64 (t : Int) ∧ OwnK .u8 123 wx w.heap.size w.heap.size 72 72 (fun q => if q = 0 then 128 else if q < n then 0 else if q < n + t then putB (8 * (L : Int)) 8 (q - n) else 0) ∧ Below w.heap.size w wx) (fun i _ => 8 - (intOf i).toNat)
      case atStart =>
        refine ⟨0, Nat.zero_le _, rfl, OwnK.congr HO.out fun q hq => ?_, HB.out⟩
        by_cases h0 : q = 0
        · rw [if_pos h0, if_pos h0]
        · rw [if_neg h0, if_neg h0]
          by_cases h1 : q < n
          · rw [if_pos h1]
          · rw [if_neg h1, if_neg (by omega)]
      case round =>
        clear hct2 HO HB hz
        obtain ⟨t, ht, rfl, hO, hB⟩ := hrel
        by_cases hlt : t < 8
        · have c0 := hO.cell (n + t) (by omega)
          have z0 := hO.frozen (n + t)
          have HO : Hid (OwnK .u8 123 wr w.heap.size w.heap.size 72 72 (fun q => if q = 0 then 128 else if q < n then 0 else if q < n + t then putB (8 * (L : Int)) 8 (q - n) else 0)) := hO
          clear hO
          rw [if_neg (by omega), if_neg (by omega), if_neg (by omega)] at c0
          go_wp2
          go_roundw
          case rel =>
            refine ⟨t + 1, by omega, by go_num, (OwnK.store HO.out (n + t) _).congr fun q hq => ?_, Below.setCell hB (Nat.le_refl _) _⟩
            by_cases hqt : q = n + t
            · subst hqt
              rw [if_pos rfl, if_neg (by omega), if_neg (by omega), if_pos (by omega), Nat.add_sub_cancel_left]
              exact put_shr L t _ hlt rfl
            · rw [if_neg hqt]
              by_cases h0 : q = 0
              · rw [if_pos h0, if_pos h0]
              · rw [if_neg h0, if_neg h0]
                by_cases h1 : q < n
                · rw [if_pos h1, if_pos h1]
                · rw [if_neg h1, if_neg h1]
                  by_cases h2 : q < n + t
                  · rw [if_pos h2, if_pos (by omega)]
                  · rw [if_neg h2, if_neg (by omega)]
          case measure => simp [intOf]; omega
        · obtain rfl : t = 8 := by omega
          have HR : Hid (Row wr (some ⟨w.heap.size, 0, none⟩) (n + 8) (endL L)) := by
            have hlen : (endL L).length = n + 8 := by rw [endL_length, HZ.out, HNZ.out]
            refine ⟨hlen, .inr ⟨w.heap.size, 0, rfl, fun i hi => ?_⟩⟩
            rw [Nat.zero_add, hO.cell i (by omega), endL_nth L z HZ.out i (by have := HNZ.out; omega), ← HNZ.out]
            by_cases h0 : i = 0
            · rw [if_pos h0, if_pos h0]
            · rw [if_neg h0, if_neg h0]
              by_cases h1 : i < n
              · rw [if_pos h1, if_pos h1]
              · rw [if_neg h1, if_neg h1, if_pos hi]
          have hB' : Hid (Below w.heap.size w wr) := hB
          clear hO hB
          have hs1 : (0 : Int) ≤ (n : Int) + 8 := by omega
          have hs2 : (n : Int) + 8 ≤ 72 := by omega
          go_wp2_with fail
          refine (wwrite_any g l _ _ 72 (endL L) wr (HH.out.2.below hB'.out) (HH.out.1.below hB'.out) HR.out (by omega) (fun _ ad h => by cases h; show w.heap.size ≠ g; omega) hG (by have := HLL.out; omega)).mono ?_
          rintro e w5 ⟨rfl, H5, hg5⟩
          have H5 : Hid (Hasher w5 g (padL l)) := by
            unfold Hid
            rw [HL.out]
            exact H5
          have hg6 := gr_trans (gr_below hB'.out (some g)) hg5
          go_wp2
          go_end0
          exact ⟨rfl, H5.out, hg6⟩
    · have hz : ¬ ((L : Int) + (n : Int) + 8).tmod 64 = 0 := by rw [htm]; omega
      have hz' : ¬ ((L : Int) + (n : Int) + 8) % 64 = 0 := by omega
      clear htm hzz
      go_wp2
      go_roundw
      case rel => exact ⟨n + 1, by omega, by omega, by go_num, by first | exact True.intro | exact rfl⟩
      case measure => simp [intOf]; omega
end Go.Proofs.YtghiniaijobonaaDoor
/- The contract of sha.New: a Hasher that has taken nothing. -/
namespace Go.Proofs.YtghiniaijobonaaDoor
open Go.RowKit
set_option linter.unusedVariables false
set_option linter.unusedSimpArgs false

/-- What a new Hasher holds. -/
def newCells : List Value := cellsW hW ++ cellsB (List.replicate 64 0) ++ [.int .i64 0]
theorem hasher_new (w : World) (t : TypeId) : Hasher (w.alloc (.cells newCells.toArray t)) w.heap.size [] := by
  have hr := box_range w newCells t
  have hlw : (cellsW hW).length = 8 := rfl
  have hlb : (cellsB (List.replicate 64 0)).length = 64 := by rw [cellsB_length]; simp
  refine ⟨hW, List.replicate 64 0, ⟨?_, ?_, ?_, ?_, rfl, by simp⟩, took_new⟩
  · intro j v hj
    refine hr j v ?_
    have := (List.getElem?_eq_some_iff.1 hj).1
    unfold newCells
    rw [List.append_assoc, List.getElem?_append_left this]
    exact hj
  · intro j v hj
    have := (List.getElem?_eq_some_iff.1 hj).1
    have h2 := hr (8 + j) v (by
      unfold newCells
      rw [List.append_assoc, List.getElem?_append_right (by omega), hlw, Nat.add_sub_cancel_left, List.getElem?_append_left this]
      exact hj)
    rwa [Nat.zero_add] at h2
  · have h2 := hr 72 (.int .i64 0) (by
      unfold newCells
      rw [List.getElem?_append_right (by rw [List.length_append, hlw, hlb]; exact Nat.le_refl _), List.length_append, hlw, hlb]
      rfl)
    rwa [Nat.zero_add] at h2
  · refine alloc_there w _ t 73 ?_
    show 73 ≤ newCells.length
    unfold newCells
    rw [List.length_append, List.length_append, hlw, hlb]
    exact Nat.le_refl _

set_option maxRecDepth 100000 in
set_option maxHeartbeats 400000 in
theorem wnew_any (w : World) :
    Calls Tryd.prog 60 #[] w fun e w' => e = .returned (.pointer (some ⟨w.heap.size, 0, none⟩)) ∧ Hasher w' w.heap.size [] ∧ Below w.heap.size w w' := by
  go_enter Tryd.func60, Tryd.ntmps60
  go_wp2_with (first
    | (refine wpList_buildC (by rfl) 116 _ (by rfl) (cellsW hW).toArray (by kernel_rfl) ?_)
    | (refine wpList_buildC (by rfl) 118 _ (by rfl) newCells.toArray (by kernel_rfl) ?_))
  go_ret
  exact ⟨rfl, hasher_new w _, (Below.refl _ _).alloc (Nat.le_refl _) _⟩
end Go.Proofs.YtghiniaijobonaaDoor
