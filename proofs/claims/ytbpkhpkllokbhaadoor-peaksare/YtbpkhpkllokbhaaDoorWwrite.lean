/- The contract of Hasher.Write. -/
import Derived.Test.YtbpkhpkllokbhaaDoorHasher
import Derived.Deep.RegionHeld3
import Derived.Deep.RegionLaw
namespace Go.Proofs.YtbpkhpkllokbhaaDoor
open Go.RowKit
set_option linter.unusedVariables false
set_option linter.unusedSimpArgs false
theorem Tryd.sizeW8 : (Tryd.prog.info? 5).map (·.size) = some 1 := by kernel_rfl
theorem Tryd.sizeBlock : (Tryd.prog.info? 83).map (·.size) = some 64 := by kernel_rfl
/-- How long a slice is. -/
def lenS : Value → Nat
  | .slice _ n _ => n
  | _ => 0

set_option maxRecDepth 100000 in
set_option maxHeartbeats 1000000 in
theorem wwrite_any (g : Nat) (l : List UInt8) (a : Option Addr) (n c : Nat) (x : List UInt8) (w : World) (G : Tab w) (H : Hasher w g l) (R : Row w a n x) (hc : n ≤ c) (hne : 0 < n → ∀ ad, a = some ad → ad.block ≠ g) (hG : g ≠ 1) (hn : l.length + n ≤ 9000000000000000000) :
    Calls Tryd.prog 34 #[.pointer (some ⟨g, 0, none⟩), .slice a n c] w fun e w' => e = .returned (.tuple #[]) ∧ Hasher w' g (l ++ x) ∧ w.grownBy w' (some g) := by
  go_enter Tryd.func34, Tryd.ntmps34
  go_wp2_with fail
  go_loopw [1] (fun v wr => ∃ k a' c', k ≤ n ∧ v = .slice a' (n - k) c' ∧ n - k ≤ c' ∧ Row wr a' (n - k) (x.drop k) ∧ (0 < n - k → ∀ ad, a' = some ad → ad.block ≠ g) ∧ Hasher wr g (l ++ x.take k) ∧ w.grownBy wr (some g)) (fun v _ => lenS v)
  case atStart => exact ⟨0, a, c, Nat.zero_le _, rfl, hc, R, hne, by simpa using H, World.grownBy.refl _ _⟩
  case round =>
    obtain ⟨k, a', c', hk, rfl, hc', R', hne', H', hg⟩ := hrel
    have hxl := R.1
    by_cases hlt : k < n
    · obtain ⟨ly, r0 | ⟨sb, so, rfl, hs⟩⟩ := R'
      · omega
      have hbne : sb ≠ g := hne' (by omega) _ rfl
      clear hne'
      obtain ⟨h, blk, HA, HK⟩ := H'
      have hlen : (l ++ x.take k).length = l.length + k := by simp; omega
      rw [hlen] at HA
      have hcnt := HA.2.2.1
      have hth := HA.2.2.2.1
      have HHA : Hid (HAt wr g h blk (l.length + k)) := HA
      clear HA
      generalize hP : l ++ x.take k = p at *
      have HP : Hid (l ++ x.take k = p) := hP
      clear hP
      generalize hL : l.length + k = L at *
      have HLn : Hid (l.length + k = L) := hL
      have hL1 : L ≤ 9000000000000000000 := by omega
      have hL2 : L + (n - k) ≤ 9000000000000000000 := by omega
      clear hL
      have hnk : n - k > 0 := by omega
      generalize hN : n - k = N at *
      have hr : L % 64 < 64 := Nat.mod_lt _ (by omega)
      have hmr : (L : Int).tmod 64 = ((L % 64 : Nat) : Int) := by rw [Int.tmod_eq_emod_of_nonneg (by omega)]; omega
      generalize hrr : L % 64 = r at *
      have HR : Hid (L % 64 = r) := hrr
      clear hrr
      have hr0 : (0 : Int) ≤ (r : Int) := by omega
      have hr1 : (r : Int) ≤ 64 := by omega
      have hr64 : ¬ 64 = r := by omega
      generalize hy : (x.drop k).take (Nat.min N (64 - r)) = y at *
      have hyl : y.length = Nat.min N (64 - r) := by rw [← hy, List.length_take, ly]; exact Nat.min_eq_left (Nat.min_le_left _ _)
      have hym : r + y.length ≤ 64 := by rw [hyl]; have : Nat.min N (64 - r) ≤ 64 - r := Nat.min_le_right _ _; omega
      have hyN : y.length ≤ N := by rw [hyl]; exact Nat.min_le_left _ _
      have hy0 : 0 < y.length := by
        rw [hyl]; exact Nat.lt_min.2 ⟨by omega, by omega⟩
      have HSRC : Hid (∀ j v, (cellsB y)[j]? = some v → wr.cell? ((⟨sb, so, none⟩ : Addr).add j) = some v) := by
        intro j v hj
        have hj' : j < y.length := by have := (List.getElem?_eq_some_iff.1 hj).1; rwa [cellsB_length] at this
        rw [Go.WideShapes.add_plain, hs j (by omega), ← hj, cellsB_at y j hj', ← hy]
        unfold nth
        rw [← hy] at hj'
        have hj2 : j < Nat.min N (64 - r) := by rw [List.length_take] at hj'; omega
        simp only [List.getD_eq_getElem?_getD, List.getElem?_take, if_pos hj2]
      have HTH : Hid (wr.there g (8 + r) (cellsB y).length) := by
        intro j hj
        rw [cellsB_length] at hj
        have := hth (8 + r + j) (by omega)
        rwa [Nat.zero_add] at this
      have HYL : Hid ((cellsB y).length = Nat.min N (64 - r)) := by unfold Hid; rw [cellsB_length, hyl]
      have HY : Hid ((x.drop k).take (Nat.min N (64 - r)) = y ∧ y.length = Nat.min N (64 - r)) := ⟨hy, hyl⟩
      clear hy hyl
      go_wp2_with fail
      go_region_held3 (fun w' => w'.cell? ⟨g, 72, none⟩ = some (.int .i64 (L : Int))) (first | go_keep | (rw [World.cell?_setCells_out _ _ _ _ _ (fun _ _ => Or.inr (by show 8 + r + (cellsB y).length ≤ 72; rw [cellsB_length]; omega))]; simpa using hcnt)) ((refine step_copy_cells (by rfl) (.tmp 16) (.tmp 17) 45 45 5 (by rfl) Tryd.underlying45 Tryd.sizeW8 g (8 + r) (64 - r) (64 - r) ⟨sb, so, none⟩ N c' (cellsB y) (by first | rfl | (simp only [hr64, if_false]; rfl)) (by rfl) HYL.out HSRC.out HTH.out (cellsB_one y) ?_))
      rw [cellsB_length]
      have HHA : Hid (HAt (wr.drew.setCells g (8 + r) (cellsB y)) g h (blkPut blk r y) L) := by
        have h1 : HAt wr.drew g h blk L := HHA.out
        exact h1.copy hym
      have hgw : wr.grownBy (wr.drew.setCells g (8 + r) (cellsB y)) (some g) := gr_trans (gr_drew wr _) (gr_setCells g _ _ _)
      clear HSRC HTH HYL hcnt hth hmr hr64
      generalize wr.drew.setCells g (8 + r) (cellsB y) = w1 at *
      have hct := HHA.out.2.2.1
      have hfz : w1.frozen? ⟨g, 72, none⟩ = false := by have := (HHA.out.2.2.2.1 72 (by omega)).2; rwa [Nat.zero_add] at this
      generalize hM : y.length = M at *
      have hM' : (M : Int) ≤ (N : Int) := by omega
      have hM0 : (0 : Int) ≤ (M : Int) := by omega
      have hNc : (N : Int) ≤ (c' : Int) := by omega
      have HHA : Hid (HAt (w1.setCell ⟨g, 72, none⟩ (.int .i64 ((L : Int) + (M : Int)))) g h (blkPut blk r y) (L + M)) := HAt.count HHA.out (L + M)
      have hgw : wr.grownBy (w1.setCell ⟨g, 72, none⟩ (.int .i64 ((L : Int) + (M : Int)))) (some g) := gr_trans hgw (gr_setCell _ _ _ _)
      have HD : Hid (l ++ x.take (k + M) = p ++ y) := by
        unfold Hid
        rw [← HP.out, List.append_assoc, List.take_add, HY.out.2, HY.out.1]
      obtain ⟨A0, hA0⟩ : ∃ A0, (if c' = M then (⟨sb, so, none⟩ : Addr) else ⟨sb, so + M, none⟩) = A0 := ⟨_, rfl⟩
      have hA1 : (if c' = M then some (⟨sb, so, none⟩ : Addr) else some ⟨sb, so + M, none⟩) = some A0 := by rw [← hA0]; split <;> rfl
      have HDD : Hid (∀ wF : World, wr.grownBy wF (some g) → Row wF (some A0) (n - (k + M)) (x.drop (k + M))) := by
        intro wF hgF
        rw [← hA1]
        rw [← List.drop_drop, show n - (k + M) = N - M by omega]
        exact row_rest hs ly hnk (by omega) hc' hgF hbne
      have HDN : Hid (∀ ad, some A0 = some ad → ad.block ≠ g) := by
        intro ad had
        cases had
        rw [← hA0]
        split <;> exact hbne
      have htm : ((L : Int) + (M : Int)).tmod 64 = (((L + M) % 64 : Nat) : Int) := by rw [Int.tmod_eq_emod_of_nonneg (by omega)]; omega
      have hpr : p.length % 64 = r := by rw [hlen]; exact HR.out
      have HPR : Hid (p.length % 64 = r ∧ p.length = L ∧ y.length = M) := ⟨hpr, hlen, hM⟩
      have HN : Hid (n - k = N) := hN
      have hrL : L % 64 = r := HR.out
      by_cases hfull : r + M = 64
      · have hz : ((L : Int) + (M : Int)).tmod 64 = 0 := by rw [htm]; omega
        clear htm hpr hlen hM hN hs ly
        go_wp2_with fail
        generalize w1.setCell ⟨g, 72, none⟩ (.int .i64 ((L : Int) + (M : Int))) = w2 at *
        generalize hBB : blkPut blk r y = B at *
        have HBB : Hid (blkPut blk r y = B) := hBB
        clear hBB
        have hu42 := Tryd.underlying83
        have hi42 : (Tryd.prog.info? 83).map (·.size) = some (cellsB B).length := by rw [Tryd.sizeBlock, cellsB_length, HHA.out.2.2.2.2.2]
        have hl42 : (cellsB B).length = 64 := by rw [cellsB_length, HHA.out.2.2.2.2.2]
        have ho42 := cellsB_one B
        have rB := HHA.out.2.1
        have rH := HHA.out.1
        have hu41 := Tryd.underlying82
        have hi41 : (Tryd.prog.info? 82).map (·.size) = some (cellsW h).length := by rw [Tryd.sizeState, cellsW_length, HHA.out.2.2.2.2.1]
        have HT : Hid (Tab w2.drew ∧ Fit h ∧ HAt w2.drew g h B (L + M)) := ⟨Tab.grown G (gr_trans (gr_trans hg hgw) (gr_drew w2 _)) hG, HK.words.2, HHA.out⟩
        refine wp_region_noPanic ?_
        refine wp_region_held_drew (S := fun w' => w'.rangeAt g 8 (cellsB B)) (by kernel_rfl) rB (fun hHeld => ?_)
        refine wpAnyH_take (i := 0) (v := ?_) (by simp only [List.getElem?_toArray, List.getElem?_cons_zero, List.getElem?_cons_succ]; rfl) (by kernel_rfl) (by kernel_rfl) (by kernel_rfl) (fun _ _ _ h => h) (Or.inl ⟨by rfl, ?_⟩) hHeld ?_
        rotate_left
        · intro w hSw
          go_simp
          try with_reducible rfl
        try simp only [Act.put, List.setIfInBounds_toArray, List.set_cons_zero, List.set_cons_succ]
        refine wpAnyH_take (i := 1) (v := ?_) (by simp only [List.getElem?_toArray, List.getElem?_cons_zero, List.getElem?_cons_succ]; rfl) (by kernel_rfl) (by kernel_rfl) (by kernel_rfl) (fun _ _ _ h => h) (Or.inl ⟨by rfl, ?_⟩) hHeld ?_
        rotate_left
        · intro w hSw
          go_simp
          try with_reducible rfl
        try simp only [Act.put, List.setIfInBounds_toArray, List.set_cons_zero, List.set_cons_succ]
        refine wpAnyH_take (i := 2) (v := ?_) (by simp only [List.getElem?_toArray, List.getElem?_cons_zero, List.getElem?_cons_succ]; rfl) (by kernel_rfl) (by kernel_rfl) (by kernel_rfl) (fun _ _ _ h => h) (Or.inl ⟨by rfl, ?_⟩) hHeld ?_
        rotate_left
        · intro w hSw
          go_simp
          try with_reducible rfl
        try simp only [Act.put, List.setIfInBounds_toArray, List.set_cons_zero, List.set_cons_succ]
        refine wpAnyH_take (i := 3) (v := ?_) (by simp only [List.getElem?_toArray, List.getElem?_cons_zero, List.getElem?_cons_succ]; rfl) (by kernel_rfl) (by kernel_rfl) (by kernel_rfl) (fun _ _ _ h => h) (Or.inl ⟨by rfl, ?_⟩) hHeld ?_
        rotate_left
        · intro w hSw
          go_simp
          try with_reducible rfl
        try simp only [Act.put, List.setIfInBounds_toArray, List.set_cons_zero, List.set_cons_succ]
        refine wpAnyH_take (i := 5) (v := ?_) (by simp only [List.getElem?_toArray, List.getElem?_cons_zero, List.getElem?_cons_succ]; rfl) (by kernel_rfl) (by kernel_rfl) (by kernel_rfl) (fun _ _ _ h => h) (Or.inl ⟨by rfl, ?_⟩) hHeld ?_
        rotate_left
        · intro w hSw
          go_simp
          try with_reducible rfl
        try simp only [Act.put, List.setIfInBounds_toArray, List.set_cons_zero, List.set_cons_succ]
        refine wpAnyH_take (i := 6) (v := ?_) (by simp only [List.getElem?_toArray, List.getElem?_cons_zero, List.getElem?_cons_succ]; rfl) (by kernel_rfl) (by kernel_rfl) (by kernel_rfl) (fun _ _ _ h => h) (Or.inl ⟨by rfl, ?_⟩) hHeld ?_
        rotate_left
        · intro w hSw
          go_simp
          try with_reducible rfl
        try simp only [Act.put, List.setIfInBounds_toArray, List.set_cons_zero, List.set_cons_succ]
        refine wpAnyH_take (i := 7) (v := ?_) (by simp only [List.getElem?_toArray, List.getElem?_cons_zero, List.getElem?_cons_succ]; rfl) (by kernel_rfl) (by kernel_rfl) (by kernel_rfl) (fun _ _ _ h => h) (Or.inl ⟨by rfl, ?_⟩) hHeld ?_
        rotate_left
        · intro w hSw
          go_simp
          try with_reducible rfl
        try simp only [Act.put, List.setIfInBounds_toArray, List.set_cons_zero, List.set_cons_succ]
        refine wpAnyH_take (i := 8) (v := .agg (cellsB B).toArray) (by simp only [List.getElem?_toArray, List.getElem?_cons_zero, List.getElem?_cons_succ]; rfl) (by kernel_rfl) (by kernel_rfl) (by kernel_rfl) (fun _ _ _ h => h)
          (yieldsIf_load_mid (by rfl) _ _ rfl _ _ rfl _ _ (fun w hw => hw) hu42 rfl hi42) hHeld ?_
        try simp only [Act.put, List.setIfInBounds_toArray, List.set_cons_zero, List.set_cons_succ]
        refine wpAnyH_ready (rs := [4]) (by kernel_rfl) (by simp) ?_
        refine AllReadyH.cons (by simp only [List.getElem?_toArray, List.getElem?_cons_zero, List.getElem?_cons_succ]; rfl) (fun K hK => ?_) AllReadyH.nil
        rw [if_pos (by rfl)]
        refine wp_load_mid _ _ rfl _ _ rfl _ _ rH hu41 rfl hi41 ?_
        refine hK.out _ _ hHeld (fun hHeld => ?_)
        clear hK K
        try simp only [Act.put, List.setIfInBounds_toArray, List.set_cons_zero, List.set_cons_succ]
        refine wpAnyH_ready (rs := [9]) (by kernel_rfl) (by simp) ?_
        refine AllReadyH.cons (by simp only [List.getElem?_toArray, List.getElem?_cons_zero, List.getElem?_cons_succ]; rfl) (fun K hK => ?_) AllReadyH.nil
        rw [if_pos (by rfl)]
        go_simp
        refine (wafter_in g (L + M) h B _ HT.out.1 HT.out.2.2 HT.out.2.1).mono ?_
        rintro e w' ⟨h', rfl, h8', hE', hb8, rB8, rT8⟩
        go_wp2_with fail
        refine hK.out _ _ rB8 (fun hHeld => ?_)
        clear hK K
        try simp only [Act.put, List.setIfInBounds_toArray, List.set_cons_zero, List.set_cons_succ]
        refine wpAnyH_take (i := 10) (v := ?_) (by simp only [List.getElem?_toArray, List.getElem?_cons_zero, List.getElem?_cons_succ]; rfl) (by kernel_rfl) (by kernel_rfl) (by kernel_rfl) (fun _ _ _ h => h) (Or.inl ⟨by rfl, ?_⟩) hHeld ?_
        rotate_left
        · intro w hSw
          go_simp
          try with_reducible rfl
        try simp only [Act.put, List.setIfInBounds_toArray, List.set_cons_zero, List.set_cons_succ]
        refine wpAnyH_take (i := 11) (v := ?_) (by simp only [List.getElem?_toArray, List.getElem?_cons_zero, List.getElem?_cons_succ]; rfl) (by kernel_rfl) (by kernel_rfl) (by kernel_rfl) (fun _ _ _ h => h) (Or.inl ⟨by rfl, ?_⟩) hHeld ?_
        rotate_left
        · intro w hSw
          go_simp
          try with_reducible rfl
        try simp only [Act.put, List.setIfInBounds_toArray, List.set_cons_zero, List.set_cons_succ]
        refine wpAnyH_ready (rs := [12]) (by kernel_rfl) (by simp) ?_
        refine AllReadyH.cons (by simp only [List.getElem?_toArray, List.getElem?_cons_zero, List.getElem?_cons_succ]; rfl) (fun K hK => ?_) AllReadyH.nil
        rw [if_pos (by rfl)]
        refine wp_store_mid _ _ _ rfl _ _ (cellsW h').toArray rfl rfl (by rw [List.size_toArray, h8']; exact rT8) (by rw [List.size_toArray, h8']; exact Tryd.sizeState) (all_oneCell_toArray (cellsW_one _)) ?_
        refine hK.out _ _ (World.rangeAt_setCells_apart rB8 _ _ _ (.inr (.inr (by rw [h8']; exact Nat.le_refl _)))) (fun hHeld => ?_)
        clear hK K
        try simp only [Act.put, List.setIfInBounds_toArray, List.set_cons_zero, List.set_cons_succ]
        refine wpAnyH_done (by kernel_rfl) (NoPanic.normal ?_) _
        have hbw := below_of_drew hb8.out
        have HF : Hid (HAt (w'.setCells g 0 (cellsW h')) g h' B (L + M)) := HAt.words (HAt.below HHA.out hbw) (by rw [← cellsW_length]; exact h8')
        have hgF : wr.grownBy (w'.setCells g 0 (cellsW h')) (some g) := gr_trans hgw (gr_trans (gr_below hbw _) (gr_setCells _ _ _ _))
        have HTK : Hid (Took h' B (p ++ y)) := by
          obtain ⟨e1, e2, e3⟩ := HPR.out
          have := took_full (y := y) HK (by rw [e1, e3]; exact hfull)
          rw [e1, HBB.out] at this
          unfold Hid
          rw [hE'.out]
          exact this
        generalize w'.setCells g 0 (cellsW h') = wF at *
        clear rT8 rB8 hb8 hbw hE' h8' hgw
        go_wp2
        go_roundw
        case rel =>
          have := HN.out
          refine ⟨k + M, _, c' - M, by omega, by rw [show n - (k + M) = N - M by omega], by omega, HDD.out _ hgF, fun _ => HDN.out, ?_, gr_trans hg hgF⟩
          rw [HD.out]
          refine ⟨h', B, ?_, HTK.out⟩
          rw [List.length_append, HPR.out.2.1, HPR.out.2.2]
          exact HF.out
        case measure => simp only [lenS]; omega
      · have hz : ¬ ((L : Int) + (M : Int)).tmod 64 = 0 := by rw [htm]; omega
        clear htm hpr hlen hM hN hs ly
        go_wp2
        go_roundw
        case rel =>
          have := HN.out
          refine ⟨k + M, _, c' - M, by omega, by rw [show n - (k + M) = N - M by omega], by omega, HDD.out _ hgw, fun _ => HDN.out, ?_, gr_trans hg hgw⟩
          rw [HD.out]
          obtain ⟨e1, e2, e3⟩ := HPR.out
          have ht := took_part (y := y) HK (by rw [e1, e3]; omega)
          rw [e1] at ht
          refine ⟨h, blkPut blk r y, ?_, ht⟩
          rw [List.length_append, e2, e3]
          exact HHA.out
        case measure => simp only [lenS]; omega
    · obtain rfl : k = n := by omega
      have HH : Hid (Hasher wr g (l ++ x)) := by
        rw [List.take_of_length_le (by omega)] at H'
        exact H'
      clear H' R'
      rw [Nat.sub_self]
      go_wp2
      go_end0
      exact ⟨rfl, HH.out, hg⟩
end Go.Proofs.YtbpkhpkllokbhaaDoor
