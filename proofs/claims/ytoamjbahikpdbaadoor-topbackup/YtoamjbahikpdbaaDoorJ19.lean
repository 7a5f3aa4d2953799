/- Texts of this claim, joined: Wwrite, Wfinish, Wnew, Wsumh. -/
import Derived.Test.YtoamjbahikpdbaaDoorJ18
import Derived.Deep.RegionHeld3
import Derived.Deep.RegionLaw
/- The contract of Hasher.Write. -/
namespace Go.Proofs.YtoamjbahikpdbaaDoor
open Go.RowKit
set_option linter.unusedVariables false
set_option linter.unusedSimpArgs false
theorem Tryd.sizeW8 : (Tryd.prog.info? 5).map (·.size) = some 1 := by kernel_rfl
theorem Tryd.sizeBlock : (Tryd.prog.info? 99).map (·.size) = some 64 := by kernel_rfl
/-- How long a slice is. -/
def lenS : Value → Nat
  | .slice _ n _ => n
  | _ => 0

set_option maxRecDepth 100000 in
set_option maxHeartbeats 1000000 in
theorem wwrite_any (g : Nat) (l : List UInt8) (a : Option Addr) (n c : Nat) (x : List UInt8) (w : World) (G : Tab w) (H : Hasher w g l) (R : Row w a n x) (hc : n ≤ c) (hne : 0 < n → ∀ ad, a = some ad → ad.block ≠ g) (hG : g ≠ 0) (hn : l.length + n ≤ 9000000000000000000) :
    Calls Tryd.prog 59 #[.pointer (some ⟨g, 0, none⟩), .slice a n c] w fun e w' => e = .returned (.tuple #[]) ∧ Hasher w' g (l ++ x) ∧ w.grownBy w' (some g) := by
  go_enter Tryd.func59, Tryd.ntmps59
  go_wp2_with fail
  go_loopw [1] (fun v wr => ∃ k a' c', k ≤ n ∧ v = .slice a' (n - k) c' ∧ n - k ≤ c' ∧ Row wr a' (n - k) (x.drop k) ∧ (0 < n - k → ∀ ad, a' = some ad → ad.block ≠ g) ∧ Hasher wr g (l ++ x.take k) ∧ w.grownBy wr (some g)) (fun v _ => lenS v)
  case atStart => exact ⟨0, a, c, Nat.zero_le _, rfl, hc, R, hne, by simpa using H, World.grownBy.refl _ _⟩
  case round =>
    obtain ⟨k, a', c', hk, rfl, hc', R', hne', H', hg⟩ := hrel
    have hxl := R.1
    by_cases hlt : k < n
    · obtain ⟨ly, r0 | ⟨sb, so, rfl, hs⟩⟩ := R'
      · omega
      have hbne : sb ≠ g := hne' (by omega) _ rfl
      clear hne'
      obtain ⟨h, blk, HA, HK⟩ := H'
      have hlen : (l ++ x.take k).length = l.length + k := by simp; omega
      rw [hlen] at HA
      have hcnt := HA.2.2.1
      have hth := HA.2.2.2.1
      have HHA : Hid (HAt wr g h blk (l.length + k)) := HA
      clear HA
      generalize hP : l ++ x.take k = p at *
      have HP : Hid (l ++ x.take k = p) := hP
      clear hP
      generalize hL : l.length + k = L at *
      have HLn : Hid (l.length + k = L) := hL
      have hL1 : L ≤ 9000000000000000000 := by omega
      have hL2 : L + (n - k) ≤ 9000000000000000000 := by omega
      clear hL
      have hnk : n - k > 0 := by omega
      generalize hN : n - k = N at *
      have hr : L % 64 < 64 := Nat.mod_lt _ (by omega)
      have hmr : (L : Int).tmod 64 = ((L % 64 : Nat) : Int) := by rw [Int.tmod_eq_emod_of_nonneg (by omega)]; omega
      generalize hrr : L % 64 = r at *
      have HR : Hid (L % 64 = r) := hrr
      clear hrr
      have hr0 : (0 : Int) ≤ (r : Int) := by omega
      have hr1 : (r : Int) ≤ 64 := by omega
      have hr64 : ¬ 64 = r := by omega
      generalize hy : (x.drop k).take (Nat.min N (64 - r)) = y at *
      have hyl : y.length = Nat.min N (64 - r) := by rw [← hy, List.length_take, ly]; exact Nat.min_eq_left (Nat.min_le_left _ _)
      have hym : r + y.length ≤ 64 := by rw [hyl]; have : Nat.min N (64 - r) ≤ 64 - r := Nat.min_le_right _ _; omega
      have hyN : y.length ≤ N := by rw [hyl]; exact Nat.min_le_left _ _
      have hy0 : 0 < y.length := by
        rw [hyl]; exact Nat.lt_min.2 ⟨by omega, by omega⟩
      have HSRC : Hid (∀ j v, (cellsB y)[j]? = some v → wr.cell? ((⟨sb, so, none⟩ : Addr).add j) = some v) := by
        intro j v hj
        have hj' : j < y.length := by have := (List.getElem?_eq_some_iff.1 hj).1; rwa [cellsB_length] at this
        rw [Go.WideShapes.add_plain, hs j (by omega), ← hj, cellsB_at y j hj', ← hy]
        unfold nth
        rw [← hy] at hj'
        have hj2 : j < Nat.min N (64 - r) := by rw [List.length_take] at hj'; omega
        simp only [List.getD_eq_getElem?_getD, List.getElem?_take, if_pos hj2]
      have HTH : Hid (wr.there g (8 + r) (cellsB y).length) := by
        intro j hj
        rw [cellsB_length] at hj
        have := hth (8 + r + j) (by omega)
        rwa [Nat.zero_add] at this
      have HYL : Hid ((cellsB y).length = Nat.min N (64 - r)) := by unfold Hid; rw [cellsB_length, hyl]
      have HY : Hid ((x.drop k).take (Nat.min N (64 - r)) = y ∧ y.length = Nat.min N (64 - r)) := ⟨hy, hyl⟩
      clear hy hyl
      go_wp2_with fail
      go_region_held3 (fun w' => w'.cell? ⟨g, 72, none⟩ = some (.int .i64 (L : Int))) (first | go_keep | (rw [World.cell?_setCells_out _ _ _ _ _ (fun _ _ => Or.inr (by show 8 + r + (cellsB y).length ≤ 72; rw [cellsB_length]; omega))]; simpa using hcnt)) ((refine step_copy_cells (by rfl) (.tmp 16) (.tmp 17) 33 33 5 (by rfl) Tryd.underlying33 Tryd.sizeW8 g (8 + r) (64 - r) (64 - r) ⟨sb, so, none⟩ N c' (cellsB y) (by first | rfl | (simp only [hr64, if_false]; rfl)) (by rfl) HYL.out HSRC.out HTH.out (cellsB_one y) ?_))
      rw [cellsB_length]
      have HHA : Hid (HAt (wr.drew.setCells g (8 + r) (cellsB y)) g h (blkPut blk r y) L) := by
        have h1 : HAt wr.drew g h blk L := HHA.out
        exact h1.copy hym
      have hgw : wr.grownBy (wr.drew.setCells g (8 + r) (cellsB y)) (some g) := gr_trans (gr_drew wr _) (gr_setCells g _ _ _)
      clear HSRC HTH HYL hcnt hth hmr hr64
      generalize wr.drew.setCells g (8 + r) (cellsB y) = w1 at *
      have hct := HHA.out.2.2.1
      have hfz : w1.frozen? ⟨g, 72, none⟩ = false := by have := (HHA.out.2.2.2.1 72 (by omega)).2; rwa [Nat.zero_add] at this
      generalize hM : y.length = M at *
      have hM' : (M : Int) ≤ (N : Int) := by omega
      have hM0 : (0 : Int) ≤ (M : Int) := by omega
      have hNc : (N : Int) ≤ (c' : Int) := by omega
      have HHA : Hid (HAt (w1.setCell ⟨g, 72, none⟩ (.int .i64 ((L : Int) + (M : Int)))) g h (blkPut blk r y) (L + M)) := HAt.count HHA.out (L + M)
      have hgw : wr.grownBy (w1.setCell ⟨g, 72, none⟩ (.int .i64 ((L : Int) + (M : Int)))) (some g) := gr_trans hgw (gr_setCell _ _ _ _)
      have HD : Hid (l ++ x.take (k + M) = p ++ y) := by
        unfold Hid
        rw [← HP.out, List.append_assoc, List.take_add, HY.out.2, HY.out.1]
      obtain ⟨A0, hA0⟩ : ∃ A0, (if c' = M then (⟨sb, so, none⟩ : Addr) else ⟨sb, so + M, none⟩) = A0 := ⟨_, rfl⟩
      have hA1 : (if c' = M then some (⟨sb, so, none⟩ : Addr) else some ⟨sb, so + M, none⟩) = some A0 := by rw [← hA0]; split <;> rfl
      have HDD : Hid (∀ wF : World, wr.grownBy wF (some g) → Row wF (some A0) (n - (k + M)) (x.drop (k + M))) := by
        intro wF hgF
        rw [← hA1]
        rw [← List.drop_drop, show n - (k + M) = N - M by omega]
        exact row_rest hs ly hnk (by omega) hc' hgF hbne
      have HDN : Hid (∀ ad, some A0 = some ad → ad.block ≠ g) := by
        intro ad had
        cases had
        rw [← hA0]
        split <;> exact hbne
      have htm : ((L : Int) + (M : Int)).tmod 64 = (((L + M) % 64 : Nat) : Int) := by rw [Int.tmod_eq_emod_of_nonneg (by omega)]; omega
      have hpr : p.length % 64 = r := by rw [hlen]; exact HR.out
      have HPR : Hid (p.length % 64 = r ∧ p.length = L ∧ y.length = M) := ⟨hpr, hlen, hM⟩
      have HN : Hid (n - k = N) := hN
      have hrL : L % 64 = r := HR.out
      by_cases hfull : r + M = 64
      · have hz : ((L : Int) + (M : Int)).tmod 64 = 0 := by rw [htm]; omega
        clear htm hpr hlen hM hN hs ly
        go_wp2_with fail
        generalize w1.setCell ⟨g, 72, none⟩ (.int .i64 ((L : Int) + (M : Int))) = w2 at *
        generalize hBB : blkPut blk r y = B at *
        have HBB : Hid (blkPut blk r y = B) := hBB
        clear hBB
        have hu42 := Tryd.underlying99
        have hi42 : (Tryd.prog.info? 99).map (·.size) = some (cellsB B).length := by rw [Tryd.sizeBlock, cellsB_length, HHA.out.2.2.2.2.2]
        have hl42 : (cellsB B).length = 64 := by rw [cellsB_length, HHA.out.2.2.2.2.2]
        have ho42 := cellsB_one B
        have rB := HHA.out.2.1
        have rH := HHA.out.1
        have hu41 := Tryd.underlying114
        have hi41 : (Tryd.prog.info? 114).map (·.size) = some (cellsW h).length := by rw [Tryd.sizeState, cellsW_length, HHA.out.2.2.2.2.1]
        have HT : Hid (Tab w2.drew ∧ Fit h ∧ HAt w2.drew g h B (L + M)) := ⟨Tab.grown G (gr_trans (gr_trans hg hgw) (gr_drew w2 _)) hG, HK.words.2, HHA.out⟩
        refine wp_region_noPanic ?_
        refine wp_region_held_drew (S := fun w' => w'.rangeAt g 8 (cellsB B)) (by kernel_rfl) rB (fun hHeld => ?_)
        refine wpAnyH_take (i := 0) (v := ?_) (by simp only [List.getElem?_toArray, List.getElem?_cons_zero, List.getElem?_cons_succ]; rfl) (by kernel_rfl) (by kernel_rfl) (by kernel_rfl) (fun _ _ _ h => h) (Or.inl ⟨by rfl, ?_⟩) hHeld ?_
        rotate_left
        · intro w hSw
          go_simp
          try with_reducible rfl
        try simp only [Act.put, List.setIfInBounds_toArray, List.set_cons_zero, List.set_cons_succ]
        refine wpAnyH_take (i := 1) (v := ?_) (by simp only [List.getElem?_toArray, List.getElem?_cons_zero, List.getElem?_cons_succ]; rfl) (by kernel_rfl) (by kernel_rfl) (by kernel_rfl) (fun _ _ _ h => h) (Or.inl ⟨by rfl, ?_⟩) hHeld ?_
        rotate_left
        · intro w hSw
          go_simp
          try with_reducible rfl
        try simp only [Act.put, List.setIfInBounds_toArray, List.set_cons_zero, List.set_cons_succ]
        refine wpAnyH_take (i := 2) (v := ?_) (by simp only [List.getElem?_toArray, List.getElem?_cons_zero, List.getElem?_cons_succ]; rfl) (by kernel_rfl) (by kernel_rfl) (by kernel_rfl) (fun _ _ _ h => h) (Or.inl ⟨by rfl, ?_⟩) hHeld ?_
        rotate_left
        · intro w hSw
          go_simp
          try with_reducible rfl
        try simp only [Act.put, List.setIfInBounds_toArray, List.set_cons_zero, List.set_cons_succ]
        refine wpAnyH_take (i := 3) (v := ?_) (by simp only [List.getElem?_toArray, List.getElem?_cons_zero, List.getElem?_cons_succ]; rfl) (by kernel_rfl) (by kernel_rfl) (by kernel_rfl) (fun _ _ _ h => h) (Or.inl ⟨by rfl, ?_⟩) hHeld ?_
        rotate_left
        · intro w hSw
          go_simp
          try with_reducible rfl
        try simp only [Act.put, List.setIfInBounds_toArray, List.set_cons_zero, List.set_cons_succ]
        refine wpAnyH_take (i := 5) (v := ?_) (by simp only [List.getElem?_toArray, List.getElem?_cons_zero, List.getElem?_cons_succ]; rfl) (by kernel_rfl) (by kernel_rfl) (by kernel_rfl) (fun _ _ _ h => h) (Or.inl ⟨by rfl, ?_⟩) hHeld ?_
        rotate_left
        · intro w hSw
          go_simp
          try with_reducible rfl
        try simp only [Act.put, List.setIfInBounds_toArray, List.set_cons_zero, List.set_cons_succ]
        refine wpAnyH_take (i := 6) (v := ?_) (by simp only [List.getElem?_toArray, List.getElem?_cons_zero, List.getElem?_cons_succ]; rfl) (by kernel_rfl) (by kernel_rfl) (by kernel_rfl) (fun _ _ _ h => h) (Or.inl ⟨by rfl, ?_⟩) hHeld ?_
        rotate_left
        · intro w hSw
          go_simp
          try with_reducible rfl
        try simp only [Act.put, List.setIfInBounds_toArray, List.set_cons_zero, List.set_cons_succ]
        refine wpAnyH_take (i := 7) (v := ?_) (by simp only [List.getElem?_toArray, List.getElem?_cons_zero, List.getElem?_cons_succ]; rfl) (by kernel_rfl) (by kernel_rfl) (by kernel_rfl) (fun _ _ _ h => h) (Or.inl ⟨by rfl, ?_⟩) hHeld ?_
        rotate_left
        · intro w hSw
          go_simp
          try with_reducible rfl
        try simp only [Act.put, List.setIfInBounds_toArray, List.set_cons_zero, List.set_cons_succ]
        refine wpAnyH_take (i := 8) (v := .agg (cellsB B).toArray) (by simp only [List.getElem?_toArray, List.getElem?_cons_zero, List.getElem?_cons_succ]; rfl) (by kernel_rfl) (by kernel_rfl) (by kernel_rfl) (fun _ _ _ h => h)
          (yieldsIf_load_mid (by rfl) _ _ rfl _ _ rfl _ _ (fun w hw => hw) hu42 rfl hi42) hHeld ?_
        try simp only [Act.put, List.setIfInBounds_toArray, List.set_cons_zero, List.set_cons_succ]
        refine wpAnyH_ready (rs := [4]) (by kernel_rfl) (by simp) ?_
        refine AllReadyH.cons (by simp only [List.getElem?_toArray, List.getElem?_cons_zero, List.getElem?_cons_succ]; rfl) (fun K hK => ?_) AllReadyH.nil
        rw [if_pos (by rfl)]
        refine wp_load_mid _ _ rfl _ _ rfl _ _ rH hu41 rfl hi41 ?_
        refine hK.out _ _ hHeld (fun hHeld => ?_)
        clear hK K
        try simp only [Act.put, List.setIfInBounds_toArray, List.set_cons_zero, List.set_cons_succ]
        refine wpAnyH_ready (rs := [9]) (by kernel_rfl) (by simp) ?_
        refine AllReadyH.cons (by simp only [List.getElem?_toArray, List.getElem?_cons_zero, List.getElem?_cons_succ]; rfl) (fun K hK => ?_) AllReadyH.nil
        rw [if_pos (by rfl)]
        go_simp
        refine (wafter_in g (L + M) h B _ HT.out.1 HT.out.2.2 HT.out.2.1).mono ?_
        rintro e w' ⟨h', rfl, h8', hE', hb8, rB8, rT8⟩
        go_wp2_with fail
        refine hK.out _ _ rB8 (fun hHeld => ?_)
        clear hK K
        try simp only [Act.put, List.setIfInBounds_toArray, List.set_cons_zero, List.set_cons_succ]
        refine wpAnyH_take (i := 10) (v := ?_) (by simp only [List.getElem?_toArray, List.getElem?_cons_zero, List.getElem?_cons_succ]; rfl) (by kernel_rfl) (by kernel_rfl) (by kernel_rfl) (fun _ _ _ h => h) (Or.inl ⟨by rfl, ?_⟩) hHeld ?_
        rotate_left
        · intro w hSw
          go_simp
          try with_reducible rfl
        try simp only [Act.put, List.setIfInBounds_toArray, List.set_cons_zero, List.set_cons_succ]
        refine wpAnyH_take (i := 11) (v := ?_) (by simp only [List.getElem?_toArray, List.getElem?_cons_zero, List.getElem?_cons_succ]; rfl) (by kernel_rfl) (by kernel_rfl) (by kernel_rfl) (fun _ _ _ h => h) (Or.inl ⟨by rfl, ?_⟩) hHeld ?_
        rotate_left
        · intro w hSw
          go_simp
          try with_reducible rfl
        try simp only [Act.put, List.setIfInBounds_toArray, List.set_cons_zero, List.set_cons_succ]
        refine wpAnyH_ready (rs := [12]) (by kernel_rfl) (by simp) ?_
        refine AllReadyH.cons (by simp only [List.getElem?_toArray, List.getElem?_cons_zero, List.getElem?_cons_succ]; rfl) (fun K hK => ?_) AllReadyH.nil
        rw [if_pos (by rfl)]
        refine wp_store_mid _ _ _ rfl _ _ (cellsW h').toArray rfl rfl (by rw [List.size_toArray, h8']; exact rT8) (by rw [List.size_toArray, h8']; exact Tryd.sizeState) (all_oneCell_toArray (cellsW_one _)) ?_
        refine hK.out _ _ (World.rangeAt_setCells_apart rB8 _ _ _ (.inr (.inr (by rw [h8']; exact Nat.le_refl _)))) (fun hHeld => ?_)
        clear hK K
        try simp only [Act.put, List.setIfInBounds_toArray, List.set_cons_zero, List.set_cons_succ]
        refine wpAnyH_done (by kernel_rfl) (NoPanic.normal ?_) _
        have hbw := below_of_drew hb8.out
        have HF : Hid (HAt (w'.setCells g 0 (cellsW h')) g h' B (L + M)) := HAt.words (HAt.below HHA.out hbw) (by rw [← cellsW_length]; exact h8')
        have hgF : wr.grownBy (w'.setCells g 0 (cellsW h')) (some g) := gr_trans hgw (gr_trans (gr_below hbw _) (gr_setCells _ _ _ _))
        have HTK : Hid (Took h' B (p ++ y)) := by
          obtain ⟨e1, e2, e3⟩ := HPR.out
          have := took_full (y := y) HK (by rw [e1, e3]; exact hfull)
          rw [e1, HBB.out] at this
          unfold Hid
          rw [hE'.out]
          exact this
        generalize w'.setCells g 0 (cellsW h') = wF at *
        clear rT8 rB8 hb8 hbw hE' h8' hgw
        go_wp2
        go_roundw
        case rel =>
          have := HN.out
          refine ⟨k + M, _, c' - M, by omega, by rw [show n - (k + M) = N - M by omega], by omega, HDD.out _ hgF, fun _ => HDN.out, ?_, gr_trans hg hgF⟩
          rw [HD.out]
          refine ⟨h', B, ?_, HTK.out⟩
          rw [List.length_append, HPR.out.2.1, HPR.out.2.2]
          exact HF.out
        case measure => simp only [lenS]; omega
      · have hz : ¬ ((L : Int) + (M : Int)).tmod 64 = 0 := by rw [htm]; omega
        clear htm hpr hlen hM hN hs ly
        go_wp2
        go_roundw
        case rel =>
          have := HN.out
          refine ⟨k + M, _, c' - M, by omega, by rw [show n - (k + M) = N - M by omega], by omega, HDD.out _ hgw, fun _ => HDN.out, ?_, gr_trans hg hgw⟩
          rw [HD.out]
          obtain ⟨e1, e2, e3⟩ := HPR.out
          have ht := took_part (y := y) HK (by rw [e1, e3]; omega)
          rw [e1] at ht
          refine ⟨h, blkPut blk r y, ?_, ht⟩
          rw [List.length_append, e2, e3]
          exact HHA.out
        case measure => simp only [lenS]; omega
    · obtain rfl : k = n := by omega
      have HH : Hid (Hasher wr g (l ++ x)) := by
        rw [List.take_of_length_le (by omega)] at H'
        exact H'
      clear H' R'
      rw [Nat.sub_self]
      go_wp2
      go_end0
      exact ⟨rfl, HH.out, hg⟩
end Go.Proofs.YtoamjbahikpdbaaDoor
/- The contract of Hasher.finish: what stands behind the bytes. -/
namespace Go.Proofs.YtoamjbahikpdbaaDoor
open Go.RowKit
set_option linter.unusedVariables false
set_option linter.unusedSimpArgs false

/-- What stands behind n bytes: 128, zeros, eight bytes of their bits' number. -/
def endL (n : Nat) : List UInt8 := [128] ++ List.replicate ((119 - n % 64) % 64) 0 ++ putL (8 * n) 8
theorem endL_length (n : Nat) : (endL n).length = 1 + (119 - n % 64) % 64 + 8 := by simp [endL, putL_length]; omega
theorem padL_end (l : List UInt8) : padL l = l ++ endL l.length := by simp [padL, endL]
theorem endL_nth (n z : Nat) (hz : (119 - n % 64) % 64 = z) (q : Nat) (hq : q < 1 + z + 8) : nth (endL n) q = if q = 0 then 128 else if q < 1 + z then 0 else putB (8 * (n : Int)) 8 (q - (1 + z)) := by
  unfold endL
  rw [hz]
  by_cases h0 : q = 0
  · subst h0; rfl
  · rw [if_neg h0]
    obtain ⟨j, rfl⟩ : ∃ j, q = j + 1 := ⟨q - 1, by omega⟩
    have e1 : nth ([128] ++ List.replicate z 0 ++ putL (8 * (n : Int)) 8) (j + 1) = nth (List.replicate z 0 ++ putL (8 * (n : Int)) 8) j := by unfold nth; simp [List.getD_eq_getElem?_getD]
    rw [e1]
    by_cases h1 : j + 1 < 1 + z
    · rw [if_pos h1]
      unfold nth
      rw [List.getD_eq_getElem?_getD, List.getElem?_append_left (by simp; omega), List.getElem?_replicate, if_pos (by omega)]
      rfl
    · rw [if_neg h1, ← nth_putL _ _ _ (by omega)]
      unfold nth
      rw [List.getD_eq_getElem?_getD, List.getD_eq_getElem?_getD, List.getElem?_append_right (by simp; omega), List.length_replicate, show j + 1 - (1 + z) = j - z by omega]
theorem put_shr (n i e : Nat) (hi : i < 8) (h : e = 8 * (7 - i)) : (n : Int) * 8 / 2 ^ e % 256 = putB (8 * (n : Int)) 8 i := by
  unfold putB
  rw [h, Int.pow_mul, Int.mul_comm, show 8 - 1 - i = 7 - i by omega]
  rfl
/-- 72 bytes 0. -/
def z72 : List UInt8 := List.replicate 72 0
theorem z72_length : (cellsB z72).length = 72 := by rw [cellsB_length]; rfl
theorem Tryd.zero72 : (Tryd.prog.info? 121).map (·.zero) = some (some (.agg (cellsB z72).toArray)) := by kernel_rfl
theorem z72_cells : (cellsB z72) = (List.range 72).map fun _ => Value.int .u8 0 := by kernel_rfl

set_option maxRecDepth 100000 in
set_option maxHeartbeats 1000000 in
theorem wfinish_any (g : Nat) (l : List UInt8) (w : World) (G : Tab w) (H : Hasher w g l) (hG : g ≠ 0) (hn : l.length ≤ 1000000000000000000) :
    Calls Tryd.prog 65 #[.pointer (some ⟨g, 0, none⟩)] w fun e w' => e = .returned (.tuple #[]) ∧ Hasher w' g (padL l) ∧ w.grownBy w' (some g) := by
  have hgl := H.block
  have hct : w.cell? ⟨g, 72, none⟩ = some (.int .i64 ((l.length : Nat) : Int)) := by
    obtain ⟨h, blk, HA, HK⟩ := H
    exact HA.2.2.1
  obtain ⟨w1, hw1⟩ : ∃ w1, w.alloc (.cells (cellsB z72).toArray 121) = w1 := ⟨_, rfl⟩
  have hO : OwnK .u8 121 w1 w.heap.size w.heap.size 72 72 (fun _ => 0) := by
    rw [← hw1]
    exact OwnK.newAt w _ _ 72 (by omega) (fun _ => 0) _ rfl z72_cells
  have hB : Below w.heap.size w w1 := by rw [← hw1]; exact (Below.refl _ _).alloc (Nat.le_refl _) _
  have HH : Hid (Hasher w g l ∧ Tab w) := ⟨H, G⟩
  have hct1 := (hB.cell (p := ⟨g, 72, none⟩) hgl).trans hct
  clear H G
  have HL : Hid (padL l = l ++ endL l.length) := padL_end l
  have HLn : Hid (l.length = l.length) := rfl
  generalize hL : l.length = L at *
  have HLL : Hid (l.length = L) := hL
  clear hL HLn
  have c0 := hO.cell 0 (by omega)
  have z0 := hO.frozen 0
  have HO : Hid (OwnK .u8 121 w1 w.heap.size w.heap.size 72 72 (fun _ => 0)) := hO
  have HB : Hid (Below w.heap.size w w1) := hB
  clear hO hB
  go_enter Tryd.func65, Tryd.ntmps65
  go_wp2_with (refine wpList_allocE (by rfl) 121 (by rfl) (cellsB z72).toArray Tryd.zero72 w.heap.size rfl w1 hw1 ?_)
  obtain ⟨z, hz⟩ : ∃ z, (119 - L % 64) % 64 = z := ⟨_, rfl⟩
  have HZ : Hid ((119 - L % 64) % 64 = z) := hz
  have hz64 : z < 64 := by omega
  clear hz
  have HO : Hid (OwnK .u8 121 (w1.setCell ⟨w.heap.size, 0, none⟩ (.int .u8 128)) w.heap.size w.heap.size 72 72 (fun q => if q = 0 then 128 else 0)) := OwnK.store HO.out 0 128
  have HB : Hid (Below w.heap.size w (w1.setCell ⟨w.heap.size, 0, none⟩ (.int .u8 128))) := Below.setCell HB.out (Nat.le_refl _) _
  have hct2 : (w1.setCell ⟨w.heap.size, 0, none⟩ (.int .u8 128)).cell? ⟨g, 72, none⟩ = some (.int .i64 (L : Int)) := (Below.cell HB.out (p := ⟨g, 72, none⟩) hgl).trans hct
  clear c0 z0 hw1
  generalize w1.setCell ⟨w.heap.size, 0, none⟩ (.int .u8 128) = w2 at *
  clear hct1 hct
  go_loopw [4] (fun v wr => ∃ n : Nat, 1 ≤ n ∧ n ≤ 1 + z ∧ v = .int .i64 (n : Int) ∧ Hid (wr = w2)) (fun v _ => 100 - (intOf v).toNat)
  case atStart => exact ⟨1, by omega, by omega, rfl, rfl⟩
  case round =>
    obtain ⟨n, hn1, hnz, rfl, HW⟩ := hrel
    obtain rfl : wr = w2 := HW.out
    clear HW
    have htm : ((L : Int) + (n : Int) + 8).tmod 64 = (((L + n + 8) % 64 : Nat) : Int) := by rw [Int.tmod_eq_emod_of_nonneg (by omega)]; omega
    have hzz := HZ.out
    by_cases hend : n = 1 + z
    · have hz : ((L : Int) + (n : Int) + 8).tmod 64 = 0 := by rw [htm]; omega
      clear htm hzz
      have HNZ : Hid (n = 1 + z) := hend
      have hn64 : n ≤ 64 := by omega
      clear hend
      go_wp2_with fail
      go_loopw [24] (fun i wx => ∃ t : Nat, t ≤ 8 ∧ i = .int .i64 (t : Int) ∧ OwnK .u8 121 wx w.heap.size w.heap.size 72 72 (fun q => if q = 0 then 128 else if q < n then 0 else if q < n + t then putB (8 * (L : Int)) 8 (q - n) else 0) ∧ Below w.heap.size w wx) (fun i _ => 8 - (intOf i).toNat)
      case atStart =>
        refine ⟨0, Nat.zero_le _, rfl, OwnK.congr HO.out fun q hq => ?_, HB.out⟩
        by_cases h0 : q = 0
        · rw [if_pos h0, if_pos h0]
        · rw [if_neg h0, if_neg h0]
          by_cases h1 : q < n
          · rw [if_pos h1]
          · rw [if_neg h1, if_neg (by omega)]
      case round =>
        clear hct2 HO HB hz
        obtain ⟨t, ht, rfl, hO, hB⟩ := hrel
        by_cases hlt : t < 8
        · have c0 := hO.cell (n + t) (by omega)
          have z0 := hO.frozen (n + t)
          have HO : Hid (OwnK .u8 121 wr w.heap.size w.heap.size 72 72 (fun q => if q = 0 then 128 else if q < n then 0 else if q < n + t then putB (8 * (L : Int)) 8 (q - n) else 0)) := hO
          clear hO
          rw [if_neg (by omega), if_neg (by omega), if_neg (by omega)] at c0
          go_wp2
          go_roundw
          case rel =>
            refine ⟨t + 1, by omega, by go_num, (OwnK.store HO.out (n + t) _).congr fun q hq => ?_, Below.setCell hB (Nat.le_refl _) _⟩
            by_cases hqt : q = n + t
            · subst hqt
              rw [if_pos rfl, if_neg (by omega), if_neg (by omega), if_pos (by omega), Nat.add_sub_cancel_left]
              exact put_shr L t _ hlt rfl
            · rw [if_neg hqt]
              by_cases h0 : q = 0
              · rw [if_pos h0, if_pos h0]
              · rw [if_neg h0, if_neg h0]
                by_cases h1 : q < n
                · rw [if_pos h1, if_pos h1]
                · rw [if_neg h1, if_neg h1]
                  by_cases h2 : q < n + t
                  · rw [if_pos h2, if_pos (by omega)]
                  · rw [if_neg h2, if_neg (by omega)]
          case measure => simp [intOf]; omega
        · obtain rfl : t = 8 := by omega
          have HR : Hid (Row wr (some ⟨w.heap.size, 0, none⟩) (n + 8) (endL L)) := by
            have hlen : (endL L).length = n + 8 := by rw [endL_length, HZ.out, HNZ.out]
            refine ⟨hlen, .inr ⟨w.heap.size, 0, rfl, fun i hi => ?_⟩⟩
            rw [Nat.zero_add, hO.cell i (by omega), endL_nth L z HZ.out i (by have := HNZ.out; omega), ← HNZ.out]
            by_cases h0 : i = 0
            · rw [if_pos h0, if_pos h0]
            · rw [if_neg h0, if_neg h0]
              by_cases h1 : i < n
              · rw [if_pos h1, if_pos h1]
              · rw [if_neg h1, if_neg h1, if_pos hi]
          have hB' : Hid (Below w.heap.size w wr) := hB
          clear hO hB
          have hs1 : (0 : Int) ≤ (n : Int) + 8 := by omega
          have hs2 : (n : Int) + 8 ≤ 72 := by omega
          go_wp2_with fail
          refine (wwrite_any g l _ _ 72 (endL L) wr (HH.out.2.below hB'.out) (HH.out.1.below hB'.out) HR.out (by omega) (fun _ ad h => by cases h; show w.heap.size ≠ g; omega) hG (by have := HLL.out; omega)).mono ?_
          rintro e w5 ⟨rfl, H5, hg5⟩
          have H5 : Hid (Hasher w5 g (padL l)) := by
            unfold Hid
            rw [HL.out]
            exact H5
          have hg6 := gr_trans (gr_below hB'.out (some g)) hg5
          go_wp2
          go_end0
          exact ⟨rfl, H5.out, hg6⟩
    · have hz : ¬ ((L : Int) + (n : Int) + 8).tmod 64 = 0 := by rw [htm]; omega
      have hz' : ¬ ((L : Int) + (n : Int) + 8) % 64 = 0 := by omega
      clear htm hzz
      go_wp2
      go_roundw
      case rel => exact ⟨n + 1, by omega, by omega, by go_num, by first | exact True.intro | exact rfl⟩
      case measure => simp [intOf]; omega
end Go.Proofs.YtoamjbahikpdbaaDoor
/- The contract of sha.New: a Hasher that has taken nothing. -/
namespace Go.Proofs.YtoamjbahikpdbaaDoor
open Go.RowKit
set_option linter.unusedVariables false
set_option linter.unusedSimpArgs false

/-- What a new Hasher holds. -/
def newCells : List Value := cellsW hW ++ cellsB (List.replicate 64 0) ++ [.int .i64 0]
theorem hasher_new (w : World) (t : TypeId) : Hasher (w.alloc (.cells newCells.toArray t)) w.heap.size [] := by
  have hr := box_range w newCells t
  have hlw : (cellsW hW).length = 8 := rfl
  have hlb : (cellsB (List.replicate 64 0)).length = 64 := by rw [cellsB_length]; simp
  refine ⟨hW, List.replicate 64 0, ⟨?_, ?_, ?_, ?_, rfl, by simp⟩, took_new⟩
  · intro j v hj
    refine hr j v ?_
    have := (List.getElem?_eq_some_iff.1 hj).1
    unfold newCells
    rw [List.append_assoc, List.getElem?_append_left this]
    exact hj
  · intro j v hj
    have := (List.getElem?_eq_some_iff.1 hj).1
    have h2 := hr (8 + j) v (by
      unfold newCells
      rw [List.append_assoc, List.getElem?_append_right (by omega), hlw, Nat.add_sub_cancel_left, List.getElem?_append_left this]
      exact hj)
    rwa [Nat.zero_add] at h2
  · have h2 := hr 72 (.int .i64 0) (by
      unfold newCells
      rw [List.getElem?_append_right (by rw [List.length_append, hlw, hlb]; exact Nat.le_refl _), List.length_append, hlw, hlb]
      rfl)
    rwa [Nat.zero_add] at h2
  · refine alloc_there w _ t 73 ?_
    show 73 ≤ newCells.length
    unfold newCells
    rw [List.length_append, List.length_append, hlw, hlb]
    exact Nat.le_refl _

set_option maxRecDepth 100000 in
set_option maxHeartbeats 400000 in
theorem wnew_any (w : World) :
    Calls Tryd.prog 58 #[] w fun e w' => e = .returned (.pointer (some ⟨w.heap.size, 0, none⟩)) ∧ Hasher w' w.heap.size [] ∧ Below w.heap.size w w' := by
  go_enter Tryd.func58, Tryd.ntmps58
  go_wp2_with (first
    | (refine wpList_buildC (by rfl) 114 _ (by rfl) (cellsW hW).toArray (by kernel_rfl) ?_)
    | (refine wpList_buildC (by rfl) 116 _ (by rfl) newCells.toArray (by kernel_rfl) ?_))
  go_ret
  exact ⟨rfl, hasher_new w _, (Below.refl _ _).alloc (Nat.le_refl _) _⟩
end Go.Proofs.YtoamjbahikpdbaaDoor
/- The contract of Hasher.Sum: the digest of all that was taken. -/
namespace Go.Proofs.YtoamjbahikpdbaaDoor
open Go.RowKit
set_option linter.unusedVariables false
set_option linter.unusedSimpArgs false

/-- A Hasher's cells. -/
def hcells (h : List Nat) (blk : List UInt8) (n : Nat) : List Value := cellsW h ++ cellsB blk ++ [.int .i64 (n : Int)]
theorem hcells_length {h : List Nat} {blk : List UInt8} (n : Nat) (h8 : h.length = 8) (h64 : blk.length = 64) : (hcells h blk n).length = 73 := by
  unfold hcells
  rw [List.length_append, List.length_append, cellsW_length, cellsB_length, h8, h64]
  rfl
theorem hcells_one (h : List Nat) (blk : List UInt8) (n : Nat) : ∀ v ∈ hcells h blk n, v.oneCell' = true := by
  intro v hv
  unfold hcells at hv
  rcases List.mem_append.1 hv with h1 | h1
  · rcases List.mem_append.1 h1 with h1 | h1
    · exact cellsW_one _ _ h1
    · exact cellsB_one _ _ h1
  · rw [List.mem_singleton.1 h1]; rfl
theorem HAt.range {w : World} {g n : Nat} {h : List Nat} {blk : List UInt8} (H : HAt w g h blk n) : w.rangeAt g 0 (hcells h blk n) := by
  obtain ⟨h1, h2, h3, h4, h5, h6⟩ := H
  intro j v hj
  unfold hcells at hj
  rw [Nat.zero_add]
  have lw := cellsW_length h
  have lb := cellsB_length blk
  by_cases c1 : j < 8
  · rw [List.append_assoc, List.getElem?_append_left (by omega)] at hj
    have := h1 j v hj
    rwa [Nat.zero_add] at this
  · by_cases c2 : j < 72
    · rw [List.append_assoc, List.getElem?_append_right (by omega), List.getElem?_append_left (by omega)] at hj
      have := h2 (j - (cellsW h).length) v hj
      rwa [show 8 + (j - (cellsW h).length) = j by omega] at this
    · rw [List.getElem?_append_right (by rw [List.length_append]; omega)] at hj
      have hlt := (List.getElem?_eq_some_iff.1 hj).1
      rw [List.length_append, lw, lb] at hlt hj
      simp only [List.length_singleton] at hlt
      have hj2 : j = 72 := by omega
      subst hj2
      rw [h5, h6] at hj
      have : Value.int .i64 (n : Int) = v := Option.some.inj hj
      rw [← this]
      exact h3
theorem hat_of_range {w : World} {g n : Nat} {h : List Nat} {blk : List UInt8} (h8 : h.length = 8) (h64 : blk.length = 64) (hr : w.rangeAt g 0 (hcells h blk n)) (ht : w.there g 0 73) : HAt w g h blk n := by
  have lw := cellsW_length h
  have lb := cellsB_length blk
  refine ⟨?_, ?_, ?_, ht, h8, h64⟩
  · intro j v hj
    refine hr j v ?_
    have := (List.getElem?_eq_some_iff.1 hj).1
    unfold hcells
    rw [List.append_assoc, List.getElem?_append_left this]
    exact hj
  · intro j v hj
    have := (List.getElem?_eq_some_iff.1 hj).1
    have h2 := hr (8 + j) v (by
      unfold hcells
      rw [List.append_assoc, List.getElem?_append_right (by omega), lw, h8, Nat.add_sub_cancel_left, List.getElem?_append_left this]
      exact hj)
    rwa [Nat.zero_add] at h2
  · have h2 := hr 72 (.int .i64 (n : Int)) (by
      unfold hcells
      rw [List.getElem?_append_right (by rw [List.length_append]; omega), List.length_append, lw, lb, h8, h64]
      rfl)
    rwa [Nat.zero_add] at h2
/-- A new variable for a Hasher. -/
def zH : List Value := cellsW (List.replicate 8 0) ++ cellsB (List.replicate 64 0) ++ [.int .i64 0]
theorem zH_length : zH.toArray.size = 73 := by
  show zH.length = 73
  unfold zH
  rw [List.length_append, List.length_append, cellsW_length, cellsB_length, List.length_replicate, List.length_replicate]
  rfl
theorem Tryd.zeroHasher : (Tryd.prog.info? 116).map (·.zero) = some (some (.agg zH.toArray)) := by kernel_rfl
theorem Tryd.sizeHasher : (Tryd.prog.info? 116).map (·.size) = some 73 := by kernel_rfl
/-- A new variable for a digest. -/
def z32 : List UInt8 := List.replicate 32 0
theorem z32_size : (cellsB z32).toArray.size = 32 := by rw [cellsB_size]; rfl
theorem Tryd.zeroDigest : (Tryd.prog.info? 23).map (·.zero) = some (some (.agg (cellsB z32).toArray)) := by kernel_rfl
theorem Tryd.sizeDigest : (Tryd.prog.info? 23).map (·.size) = some 32 := by kernel_rfl
theorem padL_mod (l : List UInt8) : (padL l).length % 64 = 0 := by
  rw [padL_end, List.length_append, endL_length]
  omega

set_option maxRecDepth 100000 in
set_option maxHeartbeats 1000000 in
theorem wsumh_any (g : Nat) (l : List UInt8) (w : World) (G : Tab w) (H : Hasher w g l) (hn : l.length ≤ 1000000000000000000) :
    Calls Tryd.prog 60 #[.pointer (some ⟨g, 0, none⟩)] w fun e w' => e = .returned (digestV (shaL l)) ∧ Below w.heap.size w w' := by
  have hgl := H.block
  have h0 : 0 < w.heap.size := cell_block (G 0 (by omega))
  obtain ⟨h, blk, HA, HK⟩ := H
  have hlw := HA.2.2.2.2.1
  have hlb := HA.2.2.2.2.2
  have HRN : Hid (w.rangeAt g 0 (hcells h blk l.length)) := HA.range
  have hlen := hcells_length l.length hlw hlb
  have hone := hcells_one h blk l.length
  have HHK : Hid (Took h blk l) := HK
  have HG : Hid (Tab w) := G
  clear HA HK G
  generalize hC : hcells h blk l.length = C at *
  have HC : Hid (hcells h blk l.length = C) := hC
  clear hC
  obtain ⟨w1, hw1⟩ : ∃ w1, w.alloc (.cells (cellsB z32).toArray 23) = w1 := ⟨_, rfl⟩
  obtain ⟨w2, hw2⟩ : ∃ w2, w1.alloc (.cells zH.toArray 116) = w2 := ⟨_, rfl⟩
  have hs1 : w1.heap.size = w.heap.size + 1 := by rw [← hw1]; simp
  have hr1 : Hid (w1.rangeAt g 0 C) := by rw [← hw1]; exact World.rangeAt_alloc HRN.out _
  have hb1 : Below w.heap.size w w1 := by rw [← hw1]; exact (Below.refl _ _).alloc (Nat.le_refl _) _
  have ht1 : w1.there w.heap.size 0 32 := by rw [← hw1]; exact alloc_thereAt _ _ _ 32 _ rfl z32_size.symm
  have hb2 : Below w1.heap.size w1 w2 := by rw [← hw2]; exact (Below.refl _ _).alloc (Nat.le_refl _) _
  have ht2 : Hid (w2.there (w.heap.size + 1) 0 73) := by rw [← hw2]; exact alloc_thereAt _ _ _ 73 _ hs1 zH_length.symm
  have HB2 : Hid (Below w.heap.size w w2 ∧ w2.there w.heap.size 0 32 ∧ w2.heap.size = w.heap.size + 1 + 1) := ⟨below_trans hb1 hb2, there_below ht1 hb2 (by omega), by rw [← hw2]; simp [hs1]⟩
  clear hb1 ht1 hb2
  have HC1 : Hid (w2.there (w.heap.size + 1) 0 C.toArray.size) := by
    have : C.toArray.size = 73 := hlen
    unfold Hid
    rw [this]
    exact ht2.out
  have HC2 : Hid ((Tryd.prog.info? 116).map (·.size) = some C.toArray.size) := by
    have : C.toArray.size = 73 := hlen
    unfold Hid
    rw [this]
    exact Tryd.sizeHasher
  have HC3 : Hid (C.toArray.all (·.oneCell') = true) := all_oneCell_toArray hone
  clear hone
  go_enter Tryd.func60, Tryd.ntmps60
  go_wp2_with (first
    | (refine wpList_allocE (by rfl) 23 (by rfl) (cellsB z32).toArray Tryd.zeroDigest w.heap.size rfl w1 hw1 ?_)
    | (refine wpList_load_mid (by rfl) 116 (.tmp 5) (by rfl) g 0 (by rfl) C _ hr1.out Tryd.underlying116 (by rfl) (by rw [hlen]; exact Tryd.sizeHasher) ?_)
    | (refine wpList_allocE (by rfl) 116 (by rfl) zH.toArray Tryd.zeroHasher (w.heap.size + 1) hs1 w2 hw2 ?_)
    | (refine wpList_store_mid (by rfl) 116 (.tmp 3) (.tmp 6) (by rfl) (w.heap.size + 1) 0 C.toArray (by rfl) (by rfl) HC1.out HC2.out HC3.out ?_))
  have H3 : Hid (Hasher (w2.setCells (w.heap.size + 1) 0 C) (w.heap.size + 1) l) := by
    refine ⟨h, blk, hat_of_range hlw hlb ?_ (World.there_setCells ht2.out _ _ _), HHK.out⟩
    rw [HC.out]
    exact World.rangeAt_setCells_same _ _ _ _ (by rw [hlen]; exact ht2.out)
  have HB3 : Hid (Below w.heap.size w (w2.setCells (w.heap.size + 1) 0 C) ∧ (w2.setCells (w.heap.size + 1) 0 C).there w.heap.size 0 32 ∧ w.heap.size + 1 < (w2.setCells (w.heap.size + 1) 0 C).heap.size) :=
    ⟨below_setCells _ (by omega) _ _ _ HB2.out.1, World.there_setCells HB2.out.2.1 _ _ _, by have := (gr_setCells (w.heap.size + 1) C 0 w2).size; have := HB2.out.2.2; omega⟩
  clear hr1 ht2 HB2 HC1 HC2 HC3 HRN hw1 hw2 hs1 HHK HC hlen
  generalize w2.setCells (w.heap.size + 1) 0 C = w3 at *
  refine (wfinish_any (w.heap.size + 1) l w3 (HG.out.below HB3.out.1) H3.out (by omega) hn).mono ?_
  rintro e w4 ⟨rfl, H4, hg4⟩
  have HB4 : Hid (Below w.heap.size w w4) := below_gr HB3.out.1 hg4 (by have := HB3.out.2.2; omega) (by omega)
  have HT4 : Hid (w4.there w.heap.size 0 32) := by
    have hk := hg4.block w.heap.size (by have := HB3.out.2.2; omega) (by intro e; have := Option.some.inj e; omega)
    intro j hj
    rw [World.cell?_of_block (w := w3) (a := ⟨w.heap.size, 0 + j, none⟩) hk, World.frozen?_of_block (w := w3) (a := ⟨w.heap.size, 0 + j, none⟩) hk]
    exact HB3.out.2.1 j hj
  have hs4 : w.heap.size < w4.heap.size := by have := hg4.size; have := HB3.out.2.2; omega
  obtain ⟨h', blk', HA', HK'⟩ := H4
  obtain ⟨h8', hf'⟩ := HK'.words
  have HE : Hid (shaL l = outL h') := by
    unfold Hid shaL
    rw [HK'.1]
  have HR4 : Hid (w4.rangeAt (w.heap.size + 1) 0 (cellsW h')) := HA'.1
  have HF : Hid (Fit h') := hf'
  clear HA' HK' H3 HB3 hg4 hf'
  go_wp2_with (refine wpList_load_mid (by rfl) 114 (.tmp 8) (by rfl) (w.heap.size + 1) 0 (by rfl) (cellsW h') _ HR4.out Tryd.underlying114 (by rfl) (by rw [cellsW_length, h8']; exact Tryd.sizeState) ?_)
  refine (wdigest_any h' w4 h8' HF.out).mono ?_
  rintro e w5 ⟨rfl, hb5⟩
  have HB5 : Hid (Below w.heap.size w w5) := below_trans HB4.out hb5
  have HT5 : Hid (w5.there w.heap.size 0 32) := there_below HT4.out hb5 hs4
  have hlen := outL_length h'
  rw [← HE.out] at hlen ⊢
  clear hb5 HB4 HT4 HR4 HF HE
  generalize hD : shaL l = D at *
  have HD : Hid (shaL l = D) := hD
  clear hD
  go_wp2_with (refine wpList_store_mid (by rfl) 23 (.tmp 2) (.tmp 10) (by rfl) w.heap.size 0 (cellsB D).toArray (by rfl) (by rfl) (by rw [cellsB_size, hlen]; exact HT5.out) (by rw [cellsB_size, hlen]; exact Tryd.sizeDigest) (all_oneCell_toArray (cellsB_one _)) ?_)
  refine bodyPost_ret (v := digestV D) (run_results_row Tryd.results60 _ _ w.heap.size 0 (by rfl) (cellsB D) (World.rangeAt_setCells_same _ _ _ _ (by rw [cellsB_length, hlen]; exact HT5.out)) _ Tryd.underlying23 (by rfl) (by rw [cellsB_length, hlen]; exact Tryd.sizeDigest)) rfl ⟨by rw [HD.out], ?_⟩
  exact below_setCells _ (Nat.le_refl _) _ _ _ HB5.out
end Go.Proofs.YtoamjbahikpdbaaDoor
