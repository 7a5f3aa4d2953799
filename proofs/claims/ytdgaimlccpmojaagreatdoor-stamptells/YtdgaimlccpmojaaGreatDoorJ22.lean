/- Texts of this claim, joined: Wfold, Wstampr, Wstamp. -/
import Derived.Test.YtdgaimlccpmojaaGreatDoorJ19
import Derived.Test.YtdgaimlccpmojaaGreatDoorJ20
import Derived.Test.YtdgaimlccpmojaaGreatDoorYPairs
import Derived.Test.YtdgaimlccpmojaaGreatDoorJ21
import Derived.Deep.DeepCutAuto
import Derived.Deep.RegionHeld3
/- The contracts of tree.depth, tree.fold and tree.Fold. -/
namespace Go.Proofs.YtdgaimlccpmojaaGreatDoor
open Go.RowKit
set_option linter.unusedVariables false
set_option linter.unusedSimpArgs false

set_option maxRecDepth 100000 in
set_option maxHeartbeats 1000000 in
theorem wdepth_any : ∀ (n i : Nat) (w : World), 1 ≤ n → n ≤ 256 → i < n →
    Calls Tryz.prog 53 #[.int .i64 (i : Int), .int .i64 (n : Int)] w fun e w' => e = .returned (.int .i64 (longT i n : Int)) ∧ w' = w := by
  intro n
  induction n using Nat.strongRecOn with
  | ind n ih =>
    intro i w h1 hn hi
    have HI : Hid (∀ m, m < n → ∀ (i : Nat) (w : World), 1 ≤ m → m ≤ 256 → i < m → Calls Tryz.prog 53 #[.int .i64 (i : Int), .int .i64 (m : Int)] w fun e w' => e = .returned (.int .i64 (longT i m : Int)) ∧ w' = w) := ih
    clear ih
    go_enter Tryz.func53, Tryz.ntmps53
    by_cases h2 : 2 ≤ n
    · have e1 : ((n : Int) == 1) = false := by simp; omega
      go_wp2_with fail
      refine (wsplit_any n w h2 hn).mono ?_
      rintro e w' ⟨rfl, rfl⟩
      have hk1 := halfT_lt h2
      have hk2 := halfT_pos n
      by_cases c : i < halfT n
      · have HL : Hid (longT i n = 1 + longT i (halfT n)) := longT_lo h2 c
        have hlb := longT_le (halfT n) i
        have HC : Hid (Calls Tryz.prog 53 #[.int .i64 (i : Int), .int .i64 (halfT n : Int)] w' fun e w'' => e = .returned (.int .i64 (longT i (halfT n) : Int)) ∧ w'' = w') := HI.out (halfT n) hk1 i w' (by omega) (by omega) c
        generalize halfT n = k at *
        have g1 : (i : Int) < (k : Int) := by omega
        go_wp2_with fail
        refine HC.out.mono ?_
        rintro e w3 ⟨rfl, rfl⟩
        generalize longT i k = y at *
        go_wp2_with fail
        go_ret
        refine ⟨ret_int ?_, rfl⟩
        rw [HL.out]
        omega
      · have HL : Hid (longT i n = 1 + longT (i - halfT n) (n - halfT n)) := longT_hi h2 c
        have hlb := longT_le (n - halfT n) (i - halfT n)
        have HC : Hid (Calls Tryz.prog 53 #[.int .i64 ((i - halfT n : Nat) : Int), .int .i64 ((n - halfT n : Nat) : Int)] w' fun e w'' => e = .returned (.int .i64 (longT (i - halfT n) (n - halfT n) : Int)) ∧ w'' = w') := HI.out (n - halfT n) (by omega) (i - halfT n) w' (by omega) (by omega) (by omega)
        generalize halfT n = k at *
        have g1 : ¬ (i : Int) < (k : Int) := by omega
        have s1 : (i : Int) - (k : Int) = ((i - k : Nat) : Int) := by omega
        have s2 : (n : Int) - (k : Int) = ((n - k : Nat) : Int) := by omega
        have b1 : i - k ≤ 256 := by omega
        have b2 : n - k ≤ 256 := by omega
        generalize longT (i - k) (n - k) = y at *
        generalize i - k = i' at *
        generalize n - k = n' at *
        go_wp2_with fail
        refine HC.out.mono ?_
        rintro e w3 ⟨rfl, rfl⟩
        go_wp2_with fail
        go_ret
        refine ⟨ret_int ?_, rfl⟩
        rw [HL.out]
        omega
    · obtain rfl : n = 1 := by omega
      have HL : Hid (longT i 1 = 0) := longT_one h2
      go_wp2_with fail
      go_ret
      refine ⟨ret_int ?_, rfl⟩
      rw [HL.out]
      rfl

set_option maxRecDepth 100000 in
set_option maxHeartbeats 1000000 in
theorem wfold_any : ∀ (n : Nat), ∀ (l : List UInt8) (i p c : Nat) (a : Option Addr) (path : List (List UInt8)) (w : World), l.length = 32 → Env w → DRow w a p path → p = longT i n → p ≤ c → 1 ≤ n → n ≤ 256 → i < n →
    Calls Tryz.prog 54 #[digestV l, .int .i64 (i : Int), .int .i64 (n : Int), .slice a p c] w fun e w' => e = .returned (digestV (foldT l i n path)) ∧ Below w.heap.size w w' := by
  intro n
  induction n using Nat.strongRecOn with
  | ind n ih =>
    intro l i p c a path w hl G R hp hc h1 hn hi
    have HI : Hid (∀ m, m < n → ∀ (l : List UInt8) (i p c : Nat) (a : Option Addr) (path : List (List UInt8)) (w : World), l.length = 32 → Env w → DRow w a p path → p = longT i m → p ≤ c → 1 ≤ m → m ≤ 256 → i < m → Calls Tryz.prog 54 #[digestV l, .int .i64 (i : Int), .int .i64 (m : Int), .slice a p c] w fun e w' => e = .returned (digestV (foldT l i m path)) ∧ Below w.heap.size w w') := ih
    clear ih
    obtain ⟨w2, hw2⟩ : ∃ w2, (w.alloc (.cells (cellsB l).toArray 23)).alloc (.cells (cellsB zD).toArray 23) = w2 := ⟨_, rfl⟩
    have hs1 : (w.alloc (.cells (cellsB l).toArray 23)).heap.size = w.heap.size + 1 := by simp
    have HS2 : Hid (w2.heap.size = w.heap.size + 1 + 1) := by unfold Hid; rw [← hw2]; simp
    have HB2 : Hid (Below w.heap.size w w2) := by rw [← hw2]; exact ((Below.refl _ _).alloc (Nat.le_refl _) _).alloc (by simp) _
    have HL2 : Hid (DAt w2 w.heap.size 0 l) := by rw [← hw2]; exact World.rangeAt_alloc (box_dat w l _) _
    have HT2 : Hid (w2.there (w.heap.size + 1) 0 32) := by rw [← hw2]; exact alloc_thereAt _ _ _ 32 _ hs1 zD_size.symm
    have HKT : Hid (∀ wx, Below w2.heap.size w2 wx → wx.rangeAt w.heap.size 0 (cellsB l) ∧ DRow wx a p path ∧ wx.there (w.heap.size + 1) 0 32 ∧ Below w.heap.size w wx) := fun wx hx => by
      have s := HS2.out
      have b : Below w.heap.size w wx := HB2.out.trans (hx.mono (by omega))
      exact ⟨HL2.out.below hx (by omega), R.below b, there_below HT2.out hx (by omega), b⟩
    have HGE : Hid (∀ wx, Below w.heap.size w wx → Env wx) := fun wx hx => G.below hx
    have HPL : Hid (path.length = p) := R.1
    have HP32 : Hid (∀ j, j < p → (path.getD j []).length = 32) := R.len
    have HP : Hid (p = longT i n) := hp
    clear R hp G
    go_enter Tryz.func54, Tryz.ntmps54
    by_cases h2 : 2 ≤ n
    · have e1 : ((n : Int) == 1) = false := by simp; omega
      have hfl := foldT_length hl i n path
      have hk1 := halfT_lt h2
      have hk2 := halfT_pos n
      have H0 : Hid (Below w2.heap.size w2 w2) := Below.refl _ _
      have hp1 : 1 ≤ p := by
        rw [HP.out]
        by_cases hik : i < halfT n
        · rw [longT_lo h2 hik]; omega
        · rw [longT_hi h2 hik]; omega
      obtain ⟨b, o, rfl⟩ := (HKT.out _ H0.out).2.1.addr (by omega)
      obtain ⟨q, hq⟩ : ∃ q : Nat, p - 1 = q := ⟨_, rfl⟩
      have hpq : (p : Int) - 1 = (q : Int) := by omega
      have lP := HP32.out q (by omega)
      have HX : Hid (∀ wx, Below w2.heap.size w2 wx → wx.rangeAt b (o + q * 32) (cellsB (path.getD q []))) := fun wx hx => (HKT.out _ hx).2.1.at q (by omega)
      have hqp : q < p := by omega
      have hqb : q ≤ 256 := by have := longT_le n i; have := HP.out; omega
      have HRQ : Hid (∀ wx, Below w2.heap.size w2 wx → DRow wx (some ⟨b, o, none⟩) q (path.take q)) := fun wx hx => (HKT.out wx hx).2.1.take q (by omega)
      have HFL : Hid (∀ k, halfT n = k → i < k → foldT l i n path = nodeT (foldT l i k (path.take q)) (path.getD q [])) := fun k hk h => by
        have := foldT_lo (l := l) (path := path) h2 (by rw [hk]; exact h)
        rw [HPL.out, hq, hk] at this
        exact this
      have HFH : Hid (∀ k, halfT n = k → ¬ i < k → foldT l i n path = nodeT (path.getD q []) (foldT l (i - k) (n - k) (path.take q))) := fun k hk h => by
        have := foldT_hi (l := l) (path := path) h2 (by rw [hk]; exact h)
        rw [HPL.out, hq, hk] at this
        exact this
      have HQL : Hid (∀ k, halfT n = k → i < k → q = longT i k) := fun k hk h => by
        have := longT_lo (n := n) h2 (by rw [hk]; exact h)
        rw [hk] at this
        have := HP.out
        omega
      have HQH : Hid (∀ k, halfT n = k → ¬ i < k → q = longT (i - k) (n - k)) := fun k hk h => by
        have := longT_hi (n := n) h2 (by rw [hk]; exact h)
        rw [hk] at this
        have := HP.out
        omega
      generalize path.getD q [] = P at *
      generalize path.take q = PT at *
      have HBK : Hid (b < w2.heap.size) := cell_block ((show DAt w2 b (o + q * 32) P from HX.out _ H0.out).cell 0 (by omega))
      have q0 : (0 : Int) ≤ (q : Int) := by omega
      have q1 : (q : Int) < (p : Int) := by omega
      have q2 : (q : Int) ≤ (c : Int) := by omega
      have hpi : (p : Int) ≤ 257 := by omega
      clear hq
      go_wp2_with (refine wpList_allocE (by rfl) 23 (by rfl) (cellsB zD).toArray Tryz.zeroDg (w.heap.size + 1) hs1 w2 hw2 ?_)
      clear hw2 hs1 HL2 HT2
      refine wp_region_noPanic ?_
      refine wp_region_held_drew (S := fun wx => wx.rangeAt b (o + q * 32) (cellsB P)) (by kernel_rfl) (HX.out _ (below_drewN w2 1)) (fun hHeld => ?_)
      try simp only [Act.put, List.setIfInBounds_toArray, List.set_cons_zero, List.set_cons_succ]
      have HBd : Hid (Below w2.heap.size w2 w2.drew) := below_drewN w2 1
      generalize w2.drew = wd at *
      refine wpAnyH_take (i := 0) (v := ?_) (by simp only [List.getElem?_toArray, List.getElem?_cons_zero, List.getElem?_cons_succ]; rfl) (by kernel_rfl) (by kernel_rfl) (by kernel_rfl) (fun _ _ _ h => h) (Or.inl ⟨by rfl, ?_⟩) hHeld ?_
      rotate_left
      · intro w hSw
        go_simp
        try with_reducible rfl
      try simp only [Act.put, List.setIfInBounds_toArray, List.set_cons_zero, List.set_cons_succ]
      refine wpAnyH_take (i := 1) (v := ?_) (by simp only [List.getElem?_toArray, List.getElem?_cons_zero, List.getElem?_cons_succ]; rfl) (by kernel_rfl) (by kernel_rfl) (by kernel_rfl) (fun _ _ _ h => h) (Or.inl ⟨by rfl, ?_⟩) hHeld ?_
      rotate_left
      · intro w hSw
        go_simp
        try with_reducible rfl
      try simp only [Act.put, List.setIfInBounds_toArray, List.set_cons_zero, List.set_cons_succ]
      refine wpAnyH_take (i := 2) (v := .slice (some ⟨b, o, none⟩) q c) (by simp only [List.getElem?_toArray, List.getElem?_cons_zero, List.getElem?_cons_succ]; rfl) (by kernel_rfl) (by kernel_rfl) (by kernel_rfl) (fun _ _ _ h => h) (Or.inl ⟨by rfl, ?_⟩) hHeld ?_
      · intro w hSw
        go_simp
      try simp only [Act.put, List.setIfInBounds_toArray, List.set_cons_zero, List.set_cons_succ]
      refine wpAnyH_take (i := 3) (v := ?_) (by simp only [List.getElem?_toArray, List.getElem?_cons_zero, List.getElem?_cons_succ]; rfl) (by kernel_rfl) (by kernel_rfl) (by kernel_rfl) (fun _ _ _ h => h) (Or.inl ⟨by rfl, ?_⟩) hHeld ?_
      rotate_left
      · intro w hSw
        go_simp
        try with_reducible rfl
      try simp only [Act.put, List.setIfInBounds_toArray, List.set_cons_zero, List.set_cons_succ]
      refine wpAnyH_take (i := 4) (v := ?_) (by simp only [List.getElem?_toArray, List.getElem?_cons_zero, List.getElem?_cons_succ]; rfl) (by kernel_rfl) (by kernel_rfl) (by kernel_rfl) (fun _ _ _ h => h) (Or.inl ⟨by rfl, ?_⟩) hHeld ?_
      rotate_left
      · intro w hSw
        go_simp
        try with_reducible rfl
      try simp only [Act.put, List.setIfInBounds_toArray, List.set_cons_zero, List.set_cons_succ]
      refine wpAnyH_take (i := 5) (v := .pointer (some ⟨b, o + q * 32, none⟩)) (by simp only [List.getElem?_toArray, List.getElem?_cons_zero, List.getElem?_cons_succ]; rfl) (by kernel_rfl) (by kernel_rfl) (by kernel_rfl) (fun _ _ _ h => h) (Or.inl ⟨by rfl, ?_⟩) hHeld ?_
      · intro w hSw
        go_simp
      try simp only [Act.put, List.setIfInBounds_toArray, List.set_cons_zero, List.set_cons_succ]
      refine wpAnyH_take (i := 6) (v := .agg (cellsB P).toArray) (by simp only [List.getElem?_toArray, List.getElem?_cons_zero, List.getElem?_cons_succ]; rfl) (by kernel_rfl) (by kernel_rfl) (by kernel_rfl) (fun _ _ _ h => h)
        (yieldsIf_load_mid (by rfl) _ _ rfl _ _ rfl _ _ (fun w hw => hw) Tryz.underlying23 rfl (by rw [cellsB_length, lP]; exact Tryz.sizeDg)) hHeld ?_
      try simp only [Act.put, List.setIfInBounds_toArray, List.set_cons_zero, List.set_cons_succ]
      refine wpAnyH_ready (rs := [7]) (by kernel_rfl) (by simp) ?_
      refine AllReadyH.cons (by simp only [List.getElem?_toArray, List.getElem?_cons_zero, List.getElem?_cons_succ]; rfl) (fun K hK => ?_) AllReadyH.nil
      rw [if_pos (by rfl)]
      refine wp_allocE 23 (by rfl) (cellsB zD).toArray Tryz.zeroDg ?_
      have HB3 : Hid (Below w2.heap.size w2 (wd.alloc (.cells (cellsB zD).toArray 23))) := Below.alloc HBd.out HBd.out.size _
      have HT3 : Hid ((wd.alloc (.cells (cellsB zD).toArray 23)).there wd.heap.size 0 32) := alloc_thereAt _ _ _ 32 _ rfl zD_size.symm
      have HGG : Hid (w2.heap.size ≤ wd.heap.size) := HBd.out.size
      refine hK.out _ _ (HX.out _ HB3.out) (fun hHeld => ?_)
      clear HBd
      generalize wd.alloc (.cells (cellsB zD).toArray 23) = w3 at *
      generalize wd.heap.size = g at *
      clear hK K
      try simp only [Act.put, List.setIfInBounds_toArray, List.set_cons_zero, List.set_cons_succ]
      refine wpAnyH_take (i := 8) (v := ?_) (by simp only [List.getElem?_toArray, List.getElem?_cons_zero, List.getElem?_cons_succ]; rfl) (by kernel_rfl) (by kernel_rfl) (by kernel_rfl) (fun _ _ _ h => h) (Or.inl ⟨by rfl, ?_⟩) hHeld ?_
      rotate_left
      · intro w hSw
        go_simp
        try with_reducible rfl
      try simp only [Act.put, List.setIfInBounds_toArray, List.set_cons_zero, List.set_cons_succ]
      refine wpAnyH_ready (rs := [9]) (by kernel_rfl) (by simp) ?_
      refine AllReadyH.cons (by simp only [List.getElem?_toArray, List.getElem?_cons_zero, List.getElem?_cons_succ]; rfl) (fun K hK => ?_) AllReadyH.nil
      rw [if_pos (by rfl)]
      refine wp_store_mid _ _ _ rfl g 0 (cellsB P).toArray rfl rfl (by rw [cellsB_size, lP]; exact HT3.out) (by rw [cellsB_size, lP]; exact Tryz.sizeDg) (all_oneCell_toArray (cellsB_one _)) ?_
      have hr : (w3.setCells g 0 (cellsB P)).rangeAt b (o + q * 32) (cellsB P) := World.rangeAt_setCells_apart (HX.out _ HB3.out) _ _ _ (.inl (by have := HBK.out; have := HGG.out; omega))
      have HB4 : Hid (Below w2.heap.size w2 (w3.setCells g 0 (cellsB P))) := below_setCells _ HGG.out _ _ _ HB3.out
      have HX4 : Hid (DAt (w3.setCells g 0 (cellsB P)) g 0 P) := dat_stored HT3.out lP
      refine hK.out _ _ hr (fun hHeld => ?_)
      clear hr
      clear hK K
      try simp only [Act.put, List.setIfInBounds_toArray, List.set_cons_zero, List.set_cons_succ]
      refine wpAnyH_done (by kernel_rfl) (NoPanic.normal ?_) _
      clear hHeld
      generalize w3.setCells g 0 (cellsB P) = wq at *
      have hg4 : g < wq.heap.size := cell_block (HX4.out.cell 0 (by omega))
      have HKQ : Hid (∀ wx, Below wq.heap.size wq wx → (wx.rangeAt w.heap.size 0 (cellsB l) ∧ wx.rangeAt g 0 (cellsB P)) ∧ DRow wx (some ⟨b, o, none⟩) q PT ∧ wx.there (w.heap.size + 1) 0 32 ∧ Below w.heap.size w wx) := fun wx hx => by
        have b1 : Below w2.heap.size w2 wx := HB4.out.trans (hx.mono HB4.out.size)
        have k := HKT.out _ b1
        exact ⟨⟨k.1, HX4.out.below hx hg4⟩, HRQ.out _ b1, k.2.2.1, k.2.2.2⟩
      have HGW : Hid (w.heap.size + 1 < g) := by have := HS2.out; have := HGG.out; unfold Hid; omega
      clear hg4 HX4 H0 HRQ HKT HP HPL HP32 HB4 HB3 HT3 HGG HBK HX
      go_wp2_with fail
      refine (wsplit_any n wq h2 hn).mono ?_
      rintro e w4 ⟨rfl, rfl⟩
      generalize halfT n = k at *
      have GFL : Hid (i < k → foldT l i n path = nodeT (foldT l i k PT) P) := HFL.out k rfl
      have GFH : Hid (¬ i < k → foldT l i n path = nodeT P (foldT l (i - k) (n - k) PT)) := HFH.out k rfl
      have GQL : Hid (i < k → q = longT i k) := HQL.out k rfl
      have GQH : Hid (¬ i < k → q = longT (i - k) (n - k)) := HQH.out k rfl
      clear HFL HFH HQL HQH
      by_cases hik : i < k
      · have HFL := GFL.out hik
        have HQL := GQL.out hik
        have HC : Hid (∀ wx, Env wx → DRow wx (some ⟨b, o, none⟩) q PT → Calls Tryz.prog 54 #[digestV l, .int .i64 (i : Int), .int .i64 (k : Int), .slice (some ⟨b, o, none⟩) q c] wx fun e w' => e = .returned (digestV (foldT l i k PT)) ∧ Below wx.heap.size wx w') := fun wx hg hr => HI.out k hk1 l i q c _ PT wx hl hg hr HQL (by omega) (by omega) (by omega) hik
        have lF := foldT_length hl i k PT
        have HE : Hid (foldT l i n path = nodeT (foldT l i k PT) P) := HFL
        rw [HFL] at hfl
        clear HFL HQL GFL GQL GFH GQH HI
        generalize foldT l i k PT = F at *
        have g1 : (i : Int) < (k : Int) := by omega
        go_wp2_with fail
        refine wp_region_noPanic ?_
        refine wp_region_held_drew (S := fun wx => wx.rangeAt w.heap.size 0 (cellsB l) ∧ wx.rangeAt g 0 (cellsB P)) (by kernel_rfl) ((HKQ.out _ (below_drewN w4 1)).1) (fun hHeld => ?_)
        try simp only [Act.put, List.setIfInBounds_toArray, List.set_cons_zero, List.set_cons_succ]
        have HBd : Hid (Below w4.heap.size w4 w4.drew) := below_drewN w4 1
        generalize w4.drew = wd at *
        refine wpAnyH_take (i := 0) (v := .agg (cellsB l).toArray) (by simp only [List.getElem?_toArray, List.getElem?_cons_zero, List.getElem?_cons_succ]; rfl) (by kernel_rfl) (by kernel_rfl) (by kernel_rfl) (fun _ _ _ h => h)
          (yieldsIf_load_mid (by rfl) _ _ rfl _ _ rfl _ _ (fun w hw => hw.1) Tryz.underlying23 rfl (by rw [cellsB_length, hl]; exact Tryz.sizeDg)) hHeld ?_
        try simp only [Act.put, List.setIfInBounds_toArray, List.set_cons_zero, List.set_cons_succ]
        refine wpAnyH_take (i := 1) (v := ?_) (by simp only [List.getElem?_toArray, List.getElem?_cons_zero, List.getElem?_cons_succ]; rfl) (by kernel_rfl) (by kernel_rfl) (by kernel_rfl) (fun _ _ _ h => h) (Or.inl ⟨by rfl, ?_⟩) hHeld ?_
        rotate_left
        · intro w hSw
          obtain ⟨hSw0, hSw1⟩ := hSw
          go_simp
          try with_reducible rfl
        try simp only [Act.put, List.setIfInBounds_toArray, List.set_cons_zero, List.set_cons_succ]
        refine wpAnyH_take (i := 2) (v := ?_) (by simp only [List.getElem?_toArray, List.getElem?_cons_zero, List.getElem?_cons_succ]; rfl) (by kernel_rfl) (by kernel_rfl) (by kernel_rfl) (fun _ _ _ h => h) (Or.inl ⟨by rfl, ?_⟩) hHeld ?_
        rotate_left
        · intro w hSw
          obtain ⟨hSw0, hSw1⟩ := hSw
          go_simp
          try with_reducible rfl
        try simp only [Act.put, List.setIfInBounds_toArray, List.set_cons_zero, List.set_cons_succ]
        refine wpAnyH_take (i := 3) (v := ?_) (by simp only [List.getElem?_toArray, List.getElem?_cons_zero, List.getElem?_cons_succ]; rfl) (by kernel_rfl) (by kernel_rfl) (by kernel_rfl) (fun _ _ _ h => h) (Or.inl ⟨by rfl, ?_⟩) hHeld ?_
        rotate_left
        · intro w hSw
          obtain ⟨hSw0, hSw1⟩ := hSw
          go_simp
          try with_reducible rfl
        try simp only [Act.put, List.setIfInBounds_toArray, List.set_cons_zero, List.set_cons_succ]
        refine wpAnyH_take (i := 5) (v := .agg (cellsB P).toArray) (by simp only [List.getElem?_toArray, List.getElem?_cons_zero, List.getElem?_cons_succ]; rfl) (by kernel_rfl) (by kernel_rfl) (by kernel_rfl) (fun _ _ _ h => h)
          (yieldsIf_load_mid (by rfl) _ _ rfl _ _ rfl _ _ (fun w hw => hw.2) Tryz.underlying23 rfl (by rw [cellsB_length, lP]; exact Tryz.sizeDg)) hHeld ?_
        try simp only [Act.put, List.setIfInBounds_toArray, List.set_cons_zero, List.set_cons_succ]
        refine wpAnyH_ready (rs := [4]) (by kernel_rfl) (by simp) ?_
        refine AllReadyH.cons (by simp only [List.getElem?_toArray, List.getElem?_cons_zero, List.getElem?_cons_succ]; rfl) (fun K hK => ?_) AllReadyH.nil
        rw [if_pos (by rfl)]
        go_simp
        refine (HC.out wd (HGE.out _ (HKQ.out _ HBd.out).2.2.2) (HKQ.out _ HBd.out).2.1).mono ?_
        rintro e w5 ⟨rfl, hb5⟩
        have HB5 : Hid (Below w4.heap.size w4 w5) := HBd.out.trans (hb5.mono HBd.out.size)
        clear hb5 HBd HC
        go_wp2_with fail
        refine hK.out _ _ (HKQ.out _ HB5.out).1 (fun hHeld => ?_)
        clear hK K
        try simp only [Act.put, List.setIfInBounds_toArray, List.set_cons_zero, List.set_cons_succ]
        refine wpAnyH_ready (rs := [6]) (by kernel_rfl) (by simp) ?_
        refine AllReadyH.cons (by simp only [List.getElem?_toArray, List.getElem?_cons_zero, List.getElem?_cons_succ]; rfl) (fun K hK => ?_) AllReadyH.nil
        rw [if_pos (by rfl)]
        go_simp
        refine (wtree_node F P w5 (HGE.out _ (HKQ.out _ HB5.out).2.2.2) lF lP).mono ?_
        rintro e w6 ⟨rfl, hb6⟩
        have HB6 : Hid (Below w4.heap.size w4 w6) := HB5.out.trans (hb6.mono HB5.out.size)
        clear hb6 HB5
        generalize nodeT F P = D at *
        go_wp2_with fail
        refine hK.out _ _ (HKQ.out _ HB6.out).1 (fun hHeld => ?_)
        clear hK K
        try simp only [Act.put, List.setIfInBounds_toArray, List.set_cons_zero, List.set_cons_succ]
        refine wpAnyH_ready (rs := [7]) (by kernel_rfl) (by simp) ?_
        refine AllReadyH.cons (by simp only [List.getElem?_toArray, List.getElem?_cons_zero, List.getElem?_cons_succ]; rfl) (fun K hK => ?_) AllReadyH.nil
        rw [if_pos (by rfl)]
        have HT6 : Hid (w6.there (w.heap.size + 1) 0 32) := (HKQ.out _ HB6.out).2.2.1
        refine wp_store_mid _ _ _ rfl (w.heap.size + 1) 0 (cellsB D).toArray rfl rfl (by rw [cellsB_size, hfl]; exact HT6.out) (by rw [cellsB_size, hfl]; exact Tryz.sizeDg) (all_oneCell_toArray (cellsB_one _)) ?_
        have hr : (w6.setCells (w.heap.size + 1) 0 (cellsB D)).rangeAt w.heap.size 0 (cellsB l) ∧ (w6.setCells (w.heap.size + 1) 0 (cellsB D)).rangeAt g 0 (cellsB P) := ⟨World.rangeAt_setCells_apart (HKQ.out _ HB6.out).1.1 _ _ _ (.inl (by omega)), World.rangeAt_setCells_apart (HKQ.out _ HB6.out).1.2 _ _ _ (.inl (by have := HGW.out; omega))⟩
        refine hK.out _ _ hr (fun hHeld => ?_)
        clear hr
        clear hK K
        try simp only [Act.put, List.setIfInBounds_toArray, List.set_cons_zero, List.set_cons_succ]
        refine wpAnyH_done (by kernel_rfl) (NoPanic.normal ?_) _
        clear hHeld
        go_wp2_with fail
        refine bodyPost_ret (v := digestV D) (run_results_row Tryz.results54 _ _ (w.heap.size + 1) 0 (by rfl) (cellsB D) (World.rangeAt_setCells_same _ _ _ _ (by rw [cellsB_length, hfl]; exact HT6.out)) _ Tryz.underlying23 (by rfl) (by rw [cellsB_length, hfl]; exact Tryz.sizeDg)) rfl ⟨by rw [HE.out], ?_⟩
        exact below_setCells _ (by omega) _ _ _ (HKQ.out _ HB6.out).2.2.2
      · have HFH := GFH.out hik
        have HQH := GQH.out hik
        have HC : Hid (∀ wx, Env wx → DRow wx (some ⟨b, o, none⟩) q PT → Calls Tryz.prog 54 #[digestV l, .int .i64 ((i - k : Nat) : Int), .int .i64 ((n - k : Nat) : Int), .slice (some ⟨b, o, none⟩) q c] wx fun e w' => e = .returned (digestV (foldT l (i - k) (n - k) PT)) ∧ Below wx.heap.size wx w') := fun wx hg hr => HI.out (n - k) (by omega) l (i - k) q c _ PT wx hl hg hr HQH (by omega) (by omega) (by omega) (by omega)
        have lF := foldT_length hl (i - k) (n - k) PT
        have HE : Hid (foldT l i n path = nodeT P (foldT l (i - k) (n - k) PT)) := HFH
        rw [HFH] at hfl
        clear HFH HQH GFL GQL GFH GQH HI
        generalize foldT l (i - k) (n - k) PT = F at *
        have s1 : (i : Int) - (k : Int) = ((i - k : Nat) : Int) := by omega
        have s2 : (n : Int) - (k : Int) = ((n - k : Nat) : Int) := by omega
        have b1 : i - k ≤ 256 := by omega
        have b2 : n - k ≤ 256 := by omega
        generalize i - k = i' at *
        generalize n - k = n' at *
        have wi : IntKind.i64.wrap (i' : Int) = (i' : Int) := wrapT i' (by omega)
        have wn : IntKind.i64.wrap (n' : Int) = (n' : Int) := wrapT n' (by omega)
        have g1 : ¬ (i : Int) < (k : Int) := by omega
        go_wp2_with fail
        refine wp_region_noPanic ?_
        refine wp_region_held_drew (S := fun wx => wx.rangeAt w.heap.size 0 (cellsB l) ∧ wx.rangeAt g 0 (cellsB P)) (by kernel_rfl) ((HKQ.out _ (below_drewN w4 1)).1) (fun hHeld => ?_)
        try simp only [Act.put, List.setIfInBounds_toArray, List.set_cons_zero, List.set_cons_succ]
        have HBd : Hid (Below w4.heap.size w4 w4.drew) := below_drewN w4 1
        generalize w4.drew = wd at *
        refine wpAnyH_take (i := 0) (v := .agg (cellsB P).toArray) (by simp only [List.getElem?_toArray, List.getElem?_cons_zero, List.getElem?_cons_succ]; rfl) (by kernel_rfl) (by kernel_rfl) (by kernel_rfl) (fun _ _ _ h => h)
          (yieldsIf_load_mid (by rfl) _ _ rfl _ _ rfl _ _ (fun w hw => hw.2) Tryz.underlying23 rfl (by rw [cellsB_length, lP]; exact Tryz.sizeDg)) hHeld ?_
        try simp only [Act.put, List.setIfInBounds_toArray, List.set_cons_zero, List.set_cons_succ]
        refine wpAnyH_take (i := 1) (v := .agg (cellsB l).toArray) (by simp only [List.getElem?_toArray, List.getElem?_cons_zero, List.getElem?_cons_succ]; rfl) (by kernel_rfl) (by kernel_rfl) (by kernel_rfl) (fun _ _ _ h => h)
          (yieldsIf_load_mid (by rfl) _ _ rfl _ _ rfl _ _ (fun w hw => hw.1) Tryz.underlying23 rfl (by rw [cellsB_length, hl]; exact Tryz.sizeDg)) hHeld ?_
        try simp only [Act.put, List.setIfInBounds_toArray, List.set_cons_zero, List.set_cons_succ]
        refine wpAnyH_take (i := 2) (v := ?_) (by simp only [List.getElem?_toArray, List.getElem?_cons_zero, List.getElem?_cons_succ]; rfl) (by kernel_rfl) (by kernel_rfl) (by kernel_rfl) (fun _ _ _ h => h) (Or.inl ⟨by rfl, ?_⟩) hHeld ?_
        rotate_left
        · intro w hSw
          obtain ⟨hSw0, hSw1⟩ := hSw
          go_simp
          try with_reducible rfl
        try simp only [Act.put, List.setIfInBounds_toArray, List.set_cons_zero, List.set_cons_succ]
        refine wpAnyH_take (i := 3) (v := ?_) (by simp only [List.getElem?_toArray, List.getElem?_cons_zero, List.getElem?_cons_succ]; rfl) (by kernel_rfl) (by kernel_rfl) (by kernel_rfl) (fun _ _ _ h => h) (Or.inl ⟨by rfl, ?_⟩) hHeld ?_
        rotate_left
        · intro w hSw
          obtain ⟨hSw0, hSw1⟩ := hSw
          go_simp
          try with_reducible rfl
        try simp only [Act.put, List.setIfInBounds_toArray, List.set_cons_zero, List.set_cons_succ]
        refine wpAnyH_take (i := 4) (v := .int .i64 (i' : Int)) (by simp only [List.getElem?_toArray, List.getElem?_cons_zero, List.getElem?_cons_succ]; rfl) (by kernel_rfl) (by kernel_rfl) (by kernel_rfl) (fun _ _ _ h => h) (Or.inl ⟨by rfl, ?_⟩) hHeld ?_
        · intro w hSw
          obtain ⟨hSw0, hSw1⟩ := hSw
          go_simp
        try simp only [Act.put, List.setIfInBounds_toArray, List.set_cons_zero, List.set_cons_succ]
        refine wpAnyH_take (i := 5) (v := ?_) (by simp only [List.getElem?_toArray, List.getElem?_cons_zero, List.getElem?_cons_succ]; rfl) (by kernel_rfl) (by kernel_rfl) (by kernel_rfl) (fun _ _ _ h => h) (Or.inl ⟨by rfl, ?_⟩) hHeld ?_
        rotate_left
        · intro w hSw
          obtain ⟨hSw0, hSw1⟩ := hSw
          go_simp
          try with_reducible rfl
        try simp only [Act.put, List.setIfInBounds_toArray, List.set_cons_zero, List.set_cons_succ]
        refine wpAnyH_take (i := 6) (v := ?_) (by simp only [List.getElem?_toArray, List.getElem?_cons_zero, List.getElem?_cons_succ]; rfl) (by kernel_rfl) (by kernel_rfl) (by kernel_rfl) (fun _ _ _ h => h) (Or.inl ⟨by rfl, ?_⟩) hHeld ?_
        rotate_left
        · intro w hSw
          obtain ⟨hSw0, hSw1⟩ := hSw
          go_simp
          try with_reducible rfl
        try simp only [Act.put, List.setIfInBounds_toArray, List.set_cons_zero, List.set_cons_succ]
        refine wpAnyH_take (i := 7) (v := .int .i64 (n' : Int)) (by simp only [List.getElem?_toArray, List.getElem?_cons_zero, List.getElem?_cons_succ]; rfl) (by kernel_rfl) (by kernel_rfl) (by kernel_rfl) (fun _ _ _ h => h) (Or.inl ⟨by rfl, ?_⟩) hHeld ?_
        · intro w hSw
          obtain ⟨hSw0, hSw1⟩ := hSw
          go_simp
        try simp only [Act.put, List.setIfInBounds_toArray, List.set_cons_zero, List.set_cons_succ]
        refine wpAnyH_take (i := 8) (v := ?_) (by simp only [List.getElem?_toArray, List.getElem?_cons_zero, List.getElem?_cons_succ]; rfl) (by kernel_rfl) (by kernel_rfl) (by kernel_rfl) (fun _ _ _ h => h) (Or.inl ⟨by rfl, ?_⟩) hHeld ?_
        rotate_left
        · intro w hSw
          obtain ⟨hSw0, hSw1⟩ := hSw
          go_simp
          try with_reducible rfl
        try simp only [Act.put, List.setIfInBounds_toArray, List.set_cons_zero, List.set_cons_succ]
        refine wpAnyH_ready (rs := [9]) (by kernel_rfl) (by simp) ?_
        refine AllReadyH.cons (by simp only [List.getElem?_toArray, List.getElem?_cons_zero, List.getElem?_cons_succ]; rfl) (fun K hK => ?_) AllReadyH.nil
        rw [if_pos (by rfl)]
        go_simp
        refine (HC.out wd (HGE.out _ (HKQ.out _ HBd.out).2.2.2) (HKQ.out _ HBd.out).2.1).mono ?_
        rintro e w5 ⟨rfl, hb5⟩
        have HB5 : Hid (Below w4.heap.size w4 w5) := HBd.out.trans (hb5.mono HBd.out.size)
        clear hb5 HBd HC
        go_wp2_with fail
        refine hK.out _ _ (HKQ.out _ HB5.out).1 (fun hHeld => ?_)
        clear hK K
        try simp only [Act.put, List.setIfInBounds_toArray, List.set_cons_zero, List.set_cons_succ]
        refine wpAnyH_ready (rs := [10]) (by kernel_rfl) (by simp) ?_
        refine AllReadyH.cons (by simp only [List.getElem?_toArray, List.getElem?_cons_zero, List.getElem?_cons_succ]; rfl) (fun K hK => ?_) AllReadyH.nil
        rw [if_pos (by rfl)]
        go_simp
        refine (wtree_node P F w5 (HGE.out _ (HKQ.out _ HB5.out).2.2.2) lP lF).mono ?_
        rintro e w6 ⟨rfl, hb6⟩
        have HB6 : Hid (Below w4.heap.size w4 w6) := HB5.out.trans (hb6.mono HB5.out.size)
        clear hb6 HB5
        generalize nodeT P F = D at *
        go_wp2_with fail
        refine hK.out _ _ (HKQ.out _ HB6.out).1 (fun hHeld => ?_)
        clear hK K
        try simp only [Act.put, List.setIfInBounds_toArray, List.set_cons_zero, List.set_cons_succ]
        refine wpAnyH_ready (rs := [11]) (by kernel_rfl) (by simp) ?_
        refine AllReadyH.cons (by simp only [List.getElem?_toArray, List.getElem?_cons_zero, List.getElem?_cons_succ]; rfl) (fun K hK => ?_) AllReadyH.nil
        rw [if_pos (by rfl)]
        have HT6 : Hid (w6.there (w.heap.size + 1) 0 32) := (HKQ.out _ HB6.out).2.2.1
        refine wp_store_mid _ _ _ rfl (w.heap.size + 1) 0 (cellsB D).toArray rfl rfl (by rw [cellsB_size, hfl]; exact HT6.out) (by rw [cellsB_size, hfl]; exact Tryz.sizeDg) (all_oneCell_toArray (cellsB_one _)) ?_
        have hr : (w6.setCells (w.heap.size + 1) 0 (cellsB D)).rangeAt w.heap.size 0 (cellsB l) ∧ (w6.setCells (w.heap.size + 1) 0 (cellsB D)).rangeAt g 0 (cellsB P) := ⟨World.rangeAt_setCells_apart (HKQ.out _ HB6.out).1.1 _ _ _ (.inl (by omega)), World.rangeAt_setCells_apart (HKQ.out _ HB6.out).1.2 _ _ _ (.inl (by have := HGW.out; omega))⟩
        refine hK.out _ _ hr (fun hHeld => ?_)
        clear hr
        clear hK K
        try simp only [Act.put, List.setIfInBounds_toArray, List.set_cons_zero, List.set_cons_succ]
        refine wpAnyH_done (by kernel_rfl) (NoPanic.normal ?_) _
        clear hHeld
        go_wp2_with fail
        refine bodyPost_ret (v := digestV D) (run_results_row Tryz.results54 _ _ (w.heap.size + 1) 0 (by rfl) (cellsB D) (World.rangeAt_setCells_same _ _ _ _ (by rw [cellsB_length, hfl]; exact HT6.out)) _ Tryz.underlying23 (by rfl) (by rw [cellsB_length, hfl]; exact Tryz.sizeDg)) rfl ⟨by rw [HE.out], ?_⟩
        exact below_setCells _ (by omega) _ _ _ (HKQ.out _ HB6.out).2.2.2
    · obtain rfl : n = 1 := by omega
      have HE : Hid (foldT l i 1 path = l) := foldT_one h2
      go_wp2_with (first
        | (refine wpList_allocE (by rfl) 23 (by rfl) (cellsB zD).toArray Tryz.zeroDg (w.heap.size + 1) hs1 w2 hw2 ?_)
        | (refine wpList_load_mid (by rfl) 23 (.tmp 4) (by rfl) w.heap.size 0 (by rfl) (cellsB l) _ HL2.out Tryz.underlying23 (by rfl) (by rw [cellsB_length, hl]; exact Tryz.sizeDg) ?_)
        | (refine wpList_store_mid (by rfl) 23 (.tmp 8) (.tmp 15) (by rfl) (w.heap.size + 1) 0 (cellsB l).toArray (by rfl) (by rfl) (by rw [cellsB_size, hl]; exact HT2.out) (by rw [cellsB_size, hl]; exact Tryz.sizeDg) (all_oneCell_toArray (cellsB_one _)) ?_))
      refine bodyPost_ret (v := digestV l) (run_results_row Tryz.results54 _ _ (w.heap.size + 1) 0 (by rfl) (cellsB l) (World.rangeAt_setCells_same _ _ _ _ (by rw [cellsB_length, hl]; exact HT2.out)) _ Tryz.underlying23 (by rfl) (by rw [cellsB_length, hl]; exact Tryz.sizeDg)) rfl ⟨by rw [HE.out], ?_⟩
      exact below_setCells _ (by omega) _ _ _ HB2.out
set_option maxRecDepth 100000 in
set_option maxHeartbeats 1000000 in
theorem wtree_fold (l : List UInt8) (i n p c : Nat) (a : Option Addr) (path : List (List UInt8)) (w : World) (G : Env w) (hl : l.length = 32) (R : DRow w a p path) (hp : p = longT i n) (hc : p ≤ c) (h1 : 1 ≤ n) (hn : n ≤ 256) (hi : i < n) :
    Calls Tryz.prog 37 #[digestV l, .int .i64 (i : Int), .int .i64 (n : Int), .slice a p c] w fun e w' => e = .returned (.tuple #[digestV (foldT l i n path), .nilIface]) ∧ Below w.heap.size w w' := by
  obtain ⟨w2, hw2⟩ : ∃ w2, (w.alloc (.cells (cellsB l).toArray 23)).alloc (.cells (cellsB zD).toArray 23) = w2 := ⟨_, rfl⟩
  have hs1 : (w.alloc (.cells (cellsB l).toArray 23)).heap.size = w.heap.size + 1 := by simp
  have HS2 : Hid (w2.heap.size = w.heap.size + 1 + 1) := by unfold Hid; rw [← hw2]; simp
  have HB2 : Hid (Below w.heap.size w w2) := by rw [← hw2]; exact ((Below.refl _ _).alloc (Nat.le_refl _) _).alloc (by simp) _
  have HL2 : Hid (DAt w2 w.heap.size 0 l) := by rw [← hw2]; exact World.rangeAt_alloc (box_dat w l _) _
  have HT2 : Hid (w2.there (w.heap.size + 1) 0 32) := by rw [← hw2]; exact alloc_thereAt _ _ _ 32 _ hs1 zD_size.symm
  have HG : Hid (Env w2 ∧ DRow w2 a p path) := ⟨G.below HB2.out, R.below HB2.out⟩
  have HP : Hid (p = longT i n) := hp
  have hpb : p ≤ 256 := by have := longT_le n i; omega
  have hfl := foldT_length hl i n path
  clear G R hp
  have g1 : ¬ (n : Int) < 1 := by omega
  have g2 : ¬ (256 : Int) < (n : Int) := by omega
  have g3 : ¬ (i : Int) < 0 := by omega
  have g4 : ¬ (n : Int) ≤ (i : Int) := by omega
  go_enter Tryz.func37, Tryz.ntmps37
  go_wp2_with (refine wpList_allocE (by rfl) 23 (by rfl) (cellsB zD).toArray Tryz.zeroDg (w.heap.size + 1) hs1 w2 hw2 ?_)
  refine (wdepth_any n i w2 h1 hn hi).mono ?_
  rintro e wx ⟨rfl, rfl⟩
  rw [← HP.out]
  go_wp2_with (refine wpList_load_mid (by rfl) 23 (.tmp 4) (by rfl) w.heap.size 0 (by rfl) (cellsB l) _ HL2.out Tryz.underlying23 (by rfl) (by rw [cellsB_length, hl]; exact Tryz.sizeDg) ?_)
  refine (wfold_any n l i p c a path wx hl HG.out.1 HG.out.2 HP.out hc h1 hn hi).mono ?_
  rintro e w3 ⟨rfl, hb3⟩
  have HB3 : Hid (Below w.heap.size w w3) := below_trans HB2.out hb3
  have HT3 : Hid (w3.there (w.heap.size + 1) 0 32) := there_below HT2.out hb3 (by have := HS2.out; omega)
  clear hb3 hw2 HG HL2 HT2
  generalize hD : foldT l i n path = D at *
  have HD : Hid (foldT l i n path = D) := hD
  clear hD
  go_wp2_with (refine wpList_store_mid (by rfl) 23 (.tmp 8) (.tmp 39) (by rfl) (w.heap.size + 1) 0 (cellsB D).toArray (by rfl) (by rfl) (by rw [cellsB_size, hfl]; exact HT3.out) (by rw [cellsB_size, hfl]; exact Tryz.sizeDg) (all_oneCell_toArray (cellsB_one _)) ?_)
  refine bodyPost_ret (v := .tuple #[digestV D, .nilIface]) (run_results_row2 Tryz.results37 _ _ (w.heap.size + 1) 0 (by rfl) _ (by rfl) (cellsB D) (World.rangeAt_setCells_same _ _ _ _ (by rw [cellsB_length, hfl]; exact HT3.out)) _ Tryz.underlying23 (by rfl) (by rw [cellsB_length, hfl]; exact Tryz.sizeDg)) rfl ⟨by rw [HD.out], ?_⟩
  exact below_setCells _ (by omega) _ _ _ HB3.out
set_option maxRecDepth 100000 in
set_option maxHeartbeats 1000000 in
theorem wtree_foldlen (l : List UInt8) (i n p c : Nat) (a : Option Addr) (path : List (List UInt8)) (w : World) (G : Env w) (hl : l.length = 32) (R : DRow w a p path) (hc : p ≤ c) (hp2 : 32 * p ≤ 140737488351232) (h1 : 1 ≤ n) (hn : n ≤ 256) (hi : i < n) (hp : p ≠ longT i n) :
    Calls Tryz.prog 37 #[digestV l, .int .i64 (i : Int), .int .i64 (n : Int), .slice a p c] w fun e w' => e = .returned (.tuple #[digestV zD, .iface 27 (.int .i64 3)]) ∧ Below w.heap.size w w' := by
  obtain ⟨w2, hw2⟩ : ∃ w2, (w.alloc (.cells (cellsB l).toArray 23)).alloc (.cells (cellsB zD).toArray 23) = w2 := ⟨_, rfl⟩
  have hs1 : (w.alloc (.cells (cellsB l).toArray 23)).heap.size = w.heap.size + 1 := by simp
  have HS2 : Hid (w2.heap.size = w.heap.size + 1 + 1) := by unfold Hid; rw [← hw2]; simp
  have HB2 : Hid (Below w.heap.size w w2) := by rw [← hw2]; exact ((Below.refl _ _).alloc (Nat.le_refl _) _).alloc (by simp) _
  have HL2 : Hid (DAt w2 w.heap.size 0 l) := by rw [← hw2]; exact World.rangeAt_alloc (box_dat w l _) _
  have HT2 : Hid (w2.there (w.heap.size + 1) 0 32) := by rw [← hw2]; exact alloc_thereAt _ _ _ 32 _ hs1 zD_size.symm
  have HP : Hid (p ≠ longT i n) := hp
  have hlb := longT_le n i
  clear G R hp
  have g1 : ¬ (n : Int) < 1 := by omega
  have g2 : ¬ (256 : Int) < (n : Int) := by omega
  have g3 : ¬ (i : Int) < 0 := by omega
  have g4 : ¬ (n : Int) ≤ (i : Int) := by omega
  go_enter Tryz.func37, Tryz.ntmps37
  go_wp2_with (refine wpList_allocE (by rfl) 23 (by rfl) (cellsB zD).toArray Tryz.zeroDg (w.heap.size + 1) hs1 w2 hw2 ?_)
  refine (wdepth_any n i w2 h1 hn hi).mono ?_
  rintro e wx ⟨rfl, rfl⟩
  have hp := HP.out
  clear HP hw2
  generalize longT i n = y at *
  have e5 : ((p : Int) == (y : Int)) = false := beq_eq_false_iff_ne.2 (by omega)
  go_wp2_with (first
    | (refine wpList_buildC (by rfl) 23 _ (by rfl) (cellsB zD).toArray (by kernel_rfl) ?_)
    | (refine wpList_store_mid (by rfl) 23 (.tmp 8) (.tmp 33) (by rfl) (w.heap.size + 1) 0 (cellsB zD).toArray (by rfl) (by rfl) (by rw [cellsB_size]; exact HT2.out) (by rw [cellsB_size]; exact Tryz.sizeDg) (all_oneCell_toArray (cellsB_one _)) ?_))
  refine bodyPost_ret (v := .tuple #[digestV zD, .iface 27 (.int .i64 3)]) (run_results_row2 Tryz.results37 _ _ (w.heap.size + 1) 0 (by rfl) _ (by rfl) (cellsB zD) (World.rangeAt_setCells_same _ _ _ _ (by rw [cellsB_length]; exact HT2.out)) _ Tryz.underlying23 (by rfl) (by rw [cellsB_length]; exact Tryz.sizeDg)) rfl ⟨rfl, ?_⟩
  exact below_setCells _ (by omega) _ _ _ HB2.out
set_option maxRecDepth 100000 in
set_option maxHeartbeats 1000000 in
theorem wtree_foldout (l : List UInt8) (i n : Int) (p c : Nat) (a : Option Addr) (path : List (List UInt8)) (w : World) (G : Env w) (hl : l.length = 32) (R : DRow w a p path) (hc : p ≤ c) (hp2 : 32 * p ≤ 140737488351232) (h : n < 1 ∨ 256 < n ∨ i < 0 ∨ n ≤ i) (hi1 : -9223372036854775808 ≤ i) (hi2 : i ≤ 9223372036854775807) (hn1 : -9223372036854775808 ≤ n) (hn2 : n ≤ 9223372036854775807) :
    Calls Tryz.prog 37 #[digestV l, .int .i64 i, .int .i64 n, .slice a p c] w fun e w' => e = .returned (.tuple #[digestV zD, .iface 27 (.int .i64 2)]) ∧ Below w.heap.size w w' := by
  obtain ⟨w2, hw2⟩ : ∃ w2, (w.alloc (.cells (cellsB l).toArray 23)).alloc (.cells (cellsB zD).toArray 23) = w2 := ⟨_, rfl⟩
  have hs1 : (w.alloc (.cells (cellsB l).toArray 23)).heap.size = w.heap.size + 1 := by simp
  have HS2 : Hid (w2.heap.size = w.heap.size + 1 + 1) := by unfold Hid; rw [← hw2]; simp
  have HB2 : Hid (Below w.heap.size w w2) := by rw [← hw2]; exact ((Below.refl _ _).alloc (Nat.le_refl _) _).alloc (by simp) _
  have HL2 : Hid (DAt w2 w.heap.size 0 l) := by rw [← hw2]; exact World.rangeAt_alloc (box_dat w l _) _
  have HT2 : Hid (w2.there (w.heap.size + 1) 0 32) := by rw [← hw2]; exact alloc_thereAt _ _ _ 32 _ hs1 zD_size.symm
  clear G R
  go_enter Tryz.func37, Tryz.ntmps37
  rcases (show n < 1 ∨ (¬ n < 1 ∧ 256 < n) ∨ (¬ n < 1 ∧ ¬ 256 < n ∧ i < 0) ∨ (¬ n < 1 ∧ ¬ 256 < n ∧ ¬ i < 0 ∧ n ≤ i) by omega) with k1 | ⟨k1, k2⟩ | ⟨k1, k2, k3⟩ | ⟨k1, k2, k3, k4⟩
  · clear h
    go_wp2_with (first
      | (refine wpList_allocE (by rfl) 23 (by rfl) (cellsB zD).toArray Tryz.zeroDg (w.heap.size + 1) hs1 w2 hw2 ?_)
      | (refine wpList_buildC (by rfl) 23 _ (by rfl) (cellsB zD).toArray (by kernel_rfl) ?_)
      | (refine wpList_store_mid (by rfl) 23 (.tmp 8) (.tmp 25) (by rfl) (w.heap.size + 1) 0 (cellsB zD).toArray (by rfl) (by rfl) (by rw [cellsB_size]; exact HT2.out) (by rw [cellsB_size]; exact Tryz.sizeDg) (all_oneCell_toArray (cellsB_one _)) ?_))
    refine bodyPost_ret (v := .tuple #[digestV zD, .iface 27 (.int .i64 2)]) (run_results_row2 Tryz.results37 _ _ (w.heap.size + 1) 0 (by rfl) _ (by rfl) (cellsB zD) (World.rangeAt_setCells_same _ _ _ _ (by rw [cellsB_length]; exact HT2.out)) _ Tryz.underlying23 (by rfl) (by rw [cellsB_length]; exact Tryz.sizeDg)) rfl ⟨rfl, ?_⟩
    exact below_setCells _ (by omega) _ _ _ HB2.out
  · clear h
    go_wp2_with (first
      | (refine wpList_allocE (by rfl) 23 (by rfl) (cellsB zD).toArray Tryz.zeroDg (w.heap.size + 1) hs1 w2 hw2 ?_)
      | (refine wpList_buildC (by rfl) 23 _ (by rfl) (cellsB zD).toArray (by kernel_rfl) ?_)
      | (refine wpList_store_mid (by rfl) 23 (.tmp 8) (.tmp 25) (by rfl) (w.heap.size + 1) 0 (cellsB zD).toArray (by rfl) (by rfl) (by rw [cellsB_size]; exact HT2.out) (by rw [cellsB_size]; exact Tryz.sizeDg) (all_oneCell_toArray (cellsB_one _)) ?_))
    refine bodyPost_ret (v := .tuple #[digestV zD, .iface 27 (.int .i64 2)]) (run_results_row2 Tryz.results37 _ _ (w.heap.size + 1) 0 (by rfl) _ (by rfl) (cellsB zD) (World.rangeAt_setCells_same _ _ _ _ (by rw [cellsB_length]; exact HT2.out)) _ Tryz.underlying23 (by rfl) (by rw [cellsB_length]; exact Tryz.sizeDg)) rfl ⟨rfl, ?_⟩
    exact below_setCells _ (by omega) _ _ _ HB2.out
  · clear h
    go_wp2_with (first
      | (refine wpList_allocE (by rfl) 23 (by rfl) (cellsB zD).toArray Tryz.zeroDg (w.heap.size + 1) hs1 w2 hw2 ?_)
      | (refine wpList_buildC (by rfl) 23 _ (by rfl) (cellsB zD).toArray (by kernel_rfl) ?_)
      | (refine wpList_store_mid (by rfl) 23 (.tmp 8) (.tmp 25) (by rfl) (w.heap.size + 1) 0 (cellsB zD).toArray (by rfl) (by rfl) (by rw [cellsB_size]; exact HT2.out) (by rw [cellsB_size]; exact Tryz.sizeDg) (all_oneCell_toArray (cellsB_one _)) ?_))
    refine bodyPost_ret (v := .tuple #[digestV zD, .iface 27 (.int .i64 2)]) (run_results_row2 Tryz.results37 _ _ (w.heap.size + 1) 0 (by rfl) _ (by rfl) (cellsB zD) (World.rangeAt_setCells_same _ _ _ _ (by rw [cellsB_length]; exact HT2.out)) _ Tryz.underlying23 (by rfl) (by rw [cellsB_length]; exact Tryz.sizeDg)) rfl ⟨rfl, ?_⟩
    exact below_setCells _ (by omega) _ _ _ HB2.out
  · clear h
    go_wp2_with (first
      | (refine wpList_allocE (by rfl) 23 (by rfl) (cellsB zD).toArray Tryz.zeroDg (w.heap.size + 1) hs1 w2 hw2 ?_)
      | (refine wpList_buildC (by rfl) 23 _ (by rfl) (cellsB zD).toArray (by kernel_rfl) ?_)
      | (refine wpList_store_mid (by rfl) 23 (.tmp 8) (.tmp 25) (by rfl) (w.heap.size + 1) 0 (cellsB zD).toArray (by rfl) (by rfl) (by rw [cellsB_size]; exact HT2.out) (by rw [cellsB_size]; exact Tryz.sizeDg) (all_oneCell_toArray (cellsB_one _)) ?_))
    refine bodyPost_ret (v := .tuple #[digestV zD, .iface 27 (.int .i64 2)]) (run_results_row2 Tryz.results37 _ _ (w.heap.size + 1) 0 (by rfl) _ (by rfl) (cellsB zD) (World.rangeAt_setCells_same _ _ _ _ (by rw [cellsB_length]; exact HT2.out)) _ Tryz.underlying23 (by rfl) (by rw [cellsB_length]; exact Tryz.sizeDg)) rfl ⟨rfl, ?_⟩
    exact below_setCells _ (by omega) _ _ _ HB2.out
end Go.Proofs.YtdgaimlccpmojaaGreatDoor
/- The contracts of stamp.Recover. -/
namespace Go.Proofs.YtdgaimlccpmojaaGreatDoor
open Go.RowKit
set_option linter.unusedVariables false
set_option linter.unusedSimpArgs false

set_option maxRecDepth 100000 in
set_option maxHeartbeats 1000000 in
theorem wstamp_recout (m : List UInt8) (h i : Int) (a1 : Option Addr) (n1 c1 : Nat) (a2 : Option Addr) (n2 c2 : Nat) (sig path : List (List UInt8)) (w : World) (G : Env w) (hm : m.length = 32) (hh : h < 0 ∨ 4 < h) (h1 : -9223372036854775808 ≤ h) (h2 : h ≤ 9223372036854775807) (i1 : -9223372036854775808 ≤ i) (i2 : i ≤ 9223372036854775807) (R1 : DRow w a1 n1 sig) (hc1 : n1 ≤ c1) (z1 : 32 * n1 ≤ 140737488351232) (R2 : DRow w a2 n2 path) (hc2 : n2 ≤ c2) (z2 : 32 * n2 ≤ 140737488351232) :
    Calls Tryz.prog 18 #[digestV m, .int .i64 h, sigV i a1 n1 c1 a2 n2 c2] w fun e w' => e = .returned (.tuple #[digestV zD, .iface 27 (.int .i64 2)]) ∧ Below w.heap.size w w' := by
  obtain ⟨w2, hw2⟩ : ∃ w2, ((w.alloc (.cells (cellsB m).toArray 23)).alloc (.cells #[.int .i64 i, .slice a1 n1 c1, .slice a2 n2 c2] 26)).alloc (.cells (cellsB zD).toArray 23) = w2 := ⟨_, rfl⟩
  have hs1 : (w.alloc (.cells (cellsB m).toArray 23)).heap.size = w.heap.size + 1 := by simp
  have hs2 : ((w.alloc (.cells (cellsB m).toArray 23)).alloc (.cells #[.int .i64 i, .slice a1 n1 c1, .slice a2 n2 c2] 26)).heap.size = w.heap.size + 1 + 1 := by simp
  have HS2 : Hid (w2.heap.size = w.heap.size + 1 + 1 + 1) := by unfold Hid; rw [← hw2]; simp
  have HB2 : Hid (Below w.heap.size w w2) := by rw [← hw2]; exact (((Below.refl _ _).alloc (Nat.le_refl _) _).alloc (by simp) _).alloc (by simp; omega) _
  have HM2 : Hid (DAt w2 w.heap.size 0 m) := by rw [← hw2]; exact World.rangeAt_alloc (World.rangeAt_alloc (box_dat w m _) _) _
  have HR2 : Hid (w2.rangeAt (w.heap.size + 1) 0 (#[.int .i64 i, .slice a1 n1 c1, .slice a2 n2 c2] : Array Value).toList) := by rw [← hw2]; exact World.rangeAt_alloc (box_rangeAt _ (#[.int .i64 i, .slice a1 n1 c1, .slice a2 n2 c2] : Array Value).toList _ _ hs1) _
  have HT2 : Hid (w2.there (w.heap.size + 1 + 1) 0 32) := by rw [← hw2]; exact alloc_thereAt _ _ _ 32 _ hs2 zD_size.symm
  clear G R1 R2
  unfold sigV
  go_enter Tryz.func18, Tryz.ntmps18
  go_wp2_with (refine wpList_allocE (by rfl) 23 (by rfl) (cellsB zD).toArray Tryz.zeroDg (w.heap.size + 1 + 1) hs2 w2 hw2 ?_)
  clear hw2 hs1 hs2
  refine (wheight_out h w2 hh h1 h2).mono ?_
  rintro e wq ⟨rfl, hq⟩
  have hq' : w2 = wq := hq.symm
  subst hq'
  clear hh
  have lZ : zD.length = 32 := rfl
  have hbu : Tryz.prog.built 23 [] = some (cellsB zD).toArray := by kernel_rfl
  obtain ⟨Z, hZ⟩ : ∃ Z, zD = Z := ⟨_, rfl⟩
  have HZ : Hid (zD = Z) := hZ
  rw [hZ] at lZ hbu
  have HBU : Hid (Tryz.prog.built 23 [] = some (cellsB Z).toArray) := hbu
  clear hZ hbu
  go_wp2_with (first
    | (refine wpList_buildC (by rfl) 23 #[] (by rfl) (cellsB Z).toArray (by simpa using HBU.out) ?_)
    | (refine wpList_store_mid (by rfl) 23 (.tmp 6) (.tmp 13) (by rfl) (w.heap.size + 1 + 1) 0 (cellsB Z).toArray (by rfl) (by rfl) (by rw [cellsB_size, lZ]; exact HT2.out) (by rw [cellsB_size, lZ]; exact Tryz.sizeDg) (all_oneCell_toArray (cellsB_one _)) ?_))
  refine bodyPost_ret (v := .tuple #[digestV Z, .iface 27 (.int .i64 2)]) (run_results_row2 Tryz.results18 _ _ (w.heap.size + 1 + 1) 0 (by rfl) _ (by rfl) (cellsB Z) (World.rangeAt_setCells_same _ _ _ _ (by rw [cellsB_length, lZ]; exact HT2.out)) _ Tryz.underlying23 (by rfl) (by rw [cellsB_length, lZ]; exact Tryz.sizeDg)) rfl ⟨by rw [HZ.out], ?_⟩
  exact below_setCells _ (by omega) _ _ _ HB2.out
set_option maxRecDepth 100000 in
set_option maxHeartbeats 1000000 in
theorem wrec_short (m : List UInt8) (h : Nat) (i : Int) (a1 : Option Addr) (n1 c1 : Nat) (a2 : Option Addr) (n2 c2 : Nat) (sig path : List (List UInt8)) (w : World) (G : Env w) (hm : m.length = 32) (hh : h ≤ 4) (i1 : -9223372036854775808 ≤ i) (i2 : i ≤ 9223372036854775807) (R1 : DRow w a1 n1 sig) (hc1 : n1 ≤ c1) (z1 : 32 * n1 ≤ 140737488351232) (R2 : DRow w a2 n2 path) (hc2 : n2 ≤ c2) (z2 : 32 * n2 ≤ 140737488351232) (hn : n1 ≠ 67) :
    Calls Tryz.prog 18 #[digestV m, .int .i64 (h : Int), sigV i a1 n1 c1 a2 n2 c2] w fun e w' => e = .returned (.tuple #[digestV zD, .iface 27 (.int .i64 3)]) ∧ Below w.heap.size w w' := by
  obtain ⟨w2, hw2⟩ : ∃ w2, ((w.alloc (.cells (cellsB m).toArray 23)).alloc (.cells #[.int .i64 i, .slice a1 n1 c1, .slice a2 n2 c2] 26)).alloc (.cells (cellsB zD).toArray 23) = w2 := ⟨_, rfl⟩
  have hs1 : (w.alloc (.cells (cellsB m).toArray 23)).heap.size = w.heap.size + 1 := by simp
  have hs2 : ((w.alloc (.cells (cellsB m).toArray 23)).alloc (.cells #[.int .i64 i, .slice a1 n1 c1, .slice a2 n2 c2] 26)).heap.size = w.heap.size + 1 + 1 := by simp
  have HS2 : Hid (w2.heap.size = w.heap.size + 1 + 1 + 1) := by unfold Hid; rw [← hw2]; simp
  have HB2 : Hid (Below w.heap.size w w2) := by rw [← hw2]; exact (((Below.refl _ _).alloc (Nat.le_refl _) _).alloc (by simp) _).alloc (by simp; omega) _
  have HM2 : Hid (DAt w2 w.heap.size 0 m) := by rw [← hw2]; exact World.rangeAt_alloc (World.rangeAt_alloc (box_dat w m _) _) _
  have HR2 : Hid (w2.rangeAt (w.heap.size + 1) 0 (#[.int .i64 i, .slice a1 n1 c1, .slice a2 n2 c2] : Array Value).toList) := by rw [← hw2]; exact World.rangeAt_alloc (box_rangeAt _ (#[.int .i64 i, .slice a1 n1 c1, .slice a2 n2 c2] : Array Value).toList _ _ hs1) _
  have HT2 : Hid (w2.there (w.heap.size + 1 + 1) 0 32) := by rw [← hw2]; exact alloc_thereAt _ _ _ 32 _ hs2 zD_size.symm
  have HCS : Hid (∀ wx, Below w2.heap.size w2 wx → wx.cell? ⟨w.heap.size + 1, 0, none⟩ = some (.int .i64 i) ∧ wx.cell? ⟨w.heap.size + 1, 1, none⟩ = some (.slice a1 n1 c1) ∧ wx.cell? ⟨w.heap.size + 1, 2, none⟩ = some (.slice a2 n2 c2) ∧ wx.rangeAt w.heap.size 0 (cellsB m) ∧ wx.there (w.heap.size + 1 + 1) 0 32 ∧ Env wx ∧ DRow wx a1 n1 sig ∧ DRow wx a2 n2 path ∧ Below w.heap.size w wx) := fun wx hx => by
    have s := HS2.out
    have b : Below w.heap.size w wx := HB2.out.trans (hx.mono (by omega))
    have r := range_three (range_below HR2.out hx (by omega))
    exact ⟨r.1, r.2.1, r.2.2, range_below HM2.out hx (by omega), there_below HT2.out hx (by omega), G.below b, R1.below b, R2.below b, b⟩
  clear G R1 R2 HM2 HR2 HT2
  have hcw : w2.cell? ⟨w.heap.size + 1, 1, none⟩ = some (.slice a1 n1 c1) := (HCS.out w2 (Below.refl _ _)).2.1
  have HMX : Hid (w2.rangeAt w.heap.size 0 (cellsB m)) := (HCS.out w2 (Below.refl _ _)).2.2.2.1
  unfold sigV
  go_enter Tryz.func18, Tryz.ntmps18
  go_wp2_with (refine wpList_allocE (by rfl) 23 (by rfl) (cellsB zD).toArray Tryz.zeroDg (w.heap.size + 1 + 1) hs2 w2 hw2 ?_)
  clear hw2 hs1 hs2
  refine (wheight_in h w2 hh).mono ?_
  rintro e wq ⟨rfl, hq⟩
  have hq' : w2 = wq := hq.symm
  subst hq'
  go_wp2_with (refine wpList_load_mid (by rfl) 23 (.tmp 3) (by rfl) w.heap.size 0 (by rfl) (cellsB m) _ HMX.out Tryz.underlying23 (by rfl) (by rw [cellsB_length, hm]; exact Tryz.sizeDg) ?_)
  refine (wwots_short m a1 n1 c1 w2 (HCS.out w2 (Below.refl _ _)).2.2.2.2.2.1 hm hn (by omega)).mono ?_
  rintro e w3 ⟨rfl, hb3⟩
  have HB3 : Hid (Below w2.heap.size w2 w3) := hb3
  clear hb3 hcw
  have lZ : zD.length = 32 := rfl
  have hbu : Tryz.prog.built 23 [] = some (cellsB zD).toArray := by kernel_rfl
  obtain ⟨Z, hZ⟩ : ∃ Z, zD = Z := ⟨_, rfl⟩
  have HZ : Hid (zD = Z) := hZ
  rw [hZ] at lZ hbu
  have HBU : Hid (Tryz.prog.built 23 [] = some (cellsB Z).toArray) := hbu
  rw [hZ]
  clear hZ hbu
  obtain ⟨g3, hg3⟩ : ∃ g3, w3.heap.size = g3 := ⟨_, rfl⟩
  obtain ⟨w4, hw4⟩ : ∃ w4, w3.alloc (.cells (cellsB zD).toArray 23) = w4 := ⟨_, rfl⟩
  have HT4 : Hid (w4.there g3 0 32) := by rw [← hw4]; exact alloc_thereAt _ _ _ 32 _ hg3 zD_size.symm
  have HB4 : Hid (Below w2.heap.size w2 (w4.setCells g3 0 (cellsB Z))) := below_setCells _ (by rw [← hg3]; exact HB3.out.size) _ _ _ (by rw [← hw4]; exact HB3.out.alloc HB3.out.size _)
  have HT5 : Hid ((w4.setCells g3 0 (cellsB Z)).there (w.heap.size + 1 + 1) 0 32) := (HCS.out _ HB4.out).2.2.2.2.1
  have HBB : Hid (Below w.heap.size w (w4.setCells g3 0 (cellsB Z))) := (HCS.out _ HB4.out).2.2.2.2.2.2.2.2
  go_wp2_with (first
    | (refine wpList_allocE (by rfl) 23 (by rfl) (cellsB zD).toArray Tryz.zeroDg g3 hg3 w4 hw4 ?_)
    | (refine wpList_store_mid (by rfl) 23 (.tmp 8) (.tmp 20) (by rfl) g3 0 (cellsB Z).toArray (by rfl) (by rfl) (by rw [cellsB_size, lZ]; exact HT4.out) (by rw [cellsB_size, lZ]; exact Tryz.sizeDg) (all_oneCell_toArray (cellsB_one _)) ?_)
    | (refine wpList_buildC (by rfl) 23 #[] (by rfl) (cellsB Z).toArray (by simpa using HBU.out) ?_)
    | (refine wpList_store_mid (by rfl) 23 (.tmp 6) (.tmp 24) (by rfl) (w.heap.size + 1 + 1) 0 (cellsB Z).toArray (by rfl) (by rfl) (by rw [cellsB_size, lZ]; exact HT5.out) (by rw [cellsB_size, lZ]; exact Tryz.sizeDg) (all_oneCell_toArray (cellsB_one _)) ?_))
  refine bodyPost_ret (v := .tuple #[digestV Z, .iface 27 (.int .i64 3)]) (run_results_row2 Tryz.results18 _ _ (w.heap.size + 1 + 1) 0 (by rfl) _ (by rfl) (cellsB Z) (World.rangeAt_setCells_same _ _ _ _ (by rw [cellsB_length, lZ]; exact HT5.out)) _ Tryz.underlying23 (by rfl) (by rw [cellsB_length, lZ]; exact Tryz.sizeDg)) rfl ⟨by rw [HZ.out], ?_⟩
  exact below_setCells _ (by omega) _ _ _ HBB.out
set_option maxRecDepth 100000 in
set_option maxHeartbeats 1000000 in
theorem wrec_fold (m : List UInt8) (h : Nat) (i : Int) (a1 : Option Addr) (n1 c1 : Nat) (a2 : Option Addr) (n2 c2 : Nat) (sig path : List (List UInt8)) (w : World) (G : Env w) (hm : m.length = 32) (hh : h ≤ 4) (i1 : -9223372036854775808 ≤ i) (i2 : i ≤ 9223372036854775807) (R1 : DRow w a1 n1 sig) (hc1 : n1 ≤ c1) (z1 : 32 * n1 ≤ 140737488351232) (R2 : DRow w a2 n2 path) (hc2 : n2 ≤ c2) (z2 : 32 * n2 ≤ 140737488351232) (hn : n1 = 67) (D : List UInt8) (ev : Value) (hD : D.length = 32) (hF : ∀ wx, Env wx → DRow wx a2 n2 path → Calls Tryz.prog 37 #[digestV (wotsKeyL m sig), .int .i64 i, .int .i64 ((2 ^ h : Nat) : Int), .slice a2 n2 c2] wx fun e w' => e = .returned (.tuple #[digestV D, ev]) ∧ Below wx.heap.size wx w') :
    Calls Tryz.prog 18 #[digestV m, .int .i64 (h : Int), sigV i a1 n1 c1 a2 n2 c2] w fun e w' => e = .returned (.tuple #[digestV D, ev]) ∧ Below w.heap.size w w' := by
  subst hn
  obtain ⟨w2, hw2⟩ : ∃ w2, ((w.alloc (.cells (cellsB m).toArray 23)).alloc (.cells #[.int .i64 i, .slice a1 67 c1, .slice a2 n2 c2] 26)).alloc (.cells (cellsB zD).toArray 23) = w2 := ⟨_, rfl⟩
  have hs1 : (w.alloc (.cells (cellsB m).toArray 23)).heap.size = w.heap.size + 1 := by simp
  have hs2 : ((w.alloc (.cells (cellsB m).toArray 23)).alloc (.cells #[.int .i64 i, .slice a1 67 c1, .slice a2 n2 c2] 26)).heap.size = w.heap.size + 1 + 1 := by simp
  have HS2 : Hid (w2.heap.size = w.heap.size + 1 + 1 + 1) := by unfold Hid; rw [← hw2]; simp
  have HB2 : Hid (Below w.heap.size w w2) := by rw [← hw2]; exact (((Below.refl _ _).alloc (Nat.le_refl _) _).alloc (by simp) _).alloc (by simp; omega) _
  have HM2 : Hid (DAt w2 w.heap.size 0 m) := by rw [← hw2]; exact World.rangeAt_alloc (World.rangeAt_alloc (box_dat w m _) _) _
  have HR2 : Hid (w2.rangeAt (w.heap.size + 1) 0 (#[.int .i64 i, .slice a1 67 c1, .slice a2 n2 c2] : Array Value).toList) := by rw [← hw2]; exact World.rangeAt_alloc (box_rangeAt _ (#[.int .i64 i, .slice a1 67 c1, .slice a2 n2 c2] : Array Value).toList _ _ hs1) _
  have HT2 : Hid (w2.there (w.heap.size + 1 + 1) 0 32) := by rw [← hw2]; exact alloc_thereAt _ _ _ 32 _ hs2 zD_size.symm
  have HCS : Hid (∀ wx, Below w2.heap.size w2 wx → wx.cell? ⟨w.heap.size + 1, 0, none⟩ = some (.int .i64 i) ∧ wx.cell? ⟨w.heap.size + 1, 1, none⟩ = some (.slice a1 67 c1) ∧ wx.cell? ⟨w.heap.size + 1, 2, none⟩ = some (.slice a2 n2 c2) ∧ wx.rangeAt w.heap.size 0 (cellsB m) ∧ wx.there (w.heap.size + 1 + 1) 0 32 ∧ Env wx ∧ DRow wx a1 67 sig ∧ DRow wx a2 n2 path ∧ Below w.heap.size w wx) := fun wx hx => by
    have s := HS2.out
    have b : Below w.heap.size w wx := HB2.out.trans (hx.mono (by omega))
    have r := range_three (range_below HR2.out hx (by omega))
    exact ⟨r.1, r.2.1, r.2.2, range_below HM2.out hx (by omega), there_below HT2.out hx (by omega), G.below b, R1.below b, R2.below b, b⟩
  clear G R1 R2 HM2 HR2 HT2
  have hcw : w2.cell? ⟨w.heap.size + 1, 1, none⟩ = some (.slice a1 67 c1) := (HCS.out w2 (Below.refl _ _)).2.1
  have HMX : Hid (w2.rangeAt w.heap.size 0 (cellsB m)) := (HCS.out w2 (Below.refl _ _)).2.2.2.1
  have HFF : Hid (∀ wx, Env wx → DRow wx a2 n2 path → Calls Tryz.prog 37 #[digestV (wotsKeyL m sig), .int .i64 i, .int .i64 ((2 ^ h : Nat) : Int), .slice a2 n2 c2] wx fun e w' => e = .returned (.tuple #[digestV D, ev]) ∧ Below wx.heap.size wx w') := hF
  clear hF
  obtain ⟨n, hn'⟩ : ∃ n, 2 ^ h = n := ⟨_, rfl⟩
  have hn1 : 1 ≤ n := by rw [← hn']; exact (Stm.pow hh).1
  have hn16 : n ≤ 16 := by rw [← hn']; exact (Stm.pow hh).2
  have key : wrap64 ((2 : Int) ^ h) = (n : Int) := by
    have e : ((2 : Int) ^ h) = ((2 ^ h : Nat) : Int) := by simp
    rw [e, hn']
    simp only [wrap64]
    omega
  have HN : Hid (2 ^ h = n) := hn'
  clear key
  have key : IntKind.i64.wrap ((2 : Int) ^ h) = (n : Int) := by
    have e : ((2 : Int) ^ h) = ((2 ^ h : Nat) : Int) := by simp
    rw [e, hn', IntKind.wrap_i64]; omega
  rw [hn'] at HFF
  clear hn'
  unfold sigV
  go_enter Tryz.func18, Tryz.ntmps18
  go_wp2_with (refine wpList_allocE (by rfl) 23 (by rfl) (cellsB zD).toArray Tryz.zeroDg (w.heap.size + 1 + 1) hs2 w2 hw2 ?_)
  clear hw2 hs1 hs2
  refine (wheight_in h w2 hh).mono ?_
  rintro e wq ⟨rfl, hq⟩
  have hq' : w2 = wq := hq.symm
  subst hq'
  go_wp2_with (refine wpList_load_mid (by rfl) 23 (.tmp 3) (by rfl) w.heap.size 0 (by rfl) (cellsB m) _ HMX.out Tryz.underlying23 (by rfl) (by rw [cellsB_length, hm]; exact Tryz.sizeDg) ?_)
  refine (wwots_recover m a1 c1 sig w2 (HCS.out w2 (Below.refl _ _)).2.2.2.2.2.1 hm (HCS.out w2 (Below.refl _ _)).2.2.2.2.2.2.1).mono ?_
  rintro e w3 ⟨rfl, hb3⟩
  have HB3 : Hid (Below w2.heap.size w2 w3) := hb3
  have lK := wotsKeyL_length m sig
  clear hb3 hcw
  generalize wotsKeyL m sig = K' at *
  obtain ⟨g3, hg3⟩ : ∃ g3, w3.heap.size = g3 := ⟨_, rfl⟩
  obtain ⟨w4, hw4⟩ : ∃ w4, w3.alloc (.cells (cellsB zD).toArray 23) = w4 := ⟨_, rfl⟩
  have HT4 : Hid (w4.there g3 0 32) := by rw [← hw4]; exact alloc_thereAt _ _ _ 32 _ hg3 zD_size.symm
  have HB4 : Hid (Below w2.heap.size w2 (w4.setCells g3 0 (cellsB K'))) := below_setCells _ (by rw [← hg3]; exact HB3.out.size) _ _ _ (by rw [← hw4]; exact HB3.out.alloc HB3.out.size _)
  have HK4 : Hid ((w4.setCells g3 0 (cellsB K')).rangeAt g3 0 (cellsB K')) := dat_stored HT4.out lK
  have HG3 : Hid (w2.heap.size ≤ g3) := by rw [← hg3]; exact HB3.out.size
  go_upto_region 6 with (first
    | (refine wpList_allocE (by rfl) 23 (by rfl) (cellsB zD).toArray Tryz.zeroDg g3 hg3 w4 hw4 ?_)
    | (refine wpList_store_mid (by rfl) 23 (.tmp 8) (.tmp 20) (by rfl) g3 0 (cellsB K').toArray (by rfl) (by rfl) (by rw [cellsB_size, lK]; exact HT4.out) (by rw [cellsB_size, lK]; exact Tryz.sizeDg) (all_oneCell_toArray (cellsB_one _)) ?_))
  clear hw4 hg3 HB3 HT4
  generalize w4.setCells g3 0 (cellsB K') = w5 at *
  have HKX : Hid (∀ wx, Below w5.heap.size w5 wx → wx.rangeAt g3 0 (cellsB K') ∧ Below w2.heap.size w2 wx) := fun wx hx => ⟨range_below HK4.out hx (cell_block ((show DAt w5 g3 0 K' from HK4.out).cell 0 (by omega))), HB4.out.trans (hx.mono HB4.out.size)⟩
  refine wp_region_noPanic ?_
  refine wp_region_held_drew (S := fun wx => wx.rangeAt g3 0 (cellsB K') ∧ wx.cell? ⟨w.heap.size + 1, 0, none⟩ = some (.int .i64 i) ∧ wx.cell? ⟨w.heap.size + 1, 2, none⟩ = some (.slice a2 n2 c2)) (by kernel_rfl) (by have k := HKX.out _ (below_drewN w5 1); have q := HCS.out _ k.2; exact ⟨k.1, q.1, q.2.2.1⟩) (fun hHeld => ?_)
  try simp only [Act.put, List.setIfInBounds_toArray, List.set_cons_zero, List.set_cons_succ]
  have HBd : Hid (Below w5.heap.size w5 w5.drew) := below_drewN w5 1
  generalize w5.drew = wd at *
  refine wpAnyH_take (i := 0) (v := .agg (cellsB K').toArray) (by simp only [List.getElem?_toArray, List.getElem?_cons_zero, List.getElem?_cons_succ]; rfl) (by kernel_rfl) (by kernel_rfl) (by kernel_rfl) (fun _ _ _ h => h)
    (yieldsIf_load_mid (by rfl) _ _ rfl _ _ rfl _ _ (fun w hw => hw.1) Tryz.underlying23 rfl (by rw [cellsB_length, lK]; exact Tryz.sizeDg)) hHeld ?_
  try simp only [Act.put, List.setIfInBounds_toArray, List.set_cons_zero, List.set_cons_succ]
  refine wpAnyH_take (i := 1) (v := ?_) (by simp only [List.getElem?_toArray, List.getElem?_cons_zero, List.getElem?_cons_succ]; rfl) (by kernel_rfl) (by kernel_rfl) (by kernel_rfl) (fun _ _ _ h => h) (Or.inl ⟨by rfl, ?_⟩) hHeld ?_
  rotate_left
  · intro w hSw
    obtain ⟨hSw0, hSw1, hSw2⟩ := hSw
    go_simp
    try with_reducible rfl
  try simp only [Act.put, List.setIfInBounds_toArray, List.set_cons_zero, List.set_cons_succ]
  refine wpAnyH_take (i := 2) (v := ?_) (by simp only [List.getElem?_toArray, List.getElem?_cons_zero, List.getElem?_cons_succ]; rfl) (by kernel_rfl) (by kernel_rfl) (by kernel_rfl) (fun _ _ _ h => h) (Or.inl ⟨by rfl, ?_⟩) hHeld ?_
  rotate_left
  · intro w hSw
    obtain ⟨hSw0, hSw1, hSw2⟩ := hSw
    go_simp
    try with_reducible rfl
  try simp only [Act.put, List.setIfInBounds_toArray, List.set_cons_zero, List.set_cons_succ]
  refine wpAnyH_take (i := 3) (v := ?_) (by simp only [List.getElem?_toArray, List.getElem?_cons_zero, List.getElem?_cons_succ]; rfl) (by kernel_rfl) (by kernel_rfl) (by kernel_rfl) (fun _ _ _ h => h) (Or.inl ⟨by rfl, ?_⟩) hHeld ?_
  rotate_left
  · intro w hSw
    obtain ⟨hSw0, hSw1, hSw2⟩ := hSw
    go_simp
    try with_reducible rfl
  try simp only [Act.put, List.setIfInBounds_toArray, List.set_cons_zero, List.set_cons_succ]
  refine wpAnyH_take (i := 4) (v := .int .i64 (n : Int)) (by simp only [List.getElem?_toArray, List.getElem?_cons_zero, List.getElem?_cons_succ]; rfl) (by kernel_rfl) (by kernel_rfl) (by kernel_rfl) (fun _ _ _ h => h) (Or.inl ⟨by rfl, ?_⟩) hHeld ?_
  · intro w hSw
    obtain ⟨hSw0, hSw1, hSw2⟩ := hSw
    go_simp
  try simp only [Act.put, List.setIfInBounds_toArray, List.set_cons_zero, List.set_cons_succ]
  refine wpAnyH_take (i := 5) (v := ?_) (by simp only [List.getElem?_toArray, List.getElem?_cons_zero, List.getElem?_cons_succ]; rfl) (by kernel_rfl) (by kernel_rfl) (by kernel_rfl) (fun _ _ _ h => h) (Or.inl ⟨by rfl, ?_⟩) hHeld ?_
  rotate_left
  · intro w hSw
    obtain ⟨hSw0, hSw1, hSw2⟩ := hSw
    go_simp
    try with_reducible rfl
  try simp only [Act.put, List.setIfInBounds_toArray, List.set_cons_zero, List.set_cons_succ]
  refine wpAnyH_take (i := 6) (v := ?_) (by simp only [List.getElem?_toArray, List.getElem?_cons_zero, List.getElem?_cons_succ]; rfl) (by kernel_rfl) (by kernel_rfl) (by kernel_rfl) (fun _ _ _ h => h) (Or.inl ⟨by rfl, ?_⟩) hHeld ?_
  rotate_left
  · intro w hSw
    obtain ⟨hSw0, hSw1, hSw2⟩ := hSw
    go_simp
    try with_reducible rfl
  try simp only [Act.put, List.setIfInBounds_toArray, List.set_cons_zero, List.set_cons_succ]
  refine wpAnyH_ready (rs := [7]) (by kernel_rfl) (by simp) ?_
  refine AllReadyH.cons (by simp only [List.getElem?_toArray, List.getElem?_cons_zero, List.getElem?_cons_succ]; rfl) (fun K hK => ?_) AllReadyH.nil
  rw [if_pos (by rfl)]
  go_simp
  refine (HFF.out wd (HCS.out _ (HKX.out _ HBd.out).2).2.2.2.2.2.1 (HCS.out _ (HKX.out _ HBd.out).2).2.2.2.2.2.2.2.1).mono ?_
  rintro e wn ⟨rfl, hbn⟩
  have HBn : Hid (Below w5.heap.size w5 wn) := HBd.out.trans (hbn.mono HBd.out.size)
  clear hbn HBd
  go_wp2_with fail
  refine hK.out _ _ (by have k := HKX.out _ HBn.out; have q := HCS.out _ k.2; exact ⟨k.1, q.1, q.2.2.1⟩) (fun hHeld => ?_)
  clear hK K
  try simp only [Act.put, List.setIfInBounds_toArray, List.set_cons_zero, List.set_cons_succ]
  refine wpAnyH_take (i := 8) (v := ?_) (by simp only [List.getElem?_toArray, List.getElem?_cons_zero, List.getElem?_cons_succ]; rfl) (by kernel_rfl) (by kernel_rfl) (by kernel_rfl) (fun _ _ _ h => h) (Or.inl ⟨by rfl, ?_⟩) hHeld ?_
  rotate_left
  · intro w hSw
    obtain ⟨hSw0, hSw1, hSw2⟩ := hSw
    go_simp
    try with_reducible rfl
  try simp only [Act.put, List.setIfInBounds_toArray, List.set_cons_zero, List.set_cons_succ]
  refine wpAnyH_take (i := 9) (v := ?_) (by simp only [List.getElem?_toArray, List.getElem?_cons_zero, List.getElem?_cons_succ]; rfl) (by kernel_rfl) (by kernel_rfl) (by kernel_rfl) (fun _ _ _ h => h) (Or.inl ⟨by rfl, ?_⟩) hHeld ?_
  rotate_left
  · intro w hSw
    obtain ⟨hSw0, hSw1, hSw2⟩ := hSw
    go_simp
    try with_reducible rfl
  try simp only [Act.put, List.setIfInBounds_toArray, List.set_cons_zero, List.set_cons_succ]
  refine wpAnyH_ready (rs := [10]) (by kernel_rfl) (by simp) ?_
  refine AllReadyH.cons (by simp only [List.getElem?_toArray, List.getElem?_cons_zero, List.getElem?_cons_succ]; rfl) (fun K hK => ?_) AllReadyH.nil
  rw [if_pos (by rfl)]
  have HTn : Hid (wn.there (w.heap.size + 1 + 1) 0 32) := (HCS.out _ (HKX.out _ HBn.out).2).2.2.2.2.1
  have HNE : Hid (g3 ≠ w.heap.size + 1 + 1 ∧ w.heap.size + 1 ≠ w.heap.size + 1 + 1) := by have := HG3.out; have := HS2.out; exact ⟨by omega, by omega⟩
  refine wp_store_mid _ _ _ rfl (w.heap.size + 1 + 1) 0 (cellsB D).toArray rfl rfl (by rw [cellsB_size, hD]; exact HTn.out) (by rw [cellsB_size, hD]; exact Tryz.sizeDg) (all_oneCell_toArray (cellsB_one _)) ?_
  refine hK.out _ _ ⟨World.rangeAt_setCells_apart hHeld.1 _ _ _ (.inl HNE.out.1), ?_, ?_⟩ (fun hHeld => ?_)
  · rw [World.cell?_setCells_out _ _ _ _ _ (fun hh _ => absurd hh HNE.out.2)]; exact hHeld.2.1
  · rw [World.cell?_setCells_out _ _ _ _ _ (fun hh _ => absurd hh HNE.out.2)]; exact hHeld.2.2
  clear hK K
  try simp only [Act.put, List.setIfInBounds_toArray, List.set_cons_zero, List.set_cons_succ]
  refine wpAnyH_take (i := 11) (v := ?_) (by simp only [List.getElem?_toArray, List.getElem?_cons_zero, List.getElem?_cons_succ]; rfl) (by kernel_rfl) (by kernel_rfl) (by kernel_rfl) (fun _ _ _ h => h) (Or.inl ⟨by rfl, ?_⟩) hHeld ?_
  rotate_left
  · intro w hSw
    obtain ⟨hSw0, hSw1, hSw2⟩ := hSw
    go_simp
    try with_reducible rfl
  try simp only [Act.put, List.setIfInBounds_toArray, List.set_cons_zero, List.set_cons_succ]
  refine wpAnyH_done (by kernel_rfl) (NoPanic.normal ?_) _
  have HBB : Hid (Below w.heap.size w (wn.setCells (w.heap.size + 1 + 1) 0 (cellsB D))) := below_setCells _ (by omega) _ _ _ (HCS.out _ (HKX.out _ HBn.out).2).2.2.2.2.2.2.2.2
  clear hHeld HKX HCS HBn
  go_wp2_with fail
  refine bodyPost_ret (v := .tuple #[digestV D, ev]) (run_results_row2 Tryz.results18 _ _ (w.heap.size + 1 + 1) 0 (by rfl) _ (by rfl) (cellsB D) (World.rangeAt_setCells_same _ _ _ _ (by rw [cellsB_length, hD]; exact HTn.out)) _ Tryz.underlying23 (by rfl) (by rw [cellsB_length, hD]; exact Tryz.sizeDg)) rfl ⟨rfl, HBB.out⟩
theorem wstamp_recover (m : List UInt8) (h i n : Nat) (a1 : Option Addr) (c1 : Nat) (a2 : Option Addr) (p c2 : Nat) (sig path : List (List UInt8)) (w : World) (G : Env w) (hm : m.length = 32) (hh : h ≤ 4) (hn : n = 2 ^ h) (hi : i < n) (R1 : DRow w a1 67 sig) (hc1 : 67 ≤ c1) (R2 : DRow w a2 p path) (hc2 : p ≤ c2) (hp : p = longT i n) :
    Calls Tryz.prog 18 #[digestV m, .int .i64 (h : Int), sigV (i : Int) a1 67 c1 a2 p c2] w fun e w' => e = .returned (.tuple #[digestV (stampTellL m i n sig path), .nilIface]) ∧ Below w.heap.size w w' := by
  have hn16 := Stm.pow hh
  have hl := longT_le n i
  subst hn
  exact wrec_fold m h (i : Int) a1 67 c1 a2 p c2 sig path w G hm hh (by omega) (by omega) R1 hc1 (by omega) R2 hc2 (by omega) rfl (stampTellL m i (2 ^ h) sig path) .nilIface (foldT_length (wotsKeyL_length m sig) _ _ _) (fun wx Gx Rx => wtree_fold (wotsKeyL m sig) i (2 ^ h) p c2 a2 path wx Gx (wotsKeyL_length m sig) Rx hp hc2 hn16.1 (by omega) hi)
theorem wstamp_recerr (m : List UInt8) (h : Nat) (i : Int) (a1 : Option Addr) (n1 c1 : Nat) (a2 : Option Addr) (n2 c2 : Nat) (sig path : List (List UInt8)) (w : World) (G : Env w) (hm : m.length = 32) (hh : h ≤ 4) (i1 : -9223372036854775808 ≤ i) (i2 : i ≤ 9223372036854775807) (R1 : DRow w a1 n1 sig) (hc1 : n1 ≤ c1) (z1 : 32 * n1 ≤ 140737488351232) (R2 : DRow w a2 n2 path) (hc2 : n2 ≤ c2) (z2 : 32 * n2 ≤ 140737488351232) (k : Int) (hk : recE n1 i (2 ^ h) n2 = k) (hk0 : k ≠ 0) :
    Calls Tryz.prog 18 #[digestV m, .int .i64 (h : Int), sigV i a1 n1 c1 a2 n2 c2] w fun e w' => e = .returned (.tuple #[digestV zD, .iface 27 (.int .i64 k)]) ∧ Below w.heap.size w w' := by
  have hn16 := Stm.pow hh
  by_cases q1 : n1 = 67
  · by_cases q2 : i < 0 ∨ ((2 ^ h : Nat) : Int) ≤ i
    · have hk2 : k = 2 := by rw [← hk, q1]; exact recE_at q2
      subst hk2
      exact wrec_fold m h i a1 n1 c1 a2 n2 c2 sig path w G hm hh i1 i2 R1 hc1 z1 R2 hc2 z2 q1 zD _ rfl (fun wx Gx Rx => wtree_foldout (wotsKeyL m sig) i ((2 ^ h : Nat) : Int) n2 c2 a2 path wx Gx (wotsKeyL_length m sig) Rx hc2 z2 (.inr (.inr q2)) i1 i2 (by omega) (by omega))
    · obtain ⟨j, rfl⟩ : ∃ j : Nat, i = (j : Int) := ⟨i.toNat, by omega⟩
      have hj : j < 2 ^ h := by omega
      have q3 : n2 ≠ longT j (2 ^ h) := fun e => hk0 (by rw [← hk, q1]; exact recE_ok hj e)
      have hk3 : k = 3 := by rw [← hk, q1]; exact recE_path hj q3
      subst hk3
      exact wrec_fold m h (j : Int) a1 n1 c1 a2 n2 c2 sig path w G hm hh i1 i2 R1 hc1 z1 R2 hc2 z2 q1 zD _ rfl (fun wx Gx Rx => wtree_foldlen (wotsKeyL m sig) j (2 ^ h) n2 c2 a2 path wx Gx (wotsKeyL_length m sig) Rx hc2 z2 hn16.1 (by omega) hj q3)
  · have hk3 : k = 3 := by rw [← hk]; exact recE_sig q1
    subst hk3
    exact wrec_short m h i a1 n1 c1 a2 n2 c2 sig path w G hm hh i1 i2 R1 hc1 z1 R2 hc2 z2 q1
end Go.Proofs.YtdgaimlccpmojaaGreatDoor
/- The contracts of package stamp. -/
