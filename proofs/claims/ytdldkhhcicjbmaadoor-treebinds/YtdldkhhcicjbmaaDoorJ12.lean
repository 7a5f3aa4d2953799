/- Texts of this claim, joined: Wfold, Wtree, Fast, Facttr. -/
import Derived.Test.YtdldkhhcicjbmaaDoorJ08
import Derived.Test.YtdldkhhcicjbmaaDoorJ11
import Derived.Test.YtdldkhhcicjbmaaDoorYPairs
import Derived.Test.YtdldkhhcicjbmaaDoorJ01
import Derived.Test.YtdldkhhcicjbmaaDoorJ02
import Derived.Test.YtdldkhhcicjbmaaDoorJ06
/- The contracts of tree.depth, tree.fold and tree.Fold. -/
namespace Go.Proofs.YtdldkhhcicjbmaaDoor
open Go.RowKit
set_option linter.unusedVariables false
set_option linter.unusedSimpArgs false

set_option maxRecDepth 100000 in
set_option maxHeartbeats 1000000 in
theorem wdepth_any : ∀ (n i : Nat) (w : World), 1 ≤ n → n ≤ 256 → i < n →
    Calls Tryd.prog 30 #[.int .i64 (i : Int), .int .i64 (n : Int)] w fun e w' => e = .returned (.int .i64 (longT i n : Int)) ∧ w' = w := by
  intro n
  induction n using Nat.strongRecOn with
  | ind n ih =>
    intro i w h1 hn hi
    have HI : Hid (∀ m, m < n → ∀ (i : Nat) (w : World), 1 ≤ m → m ≤ 256 → i < m → Calls Tryd.prog 30 #[.int .i64 (i : Int), .int .i64 (m : Int)] w fun e w' => e = .returned (.int .i64 (longT i m : Int)) ∧ w' = w) := ih
    clear ih
    go_enter Tryd.func30, Tryd.ntmps30
    by_cases h2 : 2 ≤ n
    · have e1 : ((n : Int) == 1) = false := by simp; omega
      go_wp2_with fail
      refine (wsplit_any n w h2 hn).mono ?_
      rintro e w' ⟨rfl, rfl⟩
      have hk1 := halfT_lt h2
      have hk2 := halfT_pos n
      by_cases c : i < halfT n
      · have HL : Hid (longT i n = 1 + longT i (halfT n)) := longT_lo h2 c
        have hlb := longT_le (halfT n) i
        have HC : Hid (Calls Tryd.prog 30 #[.int .i64 (i : Int), .int .i64 (halfT n : Int)] w' fun e w'' => e = .returned (.int .i64 (longT i (halfT n) : Int)) ∧ w'' = w') := HI.out (halfT n) hk1 i w' (by omega) (by omega) c
        generalize halfT n = k at *
        have g1 : (i : Int) < (k : Int) := by omega
        go_wp2_with fail
        refine HC.out.mono ?_
        rintro e w3 ⟨rfl, rfl⟩
        generalize longT i k = y at *
        go_wp2_with fail
        go_ret
        refine ⟨ret_int ?_, rfl⟩
        rw [HL.out]
        omega
      · have HL : Hid (longT i n = 1 + longT (i - halfT n) (n - halfT n)) := longT_hi h2 c
        have hlb := longT_le (n - halfT n) (i - halfT n)
        have HC : Hid (Calls Tryd.prog 30 #[.int .i64 ((i - halfT n : Nat) : Int), .int .i64 ((n - halfT n : Nat) : Int)] w' fun e w'' => e = .returned (.int .i64 (longT (i - halfT n) (n - halfT n) : Int)) ∧ w'' = w') := HI.out (n - halfT n) (by omega) (i - halfT n) w' (by omega) (by omega) (by omega)
        generalize halfT n = k at *
        have g1 : ¬ (i : Int) < (k : Int) := by omega
        have s1 : (i : Int) - (k : Int) = ((i - k : Nat) : Int) := by omega
        have s2 : (n : Int) - (k : Int) = ((n - k : Nat) : Int) := by omega
        have b1 : i - k ≤ 256 := by omega
        have b2 : n - k ≤ 256 := by omega
        generalize longT (i - k) (n - k) = y at *
        generalize i - k = i' at *
        generalize n - k = n' at *
        go_wp2_with fail
        refine HC.out.mono ?_
        rintro e w3 ⟨rfl, rfl⟩
        go_wp2_with fail
        go_ret
        refine ⟨ret_int ?_, rfl⟩
        rw [HL.out]
        omega
    · obtain rfl : n = 1 := by omega
      have HL : Hid (longT i 1 = 0) := longT_one h2
      go_wp2_with fail
      go_ret
      refine ⟨ret_int ?_, rfl⟩
      rw [HL.out]
      rfl

set_option maxRecDepth 100000 in
set_option maxHeartbeats 1000000 in
theorem wfold_any : ∀ (n : Nat), ∀ (l : List UInt8) (i p c : Nat) (a : Option Addr) (path : List (List UInt8)) (w : World), l.length = 32 → Env w → DRow w a p path → p = longT i n → p ≤ c → 1 ≤ n → n ≤ 256 → i < n →
    Calls Tryd.prog 31 #[digestV l, .int .i64 (i : Int), .int .i64 (n : Int), .slice a p c] w fun e w' => e = .returned (digestV (foldT l i n path)) ∧ Below w.heap.size w w' := by
  intro n
  induction n using Nat.strongRecOn with
  | ind n ih =>
    intro l i p c a path w hl G R hp hc h1 hn hi
    have HI : Hid (∀ m, m < n → ∀ (l : List UInt8) (i p c : Nat) (a : Option Addr) (path : List (List UInt8)) (w : World), l.length = 32 → Env w → DRow w a p path → p = longT i m → p ≤ c → 1 ≤ m → m ≤ 256 → i < m → Calls Tryd.prog 31 #[digestV l, .int .i64 (i : Int), .int .i64 (m : Int), .slice a p c] w fun e w' => e = .returned (digestV (foldT l i m path)) ∧ Below w.heap.size w w') := ih
    clear ih
    obtain ⟨w2, hw2⟩ : ∃ w2, (w.alloc (.cells (cellsB l).toArray 26)).alloc (.cells (cellsB zD).toArray 26) = w2 := ⟨_, rfl⟩
    have hs1 : (w.alloc (.cells (cellsB l).toArray 26)).heap.size = w.heap.size + 1 := by simp
    have HS2 : Hid (w2.heap.size = w.heap.size + 1 + 1) := by unfold Hid; rw [← hw2]; simp
    have HB2 : Hid (Below w.heap.size w w2) := by rw [← hw2]; exact ((Below.refl _ _).alloc (Nat.le_refl _) _).alloc (by simp) _
    have HL2 : Hid (DAt w2 w.heap.size 0 l) := by rw [← hw2]; exact World.rangeAt_alloc (box_dat w l _) _
    have HT2 : Hid (w2.there (w.heap.size + 1) 0 32) := by rw [← hw2]; exact alloc_thereAt _ _ _ 32 _ hs1 zD_size.symm
    have HKT : Hid (∀ wx, Below w2.heap.size w2 wx → wx.rangeAt w.heap.size 0 (cellsB l) ∧ DRow wx a p path ∧ wx.there (w.heap.size + 1) 0 32 ∧ Below w.heap.size w wx) := fun wx hx => by
      have s := HS2.out
      have b : Below w.heap.size w wx := HB2.out.trans (hx.mono (by omega))
      exact ⟨HL2.out.below hx (by omega), R.below b, there_below HT2.out hx (by omega), b⟩
    have HGE : Hid (∀ wx, Below w.heap.size w wx → Env wx) := fun wx hx => G.below hx
    have HPL : Hid (path.length = p) := R.1
    have HP32 : Hid (∀ j, j < p → (path.getD j []).length = 32) := R.len
    have HP : Hid (p = longT i n) := hp
    clear R hp G
    go_enter Tryd.func31, Tryd.ntmps31
    by_cases h2 : 2 ≤ n
    · have e1 : ((n : Int) == 1) = false := by simp; omega
      have hfl := foldT_length hl i n path
      have hk1 := halfT_lt h2
      have hk2 := halfT_pos n
      have H0 : Hid (Below w2.heap.size w2 w2) := Below.refl _ _
      have hp1 : 1 ≤ p := by
        rw [HP.out]
        by_cases hik : i < halfT n
        · rw [longT_lo h2 hik]; omega
        · rw [longT_hi h2 hik]; omega
      obtain ⟨b, o, rfl⟩ := (HKT.out _ H0.out).2.1.addr (by omega)
      obtain ⟨q, hq⟩ : ∃ q : Nat, p - 1 = q := ⟨_, rfl⟩
      have hpq : (p : Int) - 1 = (q : Int) := by omega
      have lP := HP32.out q (by omega)
      have HX : Hid (∀ wx, Below w2.heap.size w2 wx → wx.rangeAt b (o + q * 32) (cellsB (path.getD q []))) := fun wx hx => (HKT.out _ hx).2.1.at q (by omega)
      have hqp : q < p := by omega
      have hqb : q ≤ 256 := by have := longT_le n i; have := HP.out; omega
      have HRQ : Hid (∀ wx, Below w2.heap.size w2 wx → DRow wx (some ⟨b, o, none⟩) q (path.take q)) := fun wx hx => (HKT.out wx hx).2.1.take q (by omega)
      have HFL : Hid (∀ k, halfT n = k → i < k → foldT l i n path = nodeT (foldT l i k (path.take q)) (path.getD q [])) := fun k hk h => by
        have := foldT_lo (l := l) (path := path) h2 (by rw [hk]; exact h)
        rw [HPL.out, hq, hk] at this
        exact this
      have HFH : Hid (∀ k, halfT n = k → ¬ i < k → foldT l i n path = nodeT (path.getD q []) (foldT l (i - k) (n - k) (path.take q))) := fun k hk h => by
        have := foldT_hi (l := l) (path := path) h2 (by rw [hk]; exact h)
        rw [HPL.out, hq, hk] at this
        exact this
      have HQL : Hid (∀ k, halfT n = k → i < k → q = longT i k) := fun k hk h => by
        have := longT_lo (n := n) h2 (by rw [hk]; exact h)
        rw [hk] at this
        have := HP.out
        omega
      have HQH : Hid (∀ k, halfT n = k → ¬ i < k → q = longT (i - k) (n - k)) := fun k hk h => by
        have := longT_hi (n := n) h2 (by rw [hk]; exact h)
        rw [hk] at this
        have := HP.out
        omega
      generalize path.getD q [] = P at *
      generalize path.take q = PT at *
      have HBK : Hid (b < w2.heap.size) := cell_block ((show DAt w2 b (o + q * 32) P from HX.out _ H0.out).cell 0 (by omega))
      have q0 : (0 : Int) ≤ (q : Int) := by omega
      have q1 : (q : Int) < (p : Int) := by omega
      have q2 : (q : Int) ≤ (c : Int) := by omega
      have hpi : (p : Int) ≤ 257 := by omega
      clear hq
      go_wp2_with (refine wpList_allocE (by rfl) 26 (by rfl) (cellsB zD).toArray Tryd.zeroDg (w.heap.size + 1) hs1 w2 hw2 ?_)
      clear hw2 hs1 HL2 HT2
      refine wp_region_noPanic ?_
      refine wp_region_held_drew (S := fun wx => wx.rangeAt b (o + q * 32) (cellsB P)) (by kernel_rfl) (HX.out _ (below_drewN w2 1)) (fun hHeld => ?_)
      try simp only [Act.put, List.setIfInBounds_toArray, List.set_cons_zero, List.set_cons_succ]
      have HBd : Hid (Below w2.heap.size w2 w2.drew) := below_drewN w2 1
      generalize w2.drew = wd at *
      refine wpAnyH_take (i := 0) (v := ?_) (by simp only [List.getElem?_toArray, List.getElem?_cons_zero, List.getElem?_cons_succ]; rfl) (by kernel_rfl) (by kernel_rfl) (by kernel_rfl) (fun _ _ _ h => h) (Or.inl ⟨by rfl, ?_⟩) hHeld ?_
      rotate_left
      · intro w hSw
        go_simp
        try with_reducible rfl
      try simp only [Act.put, List.setIfInBounds_toArray, List.set_cons_zero, List.set_cons_succ]
      refine wpAnyH_take (i := 1) (v := ?_) (by simp only [List.getElem?_toArray, List.getElem?_cons_zero, List.getElem?_cons_succ]; rfl) (by kernel_rfl) (by kernel_rfl) (by kernel_rfl) (fun _ _ _ h => h) (Or.inl ⟨by rfl, ?_⟩) hHeld ?_
      rotate_left
      · intro w hSw
        go_simp
        try with_reducible rfl
      try simp only [Act.put, List.setIfInBounds_toArray, List.set_cons_zero, List.set_cons_succ]
      refine wpAnyH_take (i := 2) (v := .slice (some ⟨b, o, none⟩) q c) (by simp only [List.getElem?_toArray, List.getElem?_cons_zero, List.getElem?_cons_succ]; rfl) (by kernel_rfl) (by kernel_rfl) (by kernel_rfl) (fun _ _ _ h => h) (Or.inl ⟨by rfl, ?_⟩) hHeld ?_
      · intro w hSw
        go_simp
      try simp only [Act.put, List.setIfInBounds_toArray, List.set_cons_zero, List.set_cons_succ]
      refine wpAnyH_take (i := 3) (v := ?_) (by simp only [List.getElem?_toArray, List.getElem?_cons_zero, List.getElem?_cons_succ]; rfl) (by kernel_rfl) (by kernel_rfl) (by kernel_rfl) (fun _ _ _ h => h) (Or.inl ⟨by rfl, ?_⟩) hHeld ?_
      rotate_left
      · intro w hSw
        go_simp
        try with_reducible rfl
      try simp only [Act.put, List.setIfInBounds_toArray, List.set_cons_zero, List.set_cons_succ]
      refine wpAnyH_take (i := 4) (v := ?_) (by simp only [List.getElem?_toArray, List.getElem?_cons_zero, List.getElem?_cons_succ]; rfl) (by kernel_rfl) (by kernel_rfl) (by kernel_rfl) (fun _ _ _ h => h) (Or.inl ⟨by rfl, ?_⟩) hHeld ?_
      rotate_left
      · intro w hSw
        go_simp
        try with_reducible rfl
      try simp only [Act.put, List.setIfInBounds_toArray, List.set_cons_zero, List.set_cons_succ]
      refine wpAnyH_take (i := 5) (v := .pointer (some ⟨b, o + q * 32, none⟩)) (by simp only [List.getElem?_toArray, List.getElem?_cons_zero, List.getElem?_cons_succ]; rfl) (by kernel_rfl) (by kernel_rfl) (by kernel_rfl) (fun _ _ _ h => h) (Or.inl ⟨by rfl, ?_⟩) hHeld ?_
      · intro w hSw
        go_simp
      try simp only [Act.put, List.setIfInBounds_toArray, List.set_cons_zero, List.set_cons_succ]
      refine wpAnyH_take (i := 6) (v := .agg (cellsB P).toArray) (by simp only [List.getElem?_toArray, List.getElem?_cons_zero, List.getElem?_cons_succ]; rfl) (by kernel_rfl) (by kernel_rfl) (by kernel_rfl) (fun _ _ _ h => h)
        (yieldsIf_load_mid (by rfl) _ _ rfl _ _ rfl _ _ (fun w hw => hw) Tryd.underlying26 rfl (by rw [cellsB_length, lP]; exact Tryd.sizeDg)) hHeld ?_
      try simp only [Act.put, List.setIfInBounds_toArray, List.set_cons_zero, List.set_cons_succ]
      refine wpAnyH_ready (rs := [7]) (by kernel_rfl) (by simp) ?_
      refine AllReadyH.cons (by simp only [List.getElem?_toArray, List.getElem?_cons_zero, List.getElem?_cons_succ]; rfl) (fun K hK => ?_) AllReadyH.nil
      rw [if_pos (by rfl)]
      refine wp_allocE 26 (by rfl) (cellsB zD).toArray Tryd.zeroDg ?_
      have HB3 : Hid (Below w2.heap.size w2 (wd.alloc (.cells (cellsB zD).toArray 26))) := Below.alloc HBd.out HBd.out.size _
      have HT3 : Hid ((wd.alloc (.cells (cellsB zD).toArray 26)).there wd.heap.size 0 32) := alloc_thereAt _ _ _ 32 _ rfl zD_size.symm
      have HGG : Hid (w2.heap.size ≤ wd.heap.size) := HBd.out.size
      refine hK.out _ _ (HX.out _ HB3.out) (fun hHeld => ?_)
      clear HBd
      generalize wd.alloc (.cells (cellsB zD).toArray 26) = w3 at *
      generalize wd.heap.size = g at *
      clear hK K
      try simp only [Act.put, List.setIfInBounds_toArray, List.set_cons_zero, List.set_cons_succ]
      refine wpAnyH_take (i := 8) (v := ?_) (by simp only [List.getElem?_toArray, List.getElem?_cons_zero, List.getElem?_cons_succ]; rfl) (by kernel_rfl) (by kernel_rfl) (by kernel_rfl) (fun _ _ _ h => h) (Or.inl ⟨by rfl, ?_⟩) hHeld ?_
      rotate_left
      · intro w hSw
        go_simp
        try with_reducible rfl
      try simp only [Act.put, List.setIfInBounds_toArray, List.set_cons_zero, List.set_cons_succ]
      refine wpAnyH_ready (rs := [9]) (by kernel_rfl) (by simp) ?_
      refine AllReadyH.cons (by simp only [List.getElem?_toArray, List.getElem?_cons_zero, List.getElem?_cons_succ]; rfl) (fun K hK => ?_) AllReadyH.nil
      rw [if_pos (by rfl)]
      refine wp_store_mid _ _ _ rfl g 0 (cellsB P).toArray rfl rfl (by rw [cellsB_size, lP]; exact HT3.out) (by rw [cellsB_size, lP]; exact Tryd.sizeDg) (all_oneCell_toArray (cellsB_one _)) ?_
      have hr : (w3.setCells g 0 (cellsB P)).rangeAt b (o + q * 32) (cellsB P) := World.rangeAt_setCells_apart (HX.out _ HB3.out) _ _ _ (.inl (by have := HBK.out; have := HGG.out; omega))
      have HB4 : Hid (Below w2.heap.size w2 (w3.setCells g 0 (cellsB P))) := below_setCells _ HGG.out _ _ _ HB3.out
      have HX4 : Hid (DAt (w3.setCells g 0 (cellsB P)) g 0 P) := dat_stored HT3.out lP
      refine hK.out _ _ hr (fun hHeld => ?_)
      clear hr
      clear hK K
      try simp only [Act.put, List.setIfInBounds_toArray, List.set_cons_zero, List.set_cons_succ]
      refine wpAnyH_done (by kernel_rfl) (NoPanic.normal ?_) _
      clear hHeld
      generalize w3.setCells g 0 (cellsB P) = wq at *
      have hg4 : g < wq.heap.size := cell_block (HX4.out.cell 0 (by omega))
      have HKQ : Hid (∀ wx, Below wq.heap.size wq wx → (wx.rangeAt w.heap.size 0 (cellsB l) ∧ wx.rangeAt g 0 (cellsB P)) ∧ DRow wx (some ⟨b, o, none⟩) q PT ∧ wx.there (w.heap.size + 1) 0 32 ∧ Below w.heap.size w wx) := fun wx hx => by
        have b1 : Below w2.heap.size w2 wx := HB4.out.trans (hx.mono HB4.out.size)
        have k := HKT.out _ b1
        exact ⟨⟨k.1, HX4.out.below hx hg4⟩, HRQ.out _ b1, k.2.2.1, k.2.2.2⟩
      have HGW : Hid (w.heap.size + 1 < g) := by have := HS2.out; have := HGG.out; unfold Hid; omega
      clear hg4 HX4 H0 HRQ HKT HP HPL HP32 HB4 HB3 HT3 HGG HBK HX
      go_wp2_with fail
      refine (wsplit_any n wq h2 hn).mono ?_
      rintro e w4 ⟨rfl, rfl⟩
      generalize halfT n = k at *
      have GFL : Hid (i < k → foldT l i n path = nodeT (foldT l i k PT) P) := HFL.out k rfl
      have GFH : Hid (¬ i < k → foldT l i n path = nodeT P (foldT l (i - k) (n - k) PT)) := HFH.out k rfl
      have GQL : Hid (i < k → q = longT i k) := HQL.out k rfl
      have GQH : Hid (¬ i < k → q = longT (i - k) (n - k)) := HQH.out k rfl
      clear HFL HFH HQL HQH
      by_cases hik : i < k
      · have HFL := GFL.out hik
        have HQL := GQL.out hik
        have HC : Hid (∀ wx, Env wx → DRow wx (some ⟨b, o, none⟩) q PT → Calls Tryd.prog 31 #[digestV l, .int .i64 (i : Int), .int .i64 (k : Int), .slice (some ⟨b, o, none⟩) q c] wx fun e w' => e = .returned (digestV (foldT l i k PT)) ∧ Below wx.heap.size wx w') := fun wx hg hr => HI.out k hk1 l i q c _ PT wx hl hg hr HQL (by omega) (by omega) (by omega) hik
        have lF := foldT_length hl i k PT
        have HE : Hid (foldT l i n path = nodeT (foldT l i k PT) P) := HFL
        rw [HFL] at hfl
        clear HFL HQL GFL GQL GFH GQH HI
        generalize foldT l i k PT = F at *
        have g1 : (i : Int) < (k : Int) := by omega
        go_wp2_with fail
        refine wp_region_noPanic ?_
        refine wp_region_held_drew (S := fun wx => wx.rangeAt w.heap.size 0 (cellsB l) ∧ wx.rangeAt g 0 (cellsB P)) (by kernel_rfl) ((HKQ.out _ (below_drewN w4 1)).1) (fun hHeld => ?_)
        try simp only [Act.put, List.setIfInBounds_toArray, List.set_cons_zero, List.set_cons_succ]
        have HBd : Hid (Below w4.heap.size w4 w4.drew) := below_drewN w4 1
        generalize w4.drew = wd at *
        refine wpAnyH_take (i := 0) (v := .agg (cellsB l).toArray) (by simp only [List.getElem?_toArray, List.getElem?_cons_zero, List.getElem?_cons_succ]; rfl) (by kernel_rfl) (by kernel_rfl) (by kernel_rfl) (fun _ _ _ h => h)
          (yieldsIf_load_mid (by rfl) _ _ rfl _ _ rfl _ _ (fun w hw => hw.1) Tryd.underlying26 rfl (by rw [cellsB_length, hl]; exact Tryd.sizeDg)) hHeld ?_
        try simp only [Act.put, List.setIfInBounds_toArray, List.set_cons_zero, List.set_cons_succ]
        refine wpAnyH_take (i := 1) (v := ?_) (by simp only [List.getElem?_toArray, List.getElem?_cons_zero, List.getElem?_cons_succ]; rfl) (by kernel_rfl) (by kernel_rfl) (by kernel_rfl) (fun _ _ _ h => h) (Or.inl ⟨by rfl, ?_⟩) hHeld ?_
        rotate_left
        · intro w hSw
          obtain ⟨hSw0, hSw1⟩ := hSw
          go_simp
          try with_reducible rfl
        try simp only [Act.put, List.setIfInBounds_toArray, List.set_cons_zero, List.set_cons_succ]
        refine wpAnyH_take (i := 2) (v := ?_) (by simp only [List.getElem?_toArray, List.getElem?_cons_zero, List.getElem?_cons_succ]; rfl) (by kernel_rfl) (by kernel_rfl) (by kernel_rfl) (fun _ _ _ h => h) (Or.inl ⟨by rfl, ?_⟩) hHeld ?_
        rotate_left
        · intro w hSw
          obtain ⟨hSw0, hSw1⟩ := hSw
          go_simp
          try with_reducible rfl
        try simp only [Act.put, List.setIfInBounds_toArray, List.set_cons_zero, List.set_cons_succ]
        refine wpAnyH_take (i := 3) (v := ?_) (by simp only [List.getElem?_toArray, List.getElem?_cons_zero, List.getElem?_cons_succ]; rfl) (by kernel_rfl) (by kernel_rfl) (by kernel_rfl) (fun _ _ _ h => h) (Or.inl ⟨by rfl, ?_⟩) hHeld ?_
        rotate_left
        · intro w hSw
          obtain ⟨hSw0, hSw1⟩ := hSw
          go_simp
          try with_reducible rfl
        try simp only [Act.put, List.setIfInBounds_toArray, List.set_cons_zero, List.set_cons_succ]
        refine wpAnyH_take (i := 5) (v := .agg (cellsB P).toArray) (by simp only [List.getElem?_toArray, List.getElem?_cons_zero, List.getElem?_cons_succ]; rfl) (by kernel_rfl) (by kernel_rfl) (by kernel_rfl) (fun _ _ _ h => h)
          (yieldsIf_load_mid (by rfl) _ _ rfl _ _ rfl _ _ (fun w hw => hw.2) Tryd.underlying26 rfl (by rw [cellsB_length, lP]; exact Tryd.sizeDg)) hHeld ?_
        try simp only [Act.put, List.setIfInBounds_toArray, List.set_cons_zero, List.set_cons_succ]
        refine wpAnyH_ready (rs := [4]) (by kernel_rfl) (by simp) ?_
        refine AllReadyH.cons (by simp only [List.getElem?_toArray, List.getElem?_cons_zero, List.getElem?_cons_succ]; rfl) (fun K hK => ?_) AllReadyH.nil
        rw [if_pos (by rfl)]
        go_simp
        refine (HC.out wd (HGE.out _ (HKQ.out _ HBd.out).2.2.2) (HKQ.out _ HBd.out).2.1).mono ?_
        rintro e w5 ⟨rfl, hb5⟩
        have HB5 : Hid (Below w4.heap.size w4 w5) := HBd.out.trans (hb5.mono HBd.out.size)
        clear hb5 HBd HC
        go_wp2_with fail
        refine hK.out _ _ (HKQ.out _ HB5.out).1 (fun hHeld => ?_)
        clear hK K
        try simp only [Act.put, List.setIfInBounds_toArray, List.set_cons_zero, List.set_cons_succ]
        refine wpAnyH_ready (rs := [6]) (by kernel_rfl) (by simp) ?_
        refine AllReadyH.cons (by simp only [List.getElem?_toArray, List.getElem?_cons_zero, List.getElem?_cons_succ]; rfl) (fun K hK => ?_) AllReadyH.nil
        rw [if_pos (by rfl)]
        go_simp
        refine (wtree_node F P w5 (HGE.out _ (HKQ.out _ HB5.out).2.2.2) lF lP).mono ?_
        rintro e w6 ⟨rfl, hb6⟩
        have HB6 : Hid (Below w4.heap.size w4 w6) := HB5.out.trans (hb6.mono HB5.out.size)
        clear hb6 HB5
        generalize nodeT F P = D at *
        go_wp2_with fail
        refine hK.out _ _ (HKQ.out _ HB6.out).1 (fun hHeld => ?_)
        clear hK K
        try simp only [Act.put, List.setIfInBounds_toArray, List.set_cons_zero, List.set_cons_succ]
        refine wpAnyH_ready (rs := [7]) (by kernel_rfl) (by simp) ?_
        refine AllReadyH.cons (by simp only [List.getElem?_toArray, List.getElem?_cons_zero, List.getElem?_cons_succ]; rfl) (fun K hK => ?_) AllReadyH.nil
        rw [if_pos (by rfl)]
        have HT6 : Hid (w6.there (w.heap.size + 1) 0 32) := (HKQ.out _ HB6.out).2.2.1
        refine wp_store_mid _ _ _ rfl (w.heap.size + 1) 0 (cellsB D).toArray rfl rfl (by rw [cellsB_size, hfl]; exact HT6.out) (by rw [cellsB_size, hfl]; exact Tryd.sizeDg) (all_oneCell_toArray (cellsB_one _)) ?_
        have hr : (w6.setCells (w.heap.size + 1) 0 (cellsB D)).rangeAt w.heap.size 0 (cellsB l) ∧ (w6.setCells (w.heap.size + 1) 0 (cellsB D)).rangeAt g 0 (cellsB P) := ⟨World.rangeAt_setCells_apart (HKQ.out _ HB6.out).1.1 _ _ _ (.inl (by omega)), World.rangeAt_setCells_apart (HKQ.out _ HB6.out).1.2 _ _ _ (.inl (by have := HGW.out; omega))⟩
        refine hK.out _ _ hr (fun hHeld => ?_)
        clear hr
        clear hK K
        try simp only [Act.put, List.setIfInBounds_toArray, List.set_cons_zero, List.set_cons_succ]
        refine wpAnyH_done (by kernel_rfl) (NoPanic.normal ?_) _
        clear hHeld
        go_wp2_with fail
        refine bodyPost_ret (v := digestV D) (run_results_row Tryd.results31 _ _ (w.heap.size + 1) 0 (by rfl) (cellsB D) (World.rangeAt_setCells_same _ _ _ _ (by rw [cellsB_length, hfl]; exact HT6.out)) _ Tryd.underlying26 (by rfl) (by rw [cellsB_length, hfl]; exact Tryd.sizeDg)) rfl ⟨by rw [HE.out], ?_⟩
        exact below_setCells _ (by omega) _ _ _ (HKQ.out _ HB6.out).2.2.2
      · have HFH := GFH.out hik
        have HQH := GQH.out hik
        have HC : Hid (∀ wx, Env wx → DRow wx (some ⟨b, o, none⟩) q PT → Calls Tryd.prog 31 #[digestV l, .int .i64 ((i - k : Nat) : Int), .int .i64 ((n - k : Nat) : Int), .slice (some ⟨b, o, none⟩) q c] wx fun e w' => e = .returned (digestV (foldT l (i - k) (n - k) PT)) ∧ Below wx.heap.size wx w') := fun wx hg hr => HI.out (n - k) (by omega) l (i - k) q c _ PT wx hl hg hr HQH (by omega) (by omega) (by omega) (by omega)
        have lF := foldT_length hl (i - k) (n - k) PT
        have HE : Hid (foldT l i n path = nodeT P (foldT l (i - k) (n - k) PT)) := HFH
        rw [HFH] at hfl
        clear HFH HQH GFL GQL GFH GQH HI
        generalize foldT l (i - k) (n - k) PT = F at *
        have s1 : (i : Int) - (k : Int) = ((i - k : Nat) : Int) := by omega
        have s2 : (n : Int) - (k : Int) = ((n - k : Nat) : Int) := by omega
        have b1 : i - k ≤ 256 := by omega
        have b2 : n - k ≤ 256 := by omega
        generalize i - k = i' at *
        generalize n - k = n' at *
        have wi : IntKind.i64.wrap (i' : Int) = (i' : Int) := wrapT i' (by omega)
        have wn : IntKind.i64.wrap (n' : Int) = (n' : Int) := wrapT n' (by omega)
        have g1 : ¬ (i : Int) < (k : Int) := by omega
        go_wp2_with fail
        refine wp_region_noPanic ?_
        refine wp_region_held_drew (S := fun wx => wx.rangeAt w.heap.size 0 (cellsB l) ∧ wx.rangeAt g 0 (cellsB P)) (by kernel_rfl) ((HKQ.out _ (below_drewN w4 1)).1) (fun hHeld => ?_)
        try simp only [Act.put, List.setIfInBounds_toArray, List.set_cons_zero, List.set_cons_succ]
        have HBd : Hid (Below w4.heap.size w4 w4.drew) := below_drewN w4 1
        generalize w4.drew = wd at *
        refine wpAnyH_take (i := 0) (v := .agg (cellsB P).toArray) (by simp only [List.getElem?_toArray, List.getElem?_cons_zero, List.getElem?_cons_succ]; rfl) (by kernel_rfl) (by kernel_rfl) (by kernel_rfl) (fun _ _ _ h => h)
          (yieldsIf_load_mid (by rfl) _ _ rfl _ _ rfl _ _ (fun w hw => hw.2) Tryd.underlying26 rfl (by rw [cellsB_length, lP]; exact Tryd.sizeDg)) hHeld ?_
        try simp only [Act.put, List.setIfInBounds_toArray, List.set_cons_zero, List.set_cons_succ]
        refine wpAnyH_take (i := 1) (v := .agg (cellsB l).toArray) (by simp only [List.getElem?_toArray, List.getElem?_cons_zero, List.getElem?_cons_succ]; rfl) (by kernel_rfl) (by kernel_rfl) (by kernel_rfl) (fun _ _ _ h => h)
          (yieldsIf_load_mid (by rfl) _ _ rfl _ _ rfl _ _ (fun w hw => hw.1) Tryd.underlying26 rfl (by rw [cellsB_length, hl]; exact Tryd.sizeDg)) hHeld ?_
        try simp only [Act.put, List.setIfInBounds_toArray, List.set_cons_zero, List.set_cons_succ]
        refine wpAnyH_take (i := 2) (v := ?_) (by simp only [List.getElem?_toArray, List.getElem?_cons_zero, List.getElem?_cons_succ]; rfl) (by kernel_rfl) (by kernel_rfl) (by kernel_rfl) (fun _ _ _ h => h) (Or.inl ⟨by rfl, ?_⟩) hHeld ?_
        rotate_left
        · intro w hSw
          obtain ⟨hSw0, hSw1⟩ := hSw
          go_simp
          try with_reducible rfl
        try simp only [Act.put, List.setIfInBounds_toArray, List.set_cons_zero, List.set_cons_succ]
        refine wpAnyH_take (i := 3) (v := ?_) (by simp only [List.getElem?_toArray, List.getElem?_cons_zero, List.getElem?_cons_succ]; rfl) (by kernel_rfl) (by kernel_rfl) (by kernel_rfl) (fun _ _ _ h => h) (Or.inl ⟨by rfl, ?_⟩) hHeld ?_
        rotate_left
        · intro w hSw
          obtain ⟨hSw0, hSw1⟩ := hSw
          go_simp
          try with_reducible rfl
        try simp only [Act.put, List.setIfInBounds_toArray, List.set_cons_zero, List.set_cons_succ]
        refine wpAnyH_take (i := 4) (v := .int .i64 (i' : Int)) (by simp only [List.getElem?_toArray, List.getElem?_cons_zero, List.getElem?_cons_succ]; rfl) (by kernel_rfl) (by kernel_rfl) (by kernel_rfl) (fun _ _ _ h => h) (Or.inl ⟨by rfl, ?_⟩) hHeld ?_
        · intro w hSw
          obtain ⟨hSw0, hSw1⟩ := hSw
          go_simp
        try simp only [Act.put, List.setIfInBounds_toArray, List.set_cons_zero, List.set_cons_succ]
        refine wpAnyH_take (i := 5) (v := ?_) (by simp only [List.getElem?_toArray, List.getElem?_cons_zero, List.getElem?_cons_succ]; rfl) (by kernel_rfl) (by kernel_rfl) (by kernel_rfl) (fun _ _ _ h => h) (Or.inl ⟨by rfl, ?_⟩) hHeld ?_
        rotate_left
        · intro w hSw
          obtain ⟨hSw0, hSw1⟩ := hSw
          go_simp
          try with_reducible rfl
        try simp only [Act.put, List.setIfInBounds_toArray, List.set_cons_zero, List.set_cons_succ]
        refine wpAnyH_take (i := 6) (v := ?_) (by simp only [List.getElem?_toArray, List.getElem?_cons_zero, List.getElem?_cons_succ]; rfl) (by kernel_rfl) (by kernel_rfl) (by kernel_rfl) (fun _ _ _ h => h) (Or.inl ⟨by rfl, ?_⟩) hHeld ?_
        rotate_left
        · intro w hSw
          obtain ⟨hSw0, hSw1⟩ := hSw
          go_simp
          try with_reducible rfl
        try simp only [Act.put, List.setIfInBounds_toArray, List.set_cons_zero, List.set_cons_succ]
        refine wpAnyH_take (i := 7) (v := .int .i64 (n' : Int)) (by simp only [List.getElem?_toArray, List.getElem?_cons_zero, List.getElem?_cons_succ]; rfl) (by kernel_rfl) (by kernel_rfl) (by kernel_rfl) (fun _ _ _ h => h) (Or.inl ⟨by rfl, ?_⟩) hHeld ?_
        · intro w hSw
          obtain ⟨hSw0, hSw1⟩ := hSw
          go_simp
        try simp only [Act.put, List.setIfInBounds_toArray, List.set_cons_zero, List.set_cons_succ]
        refine wpAnyH_take (i := 8) (v := ?_) (by simp only [List.getElem?_toArray, List.getElem?_cons_zero, List.getElem?_cons_succ]; rfl) (by kernel_rfl) (by kernel_rfl) (by kernel_rfl) (fun _ _ _ h => h) (Or.inl ⟨by rfl, ?_⟩) hHeld ?_
        rotate_left
        · intro w hSw
          obtain ⟨hSw0, hSw1⟩ := hSw
          go_simp
          try with_reducible rfl
        try simp only [Act.put, List.setIfInBounds_toArray, List.set_cons_zero, List.set_cons_succ]
        refine wpAnyH_ready (rs := [9]) (by kernel_rfl) (by simp) ?_
        refine AllReadyH.cons (by simp only [List.getElem?_toArray, List.getElem?_cons_zero, List.getElem?_cons_succ]; rfl) (fun K hK => ?_) AllReadyH.nil
        rw [if_pos (by rfl)]
        go_simp
        refine (HC.out wd (HGE.out _ (HKQ.out _ HBd.out).2.2.2) (HKQ.out _ HBd.out).2.1).mono ?_
        rintro e w5 ⟨rfl, hb5⟩
        have HB5 : Hid (Below w4.heap.size w4 w5) := HBd.out.trans (hb5.mono HBd.out.size)
        clear hb5 HBd HC
        go_wp2_with fail
        refine hK.out _ _ (HKQ.out _ HB5.out).1 (fun hHeld => ?_)
        clear hK K
        try simp only [Act.put, List.setIfInBounds_toArray, List.set_cons_zero, List.set_cons_succ]
        refine wpAnyH_ready (rs := [10]) (by kernel_rfl) (by simp) ?_
        refine AllReadyH.cons (by simp only [List.getElem?_toArray, List.getElem?_cons_zero, List.getElem?_cons_succ]; rfl) (fun K hK => ?_) AllReadyH.nil
        rw [if_pos (by rfl)]
        go_simp
        refine (wtree_node P F w5 (HGE.out _ (HKQ.out _ HB5.out).2.2.2) lP lF).mono ?_
        rintro e w6 ⟨rfl, hb6⟩
        have HB6 : Hid (Below w4.heap.size w4 w6) := HB5.out.trans (hb6.mono HB5.out.size)
        clear hb6 HB5
        generalize nodeT P F = D at *
        go_wp2_with fail
        refine hK.out _ _ (HKQ.out _ HB6.out).1 (fun hHeld => ?_)
        clear hK K
        try simp only [Act.put, List.setIfInBounds_toArray, List.set_cons_zero, List.set_cons_succ]
        refine wpAnyH_ready (rs := [11]) (by kernel_rfl) (by simp) ?_
        refine AllReadyH.cons (by simp only [List.getElem?_toArray, List.getElem?_cons_zero, List.getElem?_cons_succ]; rfl) (fun K hK => ?_) AllReadyH.nil
        rw [if_pos (by rfl)]
        have HT6 : Hid (w6.there (w.heap.size + 1) 0 32) := (HKQ.out _ HB6.out).2.2.1
        refine wp_store_mid _ _ _ rfl (w.heap.size + 1) 0 (cellsB D).toArray rfl rfl (by rw [cellsB_size, hfl]; exact HT6.out) (by rw [cellsB_size, hfl]; exact Tryd.sizeDg) (all_oneCell_toArray (cellsB_one _)) ?_
        have hr : (w6.setCells (w.heap.size + 1) 0 (cellsB D)).rangeAt w.heap.size 0 (cellsB l) ∧ (w6.setCells (w.heap.size + 1) 0 (cellsB D)).rangeAt g 0 (cellsB P) := ⟨World.rangeAt_setCells_apart (HKQ.out _ HB6.out).1.1 _ _ _ (.inl (by omega)), World.rangeAt_setCells_apart (HKQ.out _ HB6.out).1.2 _ _ _ (.inl (by have := HGW.out; omega))⟩
        refine hK.out _ _ hr (fun hHeld => ?_)
        clear hr
        clear hK K
        try simp only [Act.put, List.setIfInBounds_toArray, List.set_cons_zero, List.set_cons_succ]
        refine wpAnyH_done (by kernel_rfl) (NoPanic.normal ?_) _
        clear hHeld
        go_wp2_with fail
        refine bodyPost_ret (v := digestV D) (run_results_row Tryd.results31 _ _ (w.heap.size + 1) 0 (by rfl) (cellsB D) (World.rangeAt_setCells_same _ _ _ _ (by rw [cellsB_length, hfl]; exact HT6.out)) _ Tryd.underlying26 (by rfl) (by rw [cellsB_length, hfl]; exact Tryd.sizeDg)) rfl ⟨by rw [HE.out], ?_⟩
        exact below_setCells _ (by omega) _ _ _ (HKQ.out _ HB6.out).2.2.2
    · obtain rfl : n = 1 := by omega
      have HE : Hid (foldT l i 1 path = l) := foldT_one h2
      go_wp2_with (first
        | (refine wpList_allocE (by rfl) 26 (by rfl) (cellsB zD).toArray Tryd.zeroDg (w.heap.size + 1) hs1 w2 hw2 ?_)
        | (refine wpList_load_mid (by rfl) 26 (.tmp 4) (by rfl) w.heap.size 0 (by rfl) (cellsB l) _ HL2.out Tryd.underlying26 (by rfl) (by rw [cellsB_length, hl]; exact Tryd.sizeDg) ?_)
        | (refine wpList_store_mid (by rfl) 26 (.tmp 8) (.tmp 15) (by rfl) (w.heap.size + 1) 0 (cellsB l).toArray (by rfl) (by rfl) (by rw [cellsB_size, hl]; exact HT2.out) (by rw [cellsB_size, hl]; exact Tryd.sizeDg) (all_oneCell_toArray (cellsB_one _)) ?_))
      refine bodyPost_ret (v := digestV l) (run_results_row Tryd.results31 _ _ (w.heap.size + 1) 0 (by rfl) (cellsB l) (World.rangeAt_setCells_same _ _ _ _ (by rw [cellsB_length, hl]; exact HT2.out)) _ Tryd.underlying26 (by rfl) (by rw [cellsB_length, hl]; exact Tryd.sizeDg)) rfl ⟨by rw [HE.out], ?_⟩
      exact below_setCells _ (by omega) _ _ _ HB2.out
set_option maxRecDepth 100000 in
set_option maxHeartbeats 1000000 in
theorem wtree_fold (l : List UInt8) (i n p c : Nat) (a : Option Addr) (path : List (List UInt8)) (w : World) (G : Env w) (hl : l.length = 32) (R : DRow w a p path) (hp : p = longT i n) (hc : p ≤ c) (h1 : 1 ≤ n) (hn : n ≤ 256) (hi : i < n) :
    Calls Tryd.prog 19 #[digestV l, .int .i64 (i : Int), .int .i64 (n : Int), .slice a p c] w fun e w' => e = .returned (.tuple #[digestV (foldT l i n path), .nilIface]) ∧ Below w.heap.size w w' := by
  obtain ⟨w2, hw2⟩ : ∃ w2, (w.alloc (.cells (cellsB l).toArray 26)).alloc (.cells (cellsB zD).toArray 26) = w2 := ⟨_, rfl⟩
  have hs1 : (w.alloc (.cells (cellsB l).toArray 26)).heap.size = w.heap.size + 1 := by simp
  have HS2 : Hid (w2.heap.size = w.heap.size + 1 + 1) := by unfold Hid; rw [← hw2]; simp
  have HB2 : Hid (Below w.heap.size w w2) := by rw [← hw2]; exact ((Below.refl _ _).alloc (Nat.le_refl _) _).alloc (by simp) _
  have HL2 : Hid (DAt w2 w.heap.size 0 l) := by rw [← hw2]; exact World.rangeAt_alloc (box_dat w l _) _
  have HT2 : Hid (w2.there (w.heap.size + 1) 0 32) := by rw [← hw2]; exact alloc_thereAt _ _ _ 32 _ hs1 zD_size.symm
  have HG : Hid (Env w2 ∧ DRow w2 a p path) := ⟨G.below HB2.out, R.below HB2.out⟩
  have HP : Hid (p = longT i n) := hp
  have hpb : p ≤ 256 := by have := longT_le n i; omega
  have hfl := foldT_length hl i n path
  clear G R hp
  have g1 : ¬ (n : Int) < 1 := by omega
  have g2 : ¬ (256 : Int) < (n : Int) := by omega
  have g3 : ¬ (i : Int) < 0 := by omega
  have g4 : ¬ (n : Int) ≤ (i : Int) := by omega
  go_enter Tryd.func19, Tryd.ntmps19
  go_wp2_with (refine wpList_allocE (by rfl) 26 (by rfl) (cellsB zD).toArray Tryd.zeroDg (w.heap.size + 1) hs1 w2 hw2 ?_)
  refine (wdepth_any n i w2 h1 hn hi).mono ?_
  rintro e wx ⟨rfl, rfl⟩
  rw [← HP.out]
  go_wp2_with (refine wpList_load_mid (by rfl) 26 (.tmp 4) (by rfl) w.heap.size 0 (by rfl) (cellsB l) _ HL2.out Tryd.underlying26 (by rfl) (by rw [cellsB_length, hl]; exact Tryd.sizeDg) ?_)
  refine (wfold_any n l i p c a path wx hl HG.out.1 HG.out.2 HP.out hc h1 hn hi).mono ?_
  rintro e w3 ⟨rfl, hb3⟩
  have HB3 : Hid (Below w.heap.size w w3) := below_trans HB2.out hb3
  have HT3 : Hid (w3.there (w.heap.size + 1) 0 32) := there_below HT2.out hb3 (by have := HS2.out; omega)
  clear hb3 hw2 HG HL2 HT2
  generalize hD : foldT l i n path = D at *
  have HD : Hid (foldT l i n path = D) := hD
  clear hD
  go_wp2_with (refine wpList_store_mid (by rfl) 26 (.tmp 8) (.tmp 39) (by rfl) (w.heap.size + 1) 0 (cellsB D).toArray (by rfl) (by rfl) (by rw [cellsB_size, hfl]; exact HT3.out) (by rw [cellsB_size, hfl]; exact Tryd.sizeDg) (all_oneCell_toArray (cellsB_one _)) ?_)
  refine bodyPost_ret (v := .tuple #[digestV D, .nilIface]) (run_results_row2 Tryd.results19 _ _ (w.heap.size + 1) 0 (by rfl) _ (by rfl) (cellsB D) (World.rangeAt_setCells_same _ _ _ _ (by rw [cellsB_length, hfl]; exact HT3.out)) _ Tryd.underlying26 (by rfl) (by rw [cellsB_length, hfl]; exact Tryd.sizeDg)) rfl ⟨by rw [HD.out], ?_⟩
  exact below_setCells _ (by omega) _ _ _ HB3.out
set_option maxRecDepth 100000 in
set_option maxHeartbeats 1000000 in
theorem wtree_foldlen (l : List UInt8) (i n p c : Nat) (a : Option Addr) (path : List (List UInt8)) (w : World) (G : Env w) (hl : l.length = 32) (R : DRow w a p path) (hc : p ≤ c) (hp2 : 32 * p ≤ 140737488351232) (h1 : 1 ≤ n) (hn : n ≤ 256) (hi : i < n) (hp : p ≠ longT i n) :
    Calls Tryd.prog 19 #[digestV l, .int .i64 (i : Int), .int .i64 (n : Int), .slice a p c] w fun e w' => e = .returned (.tuple #[digestV zD, .iface 24 (.int .i64 3)]) ∧ Below w.heap.size w w' := by
  obtain ⟨w2, hw2⟩ : ∃ w2, (w.alloc (.cells (cellsB l).toArray 26)).alloc (.cells (cellsB zD).toArray 26) = w2 := ⟨_, rfl⟩
  have hs1 : (w.alloc (.cells (cellsB l).toArray 26)).heap.size = w.heap.size + 1 := by simp
  have HS2 : Hid (w2.heap.size = w.heap.size + 1 + 1) := by unfold Hid; rw [← hw2]; simp
  have HB2 : Hid (Below w.heap.size w w2) := by rw [← hw2]; exact ((Below.refl _ _).alloc (Nat.le_refl _) _).alloc (by simp) _
  have HL2 : Hid (DAt w2 w.heap.size 0 l) := by rw [← hw2]; exact World.rangeAt_alloc (box_dat w l _) _
  have HT2 : Hid (w2.there (w.heap.size + 1) 0 32) := by rw [← hw2]; exact alloc_thereAt _ _ _ 32 _ hs1 zD_size.symm
  have HP : Hid (p ≠ longT i n) := hp
  have hlb := longT_le n i
  clear G R hp
  have g1 : ¬ (n : Int) < 1 := by omega
  have g2 : ¬ (256 : Int) < (n : Int) := by omega
  have g3 : ¬ (i : Int) < 0 := by omega
  have g4 : ¬ (n : Int) ≤ (i : Int) := by omega
  go_enter Tryd.func19, Tryd.ntmps19
  go_wp2_with (refine wpList_allocE (by rfl) 26 (by rfl) (cellsB zD).toArray Tryd.zeroDg (w.heap.size + 1) hs1 w2 hw2 ?_)
  refine (wdepth_any n i w2 h1 hn hi).mono ?_
  rintro e wx ⟨rfl, rfl⟩
  have hp := HP.out
  clear HP hw2
  generalize longT i n = y at *
  have e5 : ((p : Int) == (y : Int)) = false := beq_eq_false_iff_ne.2 (by omega)
  go_wp2_with (first
    | (refine wpList_buildC (by rfl) 26 _ (by rfl) (cellsB zD).toArray (by kernel_rfl) ?_)
    | (refine wpList_store_mid (by rfl) 26 (.tmp 8) (.tmp 33) (by rfl) (w.heap.size + 1) 0 (cellsB zD).toArray (by rfl) (by rfl) (by rw [cellsB_size]; exact HT2.out) (by rw [cellsB_size]; exact Tryd.sizeDg) (all_oneCell_toArray (cellsB_one _)) ?_))
  refine bodyPost_ret (v := .tuple #[digestV zD, .iface 24 (.int .i64 3)]) (run_results_row2 Tryd.results19 _ _ (w.heap.size + 1) 0 (by rfl) _ (by rfl) (cellsB zD) (World.rangeAt_setCells_same _ _ _ _ (by rw [cellsB_length]; exact HT2.out)) _ Tryd.underlying26 (by rfl) (by rw [cellsB_length]; exact Tryd.sizeDg)) rfl ⟨rfl, ?_⟩
  exact below_setCells _ (by omega) _ _ _ HB2.out
set_option maxRecDepth 100000 in
set_option maxHeartbeats 1000000 in
theorem wtree_foldout (l : List UInt8) (i n : Int) (p c : Nat) (a : Option Addr) (path : List (List UInt8)) (w : World) (G : Env w) (hl : l.length = 32) (R : DRow w a p path) (hc : p ≤ c) (hp2 : 32 * p ≤ 140737488351232) (h : n < 1 ∨ 256 < n ∨ i < 0 ∨ n ≤ i) (hi1 : -9223372036854775808 ≤ i) (hi2 : i ≤ 9223372036854775807) (hn1 : -9223372036854775808 ≤ n) (hn2 : n ≤ 9223372036854775807) :
    Calls Tryd.prog 19 #[digestV l, .int .i64 i, .int .i64 n, .slice a p c] w fun e w' => e = .returned (.tuple #[digestV zD, .iface 24 (.int .i64 2)]) ∧ Below w.heap.size w w' := by
  obtain ⟨w2, hw2⟩ : ∃ w2, (w.alloc (.cells (cellsB l).toArray 26)).alloc (.cells (cellsB zD).toArray 26) = w2 := ⟨_, rfl⟩
  have hs1 : (w.alloc (.cells (cellsB l).toArray 26)).heap.size = w.heap.size + 1 := by simp
  have HS2 : Hid (w2.heap.size = w.heap.size + 1 + 1) := by unfold Hid; rw [← hw2]; simp
  have HB2 : Hid (Below w.heap.size w w2) := by rw [← hw2]; exact ((Below.refl _ _).alloc (Nat.le_refl _) _).alloc (by simp) _
  have HL2 : Hid (DAt w2 w.heap.size 0 l) := by rw [← hw2]; exact World.rangeAt_alloc (box_dat w l _) _
  have HT2 : Hid (w2.there (w.heap.size + 1) 0 32) := by rw [← hw2]; exact alloc_thereAt _ _ _ 32 _ hs1 zD_size.symm
  clear G R
  go_enter Tryd.func19, Tryd.ntmps19
  rcases (show n < 1 ∨ (¬ n < 1 ∧ 256 < n) ∨ (¬ n < 1 ∧ ¬ 256 < n ∧ i < 0) ∨ (¬ n < 1 ∧ ¬ 256 < n ∧ ¬ i < 0 ∧ n ≤ i) by omega) with k1 | ⟨k1, k2⟩ | ⟨k1, k2, k3⟩ | ⟨k1, k2, k3, k4⟩
  · clear h
    go_wp2_with (first
      | (refine wpList_allocE (by rfl) 26 (by rfl) (cellsB zD).toArray Tryd.zeroDg (w.heap.size + 1) hs1 w2 hw2 ?_)
      | (refine wpList_buildC (by rfl) 26 _ (by rfl) (cellsB zD).toArray (by kernel_rfl) ?_)
      | (refine wpList_store_mid (by rfl) 26 (.tmp 8) (.tmp 25) (by rfl) (w.heap.size + 1) 0 (cellsB zD).toArray (by rfl) (by rfl) (by rw [cellsB_size]; exact HT2.out) (by rw [cellsB_size]; exact Tryd.sizeDg) (all_oneCell_toArray (cellsB_one _)) ?_))
    refine bodyPost_ret (v := .tuple #[digestV zD, .iface 24 (.int .i64 2)]) (run_results_row2 Tryd.results19 _ _ (w.heap.size + 1) 0 (by rfl) _ (by rfl) (cellsB zD) (World.rangeAt_setCells_same _ _ _ _ (by rw [cellsB_length]; exact HT2.out)) _ Tryd.underlying26 (by rfl) (by rw [cellsB_length]; exact Tryd.sizeDg)) rfl ⟨rfl, ?_⟩
    exact below_setCells _ (by omega) _ _ _ HB2.out
  · clear h
    go_wp2_with (first
      | (refine wpList_allocE (by rfl) 26 (by rfl) (cellsB zD).toArray Tryd.zeroDg (w.heap.size + 1) hs1 w2 hw2 ?_)
      | (refine wpList_buildC (by rfl) 26 _ (by rfl) (cellsB zD).toArray (by kernel_rfl) ?_)
      | (refine wpList_store_mid (by rfl) 26 (.tmp 8) (.tmp 25) (by rfl) (w.heap.size + 1) 0 (cellsB zD).toArray (by rfl) (by rfl) (by rw [cellsB_size]; exact HT2.out) (by rw [cellsB_size]; exact Tryd.sizeDg) (all_oneCell_toArray (cellsB_one _)) ?_))
    refine bodyPost_ret (v := .tuple #[digestV zD, .iface 24 (.int .i64 2)]) (run_results_row2 Tryd.results19 _ _ (w.heap.size + 1) 0 (by rfl) _ (by rfl) (cellsB zD) (World.rangeAt_setCells_same _ _ _ _ (by rw [cellsB_length]; exact HT2.out)) _ Tryd.underlying26 (by rfl) (by rw [cellsB_length]; exact Tryd.sizeDg)) rfl ⟨rfl, ?_⟩
    exact below_setCells _ (by omega) _ _ _ HB2.out
  · clear h
    go_wp2_with (first
      | (refine wpList_allocE (by rfl) 26 (by rfl) (cellsB zD).toArray Tryd.zeroDg (w.heap.size + 1) hs1 w2 hw2 ?_)
      | (refine wpList_buildC (by rfl) 26 _ (by rfl) (cellsB zD).toArray (by kernel_rfl) ?_)
      | (refine wpList_store_mid (by rfl) 26 (.tmp 8) (.tmp 25) (by rfl) (w.heap.size + 1) 0 (cellsB zD).toArray (by rfl) (by rfl) (by rw [cellsB_size]; exact HT2.out) (by rw [cellsB_size]; exact Tryd.sizeDg) (all_oneCell_toArray (cellsB_one _)) ?_))
    refine bodyPost_ret (v := .tuple #[digestV zD, .iface 24 (.int .i64 2)]) (run_results_row2 Tryd.results19 _ _ (w.heap.size + 1) 0 (by rfl) _ (by rfl) (cellsB zD) (World.rangeAt_setCells_same _ _ _ _ (by rw [cellsB_length]; exact HT2.out)) _ Tryd.underlying26 (by rfl) (by rw [cellsB_length]; exact Tryd.sizeDg)) rfl ⟨rfl, ?_⟩
    exact below_setCells _ (by omega) _ _ _ HB2.out
  · clear h
    go_wp2_with (first
      | (refine wpList_allocE (by rfl) 26 (by rfl) (cellsB zD).toArray Tryd.zeroDg (w.heap.size + 1) hs1 w2 hw2 ?_)
      | (refine wpList_buildC (by rfl) 26 _ (by rfl) (cellsB zD).toArray (by kernel_rfl) ?_)
      | (refine wpList_store_mid (by rfl) 26 (.tmp 8) (.tmp 25) (by rfl) (w.heap.size + 1) 0 (cellsB zD).toArray (by rfl) (by rfl) (by rw [cellsB_size]; exact HT2.out) (by rw [cellsB_size]; exact Tryd.sizeDg) (all_oneCell_toArray (cellsB_one _)) ?_))
    refine bodyPost_ret (v := .tuple #[digestV zD, .iface 24 (.int .i64 2)]) (run_results_row2 Tryd.results19 _ _ (w.heap.size + 1) 0 (by rfl) _ (by rfl) (cellsB zD) (World.rangeAt_setCells_same _ _ _ _ (by rw [cellsB_length]; exact HT2.out)) _ Tryd.underlying26 (by rfl) (by rw [cellsB_length]; exact Tryd.sizeDg)) rfl ⟨rfl, ?_⟩
    exact below_setCells _ (by omega) _ _ _ HB2.out
end Go.Proofs.YtdldkhhcicjbmaaDoor
/- Package tree's contracts, all together. -/
namespace Go.Proofs.YtdldkhhcicjbmaaDoor
end Go.Proofs.YtdldkhhcicjbmaaDoor
/- The digest again, in a form that the kernel reckons fast: every number is forced before it goes on. -/
namespace Go.Proofs.YtdldkhhcicjbmaaDoor
open Go.RowKit
set_option linter.unusedVariables false
set_option linter.unusedSimpArgs false

/-- f of x, x reckoned first. -/
def frc {α : Type} (x : Nat) (f : Nat → α) : α := Nat.rec (motive := fun _ => α) (f 0) (fun n _ => f (Nat.succ n)) x
theorem frc_eq {α : Type} (x : Nat) (f : Nat → α) : frc x f = f x := by cases x <;> rfl
/-- The rounds, with the words in a window of sixteen. -/
def goR {α : Type} (fin : Nat → Nat → Nat → Nat → Nat → Nat → Nat → Nat → α) : List Nat → Nat → Nat → Nat → Nat → Nat → Nat → Nat → Nat → Nat → Nat → Nat → Nat → Nat → Nat → Nat → Nat → Nat → Nat → Nat → Nat → Nat → Nat → Nat → Nat → α
  | [], w0, w1, w2, w3, w4, w5, w6, w7, w8, w9, w10, w11, w12, w13, w14, w15, a, b, c, d, e, f, g, h => fin a b c d e f g h
  | k :: ks, w0, w1, w2, w3, w4, w5, w6, w7, w8, w9, w10, w11, w12, w13, w14, w15, a, b, c, d, e, f, g, h =>
    frc (h + bs1 e + chW e f g + k + w0) fun p =>
    frc ((p + (bs0 a + mjW a b c)) % 4294967296) fun a' =>
    frc ((d + p) % 4294967296) fun e' =>
    frc ((ss1 w14 + w9 + ss0 w1 + w0) % 4294967296) fun wn =>
    goR fin ks w1 w2 w3 w4 w5 w6 w7 w8 w9 w10 w11 w12 w13 w14 w15 wn a' a b c e' e f g
/-- The words that 64 bytes are spread to, on and on. -/
def seqW (m : List UInt8) (t : Nat) : Nat := at' (wTo m (t + 1)) t
theorem seqW_lo (m : List UInt8) (t : Nat) (h : t < 16) : seqW m t = wordB m t := by
  unfold seqW
  rw [wTo]
  have := at_snoc (l := wTo m t) (x := if t < 16 then wordB m t else (ss1 (at' (wTo m t) (t - 2)) + at' (wTo m t) (t - 7) + ss0 (at' (wTo m t) (t - 15)) + at' (wTo m t) (t - 16)) % 4294967296)
  rw [wTo_length] at this
  rw [this, if_pos h]
theorem seqW_hi (m : List UInt8) (t : Nat) : seqW m (t + 16) = (ss1 (seqW m (t + 14)) + seqW m (t + 9) + ss0 (seqW m (t + 1)) + seqW m t) % 4294967296 := by
  have := at_snoc (l := wTo m (t + 16)) (x := if t + 16 < 16 then wordB m (t + 16) else (ss1 (at' (wTo m (t + 16)) (t + 16 - 2)) + at' (wTo m (t + 16)) (t + 16 - 7) + ss0 (at' (wTo m (t + 16)) (t + 16 - 15)) + at' (wTo m (t + 16)) (t + 16 - 16)) % 4294967296)
  rw [wTo_length] at this
  have e : seqW m (t + 16) = (ss1 (at' (wTo m (t + 16)) (t + 16 - 2)) + at' (wTo m (t + 16)) (t + 16 - 7) + ss0 (at' (wTo m (t + 16)) (t + 16 - 15)) + at' (wTo m (t + 16)) (t + 16 - 16)) % 4294967296 := by
    unfold seqW
    rw [wTo, this, if_neg (by omega)]
  rw [e, wTo_at m (t + 16 - 2) (t + 16) (by omega), wTo_at m (t + 16 - 7) (t + 16) (by omega), wTo_at m (t + 16 - 15) (t + 16) (by omega), wTo_at m (t + 16 - 16) (t + 16) (by omega)]
  rw [show t + 16 - 2 = t + 14 by omega, show t + 16 - 7 = t + 9 by omega, show t + 16 - 15 = t + 1 by omega, show t + 16 - 16 = t by omega]
  rfl
theorem seqW_64 (m : List UInt8) (t : Nat) (h : t < 64) : at' (wTo m 64) t = seqW m t := wTo_at m t 64 h
theorem kW_drop (t : Nat) (h : t < 64) : kW.drop t = at' kW t :: kW.drop (t + 1) := by
  have hl : t < kW.length := h
  rw [List.drop_eq_getElem_cons hl]
  congr 1
  unfold at'
  simp [List.getD_eq_getElem?_getD, List.getElem?_eq_getElem hl]
theorem goR_eq {α : Type} (fin : Nat → Nat → Nat → Nat → Nat → Nat → Nat → Nat → α) (m : List UInt8) (h : List Nat) : ∀ n t, t + n = 64 →
    goR fin (kW.drop t) (seqW m t) (seqW m (t + 1)) (seqW m (t + 2)) (seqW m (t + 3)) (seqW m (t + 4)) (seqW m (t + 5)) (seqW m (t + 6)) (seqW m (t + 7)) (seqW m (t + 8)) (seqW m (t + 9)) (seqW m (t + 10)) (seqW m (t + 11)) (seqW m (t + 12)) (seqW m (t + 13)) (seqW m (t + 14)) (seqW m (t + 15))
      (at' (rTo h (wTo m 64) t) 0) (at' (rTo h (wTo m 64) t) 1) (at' (rTo h (wTo m 64) t) 2) (at' (rTo h (wTo m 64) t) 3) (at' (rTo h (wTo m 64) t) 4) (at' (rTo h (wTo m 64) t) 5) (at' (rTo h (wTo m 64) t) 6) (at' (rTo h (wTo m 64) t) 7)
    = fin (at' (rTo h (wTo m 64) 64) 0) (at' (rTo h (wTo m 64) 64) 1) (at' (rTo h (wTo m 64) 64) 2) (at' (rTo h (wTo m 64) 64) 3) (at' (rTo h (wTo m 64) 64) 4) (at' (rTo h (wTo m 64) 64) 5) (at' (rTo h (wTo m 64) 64) 6) (at' (rTo h (wTo m 64) 64) 7)
  | 0, t, ht => by
    obtain rfl : t = 64 := by omega
    have : kW.drop 64 = [] := List.drop_eq_nil_of_le (Nat.le_refl _)
    rw [this]
    rfl
  | n + 1, t, ht => by
    have ih := goR_eq fin m h n (t + 1) (by omega)
    rw [kW_drop t (by omega)]
    unfold goR
    simp only [frc_eq]
    rw [← seqW_hi m t]
    have e : rTo h (wTo m 64) (t + 1) = stepW (rTo h (wTo m 64) t) (at' kW t) (at' (wTo m 64) t) := rfl
    rw [seqW_64 m t (by omega)] at e
    rw [e] at ih
    have s0 : ∀ v k w, at' (stepW v k w) 0 = (pW v k w + qW v) % 4294967296 := fun _ _ _ => rfl
    have s1 : ∀ v k w, at' (stepW v k w) 1 = at' v 0 := fun _ _ _ => rfl
    have s2 : ∀ v k w, at' (stepW v k w) 2 = at' v 1 := fun _ _ _ => rfl
    have s3 : ∀ v k w, at' (stepW v k w) 3 = at' v 2 := fun _ _ _ => rfl
    have s4 : ∀ v k w, at' (stepW v k w) 4 = (at' v 3 + pW v k w) % 4294967296 := fun _ _ _ => rfl
    have s5 : ∀ v k w, at' (stepW v k w) 5 = at' v 4 := fun _ _ _ => rfl
    have s6 : ∀ v k w, at' (stepW v k w) 6 = at' v 5 := fun _ _ _ => rfl
    have s7 : ∀ v k w, at' (stepW v k w) 7 = at' v 6 := fun _ _ _ => rfl
    rw [s0, s1, s2, s3, s4, s5, s6, s7] at ih
    rw [← ih]
    unfold pW qW
    simp only [Nat.add_assoc, Nat.reduceAdd]
/-- 64 bytes, as sixteen words, taken to eight words. -/
def goT {α : Type} (k : Nat → Nat → Nat → Nat → Nat → Nat → Nat → Nat → α) (w0 w1 w2 w3 w4 w5 w6 w7 w8 w9 w10 w11 w12 w13 w14 w15 a b c d e f g h : Nat) : α :=
  goR (fun a' b' c' d' e' f' g' h' => frc ((a' + a) % 4294967296) fun a => frc ((b' + b) % 4294967296) fun b => frc ((c' + c) % 4294967296) fun c => frc ((d' + d) % 4294967296) fun d => frc ((e' + e) % 4294967296) fun e => frc ((f' + f) % 4294967296) fun f => frc ((g' + g) % 4294967296) fun g => frc ((h' + h) % 4294967296) fun h => k a b c d e f g h) kW w0 w1 w2 w3 w4 w5 w6 w7 w8 w9 w10 w11 w12 w13 w14 w15 a b c d e f g h
/-- All eight words of a list. -/
def app8 {α : Type} (k : Nat → Nat → Nat → Nat → Nat → Nat → Nat → Nat → α) (l : List Nat) : α := k (at' l 0) (at' l 1) (at' l 2) (at' l 3) (at' l 4) (at' l 5) (at' l 6) (at' l 7)
theorem goT_eq {α : Type} (k : Nat → Nat → Nat → Nat → Nat → Nat → Nat → Nat → α) (m : List UInt8) (h : List Nat) :
    goT k (wordB m 0) (wordB m 1) (wordB m 2) (wordB m 3) (wordB m 4) (wordB m 5) (wordB m 6) (wordB m 7) (wordB m 8) (wordB m 9) (wordB m 10) (wordB m 11) (wordB m 12) (wordB m 13) (wordB m 14) (wordB m 15)
      (at' h 0) (at' h 1) (at' h 2) (at' h 3) (at' h 4) (at' h 5) (at' h 6) (at' h 7) = app8 k (blockW h m) := by
  have H := goR_eq (fun a' b' c' d' e' f' g' h' => frc ((a' + at' h 0) % 4294967296) fun a => frc ((b' + at' h 1) % 4294967296) fun b => frc ((c' + at' h 2) % 4294967296) fun c => frc ((d' + at' h 3) % 4294967296) fun d => frc ((e' + at' h 4) % 4294967296) fun e => frc ((f' + at' h 5) % 4294967296) fun f => frc ((g' + at' h 6) % 4294967296) fun g => frc ((h' + at' h 7) % 4294967296) fun h => k a b c d e f g h) m h 64 0 rfl
  rw [List.drop_zero] at H
  simp only [Nat.zero_add] at H
  rw [seqW_lo m 0 (by omega), seqW_lo m 1 (by omega), seqW_lo m 2 (by omega), seqW_lo m 3 (by omega), seqW_lo m 4 (by omega), seqW_lo m 5 (by omega), seqW_lo m 6 (by omega), seqW_lo m 7 (by omega), seqW_lo m 8 (by omega), seqW_lo m 9 (by omega), seqW_lo m 10 (by omega), seqW_lo m 11 (by omega), seqW_lo m 12 (by omega), seqW_lo m 13 (by omega), seqW_lo m 14 (by omega), seqW_lo m 15 (by omega)] at H
  unfold goT
  refine Eq.trans H ?_
  have ha : ∀ (u v : List Nat) (i : Nat), i < 8 → at' (addW u v) i = (at' u i + at' v i) % 4294967296 := fun u v i hi => at_map_range _ 8 i hi
  unfold app8 blockW
  generalize rTo h (wTo m 64) 64 = R
  rw [ha R h 0 (by omega), ha R h 1 (by omega), ha R h 2 (by omega), ha R h 3 (by omega), ha R h 4 (by omega), ha R h 5 (by omega), ha R h 6 (by omega), ha R h 7 (by omega)]
  simp only [frc_eq]
/-! bytes, as numbers -/
def nums (l : List UInt8) : List Nat := l.map (·.toNat)
theorem nums_append (l r : List UInt8) : nums (l ++ r) = nums l ++ nums r := by simp [nums]
theorem nums_length (l : List UInt8) : (nums l).length = l.length := by simp [nums]
/-- A word of four bytes, and what is left. -/
def wd4 {α : Type} (f : Nat → List Nat → α) : List Nat → α
  | b0 :: b1 :: b2 :: b3 :: r => frc (((b0 * 256 + b1) * 256 + b2) * 256 + b3) fun w => f w r
  | _ => f 0 []
theorem wd4_eq {α : Type} (f : Nat → List Nat → α) (l : List UInt8) (h : 4 ≤ l.length) : wd4 f (nums l) = f (wordB l 0) (nums (l.drop 4)) := by
  match l, h with
  | b0 :: b1 :: b2 :: b3 :: r, _ => unfold nums; simp only [List.map_cons]; rw [wd4, frc_eq]; rfl
theorem wordB_drop (l : List UInt8) (n t : Nat) : wordB (l.drop (4 * n)) t = wordB l (n + t) := by
  unfold wordB
  simp only [List.getD_eq_getElem?_getD, List.getElem?_drop]
  rw [show 4 * n + 4 * t = 4 * (n + t) by omega, show 4 * n + (4 * t + 1) = 4 * (n + t) + 1 by omega, show 4 * n + (4 * t + 2) = 4 * (n + t) + 2 by omega, show 4 * n + (4 * t + 3) = 4 * (n + t) + 3 by omega]
theorem wordB_take (l : List UInt8) (t : Nat) (h : t < 16) : wordB (l.take 64) t = wordB l t := by
  unfold wordB
  simp only [List.getD_eq_getElem?_getD, List.getElem?_take]
  rw [if_pos (by omega), if_pos (by omega), if_pos (by omega), if_pos (by omega)]
def blk16 {α : Type} (f : Nat → Nat → Nat → Nat → Nat → Nat → Nat → Nat → Nat → Nat → Nat → Nat → Nat → Nat → Nat → Nat → List Nat → α) (l : List Nat) : α :=
  wd4 (fun w0 l => wd4 (fun w1 l => wd4 (fun w2 l => wd4 (fun w3 l => wd4 (fun w4 l => wd4 (fun w5 l => wd4 (fun w6 l => wd4 (fun w7 l => wd4 (fun w8 l => wd4 (fun w9 l => wd4 (fun w10 l => wd4 (fun w11 l => wd4 (fun w12 l => wd4 (fun w13 l => wd4 (fun w14 l => wd4 (fun w15 l => f w0 w1 w2 w3 w4 w5 w6 w7 w8 w9 w10 w11 w12 w13 w14 w15 l) l) l) l) l) l) l) l) l) l) l) l) l) l) l) l) l
theorem blk16_eq {α : Type} (f : Nat → Nat → Nat → Nat → Nat → Nat → Nat → Nat → Nat → Nat → Nat → Nat → Nat → Nat → Nat → Nat → List Nat → α) (l : List UInt8) (h : 64 ≤ l.length) :
    blk16 f (nums l) = f (wordB (l.take 64) 0) (wordB (l.take 64) 1) (wordB (l.take 64) 2) (wordB (l.take 64) 3) (wordB (l.take 64) 4) (wordB (l.take 64) 5) (wordB (l.take 64) 6) (wordB (l.take 64) 7) (wordB (l.take 64) 8) (wordB (l.take 64) 9) (wordB (l.take 64) 10) (wordB (l.take 64) 11) (wordB (l.take 64) 12) (wordB (l.take 64) 13) (wordB (l.take 64) 14) (wordB (l.take 64) 15) (nums (l.drop 64)) := by
  unfold blk16
  rw [wd4_eq _ _ (by first | omega | (simp only [List.length_drop]; omega))]
  rw [wd4_eq _ _ (by first | omega | (simp only [List.length_drop]; omega))]
  rw [wd4_eq _ _ (by first | omega | (simp only [List.length_drop]; omega))]
  rw [wd4_eq _ _ (by first | omega | (simp only [List.length_drop]; omega))]
  rw [wd4_eq _ _ (by first | omega | (simp only [List.length_drop]; omega))]
  rw [wd4_eq _ _ (by first | omega | (simp only [List.length_drop]; omega))]
  rw [wd4_eq _ _ (by first | omega | (simp only [List.length_drop]; omega))]
  rw [wd4_eq _ _ (by first | omega | (simp only [List.length_drop]; omega))]
  rw [wd4_eq _ _ (by first | omega | (simp only [List.length_drop]; omega))]
  rw [wd4_eq _ _ (by first | omega | (simp only [List.length_drop]; omega))]
  rw [wd4_eq _ _ (by first | omega | (simp only [List.length_drop]; omega))]
  rw [wd4_eq _ _ (by first | omega | (simp only [List.length_drop]; omega))]
  rw [wd4_eq _ _ (by first | omega | (simp only [List.length_drop]; omega))]
  rw [wd4_eq _ _ (by first | omega | (simp only [List.length_drop]; omega))]
  rw [wd4_eq _ _ (by first | omega | (simp only [List.length_drop]; omega))]
  rw [wd4_eq _ _ (by first | omega | (simp only [List.length_drop]; omega))]
  simp only [List.drop_drop, Nat.reduceAdd]
  rw [wordB_take l 0 (by omega), wordB_take l 1 (by omega), wordB_take l 2 (by omega), wordB_take l 3 (by omega), wordB_take l 4 (by omega), wordB_take l 5 (by omega), wordB_take l 6 (by omega), wordB_take l 7 (by omega), wordB_take l 8 (by omega), wordB_take l 9 (by omega), wordB_take l 10 (by omega), wordB_take l 11 (by omega), wordB_take l 12 (by omega), wordB_take l 13 (by omega), wordB_take l 14 (by omega), wordB_take l 15 (by omega)]
  rw [show wordB (l.drop 4) 0 = wordB l 1 from wordB_drop l 1 0]
  rw [show wordB (l.drop 8) 0 = wordB l 2 from wordB_drop l 2 0]
  rw [show wordB (l.drop 12) 0 = wordB l 3 from wordB_drop l 3 0]
  rw [show wordB (l.drop 16) 0 = wordB l 4 from wordB_drop l 4 0]
  rw [show wordB (l.drop 20) 0 = wordB l 5 from wordB_drop l 5 0]
  rw [show wordB (l.drop 24) 0 = wordB l 6 from wordB_drop l 6 0]
  rw [show wordB (l.drop 28) 0 = wordB l 7 from wordB_drop l 7 0]
  rw [show wordB (l.drop 32) 0 = wordB l 8 from wordB_drop l 8 0]
  rw [show wordB (l.drop 36) 0 = wordB l 9 from wordB_drop l 9 0]
  rw [show wordB (l.drop 40) 0 = wordB l 10 from wordB_drop l 10 0]
  rw [show wordB (l.drop 44) 0 = wordB l 11 from wordB_drop l 11 0]
  rw [show wordB (l.drop 48) 0 = wordB l 12 from wordB_drop l 12 0]
  rw [show wordB (l.drop 52) 0 = wordB l 13 from wordB_drop l 13 0]
  rw [show wordB (l.drop 56) 0 = wordB l 14 from wordB_drop l 14 0]
  rw [show wordB (l.drop 60) 0 = wordB l 15 from wordB_drop l 15 0]
/-- So many blocks. -/
def blocksF {α : Type} (k : Nat → Nat → Nat → Nat → Nat → Nat → Nat → Nat → α) : Nat → List Nat → Nat → Nat → Nat → Nat → Nat → Nat → Nat → Nat → α
  | 0, _, a, b, c, d, e, f, g, h => k a b c d e f g h
  | n + 1, l, a, b, c, d, e, f, g, h => blk16 (fun w0 w1 w2 w3 w4 w5 w6 w7 w8 w9 w10 w11 w12 w13 w14 w15 r => goT (fun a b c d e f g h => blocksF k n r a b c d e f g h) w0 w1 w2 w3 w4 w5 w6 w7 w8 w9 w10 w11 w12 w13 w14 w15 a b c d e f g h) l
theorem blocksF_eq {α : Type} (k : Nat → Nat → Nat → Nat → Nat → Nat → Nat → Nat → α) (p : List UInt8) : ∀ n b, 64 * (b + n) ≤ p.length →
    blocksF k n (nums (p.drop (64 * b))) (at' (hTo p b) 0) (at' (hTo p b) 1) (at' (hTo p b) 2) (at' (hTo p b) 3) (at' (hTo p b) 4) (at' (hTo p b) 5) (at' (hTo p b) 6) (at' (hTo p b) 7) = app8 k (hTo p (b + n))
  | 0, b, _ => rfl
  | n + 1, b, h => by
    have ih := blocksF_eq k p n (b + 1) (by omega)
    rw [blocksF, blk16_eq _ _ (by rw [List.length_drop]; omega), goT_eq, List.drop_drop]
    have e : hTo p (b + 1) = blockW (hTo p b) ((p.drop (64 * b)).take 64) := rfl
    rw [← e, show 64 * b + 64 = 64 * (b + 1) by omega, show b + (n + 1) = b + 1 + n by omega]
    exact ih
/-- The words of the digest of bytes. -/
def shaW (l : List UInt8) : List Nat := hTo (padL l) ((padL l).length / 64)
theorem shaL_words (l : List UInt8) : shaL l = outL (shaW l) := rfl
theorem hTo_len (p : List UInt8) : ∀ b, (hTo p b).length = 8
  | 0 => rfl
  | b + 1 => by rw [hTo]; unfold blockW addW; simp
/-- What stands behind so many bytes. -/
def endN (n : Nat) : List Nat := 128 :: (List.replicate ((119 - n % 64) % 64) 0 ++ nums (putL (8 * n) 8))
theorem padL_nums (l : List UInt8) : nums (padL l) = nums l ++ endN l.length := by
  unfold padL endN
  rw [nums_append, nums_append, nums_append, List.append_assoc, List.append_assoc]
  congr 1
  have e : nums (List.replicate ((119 - l.length % 64) % 64) (0 : UInt8)) = List.replicate ((119 - l.length % 64) % 64) 0 := by simp [nums]
  rw [e]
  rfl
/-- The digest of n bytes: k of its words. -/
def shaK {α : Type} (k : List Nat → α) (n : Nat) (l : List Nat) : α :=
  blocksF (fun a b c d e f g h => k [a, b, c, d, e, f, g, h]) ((n + 1 + (119 - n % 64) % 64 + 8) / 64) (l ++ endN n) (at' hW 0) (at' hW 1) (at' hW 2) (at' hW 3) (at' hW 4) (at' hW 5) (at' hW 6) (at' hW 7)
theorem list8 {l : List Nat} (h : l.length = 8) : [at' l 0, at' l 1, at' l 2, at' l 3, at' l 4, at' l 5, at' l 6, at' l 7] = l := by
  match l, h with
  | [a, b, c, d, e, f, g, i], _ => rfl
theorem shaK_eq {α : Type} (k : List Nat → α) (l : List UInt8) (n : Nat) (hn : l.length = n) : shaK k n (nums l) = k (shaW l) := by
  subst hn
  have hlen : (padL l).length = l.length + 1 + (119 - l.length % 64) % 64 + 8 := by
    unfold padL
    rw [List.length_append, List.length_append, List.length_append, putL_length, List.length_replicate]
    rfl
  have H := blocksF_eq (fun a b c d e f g h => k [a, b, c, d, e, f, g, h]) (padL l) ((padL l).length / 64) 0 (by omega)
  rw [Nat.mul_zero, List.drop_zero, Nat.zero_add, padL_nums] at H
  have e : hTo (padL l) 0 = hW := rfl
  rw [e] at H
  unfold shaK
  rw [← hlen, H]
  exact congrArg k (list8 (hTo_len _ _))
/-- The bytes of a word, ahead of others; of eight words. -/
def out4 (a : Nat) (r : List Nat) : List Nat := frc (a >>> 24 % 256) fun x => x :: frc (a >>> 16 % 256) fun x => x :: frc (a >>> 8 % 256) fun x => x :: frc (a % 256) fun x => x :: r
def outN : List Nat → List Nat → List Nat
  | [a, b, c, d, e, f, g, h], r => out4 a (out4 b (out4 c (out4 d (out4 e (out4 f (out4 g (out4 h r)))))))
  | _, r => r
theorem outN_eq (h : List Nat) (hl : h.length = 8) (r : List Nat) : outN h r = nums (outL h) ++ r := by
  match h, hl with
  | [a, b, c, d, e, f, g, i], _ =>
    unfold outN out4
    simp only [frc_eq]
    unfold nums outL
    simp [List.range, List.range.loop, at']
theorem fast_abc : shaK (fun h => at' h 0) 3 [97, 98, 99] = 3128432319 := by decide +kernel
end Go.Proofs.YtdldkhhcicjbmaaDoor
/- What the root of two leaves, {1} and {2}, is: not bytes 0. -/
namespace Go.Proofs.YtdldkhhcicjbmaaDoor
open Go.RowKit
set_option linter.unusedVariables false
set_option linter.unusedSimpArgs false
def dOne : List UInt8 := 1 :: List.replicate 31 0
def dTwo : List UInt8 := 2 :: List.replicate 31 0
theorem tree_word : shaK (fun h => at' h 0) 65 (nums (1 :: (dOne ++ dTwo))) = 2135979342 := by decide +kernel
theorem tree_word2 : at' (shaW (1 :: (dOne ++ dTwo))) 0 = 2135979342 := by
  rw [← tree_word]
  exact (shaK_eq (fun h => at' h 0) (1 :: (dOne ++ dTwo)) 65 rfl).symm
theorem tree_ne : nodeT dOne dTwo ≠ zD := by
  intro h
  have e : nodeT dOne dTwo = outL (shaW (1 :: (dOne ++ dTwo))) := rfl
  have hn := nth_outL (shaW (1 :: (dOne ++ dTwo))) 0 (by omega)
  rw [← e, h] at hn
  have e0 : at' (shaW (1 :: (dOne ++ dTwo))) (0 / 4) = at' (shaW (1 :: (dOne ++ dTwo))) 0 := rfl
  rw [e0, tree_word2] at hn
  exact absurd hn (by decide)
theorem root_two : rootT [dOne, dTwo] = nodeT dOne dTwo := by
  have h2 : halfT 2 = 1 := by decide
  rw [rootT_two (by simp)]
  rw [show [dOne, dTwo].length = 2 from rfl, h2]
  rw [rootT_one (by rfl), rootT_one (by rfl)]
  rfl
end Go.Proofs.YtdldkhhcicjbmaaDoor
