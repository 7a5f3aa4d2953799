/- Texts of this claim, joined: Rgrow, Wproof, Wgrow, Fast. -/
import Derived.Test.YtdldkhhcicjbmabDoorJ13
import Derived.Test.YtdldkhhcicjbmabDoorJ08
import Derived.Test.YtdldkhhcicjbmabDoorJ11
import Derived.Test.YtdldkhhcicjbmabDoorJ10
import Derived.Test.YtdldkhhcicjbmabDoorJ07
import Derived.Deep.RegionHeld3
import Derived.Test.YtdldkhhcicjbmabDoorJ01
/- The contracts of oathbookref1.ProofLong and Proof: they call themselves. -/
namespace Go.Proofs.YtdldkhhcicjbmabDoor
open Go.RowKit
set_option linter.unusedVariables false
set_option linter.unusedSimpArgs false

theorem plongT_le (m n : Nat) (own : Bool) : plongT m n own ≤ n + 1 := plongT_pow n m n own (Nat.le_of_lt Nat.lt_two_pow_self)
theorem OwnD.lit1 (w : World) (B : Nat) (l : List UInt8) (hB : B ≤ w.heap.size) (hl : l.length = 32) : OwnD (w.alloc (.cells (cellsB l).toArray 24)) B (.slice (some ⟨w.heap.size, 0, none⟩) 1 1) [l] := by
  refine ⟨fun x hx => by rw [List.mem_singleton.1 hx]; exact hl, ?_⟩
  have := World.ownsRow_lit (e := 24) (size := 32) w (cellsB l).toArray 1 hB (by unfold maxLen; omega) (by rw [cellsB_size, hl])
  simpa using this
set_option maxRecDepth 100000 in
set_option maxHeartbeats 1000000 in
theorem rplong_any : ∀ (n : Nat), ∀ (m : Nat) (own : Bool) (w : World), 1 ≤ m → m ≤ n → n ≤ 1000000 →
    Calls Tryd.prog 10 #[.int .i64 (m : Int), .int .i64 (n : Int), .bool own] w fun e w' => e = .returned (.int .i64 (plongT m n own : Int)) ∧ w' = w := by
  intro n
  induction n using Nat.strongRecOn with
  | ind n ih =>
    intro m own w h1 hm hn
    have HI : Hid (∀ j, j < n → ∀ (m : Nat) (own : Bool) (w : World), 1 ≤ m → m ≤ j → j ≤ 1000000 → Calls Tryd.prog 10 #[.int .i64 (m : Int), .int .i64 (j : Int), .bool own] w fun e w' => e = .returned (.int .i64 (plongT m j own : Int)) ∧ w' = w) := ih
    clear ih
    by_cases c : m < n
    · have h2 : 2 ≤ n := by omega
      have e1 : ((m : Int) == (n : Int)) = false := by simp; omega
      go_enter Tryd.func10, Tryd.ntmps10
      go_wp2_with fail
      refine (rhalf_any n w h2 hn).mono ?_
      rintro e w' ⟨rfl, rfl⟩
      have hk1 := halfT_lt h2
      have hk2 := halfT_pos n
      by_cases d : m ≤ halfT n
      · have HL : Hid (plongT m n own = 1 + plongT m (halfT n) own) := plongT_lo h2 c d
        have hlb := plongT_le m (halfT n) own
        have HC : Hid (Calls Tryd.prog 10 #[.int .i64 (m : Int), .int .i64 (halfT n : Int), .bool own] w' fun e w'' => e = .returned (.int .i64 (plongT m (halfT n) own : Int)) ∧ w'' = w') := HI.out (halfT n) hk1 m own w' h1 d (by omega)
        generalize halfT n = k at *
        have g1 : (m : Int) ≤ (k : Int) := by omega
        go_wp2_with fail
        refine HC.out.mono ?_
        rintro e w3 ⟨rfl, rfl⟩
        generalize plongT m k own = y at *
        go_wp2_with fail
        go_ret
        refine ⟨ret_int ?_, rfl⟩
        rw [HL.out]
        omega
      · have HL : Hid (plongT m n own = 1 + plongT (m - halfT n) (n - halfT n) false) := plongT_hi h2 c d
        have hlb := plongT_le (m - halfT n) (n - halfT n) false
        have HC : Hid (Calls Tryd.prog 10 #[.int .i64 ((m - halfT n : Nat) : Int), .int .i64 ((n - halfT n : Nat) : Int), .bool false] w' fun e w'' => e = .returned (.int .i64 (plongT (m - halfT n) (n - halfT n) false : Int)) ∧ w'' = w') := HI.out (n - halfT n) (by omega) (m - halfT n) false w' (by omega) (by omega) (by omega)
        generalize halfT n = k at *
        have g1 : ¬ (m : Int) ≤ (k : Int) := by omega
        have s1 : (m : Int) - (k : Int) = ((m - k : Nat) : Int) := by omega
        have s2 : (n : Int) - (k : Int) = ((n - k : Nat) : Int) := by omega
        have b1 : m - k ≤ 1000000 := by omega
        have b2 : n - k ≤ 1000000 := by omega
        generalize plongT (m - k) (n - k) false = y at *
        generalize m - k = m' at *
        generalize n - k = n' at *
        go_wp2_with fail
        refine HC.out.mono ?_
        rintro e w3 ⟨rfl, rfl⟩
        go_wp2_with fail
        go_ret
        refine ⟨ret_int ?_, rfl⟩
        rw [HL.out]
        omega
    · obtain rfl : m = n := by omega
      cases own with
      | true =>
        have HL : Hid (plongT m m true = 0) := plongT_own (Nat.le_refl _)
        go_enter Tryd.func10, Tryd.ntmps10
        go_wp2_with fail
        go_ret
        refine ⟨ret_int ?_, rfl⟩
        rw [HL.out]
        rfl
      | false =>
        have HL : Hid (plongT m m false = 1) := plongT_all (Nat.le_refl _)
        go_enter Tryd.func10, Tryd.ntmps10
        go_wp2_with fail
        go_ret
        refine ⟨ret_int ?_, rfl⟩
        rw [HL.out]
        rfl
set_option maxRecDepth 100000 in
set_option maxHeartbeats 1000000 in
theorem rproof_any : ∀ (n : Nat), ∀ (a : Option Addr) (c m : Nat) (own : Bool) (ls : List (List UInt8)) (w : World), DRow w a n ls → n ≤ c → 1 ≤ m → m ≤ n → n ≤ 100000 →
    Calls Tryd.prog 6 #[.slice a n c, .int .i64 (m : Int), .bool own] w fun e w' => (∃ v, e = .returned v ∧ OwnD w' w.heap.size v (proofT ls m own)) ∧ Below w.heap.size w w' := by
  intro n
  induction n using Nat.strongRecOn with
  | ind n ih =>
    intro a c m own ls w R hc h1 hm hn
    have HI : Hid (∀ j, j < n → ∀ (a : Option Addr) (c m : Nat) (own : Bool) (ls : List (List UInt8)) (w : World), DRow w a j ls → j ≤ c → 1 ≤ m → m ≤ j → j ≤ 100000 → Calls Tryd.prog 6 #[.slice a j c, .int .i64 (m : Int), .bool own] w fun e w' => (∃ v, e = .returned v ∧ OwnD w' w.heap.size v (proofT ls m own)) ∧ Below w.heap.size w w') := ih
    clear ih
    obtain ⟨iD, hiD, hzD0, hzD1, hzD2⟩ := info_parts Tryd.infoDg
    have HLEN : Hid (ls.length = n) := R.1
    have HR : Hid (∀ wx, Below w.heap.size w wx → DRow wx a n ls) := fun wx hx => R.below hx
    have H0 : Hid (Below w.heap.size w w) := Below.refl _ _
    clear R
    by_cases cmn : m < n
    · have h2 : 2 ≤ n := by omega
      have e1 : ((m : Int) == (n : Int)) = false := by simp; omega
      go_enter Tryd.func6, Tryd.ntmps6
      go_wp2_with fail
      refine (rhalf_any n w h2 (by omega)).mono ?_
      rintro e w' ⟨rfl, rfl⟩
      have hk1 := halfT_lt h2
      have hk2 := halfT_pos n
      obtain ⟨b, o, rfl⟩ := (HR.out _ H0.out).addr (by omega)
      have HKL : Hid (∀ wx, Below w'.heap.size w' wx → DRow wx (some ⟨b, o, none⟩) (halfT n) (ls.take (halfT n)) ∧ DRow wx (some ⟨b, o + halfT n * 32, none⟩) (n - halfT n) (ls.drop (halfT n))) := fun wx hx => ⟨(HR.out wx hx).take _ (by omega), (HR.out wx hx).drop _ (by omega)⟩
      have lA := rootT_length (HKL.out w' (Below.refl _ _)).1.2.1
      have lB := rootT_length (HKL.out w' (Below.refl _ _)).2.2.1
      have h2' : 2 ≤ ls.length := by rw [HLEN.out]; exact h2
      have HR1 : Hid (∀ wx, DRow wx (some ⟨b, o, none⟩) (halfT n) (ls.take (halfT n)) → Calls Tryd.prog 17 #[.slice (some ⟨b, o, none⟩) (halfT n) c] wx fun e w' => e = .returned (digestV (rootT (ls.take (halfT n)))) ∧ Below wx.heap.size wx w') := fun wx hr => rroot_any (halfT n) _ c _ wx hr (by omega) (by omega)
      have HR2 : Hid (∀ wx, DRow wx (some ⟨b, o + halfT n * 32, none⟩) (n - halfT n) (ls.drop (halfT n)) → Calls Tryd.prog 17 #[.slice (some ⟨b, o + halfT n * 32, none⟩) (n - halfT n) (c - halfT n)] wx fun e w' => e = .returned (digestV (rootT (ls.drop (halfT n)))) ∧ Below wx.heap.size wx w') := fun wx hr => rroot_any (n - halfT n) _ (c - halfT n) _ wx hr (by omega) (by omega)
      by_cases d : m ≤ halfT n
      · have HE : Hid (proofT ls m own = proofT (ls.take (halfT n)) m own ++ [rootT (ls.drop (halfT n))]) := by
          have := proofT_lo (ls := ls) (m := m) (own := own) h2' (by rw [HLEN.out]; exact cmn) (by rw [HLEN.out]; exact d)
          rw [HLEN.out] at this
          exact this
        have HPL : Hid ((proofT (ls.take (halfT n)) m own).length ≤ 100001) := by
          unfold Hid
          rw [(grow_ok (halfT n) (ls.take (halfT n)) m own (rootT ((ls.take (halfT n)).take m)) (by rw [List.length_take, HLEN.out]; omega) h1 d (fun _ => rfl)).2]
          have := plongT_le m (halfT n) own
          omega
        have HCP : Hid (∀ wx, DRow wx (some ⟨b, o, none⟩) (halfT n) (ls.take (halfT n)) → Calls Tryd.prog 6 #[.slice (some ⟨b, o, none⟩) (halfT n) c, .int .i64 (m : Int), .bool own] wx fun e w' => (∃ v, e = .returned v ∧ OwnD w' wx.heap.size v (proofT (ls.take (halfT n)) m own)) ∧ Below wx.heap.size wx w') := fun wx hr => HI.out (halfT n) hk1 _ c m own _ wx hr (by omega) h1 d (by omega)
        generalize halfT n = k at *
        generalize rootT (ls.take k) = X at *
        generalize rootT (ls.drop k) = Y at *
        generalize proofT (ls.take k) m own = PP at *
        have g1 : (m : Int) ≤ (k : Int) := by omega
        clear HI h2'
        have k0 : (0 : Int) ≤ (k : Int) := by omega
        have k1 : (k : Int) ≤ (n : Int) := by omega
        have k2 : (k : Int) ≤ (c : Int) := by omega
        have n1 : (n : Int) ≤ (c : Int) := by omega
        go_wp2_with fail
        refine wp_region_noPanic ?_
        refine wp_region_held_drew (S := fun _ => True) (by kernel_rfl) True.intro (fun hHeld => ?_)
        try simp only [Act.put, List.setIfInBounds_toArray, List.set_cons_zero, List.set_cons_succ]
        have HBd : Hid (Below w'.heap.size w' w'.drew) := below_drewN w' 1
        generalize w'.drew = wd at *
        refine wpAnyH_take (i := 0) (v := ?_) (by simp only [List.getElem?_toArray, List.getElem?_cons_zero, List.getElem?_cons_succ]; rfl) (by kernel_rfl) (by kernel_rfl) (by kernel_rfl) (fun _ _ _ h => h) (Or.inl ⟨by rfl, ?_⟩) hHeld ?_
        rotate_left
        · intro w hSw
          go_simp
          try with_reducible rfl
        try simp only [Act.put, List.setIfInBounds_toArray, List.set_cons_zero, List.set_cons_succ]
        refine wpAnyH_take (i := 1) (v := ?_) (by simp only [List.getElem?_toArray, List.getElem?_cons_zero, List.getElem?_cons_succ]; rfl) (by kernel_rfl) (by kernel_rfl) (by kernel_rfl) (fun _ _ _ h => h) (Or.inl ⟨by rfl, ?_⟩) hHeld ?_
        rotate_left
        · intro w hSw
          go_simp
          try with_reducible rfl
        try simp only [Act.put, List.setIfInBounds_toArray, List.set_cons_zero, List.set_cons_succ]
        refine wpAnyH_take (i := 2) (v := .slice (some ⟨b, o, none⟩) k c) (by simp only [List.getElem?_toArray, List.getElem?_cons_zero, List.getElem?_cons_succ]; rfl) (by kernel_rfl) (by kernel_rfl) (by kernel_rfl) (fun _ _ _ h => h) (Or.inl ⟨by rfl, ?_⟩) hHeld ?_
        · intro w hSw
          go_simp
        try simp only [Act.put, List.setIfInBounds_toArray, List.set_cons_zero, List.set_cons_succ]
        refine wpAnyH_take (i := 3) (v := ?_) (by simp only [List.getElem?_toArray, List.getElem?_cons_zero, List.getElem?_cons_succ]; rfl) (by kernel_rfl) (by kernel_rfl) (by kernel_rfl) (fun _ _ _ h => h) (Or.inl ⟨by rfl, ?_⟩) hHeld ?_
        rotate_left
        · intro w hSw
          go_simp
          try with_reducible rfl
        try simp only [Act.put, List.setIfInBounds_toArray, List.set_cons_zero, List.set_cons_succ]
        refine wpAnyH_take (i := 4) (v := ?_) (by simp only [List.getElem?_toArray, List.getElem?_cons_zero, List.getElem?_cons_succ]; rfl) (by kernel_rfl) (by kernel_rfl) (by kernel_rfl) (fun _ _ _ h => h) (Or.inl ⟨by rfl, ?_⟩) hHeld ?_
        rotate_left
        · intro w hSw
          go_simp
          try with_reducible rfl
        try simp only [Act.put, List.setIfInBounds_toArray, List.set_cons_zero, List.set_cons_succ]
        refine wpAnyH_take (i := 6) (v := ?_) (by simp only [List.getElem?_toArray, List.getElem?_cons_zero, List.getElem?_cons_succ]; rfl) (by kernel_rfl) (by kernel_rfl) (by kernel_rfl) (fun _ _ _ h => h) (Or.inl ⟨by rfl, ?_⟩) hHeld ?_
        rotate_left
        · intro w hSw
          go_simp
          try with_reducible rfl
        try simp only [Act.put, List.setIfInBounds_toArray, List.set_cons_zero, List.set_cons_succ]
        refine wpAnyH_take (i := 7) (v := ?_) (by simp only [List.getElem?_toArray, List.getElem?_cons_zero, List.getElem?_cons_succ]; rfl) (by kernel_rfl) (by kernel_rfl) (by kernel_rfl) (fun _ _ _ h => h) (Or.inl ⟨by rfl, ?_⟩) hHeld ?_
        rotate_left
        · intro w hSw
          go_simp
          try with_reducible rfl
        try simp only [Act.put, List.setIfInBounds_toArray, List.set_cons_zero, List.set_cons_succ]
        refine wpAnyH_take (i := 8) (v := .slice (some ⟨b, o + k * 32, none⟩) (n - k) (c - k)) (by simp only [List.getElem?_toArray, List.getElem?_cons_zero, List.getElem?_cons_succ]; rfl) (by kernel_rfl) (by kernel_rfl) (by kernel_rfl) (fun _ _ _ h => h) (Or.inl ⟨by rfl, ?_⟩) hHeld ?_
        · intro w hSw
          go_simp
          omega
        try simp only [Act.put, List.setIfInBounds_toArray, List.set_cons_zero, List.set_cons_succ]
        refine wpAnyH_ready (rs := [5]) (by kernel_rfl) (by simp) ?_
        refine AllReadyH.cons (by simp only [List.getElem?_toArray, List.getElem?_cons_zero, List.getElem?_cons_succ]; rfl) (fun K hK => ?_) AllReadyH.nil
        rw [if_pos (by rfl)]
        go_simp
        refine (HCP.out wd (HKL.out _ HBd.out).1).mono ?_
        rintro e w3 ⟨⟨v3, rfl, ho3⟩, hb3⟩
        have HB3 : Hid (Below w'.heap.size w' w3) := HBd.out.trans (hb3.mono HBd.out.size)
        have HO3 : Hid (OwnD w3 w'.heap.size v3 PP) := ho3.lower HBd.out.size
        clear hb3 HBd HCP ho3
        go_wp2_with fail
        refine hK.out _ _ True.intro (fun hHeld => ?_)
        clear hK K
        try simp only [Act.put, List.setIfInBounds_toArray, List.set_cons_zero, List.set_cons_succ]
        refine wpAnyH_ready (rs := [9]) (by kernel_rfl) (by simp) ?_
        refine AllReadyH.cons (by simp only [List.getElem?_toArray, List.getElem?_cons_zero, List.getElem?_cons_succ]; rfl) (fun K hK => ?_) AllReadyH.nil
        rw [if_pos (by rfl)]
        go_simp
        refine (HR2.out w3 (HKL.out _ HB3.out).2).mono ?_
        rintro e w4 ⟨rfl, hb4⟩
        have HB4 : Hid (Below w'.heap.size w' w4) := HB3.out.trans (hb4.mono HB3.out.size)
        have HO4 : Hid (OwnD w4 w'.heap.size v3 PP) := OwnD.below HO3.out hb4
        clear hb4 HB3 HO3
        go_wp2_with fail
        refine hK.out _ _ True.intro (fun hHeld => ?_)
        clear hK K
        try simp only [Act.put, List.setIfInBounds_toArray, List.set_cons_zero, List.set_cons_succ]
        refine wpAnyH_ready (rs := [10]) (by kernel_rfl) (by simp) ?_
        refine AllReadyH.cons (by simp only [List.getElem?_toArray, List.getElem?_cons_zero, List.getElem?_cons_succ]; rfl) (fun K hK => ?_) AllReadyH.nil
        rw [if_pos (by rfl)]
        refine wp_buildD1 _ rfl Y lB rfl ?_
        have hs5 := HB4.out.size
        have HO5 : Hid (OwnD (w4.alloc (.cells (cellsB Y).toArray 24)) w'.heap.size v3 PP) := OwnD.alloc HO4.out _
        have HB5 : Hid (Below w'.heap.size w' (w4.alloc (.cells (cellsB Y).toArray 24))) := Below.alloc HB4.out hs5 _
        have HY5 : Hid (DRow (w4.alloc (.cells (cellsB Y).toArray 24)) (some ⟨w4.heap.size, 0, none⟩) 1 [Y]) := DRow.lit1 w4 Y _ lB
        refine hK.out _ _ True.intro (fun hHeld => ?_)
        clear HO4 HB4 hs5
        generalize w4.alloc (.cells (cellsB Y).toArray 24) = w5 at *
        clear hK K
        try simp only [Act.put, List.setIfInBounds_toArray, List.set_cons_zero, List.set_cons_succ]
        refine wpAnyH_ready (rs := [11]) (by kernel_rfl) (by simp) ?_
        refine AllReadyH.cons (by simp only [List.getElem?_toArray, List.getElem?_cons_zero, List.getElem?_cons_succ]; rfl) (fun K hK => ?_) AllReadyH.nil
        rw [if_pos (by rfl)]
        refine wp_appendD _ _ rfl w'.heap.size v3 PP rfl HO5.out ⟨w4.heap.size, 0, none⟩ 1 1 [Y] rfl HY5.out (by omega) (by have := HPL.out; omega) HB5.out.size ?_
        intro v7 w7 ho7 hg7 _
        have HB7 : Hid (Below w'.heap.size w' w7) := OwnD.grown HO5.out HB5.out hg7 (Nat.le_refl _) HB5.out.size
        have HO7 : Hid (OwnD w7 w'.heap.size v7 (PP ++ [Y])) := ho7
        refine hK.out _ _ True.intro (fun hHeld => ?_)
        clear HO5 HB5 HY5 hg7 ho7
        clear hK K
        try simp only [Act.put, List.setIfInBounds_toArray, List.set_cons_zero, List.set_cons_succ]
        refine wpAnyH_take (i := 12) (v := ?_) (by simp only [List.getElem?_toArray, List.getElem?_cons_zero, List.getElem?_cons_succ]; rfl) (by kernel_rfl) (by kernel_rfl) (by kernel_rfl) (fun _ _ _ h => h) (Or.inl ⟨by rfl, ?_⟩) hHeld ?_
        rotate_left
        · intro w hSw
          go_simp
          try with_reducible rfl
        try simp only [Act.put, List.setIfInBounds_toArray, List.set_cons_zero, List.set_cons_succ]
        refine wpAnyH_done (by kernel_rfl) (NoPanic.normal ?_) _
        clear hHeld
        go_wp2_with fail
        go_ret
        exact ⟨⟨_, rfl, by rw [HE.out]; exact HO7.out⟩, HB7.out⟩
      · have HE : Hid (proofT ls m own = proofT (ls.drop (halfT n)) (m - halfT n) false ++ [rootT (ls.take (halfT n))]) := by
          have := proofT_hi (ls := ls) (m := m) (own := own) h2' (by rw [HLEN.out]; exact cmn) (by rw [HLEN.out]; exact d)
          rw [HLEN.out] at this
          exact this
        have HPL : Hid ((proofT (ls.drop (halfT n)) (m - halfT n) false).length ≤ 100001) := by
          unfold Hid
          rw [(grow_ok (n - halfT n) (ls.drop (halfT n)) (m - halfT n) false (rootT ((ls.drop (halfT n)).take (m - halfT n))) (by rw [List.length_drop, HLEN.out]) (by omega) (by omega) (fun _ => rfl)).2]
          have := plongT_le (m - halfT n) (n - halfT n) false
          omega
        have HCP : Hid (∀ wx, DRow wx (some ⟨b, o + halfT n * 32, none⟩) (n - halfT n) (ls.drop (halfT n)) → Calls Tryd.prog 6 #[.slice (some ⟨b, o + halfT n * 32, none⟩) (n - halfT n) (c - halfT n), .int .i64 ((m - halfT n : Nat) : Int), .bool false] wx fun e w' => (∃ v, e = .returned v ∧ OwnD w' wx.heap.size v (proofT (ls.drop (halfT n)) (m - halfT n) false)) ∧ Below wx.heap.size wx w') := fun wx hr => HI.out (n - halfT n) (by omega) _ (c - halfT n) (m - halfT n) false _ wx hr (by omega) (by omega) (by omega) (by omega)
        generalize halfT n = k at *
        generalize rootT (ls.take k) = X at *
        generalize rootT (ls.drop k) = Y at *
        have s1 : (m : Int) - (k : Int) = ((m - k : Nat) : Int) := by omega
        have b1 : m - k ≤ 100000 := by omega
        generalize proofT (ls.drop k) (m - k) false = PP at *
        have g1 : ¬ (m : Int) ≤ (k : Int) := by omega
        generalize m - k = m' at *
        have wi : IntKind.i64.wrap (m' : Int) = (m' : Int) := wrapT m' (by omega)
        clear HI h2'
        have k0 : (0 : Int) ≤ (k : Int) := by omega
        have k1 : (k : Int) ≤ (n : Int) := by omega
        have k2 : (k : Int) ≤ (c : Int) := by omega
        have n1 : (n : Int) ≤ (c : Int) := by omega
        go_wp2_with fail
        refine wp_region_noPanic ?_
        refine wp_region_held_drew (S := fun _ => True) (by kernel_rfl) True.intro (fun hHeld => ?_)
        try simp only [Act.put, List.setIfInBounds_toArray, List.set_cons_zero, List.set_cons_succ]
        have HBd : Hid (Below w'.heap.size w' w'.drew) := below_drewN w' 1
        generalize w'.drew = wd at *
        refine wpAnyH_take (i := 0) (v := ?_) (by simp only [List.getElem?_toArray, List.getElem?_cons_zero, List.getElem?_cons_succ]; rfl) (by kernel_rfl) (by kernel_rfl) (by kernel_rfl) (fun _ _ _ h => h) (Or.inl ⟨by rfl, ?_⟩) hHeld ?_
        rotate_left
        · intro w hSw
          go_simp
          try with_reducible rfl
        try simp only [Act.put, List.setIfInBounds_toArray, List.set_cons_zero, List.set_cons_succ]
        refine wpAnyH_take (i := 1) (v := ?_) (by simp only [List.getElem?_toArray, List.getElem?_cons_zero, List.getElem?_cons_succ]; rfl) (by kernel_rfl) (by kernel_rfl) (by kernel_rfl) (fun _ _ _ h => h) (Or.inl ⟨by rfl, ?_⟩) hHeld ?_
        rotate_left
        · intro w hSw
          go_simp
          try with_reducible rfl
        try simp only [Act.put, List.setIfInBounds_toArray, List.set_cons_zero, List.set_cons_succ]
        refine wpAnyH_take (i := 2) (v := .slice (some ⟨b, o + k * 32, none⟩) (n - k) (c - k)) (by simp only [List.getElem?_toArray, List.getElem?_cons_zero, List.getElem?_cons_succ]; rfl) (by kernel_rfl) (by kernel_rfl) (by kernel_rfl) (fun _ _ _ h => h) (Or.inl ⟨by rfl, ?_⟩) hHeld ?_
        · intro w hSw
          go_simp
          omega
        try simp only [Act.put, List.setIfInBounds_toArray, List.set_cons_zero, List.set_cons_succ]
        refine wpAnyH_take (i := 3) (v := ?_) (by simp only [List.getElem?_toArray, List.getElem?_cons_zero, List.getElem?_cons_succ]; rfl) (by kernel_rfl) (by kernel_rfl) (by kernel_rfl) (fun _ _ _ h => h) (Or.inl ⟨by rfl, ?_⟩) hHeld ?_
        rotate_left
        · intro w hSw
          go_simp
          try with_reducible rfl
        try simp only [Act.put, List.setIfInBounds_toArray, List.set_cons_zero, List.set_cons_succ]
        refine wpAnyH_take (i := 4) (v := ?_) (by simp only [List.getElem?_toArray, List.getElem?_cons_zero, List.getElem?_cons_succ]; rfl) (by kernel_rfl) (by kernel_rfl) (by kernel_rfl) (fun _ _ _ h => h) (Or.inl ⟨by rfl, ?_⟩) hHeld ?_
        rotate_left
        · intro w hSw
          go_simp
          try with_reducible rfl
        try simp only [Act.put, List.setIfInBounds_toArray, List.set_cons_zero, List.set_cons_succ]
        refine wpAnyH_take (i := 5) (v := .int .i64 (m' : Int)) (by simp only [List.getElem?_toArray, List.getElem?_cons_zero, List.getElem?_cons_succ]; rfl) (by kernel_rfl) (by kernel_rfl) (by kernel_rfl) (fun _ _ _ h => h) (Or.inl ⟨by rfl, ?_⟩) hHeld ?_
        · intro w hSw
          go_simp
        try simp only [Act.put, List.setIfInBounds_toArray, List.set_cons_zero, List.set_cons_succ]
        refine wpAnyH_take (i := 7) (v := ?_) (by simp only [List.getElem?_toArray, List.getElem?_cons_zero, List.getElem?_cons_succ]; rfl) (by kernel_rfl) (by kernel_rfl) (by kernel_rfl) (fun _ _ _ h => h) (Or.inl ⟨by rfl, ?_⟩) hHeld ?_
        rotate_left
        · intro w hSw
          go_simp
          try with_reducible rfl
        try simp only [Act.put, List.setIfInBounds_toArray, List.set_cons_zero, List.set_cons_succ]
        refine wpAnyH_take (i := 8) (v := ?_) (by simp only [List.getElem?_toArray, List.getElem?_cons_zero, List.getElem?_cons_succ]; rfl) (by kernel_rfl) (by kernel_rfl) (by kernel_rfl) (fun _ _ _ h => h) (Or.inl ⟨by rfl, ?_⟩) hHeld ?_
        rotate_left
        · intro w hSw
          go_simp
          try with_reducible rfl
        try simp only [Act.put, List.setIfInBounds_toArray, List.set_cons_zero, List.set_cons_succ]
        refine wpAnyH_take (i := 9) (v := .slice (some ⟨b, o, none⟩) k c) (by simp only [List.getElem?_toArray, List.getElem?_cons_zero, List.getElem?_cons_succ]; rfl) (by kernel_rfl) (by kernel_rfl) (by kernel_rfl) (fun _ _ _ h => h) (Or.inl ⟨by rfl, ?_⟩) hHeld ?_
        · intro w hSw
          go_simp
        try simp only [Act.put, List.setIfInBounds_toArray, List.set_cons_zero, List.set_cons_succ]
        refine wpAnyH_ready (rs := [6]) (by kernel_rfl) (by simp) ?_
        refine AllReadyH.cons (by simp only [List.getElem?_toArray, List.getElem?_cons_zero, List.getElem?_cons_succ]; rfl) (fun K hK => ?_) AllReadyH.nil
        rw [if_pos (by rfl)]
        go_simp
        refine (HCP.out wd (HKL.out _ HBd.out).2).mono ?_
        rintro e w3 ⟨⟨v3, rfl, ho3⟩, hb3⟩
        have HB3 : Hid (Below w'.heap.size w' w3) := HBd.out.trans (hb3.mono HBd.out.size)
        have HO3 : Hid (OwnD w3 w'.heap.size v3 PP) := ho3.lower HBd.out.size
        clear hb3 HBd HCP ho3
        go_wp2_with fail
        refine hK.out _ _ True.intro (fun hHeld => ?_)
        clear hK K
        try simp only [Act.put, List.setIfInBounds_toArray, List.set_cons_zero, List.set_cons_succ]
        refine wpAnyH_ready (rs := [10]) (by kernel_rfl) (by simp) ?_
        refine AllReadyH.cons (by simp only [List.getElem?_toArray, List.getElem?_cons_zero, List.getElem?_cons_succ]; rfl) (fun K hK => ?_) AllReadyH.nil
        rw [if_pos (by rfl)]
        go_simp
        refine (HR1.out w3 (HKL.out _ HB3.out).1).mono ?_
        rintro e w4 ⟨rfl, hb4⟩
        have HB4 : Hid (Below w'.heap.size w' w4) := HB3.out.trans (hb4.mono HB3.out.size)
        have HO4 : Hid (OwnD w4 w'.heap.size v3 PP) := OwnD.below HO3.out hb4
        clear hb4 HB3 HO3
        go_wp2_with fail
        refine hK.out _ _ True.intro (fun hHeld => ?_)
        clear hK K
        try simp only [Act.put, List.setIfInBounds_toArray, List.set_cons_zero, List.set_cons_succ]
        refine wpAnyH_ready (rs := [11]) (by kernel_rfl) (by simp) ?_
        refine AllReadyH.cons (by simp only [List.getElem?_toArray, List.getElem?_cons_zero, List.getElem?_cons_succ]; rfl) (fun K hK => ?_) AllReadyH.nil
        rw [if_pos (by rfl)]
        refine wp_buildD1 _ rfl X lA rfl ?_
        have hs5 := HB4.out.size
        have HO5 : Hid (OwnD (w4.alloc (.cells (cellsB X).toArray 24)) w'.heap.size v3 PP) := OwnD.alloc HO4.out _
        have HB5 : Hid (Below w'.heap.size w' (w4.alloc (.cells (cellsB X).toArray 24))) := Below.alloc HB4.out hs5 _
        have HY5 : Hid (DRow (w4.alloc (.cells (cellsB X).toArray 24)) (some ⟨w4.heap.size, 0, none⟩) 1 [X]) := DRow.lit1 w4 X _ lA
        refine hK.out _ _ True.intro (fun hHeld => ?_)
        clear HO4 HB4 hs5
        generalize w4.alloc (.cells (cellsB X).toArray 24) = w5 at *
        clear hK K
        try simp only [Act.put, List.setIfInBounds_toArray, List.set_cons_zero, List.set_cons_succ]
        refine wpAnyH_ready (rs := [12]) (by kernel_rfl) (by simp) ?_
        refine AllReadyH.cons (by simp only [List.getElem?_toArray, List.getElem?_cons_zero, List.getElem?_cons_succ]; rfl) (fun K hK => ?_) AllReadyH.nil
        rw [if_pos (by rfl)]
        refine wp_appendD _ _ rfl w'.heap.size v3 PP rfl HO5.out ⟨w4.heap.size, 0, none⟩ 1 1 [X] rfl HY5.out (by omega) (by have := HPL.out; omega) HB5.out.size ?_
        intro v7 w7 ho7 hg7 _
        have HB7 : Hid (Below w'.heap.size w' w7) := OwnD.grown HO5.out HB5.out hg7 (Nat.le_refl _) HB5.out.size
        have HO7 : Hid (OwnD w7 w'.heap.size v7 (PP ++ [X])) := ho7
        refine hK.out _ _ True.intro (fun hHeld => ?_)
        clear HO5 HB5 HY5 hg7 ho7
        clear hK K
        try simp only [Act.put, List.setIfInBounds_toArray, List.set_cons_zero, List.set_cons_succ]
        refine wpAnyH_take (i := 13) (v := ?_) (by simp only [List.getElem?_toArray, List.getElem?_cons_zero, List.getElem?_cons_succ]; rfl) (by kernel_rfl) (by kernel_rfl) (by kernel_rfl) (fun _ _ _ h => h) (Or.inl ⟨by rfl, ?_⟩) hHeld ?_
        rotate_left
        · intro w hSw
          go_simp
          try with_reducible rfl
        try simp only [Act.put, List.setIfInBounds_toArray, List.set_cons_zero, List.set_cons_succ]
        refine wpAnyH_done (by kernel_rfl) (NoPanic.normal ?_) _
        clear hHeld
        go_wp2_with fail
        go_ret
        exact ⟨⟨_, rfl, by rw [HE.out]; exact HO7.out⟩, HB7.out⟩
    · obtain rfl : m = n := by omega
      cases own with
      | true =>
        have HE : Hid (proofT ls m true = []) := proofT_own (by rw [HLEN.out]; exact Nat.le_refl _)
        go_enter Tryd.func6, Tryd.ntmps6
        go_wp2_with fail
        go_ret
        exact ⟨⟨_, rfl, by rw [HE.out]; exact OwnD.nil _ _⟩, H0.out⟩
      | false =>
        have HE : Hid (proofT ls m false = [rootT ls]) := proofT_all (by rw [HLEN.out]; exact Nat.le_refl _)
        have lR := rootT_length (HR.out _ H0.out).2.1
        go_enter Tryd.func6, Tryd.ntmps6
        go_wp2_with fail
        refine (rroot_any m a c ls w (HR.out _ H0.out) hc (by omega)).mono ?_
        rintro e w3 ⟨rfl, hb3⟩
        have HB3 : Hid (Below w.heap.size w w3) := hb3
        clear hb3
        generalize rootT ls = D at *
        go_wp2_with (refine wpList_build1 (by rfl) (.tmp 20) 22 (by rfl) 24 (.agg zeros32) iD D lR (by rfl) Tryd.underlying22 hiD hzD0 (by rfl) hzD1 ?_)
        go_ret
        exact ⟨⟨_, rfl, by rw [HE.out]; exact OwnD.lit1 w3 _ D HB3.out.size lR⟩, Below.alloc HB3.out HB3.out.size _⟩
end Go.Proofs.YtdldkhhcicjbmabDoor
/- The contracts of grow.root, grow.proofOf and grow.Proof. -/
namespace Go.Proofs.YtdldkhhcicjbmabDoor
open Go.RowKit
set_option linter.unusedVariables false
set_option linter.unusedSimpArgs false

set_option maxRecDepth 100000 in
set_option maxHeartbeats 1000000 in
theorem wgroot_any (n : Nat) (a : Option Addr) (c : Nat) (ls : List (List UInt8)) (w : World) (G : Env w) (R : DRow w a n ls) (hc : n ≤ c) (hn : n ≤ 256) :
    Calls Tryd.prog 25 #[.slice a n c] w fun e w' => e = .returned (digestV (rootT ls)) ∧ Below w.heap.size w w' := by
  obtain ⟨w2, hw2⟩ : ∃ w2, w.alloc (.cells (cellsB zD).toArray 24) = w2 := ⟨_, rfl⟩
  have HS2 : Hid (w2.heap.size = w.heap.size + 1) := by unfold Hid; rw [← hw2]; simp
  have HB2 : Hid (Below w.heap.size w w2) := by rw [← hw2]; exact (Below.refl _ _).alloc (Nat.le_refl _) _
  have HT2 : Hid (w2.there w.heap.size 0 32) := by rw [← hw2]; exact alloc_thereAt _ _ _ 32 _ rfl zD_size.symm
  have HG : Hid (Env w2 ∧ DRow w2 a n ls) := ⟨G.below HB2.out, R.below HB2.out⟩
  have hlen := rootT_length R.2.1
  clear G R
  go_enter Tryd.func25, Tryd.ntmps25
  go_wp2_with (refine wpList_allocE (by rfl) 24 (by rfl) (cellsB zD).toArray Tryd.zeroDg w.heap.size rfl w2 hw2 ?_)
  refine (wtree_root a n c ls w2 HG.out.1 HG.out.2 hc hn).mono ?_
  rintro e w3 ⟨rfl, hb3⟩
  have HS3 : Hid (w.heap.size < w3.heap.size) := by have := HS2.out; have := hb3.size; unfold Hid; omega
  have HB3 : Hid (Below w.heap.size w w3) := below_trans HB2.out hb3
  have HT3 : Hid (w3.there w.heap.size 0 32) := there_below HT2.out hb3 (by have := HS2.out; omega)
  clear hb3 hw2 HG HT2 HB2 HS2
  generalize hD : rootT ls = D at *
  have HD : Hid (rootT ls = D) := hD
  clear hD
  obtain ⟨g3, hg3⟩ : ∃ g3, w3.heap.size = g3 := ⟨_, rfl⟩
  obtain ⟨w4, hw4⟩ : ∃ w4, w3.alloc (.cells (cellsB zD).toArray 24) = w4 := ⟨_, rfl⟩
  have HB4 : Hid (Below w.heap.size w w4) := by rw [← hw4]; exact Below.alloc HB3.out HB3.out.size _
  have HT4 : Hid (w4.there w.heap.size 0 32 ∧ w4.there g3 0 32) := by
    rw [← hw4]
    exact ⟨there_below HT3.out ((Below.refl _ _).alloc (Nat.le_refl _) _) HS3.out, alloc_thereAt _ _ _ 32 _ hg3 zD_size.symm⟩
  have HX5 : Hid ((w4.setCells g3 0 (cellsB D)).rangeAt g3 0 (cellsB D)) := dat_stored HT4.out.2 hlen
  have HT5 : Hid ((w4.setCells g3 0 (cellsB D)).there w.heap.size 0 32) := World.there_setCells HT4.out.1 _ _ _
  have HB5 : Hid (Below w.heap.size w (w4.setCells g3 0 (cellsB D))) := below_setCells _ (by rw [← hg3]; exact HB3.out.size) _ _ _ HB4.out
  clear HB3 HT3 HB4 HS3
  go_wp2_with (first
    | (refine wpList_allocE (by rfl) 24 (by rfl) (cellsB zD).toArray Tryd.zeroDg g3 hg3 w4 hw4 ?_)
    | (refine wpList_store_mid (by rfl) 24 (.tmp 3) (.tmp 8) (by rfl) g3 0 (cellsB D).toArray (by rfl) (by rfl) (by rw [cellsB_size, hlen]; exact HT4.out.2) (by rw [cellsB_size, hlen]; exact Tryd.sizeDg) (all_oneCell_toArray (cellsB_one _)) ?_)
    | (refine wpList_load_mid (by rfl) 24 (.tmp 3) (by rfl) g3 0 (by rfl) (cellsB D) _ HX5.out Tryd.underlying24 (by rfl) (by rw [cellsB_length, hlen]; exact Tryd.sizeDg) ?_)
    | (refine wpList_store_mid (by rfl) 24 (.tmp 2) (.tmp 10) (by rfl) w.heap.size 0 (cellsB D).toArray (by rfl) (by rfl) (by rw [cellsB_size, hlen]; exact HT5.out) (by rw [cellsB_size, hlen]; exact Tryd.sizeDg) (all_oneCell_toArray (cellsB_one _)) ?_))
  refine bodyPost_ret (v := digestV D) (run_results_row Tryd.results25 _ _ w.heap.size 0 (by rfl) (cellsB D) (World.rangeAt_setCells_same _ _ _ _ (by rw [cellsB_length, hlen]; exact HT5.out)) _ Tryd.underlying24 (by rfl) (by rw [cellsB_length, hlen]; exact Tryd.sizeDg)) rfl ⟨by rw [HD.out], ?_⟩
  exact below_setCells _ (Nat.le_refl _) _ _ _ HB5.out
set_option maxRecDepth 100000 in
set_option maxHeartbeats 1000000 in
theorem wproofof_any : ∀ (n : Nat), ∀ (a : Option Addr) (c m : Nat) (own : Bool) (ls : List (List UInt8)) (w : World), Env w → DRow w a n ls → n ≤ c → 1 ≤ m → m ≤ n → n ≤ 256 →
    Calls Tryd.prog 19 #[.slice a n c, .int .i64 (m : Int), .bool own] w fun e w' => (∃ v, e = .returned v ∧ OwnD w' w.heap.size v (proofT ls m own)) ∧ Below w.heap.size w w' := by
  intro n
  induction n using Nat.strongRecOn with
  | ind n ih =>
    intro a c m own ls w G R hc h1 hm hn
    have HI : Hid (∀ j, j < n → ∀ (a : Option Addr) (c m : Nat) (own : Bool) (ls : List (List UInt8)) (w : World), Env w → DRow w a j ls → j ≤ c → 1 ≤ m → m ≤ j → j ≤ 256 → Calls Tryd.prog 19 #[.slice a j c, .int .i64 (m : Int), .bool own] w fun e w' => (∃ v, e = .returned v ∧ OwnD w' w.heap.size v (proofT ls m own)) ∧ Below w.heap.size w w') := ih
    clear ih
    obtain ⟨iD, hiD, hzD0, hzD1, hzD2⟩ := info_parts Tryd.infoDg
    have HLEN : Hid (ls.length = n) := R.1
    have HR : Hid (∀ wx, Below w.heap.size w wx → DRow wx a n ls) := fun wx hx => R.below hx
    have H0 : Hid (Below w.heap.size w w) := Below.refl _ _
    have HGE : Hid (∀ wx, Below w.heap.size w wx → Env wx) := fun wx hx => G.below hx
    clear R G
    by_cases cmn : m < n
    · have h2 : 2 ≤ n := by omega
      have e1 : ((m : Int) == (n : Int)) = false := by simp; omega
      go_enter Tryd.func19, Tryd.ntmps19
      go_wp2_with fail
      refine (wsplit_any n w h2 (by omega)).mono ?_
      rintro e w' ⟨rfl, rfl⟩
      have hk1 := halfT_lt h2
      have hk2 := halfT_pos n
      obtain ⟨b, o, rfl⟩ := (HR.out _ H0.out).addr (by omega)
      have HKL : Hid (∀ wx, Below w'.heap.size w' wx → DRow wx (some ⟨b, o, none⟩) (halfT n) (ls.take (halfT n)) ∧ DRow wx (some ⟨b, o + halfT n * 32, none⟩) (n - halfT n) (ls.drop (halfT n))) := fun wx hx => ⟨(HR.out wx hx).take _ (by omega), (HR.out wx hx).drop _ (by omega)⟩
      have lA := rootT_length (HKL.out w' (Below.refl _ _)).1.2.1
      have lB := rootT_length (HKL.out w' (Below.refl _ _)).2.2.1
      have h2' : 2 ≤ ls.length := by rw [HLEN.out]; exact h2
      have HR1 : Hid (∀ wx, Env wx → DRow wx (some ⟨b, o, none⟩) (halfT n) (ls.take (halfT n)) → Calls Tryd.prog 25 #[.slice (some ⟨b, o, none⟩) (halfT n) c] wx fun e w' => e = .returned (digestV (rootT (ls.take (halfT n)))) ∧ Below wx.heap.size wx w') := fun wx hg hr => wgroot_any (halfT n) _ c _ wx hg hr (by omega) (by omega)
      have HR2 : Hid (∀ wx, Env wx → DRow wx (some ⟨b, o + halfT n * 32, none⟩) (n - halfT n) (ls.drop (halfT n)) → Calls Tryd.prog 25 #[.slice (some ⟨b, o + halfT n * 32, none⟩) (n - halfT n) (c - halfT n)] wx fun e w' => e = .returned (digestV (rootT (ls.drop (halfT n)))) ∧ Below wx.heap.size wx w') := fun wx hg hr => wgroot_any (n - halfT n) _ (c - halfT n) _ wx hg hr (by omega) (by omega)
      by_cases d : m ≤ halfT n
      · have HE : Hid (proofT ls m own = proofT (ls.take (halfT n)) m own ++ [rootT (ls.drop (halfT n))]) := by
          have := proofT_lo (ls := ls) (m := m) (own := own) h2' (by rw [HLEN.out]; exact cmn) (by rw [HLEN.out]; exact d)
          rw [HLEN.out] at this
          exact this
        have HPL : Hid ((proofT (ls.take (halfT n)) m own).length ≤ 100001) := by
          unfold Hid
          rw [(grow_ok (halfT n) (ls.take (halfT n)) m own (rootT ((ls.take (halfT n)).take m)) (by rw [List.length_take, HLEN.out]; omega) h1 d (fun _ => rfl)).2]
          have := plongT_le m (halfT n) own
          omega
        have HCP : Hid (∀ wx, Env wx → DRow wx (some ⟨b, o, none⟩) (halfT n) (ls.take (halfT n)) → Calls Tryd.prog 19 #[.slice (some ⟨b, o, none⟩) (halfT n) c, .int .i64 (m : Int), .bool own] wx fun e w' => (∃ v, e = .returned v ∧ OwnD w' wx.heap.size v (proofT (ls.take (halfT n)) m own)) ∧ Below wx.heap.size wx w') := fun wx hg hr => HI.out (halfT n) hk1 _ c m own _ wx hg hr (by omega) h1 d (by omega)
        generalize halfT n = k at *
        generalize rootT (ls.take k) = X at *
        generalize rootT (ls.drop k) = Y at *
        generalize proofT (ls.take k) m own = PP at *
        have g1 : (m : Int) ≤ (k : Int) := by omega
        clear HI h2'
        have k0 : (0 : Int) ≤ (k : Int) := by omega
        have k1 : (k : Int) ≤ (n : Int) := by omega
        have k2 : (k : Int) ≤ (c : Int) := by omega
        have n1 : (n : Int) ≤ (c : Int) := by omega
        go_wp2_with fail
        refine wp_region_noPanic ?_
        refine wp_region_held_drew (S := fun _ => True) (by kernel_rfl) True.intro (fun hHeld => ?_)
        try simp only [Act.put, List.setIfInBounds_toArray, List.set_cons_zero, List.set_cons_succ]
        have HBd : Hid (Below w'.heap.size w' w'.drew) := below_drewN w' 1
        generalize w'.drew = wd at *
        refine wpAnyH_take (i := 0) (v := ?_) (by simp only [List.getElem?_toArray, List.getElem?_cons_zero, List.getElem?_cons_succ]; rfl) (by kernel_rfl) (by kernel_rfl) (by kernel_rfl) (fun _ _ _ h => h) (Or.inl ⟨by rfl, ?_⟩) hHeld ?_
        rotate_left
        · intro w hSw
          go_simp
          try with_reducible rfl
        try simp only [Act.put, List.setIfInBounds_toArray, List.set_cons_zero, List.set_cons_succ]
        refine wpAnyH_take (i := 1) (v := ?_) (by simp only [List.getElem?_toArray, List.getElem?_cons_zero, List.getElem?_cons_succ]; rfl) (by kernel_rfl) (by kernel_rfl) (by kernel_rfl) (fun _ _ _ h => h) (Or.inl ⟨by rfl, ?_⟩) hHeld ?_
        rotate_left
        · intro w hSw
          go_simp
          try with_reducible rfl
        try simp only [Act.put, List.setIfInBounds_toArray, List.set_cons_zero, List.set_cons_succ]
        refine wpAnyH_take (i := 2) (v := .slice (some ⟨b, o, none⟩) k c) (by simp only [List.getElem?_toArray, List.getElem?_cons_zero, List.getElem?_cons_succ]; rfl) (by kernel_rfl) (by kernel_rfl) (by kernel_rfl) (fun _ _ _ h => h) (Or.inl ⟨by rfl, ?_⟩) hHeld ?_
        · intro w hSw
          go_simp
        try simp only [Act.put, List.setIfInBounds_toArray, List.set_cons_zero, List.set_cons_succ]
        refine wpAnyH_take (i := 3) (v := ?_) (by simp only [List.getElem?_toArray, List.getElem?_cons_zero, List.getElem?_cons_succ]; rfl) (by kernel_rfl) (by kernel_rfl) (by kernel_rfl) (fun _ _ _ h => h) (Or.inl ⟨by rfl, ?_⟩) hHeld ?_
        rotate_left
        · intro w hSw
          go_simp
          try with_reducible rfl
        try simp only [Act.put, List.setIfInBounds_toArray, List.set_cons_zero, List.set_cons_succ]
        refine wpAnyH_take (i := 4) (v := ?_) (by simp only [List.getElem?_toArray, List.getElem?_cons_zero, List.getElem?_cons_succ]; rfl) (by kernel_rfl) (by kernel_rfl) (by kernel_rfl) (fun _ _ _ h => h) (Or.inl ⟨by rfl, ?_⟩) hHeld ?_
        rotate_left
        · intro w hSw
          go_simp
          try with_reducible rfl
        try simp only [Act.put, List.setIfInBounds_toArray, List.set_cons_zero, List.set_cons_succ]
        refine wpAnyH_take (i := 6) (v := ?_) (by simp only [List.getElem?_toArray, List.getElem?_cons_zero, List.getElem?_cons_succ]; rfl) (by kernel_rfl) (by kernel_rfl) (by kernel_rfl) (fun _ _ _ h => h) (Or.inl ⟨by rfl, ?_⟩) hHeld ?_
        rotate_left
        · intro w hSw
          go_simp
          try with_reducible rfl
        try simp only [Act.put, List.setIfInBounds_toArray, List.set_cons_zero, List.set_cons_succ]
        refine wpAnyH_take (i := 7) (v := ?_) (by simp only [List.getElem?_toArray, List.getElem?_cons_zero, List.getElem?_cons_succ]; rfl) (by kernel_rfl) (by kernel_rfl) (by kernel_rfl) (fun _ _ _ h => h) (Or.inl ⟨by rfl, ?_⟩) hHeld ?_
        rotate_left
        · intro w hSw
          go_simp
          try with_reducible rfl
        try simp only [Act.put, List.setIfInBounds_toArray, List.set_cons_zero, List.set_cons_succ]
        refine wpAnyH_take (i := 8) (v := .slice (some ⟨b, o + k * 32, none⟩) (n - k) (c - k)) (by simp only [List.getElem?_toArray, List.getElem?_cons_zero, List.getElem?_cons_succ]; rfl) (by kernel_rfl) (by kernel_rfl) (by kernel_rfl) (fun _ _ _ h => h) (Or.inl ⟨by rfl, ?_⟩) hHeld ?_
        · intro w hSw
          go_simp
          omega
        try simp only [Act.put, List.setIfInBounds_toArray, List.set_cons_zero, List.set_cons_succ]
        refine wpAnyH_ready (rs := [5]) (by kernel_rfl) (by simp) ?_
        refine AllReadyH.cons (by simp only [List.getElem?_toArray, List.getElem?_cons_zero, List.getElem?_cons_succ]; rfl) (fun K hK => ?_) AllReadyH.nil
        rw [if_pos (by rfl)]
        go_simp
        refine (HCP.out wd (HGE.out _ HBd.out) (HKL.out _ HBd.out).1).mono ?_
        rintro e w3 ⟨⟨v3, rfl, ho3⟩, hb3⟩
        have HB3 : Hid (Below w'.heap.size w' w3) := HBd.out.trans (hb3.mono HBd.out.size)
        have HO3 : Hid (OwnD w3 w'.heap.size v3 PP) := ho3.lower HBd.out.size
        clear hb3 HBd HCP ho3
        go_wp2_with fail
        refine hK.out _ _ True.intro (fun hHeld => ?_)
        clear hK K
        try simp only [Act.put, List.setIfInBounds_toArray, List.set_cons_zero, List.set_cons_succ]
        refine wpAnyH_ready (rs := [9]) (by kernel_rfl) (by simp) ?_
        refine AllReadyH.cons (by simp only [List.getElem?_toArray, List.getElem?_cons_zero, List.getElem?_cons_succ]; rfl) (fun K hK => ?_) AllReadyH.nil
        rw [if_pos (by rfl)]
        go_simp
        refine (HR2.out w3 (HGE.out _ HB3.out) (HKL.out _ HB3.out).2).mono ?_
        rintro e w4 ⟨rfl, hb4⟩
        have HB4 : Hid (Below w'.heap.size w' w4) := HB3.out.trans (hb4.mono HB3.out.size)
        have HO4 : Hid (OwnD w4 w'.heap.size v3 PP) := OwnD.below HO3.out hb4
        clear hb4 HB3 HO3
        go_wp2_with fail
        refine hK.out _ _ True.intro (fun hHeld => ?_)
        clear hK K
        try simp only [Act.put, List.setIfInBounds_toArray, List.set_cons_zero, List.set_cons_succ]
        refine wpAnyH_ready (rs := [10]) (by kernel_rfl) (by simp) ?_
        refine AllReadyH.cons (by simp only [List.getElem?_toArray, List.getElem?_cons_zero, List.getElem?_cons_succ]; rfl) (fun K hK => ?_) AllReadyH.nil
        rw [if_pos (by rfl)]
        refine wp_buildD1 _ rfl Y lB rfl ?_
        have hs5 := HB4.out.size
        have HO5 : Hid (OwnD (w4.alloc (.cells (cellsB Y).toArray 24)) w'.heap.size v3 PP) := OwnD.alloc HO4.out _
        have HB5 : Hid (Below w'.heap.size w' (w4.alloc (.cells (cellsB Y).toArray 24))) := Below.alloc HB4.out hs5 _
        have HY5 : Hid (DRow (w4.alloc (.cells (cellsB Y).toArray 24)) (some ⟨w4.heap.size, 0, none⟩) 1 [Y]) := DRow.lit1 w4 Y _ lB
        refine hK.out _ _ True.intro (fun hHeld => ?_)
        clear HO4 HB4 hs5
        generalize w4.alloc (.cells (cellsB Y).toArray 24) = w5 at *
        clear hK K
        try simp only [Act.put, List.setIfInBounds_toArray, List.set_cons_zero, List.set_cons_succ]
        refine wpAnyH_ready (rs := [11]) (by kernel_rfl) (by simp) ?_
        refine AllReadyH.cons (by simp only [List.getElem?_toArray, List.getElem?_cons_zero, List.getElem?_cons_succ]; rfl) (fun K hK => ?_) AllReadyH.nil
        rw [if_pos (by rfl)]
        refine wp_appendD _ _ rfl w'.heap.size v3 PP rfl HO5.out ⟨w4.heap.size, 0, none⟩ 1 1 [Y] rfl HY5.out (by omega) (by have := HPL.out; omega) HB5.out.size ?_
        intro v7 w7 ho7 hg7 _
        have HB7 : Hid (Below w'.heap.size w' w7) := OwnD.grown HO5.out HB5.out hg7 (Nat.le_refl _) HB5.out.size
        have HO7 : Hid (OwnD w7 w'.heap.size v7 (PP ++ [Y])) := ho7
        refine hK.out _ _ True.intro (fun hHeld => ?_)
        clear HO5 HB5 HY5 hg7 ho7
        clear hK K
        try simp only [Act.put, List.setIfInBounds_toArray, List.set_cons_zero, List.set_cons_succ]
        refine wpAnyH_take (i := 12) (v := ?_) (by simp only [List.getElem?_toArray, List.getElem?_cons_zero, List.getElem?_cons_succ]; rfl) (by kernel_rfl) (by kernel_rfl) (by kernel_rfl) (fun _ _ _ h => h) (Or.inl ⟨by rfl, ?_⟩) hHeld ?_
        rotate_left
        · intro w hSw
          go_simp
          try with_reducible rfl
        try simp only [Act.put, List.setIfInBounds_toArray, List.set_cons_zero, List.set_cons_succ]
        refine wpAnyH_done (by kernel_rfl) (NoPanic.normal ?_) _
        clear hHeld
        go_wp2_with fail
        go_ret
        exact ⟨⟨_, rfl, by rw [HE.out]; exact HO7.out⟩, HB7.out⟩
      · have HE : Hid (proofT ls m own = proofT (ls.drop (halfT n)) (m - halfT n) false ++ [rootT (ls.take (halfT n))]) := by
          have := proofT_hi (ls := ls) (m := m) (own := own) h2' (by rw [HLEN.out]; exact cmn) (by rw [HLEN.out]; exact d)
          rw [HLEN.out] at this
          exact this
        have HPL : Hid ((proofT (ls.drop (halfT n)) (m - halfT n) false).length ≤ 100001) := by
          unfold Hid
          rw [(grow_ok (n - halfT n) (ls.drop (halfT n)) (m - halfT n) false (rootT ((ls.drop (halfT n)).take (m - halfT n))) (by rw [List.length_drop, HLEN.out]) (by omega) (by omega) (fun _ => rfl)).2]
          have := plongT_le (m - halfT n) (n - halfT n) false
          omega
        have HCP : Hid (∀ wx, Env wx → DRow wx (some ⟨b, o + halfT n * 32, none⟩) (n - halfT n) (ls.drop (halfT n)) → Calls Tryd.prog 19 #[.slice (some ⟨b, o + halfT n * 32, none⟩) (n - halfT n) (c - halfT n), .int .i64 ((m - halfT n : Nat) : Int), .bool false] wx fun e w' => (∃ v, e = .returned v ∧ OwnD w' wx.heap.size v (proofT (ls.drop (halfT n)) (m - halfT n) false)) ∧ Below wx.heap.size wx w') := fun wx hg hr => HI.out (n - halfT n) (by omega) _ (c - halfT n) (m - halfT n) false _ wx hg hr (by omega) (by omega) (by omega) (by omega)
        generalize halfT n = k at *
        generalize rootT (ls.take k) = X at *
        generalize rootT (ls.drop k) = Y at *
        have s1 : (m : Int) - (k : Int) = ((m - k : Nat) : Int) := by omega
        have b1 : m - k ≤ 100000 := by omega
        generalize proofT (ls.drop k) (m - k) false = PP at *
        have g1 : ¬ (m : Int) ≤ (k : Int) := by omega
        generalize m - k = m' at *
        have wi : IntKind.i64.wrap (m' : Int) = (m' : Int) := wrapT m' (by omega)
        clear HI h2'
        have k0 : (0 : Int) ≤ (k : Int) := by omega
        have k1 : (k : Int) ≤ (n : Int) := by omega
        have k2 : (k : Int) ≤ (c : Int) := by omega
        have n1 : (n : Int) ≤ (c : Int) := by omega
        go_wp2_with fail
        refine wp_region_noPanic ?_
        refine wp_region_held_drew (S := fun _ => True) (by kernel_rfl) True.intro (fun hHeld => ?_)
        try simp only [Act.put, List.setIfInBounds_toArray, List.set_cons_zero, List.set_cons_succ]
        have HBd : Hid (Below w'.heap.size w' w'.drew) := below_drewN w' 1
        generalize w'.drew = wd at *
        refine wpAnyH_take (i := 0) (v := ?_) (by simp only [List.getElem?_toArray, List.getElem?_cons_zero, List.getElem?_cons_succ]; rfl) (by kernel_rfl) (by kernel_rfl) (by kernel_rfl) (fun _ _ _ h => h) (Or.inl ⟨by rfl, ?_⟩) hHeld ?_
        rotate_left
        · intro w hSw
          go_simp
          try with_reducible rfl
        try simp only [Act.put, List.setIfInBounds_toArray, List.set_cons_zero, List.set_cons_succ]
        refine wpAnyH_take (i := 1) (v := ?_) (by simp only [List.getElem?_toArray, List.getElem?_cons_zero, List.getElem?_cons_succ]; rfl) (by kernel_rfl) (by kernel_rfl) (by kernel_rfl) (fun _ _ _ h => h) (Or.inl ⟨by rfl, ?_⟩) hHeld ?_
        rotate_left
        · intro w hSw
          go_simp
          try with_reducible rfl
        try simp only [Act.put, List.setIfInBounds_toArray, List.set_cons_zero, List.set_cons_succ]
        refine wpAnyH_take (i := 2) (v := .slice (some ⟨b, o + k * 32, none⟩) (n - k) (c - k)) (by simp only [List.getElem?_toArray, List.getElem?_cons_zero, List.getElem?_cons_succ]; rfl) (by kernel_rfl) (by kernel_rfl) (by kernel_rfl) (fun _ _ _ h => h) (Or.inl ⟨by rfl, ?_⟩) hHeld ?_
        · intro w hSw
          go_simp
          omega
        try simp only [Act.put, List.setIfInBounds_toArray, List.set_cons_zero, List.set_cons_succ]
        refine wpAnyH_take (i := 3) (v := ?_) (by simp only [List.getElem?_toArray, List.getElem?_cons_zero, List.getElem?_cons_succ]; rfl) (by kernel_rfl) (by kernel_rfl) (by kernel_rfl) (fun _ _ _ h => h) (Or.inl ⟨by rfl, ?_⟩) hHeld ?_
        rotate_left
        · intro w hSw
          go_simp
          try with_reducible rfl
        try simp only [Act.put, List.setIfInBounds_toArray, List.set_cons_zero, List.set_cons_succ]
        refine wpAnyH_take (i := 4) (v := ?_) (by simp only [List.getElem?_toArray, List.getElem?_cons_zero, List.getElem?_cons_succ]; rfl) (by kernel_rfl) (by kernel_rfl) (by kernel_rfl) (fun _ _ _ h => h) (Or.inl ⟨by rfl, ?_⟩) hHeld ?_
        rotate_left
        · intro w hSw
          go_simp
          try with_reducible rfl
        try simp only [Act.put, List.setIfInBounds_toArray, List.set_cons_zero, List.set_cons_succ]
        refine wpAnyH_take (i := 5) (v := .int .i64 (m' : Int)) (by simp only [List.getElem?_toArray, List.getElem?_cons_zero, List.getElem?_cons_succ]; rfl) (by kernel_rfl) (by kernel_rfl) (by kernel_rfl) (fun _ _ _ h => h) (Or.inl ⟨by rfl, ?_⟩) hHeld ?_
        · intro w hSw
          go_simp
        try simp only [Act.put, List.setIfInBounds_toArray, List.set_cons_zero, List.set_cons_succ]
        refine wpAnyH_take (i := 7) (v := ?_) (by simp only [List.getElem?_toArray, List.getElem?_cons_zero, List.getElem?_cons_succ]; rfl) (by kernel_rfl) (by kernel_rfl) (by kernel_rfl) (fun _ _ _ h => h) (Or.inl ⟨by rfl, ?_⟩) hHeld ?_
        rotate_left
        · intro w hSw
          go_simp
          try with_reducible rfl
        try simp only [Act.put, List.setIfInBounds_toArray, List.set_cons_zero, List.set_cons_succ]
        refine wpAnyH_take (i := 8) (v := ?_) (by simp only [List.getElem?_toArray, List.getElem?_cons_zero, List.getElem?_cons_succ]; rfl) (by kernel_rfl) (by kernel_rfl) (by kernel_rfl) (fun _ _ _ h => h) (Or.inl ⟨by rfl, ?_⟩) hHeld ?_
        rotate_left
        · intro w hSw
          go_simp
          try with_reducible rfl
        try simp only [Act.put, List.setIfInBounds_toArray, List.set_cons_zero, List.set_cons_succ]
        refine wpAnyH_take (i := 9) (v := .slice (some ⟨b, o, none⟩) k c) (by simp only [List.getElem?_toArray, List.getElem?_cons_zero, List.getElem?_cons_succ]; rfl) (by kernel_rfl) (by kernel_rfl) (by kernel_rfl) (fun _ _ _ h => h) (Or.inl ⟨by rfl, ?_⟩) hHeld ?_
        · intro w hSw
          go_simp
        try simp only [Act.put, List.setIfInBounds_toArray, List.set_cons_zero, List.set_cons_succ]
        refine wpAnyH_ready (rs := [6]) (by kernel_rfl) (by simp) ?_
        refine AllReadyH.cons (by simp only [List.getElem?_toArray, List.getElem?_cons_zero, List.getElem?_cons_succ]; rfl) (fun K hK => ?_) AllReadyH.nil
        rw [if_pos (by rfl)]
        go_simp
        refine (HCP.out wd (HGE.out _ HBd.out) (HKL.out _ HBd.out).2).mono ?_
        rintro e w3 ⟨⟨v3, rfl, ho3⟩, hb3⟩
        have HB3 : Hid (Below w'.heap.size w' w3) := HBd.out.trans (hb3.mono HBd.out.size)
        have HO3 : Hid (OwnD w3 w'.heap.size v3 PP) := ho3.lower HBd.out.size
        clear hb3 HBd HCP ho3
        go_wp2_with fail
        refine hK.out _ _ True.intro (fun hHeld => ?_)
        clear hK K
        try simp only [Act.put, List.setIfInBounds_toArray, List.set_cons_zero, List.set_cons_succ]
        refine wpAnyH_ready (rs := [10]) (by kernel_rfl) (by simp) ?_
        refine AllReadyH.cons (by simp only [List.getElem?_toArray, List.getElem?_cons_zero, List.getElem?_cons_succ]; rfl) (fun K hK => ?_) AllReadyH.nil
        rw [if_pos (by rfl)]
        go_simp
        refine (HR1.out w3 (HGE.out _ HB3.out) (HKL.out _ HB3.out).1).mono ?_
        rintro e w4 ⟨rfl, hb4⟩
        have HB4 : Hid (Below w'.heap.size w' w4) := HB3.out.trans (hb4.mono HB3.out.size)
        have HO4 : Hid (OwnD w4 w'.heap.size v3 PP) := OwnD.below HO3.out hb4
        clear hb4 HB3 HO3
        go_wp2_with fail
        refine hK.out _ _ True.intro (fun hHeld => ?_)
        clear hK K
        try simp only [Act.put, List.setIfInBounds_toArray, List.set_cons_zero, List.set_cons_succ]
        refine wpAnyH_ready (rs := [11]) (by kernel_rfl) (by simp) ?_
        refine AllReadyH.cons (by simp only [List.getElem?_toArray, List.getElem?_cons_zero, List.getElem?_cons_succ]; rfl) (fun K hK => ?_) AllReadyH.nil
        rw [if_pos (by rfl)]
        refine wp_buildD1 _ rfl X lA rfl ?_
        have hs5 := HB4.out.size
        have HO5 : Hid (OwnD (w4.alloc (.cells (cellsB X).toArray 24)) w'.heap.size v3 PP) := OwnD.alloc HO4.out _
        have HB5 : Hid (Below w'.heap.size w' (w4.alloc (.cells (cellsB X).toArray 24))) := Below.alloc HB4.out hs5 _
        have HY5 : Hid (DRow (w4.alloc (.cells (cellsB X).toArray 24)) (some ⟨w4.heap.size, 0, none⟩) 1 [X]) := DRow.lit1 w4 X _ lA
        refine hK.out _ _ True.intro (fun hHeld => ?_)
        clear HO4 HB4 hs5
        generalize w4.alloc (.cells (cellsB X).toArray 24) = w5 at *
        clear hK K
        try simp only [Act.put, List.setIfInBounds_toArray, List.set_cons_zero, List.set_cons_succ]
        refine wpAnyH_ready (rs := [12]) (by kernel_rfl) (by simp) ?_
        refine AllReadyH.cons (by simp only [List.getElem?_toArray, List.getElem?_cons_zero, List.getElem?_cons_succ]; rfl) (fun K hK => ?_) AllReadyH.nil
        rw [if_pos (by rfl)]
        refine wp_appendD _ _ rfl w'.heap.size v3 PP rfl HO5.out ⟨w4.heap.size, 0, none⟩ 1 1 [X] rfl HY5.out (by omega) (by have := HPL.out; omega) HB5.out.size ?_
        intro v7 w7 ho7 hg7 _
        have HB7 : Hid (Below w'.heap.size w' w7) := OwnD.grown HO5.out HB5.out hg7 (Nat.le_refl _) HB5.out.size
        have HO7 : Hid (OwnD w7 w'.heap.size v7 (PP ++ [X])) := ho7
        refine hK.out _ _ True.intro (fun hHeld => ?_)
        clear HO5 HB5 HY5 hg7 ho7
        clear hK K
        try simp only [Act.put, List.setIfInBounds_toArray, List.set_cons_zero, List.set_cons_succ]
        refine wpAnyH_take (i := 13) (v := ?_) (by simp only [List.getElem?_toArray, List.getElem?_cons_zero, List.getElem?_cons_succ]; rfl) (by kernel_rfl) (by kernel_rfl) (by kernel_rfl) (fun _ _ _ h => h) (Or.inl ⟨by rfl, ?_⟩) hHeld ?_
        rotate_left
        · intro w hSw
          go_simp
          try with_reducible rfl
        try simp only [Act.put, List.setIfInBounds_toArray, List.set_cons_zero, List.set_cons_succ]
        refine wpAnyH_done (by kernel_rfl) (NoPanic.normal ?_) _
        clear hHeld
        go_wp2_with fail
        go_ret
        exact ⟨⟨_, rfl, by rw [HE.out]; exact HO7.out⟩, HB7.out⟩
    · obtain rfl : m = n := by omega
      cases own with
      | true =>
        have HE : Hid (proofT ls m true = []) := proofT_own (by rw [HLEN.out]; exact Nat.le_refl _)
        go_enter Tryd.func19, Tryd.ntmps19
        go_wp2_with fail
        go_ret
        exact ⟨⟨_, rfl, by rw [HE.out]; exact OwnD.nil _ _⟩, H0.out⟩
      | false =>
        have HE : Hid (proofT ls m false = [rootT ls]) := proofT_all (by rw [HLEN.out]; exact Nat.le_refl _)
        have lR := rootT_length (HR.out _ H0.out).2.1
        go_enter Tryd.func19, Tryd.ntmps19
        go_wp2_with fail
        refine (wgroot_any m a c ls w (HGE.out _ H0.out) (HR.out _ H0.out) hc (by omega)).mono ?_
        rintro e w3 ⟨rfl, hb3⟩
        have HB3 : Hid (Below w.heap.size w w3) := hb3
        clear hb3
        generalize rootT ls = D at *
        go_wp2_with (refine wpList_build1 (by rfl) (.tmp 16) 22 (by rfl) 24 (.agg zeros32) iD D lR (by rfl) Tryd.underlying22 hiD hzD0 (by rfl) hzD1 ?_)
        go_ret
        exact ⟨⟨_, rfl, by rw [HE.out]; exact OwnD.lit1 w3 _ D HB3.out.size lR⟩, Below.alloc HB3.out HB3.out.size _⟩
set_option maxRecDepth 100000 in
set_option maxHeartbeats 1000000 in
theorem wgrow_proof (a : Option Addr) (n c m : Nat) (ls : List (List UInt8)) (w : World) (G : Env w) (R : DRow w a n ls) (hc : n ≤ c) (hn : n ≤ 256) (h1 : 1 ≤ m) (hm : m ≤ n) :
    Calls Tryd.prog 7 #[.slice a n c, .int .i64 (m : Int)] w fun e w' => (∃ a' c', e = .returned (.tuple #[.slice a' (plongT m n true) c', .nilIface]) ∧ plongT m n true ≤ c' ∧ DRow w' a' (plongT m n true) (proofT ls m true)) ∧ Below w.heap.size w w' := by
  have HG : Hid (Env w ∧ DRow w a n ls) := ⟨G, R⟩
  have HL : Hid ((proofT ls m true).length = plongT m n true) := (grow_ok n ls m true (rootT (ls.take m)) R.1 h1 hm (fun _ => rfl)).2
  clear G R
  have g1 : ¬ (256 : Int) < (n : Int) := by omega
  have g2 : ¬ (m : Int) < 1 := by omega
  have g3 : ¬ (n : Int) < (m : Int) := by omega
  go_enter Tryd.func7, Tryd.ntmps7
  go_wp2_with fail
  refine (wproofof_any n a c m true ls w HG.out.1 HG.out.2 hc h1 hm hn).mono ?_
  rintro e w3 ⟨⟨v3, rfl, ho3⟩, hb3⟩
  obtain ⟨a3, c3, rfl, R3, hc3⟩ := OwnD.form ho3
  rw [HL.out] at R3 hc3 ⊢
  have HR3 : Hid (DRow w3 a3 (plongT m n true) (proofT ls m true) ∧ Below w.heap.size w w3) := ⟨R3, hb3⟩
  clear R3 hb3 ho3 HG HL
  generalize hY : plongT m n true = y at *
  have HY : Hid (plongT m n true = y) := hY
  clear hY
  go_wp2_with fail
  go_ret2
  rw [HY.out]
  exact ⟨⟨_, _, rfl, hc3, HR3.out.1⟩, HR3.out.2⟩
set_option maxRecDepth 100000 in
set_option maxHeartbeats 1000000 in
theorem wgrow_prooffull (a : Option Addr) (n c : Nat) (m : Int) (ls : List (List UInt8)) (w : World) (G : Env w) (R : DRow w a n ls) (hc : n ≤ c) (hn : 256 < n) (hn2 : 32 * n ≤ 140737488351232) (m1 : -9223372036854775808 ≤ m) (m2 : m ≤ 9223372036854775807) :
    Calls Tryd.prog 7 #[.slice a n c, .int .i64 m] w fun e w' => (∃ a' c', e = .returned (.tuple #[.slice a' 0 c', .iface 25 (.int .i64 4)])) ∧ Below w.heap.size w w' := by
  clear G R
  have g1 : (256 : Int) < (n : Int) := by omega
  go_enter Tryd.func7, Tryd.ntmps7
  go_wp2_with fail
  go_ret2
  exact ⟨⟨_, _, rfl⟩, Below.refl _ _⟩
set_option maxRecDepth 100000 in
set_option maxHeartbeats 1000000 in
theorem wgrow_proofout (a : Option Addr) (n c : Nat) (m : Int) (ls : List (List UInt8)) (w : World) (G : Env w) (R : DRow w a n ls) (hc : n ≤ c) (hn : n ≤ 256) (hm : m < 1 ∨ (n : Int) < m) (m1 : -9223372036854775808 ≤ m) (m2 : m ≤ 9223372036854775807) :
    Calls Tryd.prog 7 #[.slice a n c, .int .i64 m] w fun e w' => (∃ a' c', e = .returned (.tuple #[.slice a' 0 c', .iface 25 (.int .i64 2)])) ∧ Below w.heap.size w w' := by
  clear G R
  have g1 : ¬ (256 : Int) < (n : Int) := by omega
  by_cases g2 : m < 1
  · clear hm
    go_enter Tryd.func7, Tryd.ntmps7
    go_wp2_with fail
    go_ret2
    exact ⟨⟨_, _, rfl⟩, Below.refl _ _⟩
  · have g3 : (n : Int) < m := by omega
    clear hm
    go_enter Tryd.func7, Tryd.ntmps7
    go_wp2_with fail
    go_ret2
    exact ⟨⟨_, _, rfl⟩, Below.refl _ _⟩
end Go.Proofs.YtdldkhhcicjbmabDoor
/- The contracts of grow.Fold and grow.Check; package grow's contracts, all together. -/
namespace Go.Proofs.YtdldkhhcicjbmabDoor
open Go.RowKit
set_option linter.unusedVariables false
set_option linter.unusedSimpArgs false

/-- An answer of three: two digests that lie in variables, and a value. -/
theorem run_results_three {P : Program} {fn : Func} {p q r : Tmp} {ty : TypeId} (h : fn.results = #[.cell p ty, .cell q ty, .tmp r]) (tmps : Array Value) (w : World) (b g : Nat) (hp : tmps.getD p undef = .pointer (some ⟨b, 0, none⟩)) (hq : tmps.getD q undef = .pointer (some ⟨g, 0, none⟩)) (v : Value) (hv : tmps.getD r undef = v)
    (cs ds : List Value) (hc : w.rangeAt b 0 cs) (hd' : w.rangeAt g 0 ds) (d : TypeDesc) (hu : P.underlying ty = some d) (hd : d.isRow = true) (hi : (P.info? ty).map (·.size) = some cs.length) (hj : (P.info? ty).map (·.size) = some ds.length) :
    (results fn tmps).run P w = .ok (.tuple #[.agg cs.toArray, .agg ds.toArray, v]) w := by
  have hp' : tmps[p]?.getD undef = .pointer (some ⟨b, 0, none⟩) := by simpa using hp
  have hq' : tmps[q]?.getD undef = .pointer (some ⟨g, 0, none⟩) := by simpa using hq
  have hv' : tmps[r]?.getD undef = v := by simpa using hv
  simp only [results, h]
  simp [Sem.run_bind, Result.andThen, hp', hq', hv', asAddr, run_loadVar_mid w b 0 ty cs d hc hu hd hi, run_loadVar_mid w g 0 ty ds d hd' hu hd hj]
set_option maxRecDepth 100000 in
set_option maxHeartbeats 1000000 in
theorem wgrow_foldin (m n p c : Nat) (old : List UInt8) (a : Option Addr) (pf : List (List UInt8)) (w : World) (G : Env w) (ho : old.length = 32) (R : DRow w a p pf) (hc : p ≤ c) (hp2 : 32 * p ≤ 140737488351232) (h1 : 1 ≤ m) (hm : m ≤ n) (hn : n ≤ 256) :
    Calls Tryd.prog 12 #[.int .i64 (m : Int), .int .i64 (n : Int), digestV old, .slice a p c] w fun e w' => ((p = plongT m n true ∧ e = .returned (.tuple #[digestV (rootsT m n true old pf).1, digestV (rootsT m n true old pf).2, .nilIface])) ∨ (p ≠ plongT m n true ∧ e = .returned (.tuple #[digestV zD, digestV zD, .iface 25 (.int .i64 3)]))) ∧ Below w.heap.size w w' := by
  obtain ⟨w1, hw1⟩ : ∃ w1, (w.alloc (.cells (cellsB old).toArray 24)).alloc (.cells (cellsB zD).toArray 24) = w1 := ⟨_, rfl⟩
  obtain ⟨w2, hw2⟩ : ∃ w2, w1.alloc (.cells (cellsB zD).toArray 24) = w2 := ⟨_, rfl⟩
  have hs1 : (w.alloc (.cells (cellsB old).toArray 24)).heap.size = w.heap.size + 1 := by simp
  have HS1 : Hid (w1.heap.size = w.heap.size + 1 + 1) := by unfold Hid; rw [← hw1]; simp
  have HS2 : Hid (w2.heap.size = w.heap.size + 1 + 1 + 1) := by unfold Hid; rw [← hw2, ← hw1]; simp
  obtain ⟨g1, hg1⟩ : ∃ g1, w1.heap.size = g1 := ⟨_, rfl⟩
  have HG1 : Hid (g1 = w.heap.size + 1 + 1) := by rw [← hg1]; exact HS1.out
  have hB2 : Below w.heap.size w w2 := by rw [← hw2, ← hw1]; exact (((Below.refl _ _).alloc (Nat.le_refl _) _).alloc (by simp) _).alloc (by simp; omega) _
  have hB12 : Below w1.heap.size w1 w2 := by rw [← hw2]; exact (Below.refl _ _).alloc (Nat.le_refl _) _
  have hL2 : DAt w2 w.heap.size 0 old := DAt.below (show DAt w1 w.heap.size 0 old by rw [← hw1]; exact World.rangeAt_alloc (box_dat w old _) _) hB12 (by have := HS1.out; omega)
  have hT2 : w2.there (w.heap.size + 1) 0 32 := there_below (show w1.there (w.heap.size + 1) 0 32 by rw [← hw1]; exact alloc_thereAt _ _ _ 32 _ hs1 zD_size.symm) hB12 (by have := HS1.out; omega)
  have hU2 : w2.there g1 0 32 := by rw [← hw2]; exact alloc_thereAt _ _ _ 32 _ hg1 zD_size.symm
  have HX2 : Hid (w2.rangeAt w.heap.size 0 (cellsB old)) := hL2
  have HKT : Hid (∀ wx, Below w2.heap.size w2 wx → wx.there (w.heap.size + 1) 0 32 ∧ wx.there g1 0 32 ∧ Below w.heap.size w wx) := fun wx hx => by
    have s := HS2.out
    have g := HG1.out
    exact ⟨there_below hT2 hx (by omega), there_below hU2 hx (by omega), hB2.trans (hx.mono (by omega))⟩
  have HC : Hid (Calls Tryd.prog 22 #[.int .i64 (m : Int), .int .i64 (n : Int), digestV old, .slice a p c] w2 fun e w' => (∃ (X Y : List UInt8) (v : Value), X.length = 32 ∧ Y.length = 32 ∧ e = .returned (.tuple #[digestV (X ++ Y), v]) ∧ ((p = plongT m n true ∧ X = (rootsT m n true old pf).1 ∧ Y = (rootsT m n true old pf).2 ∧ v = .nilIface) ∨ (p ≠ plongT m n true ∧ X = zD ∧ Y = zD ∧ v = .iface 25 (.int .i64 3)))) ∧ Below w2.heap.size w2 w') := by
    refine (wapart_any m n p c old a pf w2 (G.below hB2) ho (R.below hB2) hc hp2 h1 hm hn).mono ?_
    rintro e w' ⟨⟨hp, rfl⟩ | ⟨hp, rfl⟩, hb⟩
    · have l := rootsT_len n m true old pf ho R.2.1 (by rw [R.1, hp]; exact Nat.le_refl _)
      exact ⟨⟨_, _, _, l.1, l.2, rfl, .inl ⟨hp, rfl, rfl, rfl⟩⟩, hb⟩
    · exact ⟨⟨zD, zD, _, rfl, rfl, rfl, .inr ⟨hp, rfl, rfl, rfl⟩⟩, hb⟩
  clear hB2 hB12 hL2 hT2 hU2 G R
  have g1' : ¬ (n : Int) < 1 := by omega
  have g2 : ¬ (256 : Int) < (n : Int) := by omega
  have g3 : ¬ (m : Int) < 1 := by omega
  have g4 : ¬ (n : Int) < (m : Int) := by omega
  go_enter Tryd.func12, Tryd.ntmps12
  go_wp2_with (first
    | (refine wpList_allocE (by rfl) 24 (by rfl) (cellsB zD).toArray Tryd.zeroDg (w.heap.size + 1) hs1 w1 hw1 ?_)
    | (refine wpList_allocE (by rfl) 24 (by rfl) (cellsB zD).toArray Tryd.zeroDg g1 hg1 w2 hw2 ?_)
    | (refine wpList_load_mid (by rfl) 24 (.tmp 6) (by rfl) w.heap.size 0 (by rfl) (cellsB old) _ HX2.out Tryd.underlying24 (by rfl) (by rw [cellsB_length, ho]; exact Tryd.sizeDg) ?_))
  refine HC.out.mono ?_
  rintro e w3 ⟨⟨X, Y, v, lX, lY, rfl, hv⟩, hb3⟩
  have HV : Hid ((p = plongT m n true ∧ X = (rootsT m n true old pf).1 ∧ Y = (rootsT m n true old pf).2 ∧ v = .nilIface) ∨ (p ≠ plongT m n true ∧ X = zD ∧ Y = zD ∧ v = .iface 25 (.int .i64 3))) := hv
  have HB3 : Hid (Below w2.heap.size w2 w3) := hb3
  have l2 := two_len lX lY
  clear hv hb3 hw1 hw2 hg1 hs1 HC HX2
  obtain ⟨g3', hg3⟩ : ∃ g3', w3.heap.size = g3' := ⟨_, rfl⟩
  obtain ⟨w4, hw4⟩ : ∃ w4, w3.alloc (.cells (cellsB zR).toArray 50) = w4 := ⟨_, rfl⟩
  have HT4 : Hid (w4.there g3' 0 64) := by rw [← hw4]; exact alloc_thereAt _ _ _ 64 _ hg3 zR_size.symm
  have HN3 : Hid (w2.heap.size ≤ g3') := by rw [← hg3]; exact HB3.out.size
  have hB4 : Below w3.heap.size w3 w4 := by rw [← hw4]; exact (Below.refl _ _).alloc (Nat.le_refl _) _
  have HB5 : Hid (Below w2.heap.size w2 (w4.setCells g3' 0 (cellsB (X ++ Y)))) := below_setCells g3' HN3.out _ _ _ (HB3.out.trans (hB4.mono HB3.out.size))
  have HX5 : Hid ((w4.setCells g3' 0 (cellsB (X ++ Y))).rangeAt g3' 0 (cellsB (X ++ Y))) := World.rangeAt_setCells_same _ _ _ _ (by rw [cellsB_length, l2]; exact HT4.out)
  clear hB4
  go_wp2_with (first
    | (refine wpList_allocE (by rfl) 50 (by rfl) (cellsB zR).toArray Tryd.zeroRt g3' hg3 w4 hw4 ?_)
    | (refine wpList_store_mid (by rfl) 50 (.tmp 11) (.tmp 37) (by rfl) g3' 0 (cellsB (X ++ Y)).toArray (by rfl) (by rfl) (by rw [cellsB_size, l2]; exact HT4.out) (by rw [cellsB_size, l2]; exact Tryd.sizeRt) (all_oneCell_toArray (cellsB_one _)) ?_))
  generalize w4.setCells g3' 0 (cellsB (X ++ Y)) = w5 at *
  have r := range_two HX5.out lX
  have HR5 : Hid (∀ wx, Below w5.heap.size w5 wx → wx.rangeAt g3' 0 (cellsB X) ∧ wx.rangeAt g3' 32 (cellsB Y)) := fun wx hx => by
    have hb : g3' < w5.heap.size := cell_block ((show DAt w5 g3' 0 X from r.1).cell 0 (by omega))
    exact ⟨range_below r.1 hx hb, range_below (by simpa using r.2) hx hb⟩
  clear hw4 hg3 HT4 HX5 HB3 r
  refine wp_region_noPanic ?_
  refine wp_region_held_drew (S := fun wx => wx.rangeAt g3' 0 (cellsB X) ∧ wx.rangeAt g3' 32 (cellsB Y)) (by kernel_rfl) (HR5.out _ (below_drewN w5 1)) (fun hHeld => ?_)
  try simp only [Act.put, List.setIfInBounds_toArray, List.set_cons_zero, List.set_cons_succ]
  have HBd : Hid (Below w2.heap.size w2 w5.drew) := HB5.out.trans ((below_drewN w5 1).mono HB5.out.size)
  have HRd : Hid (w5.drew.rangeAt g3' 0 (cellsB X) ∧ w5.drew.rangeAt g3' 32 (cellsB Y)) := HR5.out _ (below_drewN w5 1)
  generalize w5.drew = wd at *
  have HTd : Hid (wd.there (w.heap.size + 1) 0 32 ∧ wd.there g1 0 32 ∧ Below w.heap.size w wd) := HKT.out _ HBd.out
  refine wpAnyH_take (i := 0) (v := .pointer (some ⟨g3', 0, none⟩)) (by simp only [List.getElem?_toArray, List.getElem?_cons_zero, List.getElem?_cons_succ]; rfl) (by kernel_rfl) (by kernel_rfl) (by kernel_rfl) (fun _ _ _ h => h) (Or.inl ⟨by rfl, ?_⟩) hHeld ?_
  · intro w hSw
    obtain ⟨hSw0, hSw1⟩ := hSw
    go_simp
  try simp only [Act.put, List.setIfInBounds_toArray, List.set_cons_zero, List.set_cons_succ]
  refine wpAnyH_take (i := 1) (v := .agg (cellsB X).toArray) (by simp only [List.getElem?_toArray, List.getElem?_cons_zero, List.getElem?_cons_succ]; rfl) (by kernel_rfl) (by kernel_rfl) (by kernel_rfl) (fun _ _ _ h => h)
    (yieldsIf_load_mid (by rfl) _ _ rfl _ _ rfl _ _ (fun w hw => hw.1) Tryd.underlying24 rfl (by rw [cellsB_length, lX]; exact Tryd.sizeDg)) hHeld ?_
  try simp only [Act.put, List.setIfInBounds_toArray, List.set_cons_zero, List.set_cons_succ]
  refine wpAnyH_take (i := 2) (v := .pointer (some ⟨g3', 32, none⟩)) (by simp only [List.getElem?_toArray, List.getElem?_cons_zero, List.getElem?_cons_succ]; rfl) (by kernel_rfl) (by kernel_rfl) (by kernel_rfl) (fun _ _ _ h => h) (Or.inl ⟨by rfl, ?_⟩) hHeld ?_
  · intro w hSw
    obtain ⟨hSw0, hSw1⟩ := hSw
    go_simp
  try simp only [Act.put, List.setIfInBounds_toArray, List.set_cons_zero, List.set_cons_succ]
  refine wpAnyH_take (i := 3) (v := .agg (cellsB Y).toArray) (by simp only [List.getElem?_toArray, List.getElem?_cons_zero, List.getElem?_cons_succ]; rfl) (by kernel_rfl) (by kernel_rfl) (by kernel_rfl) (fun _ _ _ h => h)
    (yieldsIf_load_mid (by rfl) _ _ rfl _ _ rfl _ _ (fun w hw => hw.2) Tryd.underlying24 rfl (by rw [cellsB_length, lY]; exact Tryd.sizeDg)) hHeld ?_
  try simp only [Act.put, List.setIfInBounds_toArray, List.set_cons_zero, List.set_cons_succ]
  refine wpAnyH_take (i := 4) (v := ?_) (by simp only [List.getElem?_toArray, List.getElem?_cons_zero, List.getElem?_cons_succ]; rfl) (by kernel_rfl) (by kernel_rfl) (by kernel_rfl) (fun _ _ _ h => h) (Or.inl ⟨by rfl, ?_⟩) hHeld ?_
  rotate_left
  · intro w hSw
    obtain ⟨hSw0, hSw1⟩ := hSw
    go_simp
    try with_reducible rfl
  try simp only [Act.put, List.setIfInBounds_toArray, List.set_cons_zero, List.set_cons_succ]
  refine wpAnyH_ready (rs := [5]) (by kernel_rfl) (by simp) ?_
  refine AllReadyH.cons (by simp only [List.getElem?_toArray, List.getElem?_cons_zero, List.getElem?_cons_succ]; rfl) (fun K hK => ?_) AllReadyH.nil
  rw [if_pos (by rfl)]
  refine wp_store_mid _ _ _ rfl (w.heap.size + 1) 0 (cellsB X).toArray rfl rfl (by rw [cellsB_size, lX]; exact HTd.out.1) (by rw [cellsB_size, lX]; exact Tryd.sizeDg) (all_oneCell_toArray (cellsB_one _)) ?_
  have HRe : Hid ((wd.setCells (w.heap.size + 1) 0 (cellsB X)).rangeAt g3' 0 (cellsB X) ∧ (wd.setCells (w.heap.size + 1) 0 (cellsB X)).rangeAt g3' 32 (cellsB Y)) := by
    have := HN3.out
    have := HS2.out
    exact ⟨World.rangeAt_setCells_apart HRd.out.1 _ _ _ (.inl (by omega)), World.rangeAt_setCells_apart HRd.out.2 _ _ _ (.inl (by omega))⟩
  have HXe : Hid ((wd.setCells (w.heap.size + 1) 0 (cellsB X)).rangeAt (w.heap.size + 1) 0 (cellsB X)) := dat_stored HTd.out.1 lX
  have HTe : Hid ((wd.setCells (w.heap.size + 1) 0 (cellsB X)).there g1 0 32 ∧ Below w.heap.size w (wd.setCells (w.heap.size + 1) 0 (cellsB X))) := ⟨World.there_setCells HTd.out.2.1 _ _ _, below_setCells _ (by omega) _ _ _ HTd.out.2.2⟩
  refine hK.out _ _ HRe.out (fun hHeld => ?_)
  generalize wd.setCells (w.heap.size + 1) 0 (cellsB X) = we at *
  clear HRd HTd
  clear hK K
  try simp only [Act.put, List.setIfInBounds_toArray, List.set_cons_zero, List.set_cons_succ]
  refine wpAnyH_ready (rs := [6]) (by kernel_rfl) (by simp) ?_
  refine AllReadyH.cons (by simp only [List.getElem?_toArray, List.getElem?_cons_zero, List.getElem?_cons_succ]; rfl) (fun K hK => ?_) AllReadyH.nil
  rw [if_pos (by rfl)]
  refine wp_store_mid _ _ _ rfl g1 0 (cellsB Y).toArray rfl rfl (by rw [cellsB_size, lY]; exact HTe.out.1) (by rw [cellsB_size, lY]; exact Tryd.sizeDg) (all_oneCell_toArray (cellsB_one _)) ?_
  have HRf : Hid ((we.setCells g1 0 (cellsB Y)).rangeAt g3' 0 (cellsB X) ∧ (we.setCells g1 0 (cellsB Y)).rangeAt g3' 32 (cellsB Y)) := by
    have := HN3.out
    have := HS2.out
    have := HG1.out
    exact ⟨World.rangeAt_setCells_apart HRe.out.1 _ _ _ (.inl (by omega)), World.rangeAt_setCells_apart HRe.out.2 _ _ _ (.inl (by omega))⟩
  have HXf : Hid ((we.setCells g1 0 (cellsB Y)).rangeAt (w.heap.size + 1) 0 (cellsB X)) := World.rangeAt_setCells_apart HXe.out _ _ _ (.inl (by have := HG1.out; omega))
  have HYf : Hid ((we.setCells g1 0 (cellsB Y)).rangeAt g1 0 (cellsB Y)) := dat_stored HTe.out.1 lY
  have HBf : Hid (Below w.heap.size w (we.setCells g1 0 (cellsB Y))) := below_setCells _ (by have := HG1.out; omega) _ _ _ HTe.out.2
  refine hK.out _ _ HRf.out (fun hHeld => ?_)
  generalize we.setCells g1 0 (cellsB Y) = wf at *
  clear HRe HXe HTe
  clear hK K
  try simp only [Act.put, List.setIfInBounds_toArray, List.set_cons_zero, List.set_cons_succ]
  refine wpAnyH_take (i := 7) (v := ?_) (by simp only [List.getElem?_toArray, List.getElem?_cons_zero, List.getElem?_cons_succ]; rfl) (by kernel_rfl) (by kernel_rfl) (by kernel_rfl) (fun _ _ _ h => h) (Or.inl ⟨by rfl, ?_⟩) hHeld ?_
  rotate_left
  · intro w hSw
    obtain ⟨hSw0, hSw1⟩ := hSw
    go_simp
    try with_reducible rfl
  try simp only [Act.put, List.setIfInBounds_toArray, List.set_cons_zero, List.set_cons_succ]
  refine wpAnyH_done (by kernel_rfl) (NoPanic.normal ?_) _
  clear hHeld
  go_wp2_with fail
  refine bodyPost_ret (v := .tuple #[digestV X, digestV Y, v]) (run_results_three Tryd.results12 _ _ (w.heap.size + 1) g1 (by rfl) (by rfl) _ (by rfl) (cellsB X) (cellsB Y) HXf.out HYf.out _ Tryd.underlying24 (by rfl) (by rw [cellsB_length, lX]; exact Tryd.sizeDg) (by rw [cellsB_length, lY]; exact Tryd.sizeDg)) rfl ⟨?_, HBf.out⟩
  rcases HV.out with ⟨h, rfl, rfl, rfl⟩ | ⟨h, rfl, rfl, rfl⟩
  · exact .inl ⟨h, rfl⟩
  · exact .inr ⟨h, rfl⟩
theorem wgrow_fold (m n p c : Nat) (old : List UInt8) (a : Option Addr) (pf : List (List UInt8)) (w : World) (G : Env w) (ho : old.length = 32) (R : DRow w a p pf) (hp : p = plongT m n true) (hc : p ≤ c) (h1 : 1 ≤ m) (hm : m ≤ n) (hn : n ≤ 256) :
    Calls Tryd.prog 12 #[.int .i64 (m : Int), .int .i64 (n : Int), digestV old, .slice a p c] w fun e w' => e = .returned (.tuple #[digestV (rootsT m n true old pf).1, digestV (rootsT m n true old pf).2, .nilIface]) ∧ Below w.heap.size w w' := by
  refine (wgrow_foldin m n p c old a pf w G ho R hc (by have := plongT_256 m n true hn; omega) h1 hm hn).mono ?_
  rintro e w' ⟨⟨h, rfl⟩ | ⟨h, rfl⟩, hb⟩
  · exact ⟨rfl, hb⟩
  · exact absurd hp h
theorem wgrow_foldlen (m n p c : Nat) (old : List UInt8) (a : Option Addr) (pf : List (List UInt8)) (w : World) (G : Env w) (ho : old.length = 32) (R : DRow w a p pf) (hc : p ≤ c) (hp2 : 32 * p ≤ 140737488351232) (h1 : 1 ≤ m) (hm : m ≤ n) (hn : n ≤ 256) (hp : p ≠ plongT m n true) :
    Calls Tryd.prog 12 #[.int .i64 (m : Int), .int .i64 (n : Int), digestV old, .slice a p c] w fun e w' => e = .returned (.tuple #[digestV zD, digestV zD, .iface 25 (.int .i64 3)]) ∧ Below w.heap.size w w' := by
  refine (wgrow_foldin m n p c old a pf w G ho R hc hp2 h1 hm hn).mono ?_
  rintro e w' ⟨⟨h, rfl⟩ | ⟨h, rfl⟩, hb⟩
  · exact absurd h hp
  · exact ⟨rfl, hb⟩
set_option maxRecDepth 100000 in
set_option maxHeartbeats 1000000 in
theorem wgrow_foldout (m n : Int) (p c : Nat) (old : List UInt8) (a : Option Addr) (pf : List (List UInt8)) (w : World) (G : Env w) (ho : old.length = 32) (R : DRow w a p pf) (hc : p ≤ c) (hp2 : 32 * p ≤ 140737488351232) (h : n < 1 ∨ 256 < n ∨ m < 1 ∨ n < m) (m1 : -9223372036854775808 ≤ m) (m2 : m ≤ 9223372036854775807) (n1 : -9223372036854775808 ≤ n) (n2 : n ≤ 9223372036854775807) :
    Calls Tryd.prog 12 #[.int .i64 m, .int .i64 n, digestV old, .slice a p c] w fun e w' => e = .returned (.tuple #[digestV zD, digestV zD, .iface 25 (.int .i64 2)]) ∧ Below w.heap.size w w' := by
  obtain ⟨w1, hw1⟩ : ∃ w1, (w.alloc (.cells (cellsB old).toArray 24)).alloc (.cells (cellsB zD).toArray 24) = w1 := ⟨_, rfl⟩
  obtain ⟨w2, hw2⟩ : ∃ w2, w1.alloc (.cells (cellsB zD).toArray 24) = w2 := ⟨_, rfl⟩
  have hs1 : (w.alloc (.cells (cellsB old).toArray 24)).heap.size = w.heap.size + 1 := by simp
  have HS1 : Hid (w1.heap.size = w.heap.size + 1 + 1) := by unfold Hid; rw [← hw1]; simp
  have HS2 : Hid (w2.heap.size = w.heap.size + 1 + 1 + 1) := by unfold Hid; rw [← hw2, ← hw1]; simp
  obtain ⟨g1, hg1⟩ : ∃ g1, w1.heap.size = g1 := ⟨_, rfl⟩
  have HG1 : Hid (g1 = w.heap.size + 1 + 1) := by rw [← hg1]; exact HS1.out
  have hB2 : Below w.heap.size w w2 := by rw [← hw2, ← hw1]; exact (((Below.refl _ _).alloc (Nat.le_refl _) _).alloc (by simp) _).alloc (by simp; omega) _
  have hB12 : Below w1.heap.size w1 w2 := by rw [← hw2]; exact (Below.refl _ _).alloc (Nat.le_refl _) _
  have hL2 : DAt w2 w.heap.size 0 old := DAt.below (show DAt w1 w.heap.size 0 old by rw [← hw1]; exact World.rangeAt_alloc (box_dat w old _) _) hB12 (by have := HS1.out; omega)
  have hT2 : w2.there (w.heap.size + 1) 0 32 := there_below (show w1.there (w.heap.size + 1) 0 32 by rw [← hw1]; exact alloc_thereAt _ _ _ 32 _ hs1 zD_size.symm) hB12 (by have := HS1.out; omega)
  have hU2 : w2.there g1 0 32 := by rw [← hw2]; exact alloc_thereAt _ _ _ 32 _ hg1 zD_size.symm
  clear G R
  have lZ : zD.length = 32 := rfl
  have hbu : Tryd.prog.built 24 [] = some (cellsB zD).toArray := by kernel_rfl
  obtain ⟨Z, hZ⟩ : ∃ Z, zD = Z := ⟨_, rfl⟩
  have HZ : Hid (zD = Z) := hZ
  rw [hZ] at lZ hbu
  have HBU : Hid (Tryd.prog.built 24 [] = some (cellsB Z).toArray) := hbu
  clear hZ hbu
  have HT2 : Hid (w2.there (w.heap.size + 1) 0 32) := hT2
  have HU3 : Hid ((w2.setCells (w.heap.size + 1) 0 (cellsB Z)).there g1 0 32) := World.there_setCells hU2 _ _ _
  have HX4 : Hid (((w2.setCells (w.heap.size + 1) 0 (cellsB Z)).setCells g1 0 (cellsB Z)).rangeAt (w.heap.size + 1) 0 (cellsB Z)) := World.rangeAt_setCells_apart (dat_stored hT2 lZ) _ _ _ (.inl (by have := HG1.out; omega))
  have HY4 : Hid (((w2.setCells (w.heap.size + 1) 0 (cellsB Z)).setCells g1 0 (cellsB Z)).rangeAt g1 0 (cellsB Z)) := dat_stored HU3.out lZ
  have HB4 : Hid (Below w.heap.size w ((w2.setCells (w.heap.size + 1) 0 (cellsB Z)).setCells g1 0 (cellsB Z))) := below_setCells g1 (by have := HG1.out; omega) _ _ _ (below_setCells (w.heap.size + 1) (by omega) _ _ _ hB2)
  clear hB2 hB12 hL2 hT2 hU2
  go_enter Tryd.func12, Tryd.ntmps12
  rcases (show n < 1 ∨ (¬ n < 1 ∧ 256 < n) ∨ (¬ n < 1 ∧ ¬ 256 < n ∧ m < 1) ∨ (¬ n < 1 ∧ ¬ 256 < n ∧ ¬ m < 1 ∧ n < m) by omega) with k1 | ⟨k1, k2⟩ | ⟨k1, k2, k3⟩ | ⟨k1, k2, k3, k4⟩
  · clear h
    go_wp2_with (first
      | (refine wpList_allocE (by rfl) 24 (by rfl) (cellsB zD).toArray Tryd.zeroDg (w.heap.size + 1) hs1 w1 hw1 ?_)
      | (refine wpList_allocE (by rfl) 24 (by rfl) (cellsB zD).toArray Tryd.zeroDg g1 hg1 w2 hw2 ?_)
      | (refine wpList_buildC (by rfl) 24 #[] (by rfl) (cellsB Z).toArray (by simpa using HBU.out) ?_)
      | (refine wpList_store_mid (by rfl) 24 (.tmp 8) (.tmp 28) (by rfl) (w.heap.size + 1) 0 (cellsB Z).toArray (by rfl) (by rfl) (by rw [cellsB_size, lZ]; exact HT2.out) (by rw [cellsB_size, lZ]; exact Tryd.sizeDg) (all_oneCell_toArray (cellsB_one _)) ?_)
      | (refine wpList_store_mid (by rfl) 24 (.tmp 9) (.tmp 29) (by rfl) g1 0 (cellsB Z).toArray (by rfl) (by rfl) (by rw [cellsB_size, lZ]; exact HU3.out) (by rw [cellsB_size, lZ]; exact Tryd.sizeDg) (all_oneCell_toArray (cellsB_one _)) ?_))
    refine bodyPost_ret (v := .tuple #[digestV Z, digestV Z, .iface 25 (.int .i64 2)]) (run_results_three Tryd.results12 _ _ (w.heap.size + 1) g1 (by rfl) (by rfl) _ (by rfl) (cellsB Z) (cellsB Z) HX4.out HY4.out _ Tryd.underlying24 (by rfl) (by rw [cellsB_length, lZ]; exact Tryd.sizeDg) (by rw [cellsB_length, lZ]; exact Tryd.sizeDg)) rfl ⟨by rw [HZ.out], HB4.out⟩
  · clear h
    go_wp2_with (first
      | (refine wpList_allocE (by rfl) 24 (by rfl) (cellsB zD).toArray Tryd.zeroDg (w.heap.size + 1) hs1 w1 hw1 ?_)
      | (refine wpList_allocE (by rfl) 24 (by rfl) (cellsB zD).toArray Tryd.zeroDg g1 hg1 w2 hw2 ?_)
      | (refine wpList_buildC (by rfl) 24 #[] (by rfl) (cellsB Z).toArray (by simpa using HBU.out) ?_)
      | (refine wpList_store_mid (by rfl) 24 (.tmp 8) (.tmp 28) (by rfl) (w.heap.size + 1) 0 (cellsB Z).toArray (by rfl) (by rfl) (by rw [cellsB_size, lZ]; exact HT2.out) (by rw [cellsB_size, lZ]; exact Tryd.sizeDg) (all_oneCell_toArray (cellsB_one _)) ?_)
      | (refine wpList_store_mid (by rfl) 24 (.tmp 9) (.tmp 29) (by rfl) g1 0 (cellsB Z).toArray (by rfl) (by rfl) (by rw [cellsB_size, lZ]; exact HU3.out) (by rw [cellsB_size, lZ]; exact Tryd.sizeDg) (all_oneCell_toArray (cellsB_one _)) ?_))
    refine bodyPost_ret (v := .tuple #[digestV Z, digestV Z, .iface 25 (.int .i64 2)]) (run_results_three Tryd.results12 _ _ (w.heap.size + 1) g1 (by rfl) (by rfl) _ (by rfl) (cellsB Z) (cellsB Z) HX4.out HY4.out _ Tryd.underlying24 (by rfl) (by rw [cellsB_length, lZ]; exact Tryd.sizeDg) (by rw [cellsB_length, lZ]; exact Tryd.sizeDg)) rfl ⟨by rw [HZ.out], HB4.out⟩
  · clear h
    go_wp2_with (first
      | (refine wpList_allocE (by rfl) 24 (by rfl) (cellsB zD).toArray Tryd.zeroDg (w.heap.size + 1) hs1 w1 hw1 ?_)
      | (refine wpList_allocE (by rfl) 24 (by rfl) (cellsB zD).toArray Tryd.zeroDg g1 hg1 w2 hw2 ?_)
      | (refine wpList_buildC (by rfl) 24 #[] (by rfl) (cellsB Z).toArray (by simpa using HBU.out) ?_)
      | (refine wpList_store_mid (by rfl) 24 (.tmp 8) (.tmp 28) (by rfl) (w.heap.size + 1) 0 (cellsB Z).toArray (by rfl) (by rfl) (by rw [cellsB_size, lZ]; exact HT2.out) (by rw [cellsB_size, lZ]; exact Tryd.sizeDg) (all_oneCell_toArray (cellsB_one _)) ?_)
      | (refine wpList_store_mid (by rfl) 24 (.tmp 9) (.tmp 29) (by rfl) g1 0 (cellsB Z).toArray (by rfl) (by rfl) (by rw [cellsB_size, lZ]; exact HU3.out) (by rw [cellsB_size, lZ]; exact Tryd.sizeDg) (all_oneCell_toArray (cellsB_one _)) ?_))
    refine bodyPost_ret (v := .tuple #[digestV Z, digestV Z, .iface 25 (.int .i64 2)]) (run_results_three Tryd.results12 _ _ (w.heap.size + 1) g1 (by rfl) (by rfl) _ (by rfl) (cellsB Z) (cellsB Z) HX4.out HY4.out _ Tryd.underlying24 (by rfl) (by rw [cellsB_length, lZ]; exact Tryd.sizeDg) (by rw [cellsB_length, lZ]; exact Tryd.sizeDg)) rfl ⟨by rw [HZ.out], HB4.out⟩
  · clear h
    go_wp2_with (first
      | (refine wpList_allocE (by rfl) 24 (by rfl) (cellsB zD).toArray Tryd.zeroDg (w.heap.size + 1) hs1 w1 hw1 ?_)
      | (refine wpList_allocE (by rfl) 24 (by rfl) (cellsB zD).toArray Tryd.zeroDg g1 hg1 w2 hw2 ?_)
      | (refine wpList_buildC (by rfl) 24 #[] (by rfl) (cellsB Z).toArray (by simpa using HBU.out) ?_)
      | (refine wpList_store_mid (by rfl) 24 (.tmp 8) (.tmp 28) (by rfl) (w.heap.size + 1) 0 (cellsB Z).toArray (by rfl) (by rfl) (by rw [cellsB_size, lZ]; exact HT2.out) (by rw [cellsB_size, lZ]; exact Tryd.sizeDg) (all_oneCell_toArray (cellsB_one _)) ?_)
      | (refine wpList_store_mid (by rfl) 24 (.tmp 9) (.tmp 29) (by rfl) g1 0 (cellsB Z).toArray (by rfl) (by rfl) (by rw [cellsB_size, lZ]; exact HU3.out) (by rw [cellsB_size, lZ]; exact Tryd.sizeDg) (all_oneCell_toArray (cellsB_one _)) ?_))
    refine bodyPost_ret (v := .tuple #[digestV Z, digestV Z, .iface 25 (.int .i64 2)]) (run_results_three Tryd.results12 _ _ (w.heap.size + 1) g1 (by rfl) (by rfl) _ (by rfl) (cellsB Z) (cellsB Z) HX4.out HY4.out _ Tryd.underlying24 (by rfl) (by rw [cellsB_length, lZ]; exact Tryd.sizeDg) (by rw [cellsB_length, lZ]; exact Tryd.sizeDg)) rfl ⟨by rw [HZ.out], HB4.out⟩
theorem wgrow_foldall (m n : Int) (p c : Nat) (old : List UInt8) (a : Option Addr) (pf : List (List UInt8)) (w : World) (G : Env w) (ho : old.length = 32) (R : DRow w a p pf) (hc : p ≤ c) (hp2 : 32 * p ≤ 140737488351232) (m1 : -9223372036854775808 ≤ m) (m2 : m ≤ 9223372036854775807) (n1 : -9223372036854775808 ≤ n) (n2 : n ≤ 9223372036854775807) :
    Calls Tryd.prog 12 #[.int .i64 m, .int .i64 n, digestV old, .slice a p c] w fun e w' => (∃ X Y : List UInt8, X.length = 32 ∧ Y.length = 32 ∧ ((e = .returned (.tuple #[digestV X, digestV Y, .nilIface]) ∧ (1 ≤ m ∧ m ≤ n ∧ n ≤ 256 ∧ pf.length = plongT m.toNat n.toNat true) ∧ rootsT m.toNat n.toNat true old pf = (X, Y)) ∨ (∃ k : Int, e = .returned (.tuple #[digestV X, digestV Y, .iface 25 (.int .i64 k)]) ∧ ¬ (1 ≤ m ∧ m ≤ n ∧ n ≤ 256 ∧ pf.length = plongT m.toNat n.toNat true)))) ∧ Below w.heap.size w w' := by
  by_cases h : 1 ≤ m ∧ m ≤ n ∧ n ≤ 256
  · obtain ⟨h1, h2, h3⟩ := h
    obtain ⟨m', rfl⟩ : ∃ m' : Nat, m = m' := ⟨m.toNat, by omega⟩
    obtain ⟨n', rfl⟩ : ∃ n' : Nat, n = n' := ⟨n.toNat, by omega⟩
    refine (wgrow_foldin m' n' p c old a pf w G ho R hc hp2 (by omega) (by omega) (by omega)).mono ?_
    rw [Int.toNat_natCast, Int.toNat_natCast, R.1]
    rintro e w' ⟨⟨hp, rfl⟩ | ⟨hp, rfl⟩, hb⟩
    · have l := rootsT_len n' m' true old pf ho R.2.1 (by rw [R.1, hp]; exact Nat.le_refl _)
      exact ⟨⟨_, _, l.1, l.2, .inl ⟨rfl, ⟨h1, h2, h3, hp⟩, rfl⟩⟩, hb⟩
    · exact ⟨⟨zD, zD, rfl, rfl, .inr ⟨3, rfl, fun q => hp q.2.2.2⟩⟩, hb⟩
  · refine (wgrow_foldout m n p c old a pf w G ho R hc hp2 (by omega) m1 m2 n1 n2).mono ?_
    rintro e w' ⟨rfl, hb⟩
    exact ⟨⟨zD, zD, rfl, rfl, .inr ⟨2, rfl, fun q => h ⟨q.1, q.2.1, q.2.2.1⟩⟩⟩, hb⟩
set_option maxRecDepth 100000 in
set_option maxHeartbeats 1000000 in
theorem wgrow_check (m n : Int) (old now : List UInt8) (p c : Nat) (a : Option Addr) (pf : List (List UInt8)) (w : World) (G : Env w) (ho : old.length = 32) (hnow : now.length = 32) (R : DRow w a p pf) (hc : p ≤ c) (hp2 : 32 * p ≤ 140737488351232) (m1 : -9223372036854775808 ≤ m) (m2 : m ≤ 9223372036854775807) (n1 : -9223372036854775808 ≤ n) (n2 : n ≤ 9223372036854775807) :
    Calls Tryd.prog 13 #[.int .i64 m, .int .i64 n, digestV old, digestV now, .slice a p c] w fun e w' => e = .returned (.bool (checkB m n old now pf)) ∧ Below w.heap.size w w' := by
  obtain ⟨w2, hw2⟩ : ∃ w2, (w.alloc (.cells (cellsB old).toArray 24)).alloc (.cells (cellsB now).toArray 24) = w2 := ⟨_, rfl⟩
  have hs1 : (w.alloc (.cells (cellsB old).toArray 24)).heap.size = w.heap.size + 1 := by simp
  have HS2 : Hid (w2.heap.size = w.heap.size + 1 + 1) := by unfold Hid; rw [← hw2]; simp
  have HB2 : Hid (Below w.heap.size w w2) := by rw [← hw2]; exact ((Below.refl _ _).alloc (Nat.le_refl _) _).alloc (by simp) _
  have HX2 : Hid (w2.rangeAt w.heap.size 0 (cellsB old)) := by rw [← hw2]; exact World.rangeAt_alloc (box_dat w old _) _
  have HY2 : Hid (w2.rangeAt (w.heap.size + 1) 0 (cellsB now)) := by rw [← hw2]; exact box_rangeAt _ _ _ _ hs1
  have HC : Hid (Calls Tryd.prog 12 #[.int .i64 m, .int .i64 n, digestV old, .slice a p c] w2 fun e w' => (∃ X Y : List UInt8, X.length = 32 ∧ Y.length = 32 ∧ ((e = .returned (.tuple #[digestV X, digestV Y, .nilIface]) ∧ (1 ≤ m ∧ m ≤ n ∧ n ≤ 256 ∧ pf.length = plongT m.toNat n.toNat true) ∧ rootsT m.toNat n.toNat true old pf = (X, Y)) ∨ (∃ k : Int, e = .returned (.tuple #[digestV X, digestV Y, .iface 25 (.int .i64 k)]) ∧ ¬ (1 ≤ m ∧ m ≤ n ∧ n ≤ 256 ∧ pf.length = plongT m.toNat n.toNat true)))) ∧ Below w2.heap.size w2 w') := wgrow_foldall m n p c old a pf w2 (G.below HB2.out) ho (R.below HB2.out) hc hp2 m1 m2 n1 n2
  clear G R
  go_enter Tryd.func13, Tryd.ntmps13
  go_wp2_with (refine wpList_load_mid (by rfl) 24 (.tmp 7) (by rfl) w.heap.size 0 (by rfl) (cellsB old) _ HX2.out Tryd.underlying24 (by rfl) (by rw [cellsB_length, ho]; exact Tryd.sizeDg) ?_)
  refine HC.out.mono ?_
  rintro e w3 ⟨⟨X, Y, lX, lY, hv⟩, hb3⟩
  have HB3 : Hid (Below w2.heap.size w2 w3) := hb3
  clear hw2 HC hb3
  obtain ⟨g3, hg3⟩ : ∃ g3, w3.heap.size = g3 := ⟨_, rfl⟩
  obtain ⟨w4, hw4⟩ : ∃ w4, w3.alloc (.cells (cellsB zD).toArray 24) = w4 := ⟨_, rfl⟩
  obtain ⟨w5, hw5⟩ : ∃ w5, w4.alloc (.cells (cellsB zD).toArray 24) = w5 := ⟨_, rfl⟩
  obtain ⟨g4, hg4⟩ : ∃ g4, w4.heap.size = g4 := ⟨_, rfl⟩
  have HN4 : Hid (w2.heap.size ≤ g3 ∧ g4 = g3 + 1) := ⟨by rw [← hg3]; exact HB3.out.size, by rw [← hg4, ← hw4, ← hg3]; simp⟩
  have hB45 : Below w4.heap.size w4 w5 := by rw [← hw5]; exact (Below.refl _ _).alloc (Nat.le_refl _) _
  have hB35 : Below w3.heap.size w3 w5 := by rw [← hw5, ← hw4]; exact ((Below.refl _ _).alloc (Nat.le_refl _) _).alloc (by simp) _
  have HT5 : Hid (w5.there g3 0 32) := there_below (show w4.there g3 0 32 by rw [← hw4]; exact alloc_thereAt _ _ _ 32 _ hg3 zD_size.symm) hB45 (by have := HN4.out; omega)
  have HU6 : Hid ((w5.setCells g3 0 (cellsB X)).there g4 0 32) := World.there_setCells (show w5.there g4 0 32 by rw [← hw5]; exact alloc_thereAt _ _ _ 32 _ hg4 zD_size.symm) _ _ _
  have hB7 : Below w2.heap.size w2 ((w5.setCells g3 0 (cellsB X)).setCells g4 0 (cellsB Y)) := below_setCells g4 (by have := HN4.out; omega) _ _ _ (below_setCells g3 HN4.out.1 _ _ _ (HB3.out.trans (hB35.mono HB3.out.size)))
  have HX7 : Hid (((w5.setCells g3 0 (cellsB X)).setCells g4 0 (cellsB Y)).rangeAt g3 0 (cellsB X)) := World.rangeAt_setCells_apart (dat_stored HT5.out lX) _ _ _ (.inl (by have := HN4.out; omega))
  have HY7 : Hid (((w5.setCells g3 0 (cellsB X)).setCells g4 0 (cellsB Y)).rangeAt g4 0 (cellsB Y)) := dat_stored HU6.out lY
  have HO7 : Hid (((w5.setCells g3 0 (cellsB X)).setCells g4 0 (cellsB Y)).rangeAt w.heap.size 0 (cellsB old)) := range_below HX2.out hB7 (by have := HS2.out; omega)
  have HP7 : Hid (((w5.setCells g3 0 (cellsB X)).setCells g4 0 (cellsB Y)).rangeAt (w.heap.size + 1) 0 (cellsB now)) := range_below HY2.out hB7 (by have := HS2.out; omega)
  have HB7 : Hid (Below w.heap.size w ((w5.setCells g3 0 (cellsB X)).setCells g4 0 (cellsB Y))) := HB2.out.trans (hB7.mono (by have := HS2.out; omega))
  clear hB45 hB35 hB7 HX2 HY2 HB3 HB2
  rcases hv with ⟨rfl, hok, hr⟩ | ⟨k, rfl, hno⟩
  · have HOK : Hid ((1 ≤ m ∧ m ≤ n ∧ n ≤ 256 ∧ pf.length = plongT m.toNat n.toNat true) ∧ rootsT m.toNat n.toNat true old pf = (X, Y)) := ⟨hok, hr⟩
    clear hok hr
    by_cases hX : X = old
    · have hdX : decide (X = old) = true := decide_eq_true hX
      by_cases hY : Y = now
      · have hdY : decide (Y = now) = true := decide_eq_true hY
        have HR : Hid (checkB m n old now pf = true) := decide_eq_true (by
          obtain ⟨⟨k1, k2, k3, k4⟩, k5⟩ := HOK.out
          exact ⟨k1, k2, k3, k4, by rw [k5, hX, hY]⟩)
        have HDX : Hid (decide (X = old) = true) := hdX
        have HDY : Hid (decide (Y = now) = true) := hdY
        clear hX hY hdX hdY
        go_wp2_with (first
          | (refine wpList_allocE (by rfl) 24 (by rfl) (cellsB zD).toArray Tryd.zeroDg g3 hg3 w4 hw4 ?_)
          | (refine wpList_allocE (by rfl) 24 (by rfl) (cellsB zD).toArray Tryd.zeroDg g4 hg4 w5 hw5 ?_)
          | (refine wpList_store_mid (by rfl) 24 (.tmp 11) (.tmp 20) (by rfl) g3 0 (cellsB X).toArray (by rfl) (by rfl) (by rw [cellsB_size, lX]; exact HT5.out) (by rw [cellsB_size, lX]; exact Tryd.sizeDg) (all_oneCell_toArray (cellsB_one _)) ?_)
          | (refine wpList_store_mid (by rfl) 24 (.tmp 12) (.tmp 21) (by rfl) g4 0 (cellsB Y).toArray (by rfl) (by rfl) (by rw [cellsB_size, lY]; exact HU6.out) (by rw [cellsB_size, lY]; exact Tryd.sizeDg) (all_oneCell_toArray (cellsB_one _)) ?_)
          | (refine wpList_load_midG (by rfl) 24 (.tmp 11) (by rfl) g3 0 (by rfl) (cellsB X) _ HX7.out Tryd.underlying24 (by rfl) (by rw [cellsB_length, lX]; exact Tryd.sizeDg) ?_)
          | (refine wpList_load_midG (by rfl) 24 (.tmp 7) (by rfl) w.heap.size 0 (by rfl) (cellsB old) _ HO7.out Tryd.underlying24 (by rfl) (by rw [cellsB_length, ho]; exact Tryd.sizeDg) ?_)
          | (refine wpList_eqD (.tmp 26) (.tmp 27) (by rfl) (by rfl) X old lX ho (by rfl) (by rfl) true HDX.out ?_)
          | (refine wpList_load_midG (by rfl) 24 (.tmp 12) (by rfl) g4 0 (by rfl) (cellsB Y) _ HY7.out Tryd.underlying24 (by rfl) (by rw [cellsB_length, lY]; exact Tryd.sizeDg) ?_)
          | (refine wpList_load_midG (by rfl) 24 (.tmp 8) (by rfl) (w.heap.size + 1) 0 (by rfl) (cellsB now) _ HP7.out Tryd.underlying24 (by rfl) (by rw [cellsB_length, hnow]; exact Tryd.sizeDg) ?_)
          | (refine wpList_eqD (.tmp 31) (.tmp 32) (by rfl) (by rfl) Y now lY hnow (by rfl) (by rfl) true HDY.out ?_))
        go_ret
        rw [HR.out]
        exact ⟨rfl, HB7.out⟩
      · have HDX : Hid (decide (X = old) = true) := hdX
        have HDY : Hid (decide (Y = now) = false) := decide_eq_false hY
        have HR : Hid (checkB m n old now pf = false) := decide_eq_false (fun q => hY (by
          have := q.2.2.2.2
          rw [HOK.out.2] at this
          exact congrArg Prod.snd this))
        clear hX hY hdX
        go_wp2_with (first
          | (refine wpList_allocE (by rfl) 24 (by rfl) (cellsB zD).toArray Tryd.zeroDg g3 hg3 w4 hw4 ?_)
          | (refine wpList_allocE (by rfl) 24 (by rfl) (cellsB zD).toArray Tryd.zeroDg g4 hg4 w5 hw5 ?_)
          | (refine wpList_store_mid (by rfl) 24 (.tmp 11) (.tmp 20) (by rfl) g3 0 (cellsB X).toArray (by rfl) (by rfl) (by rw [cellsB_size, lX]; exact HT5.out) (by rw [cellsB_size, lX]; exact Tryd.sizeDg) (all_oneCell_toArray (cellsB_one _)) ?_)
          | (refine wpList_store_mid (by rfl) 24 (.tmp 12) (.tmp 21) (by rfl) g4 0 (cellsB Y).toArray (by rfl) (by rfl) (by rw [cellsB_size, lY]; exact HU6.out) (by rw [cellsB_size, lY]; exact Tryd.sizeDg) (all_oneCell_toArray (cellsB_one _)) ?_)
          | (refine wpList_load_midG (by rfl) 24 (.tmp 11) (by rfl) g3 0 (by rfl) (cellsB X) _ HX7.out Tryd.underlying24 (by rfl) (by rw [cellsB_length, lX]; exact Tryd.sizeDg) ?_)
          | (refine wpList_load_midG (by rfl) 24 (.tmp 7) (by rfl) w.heap.size 0 (by rfl) (cellsB old) _ HO7.out Tryd.underlying24 (by rfl) (by rw [cellsB_length, ho]; exact Tryd.sizeDg) ?_)
          | (refine wpList_eqD (.tmp 26) (.tmp 27) (by rfl) (by rfl) X old lX ho (by rfl) (by rfl) true HDX.out ?_)
          | (refine wpList_load_midG (by rfl) 24 (.tmp 12) (by rfl) g4 0 (by rfl) (cellsB Y) _ HY7.out Tryd.underlying24 (by rfl) (by rw [cellsB_length, lY]; exact Tryd.sizeDg) ?_)
          | (refine wpList_load_midG (by rfl) 24 (.tmp 8) (by rfl) (w.heap.size + 1) 0 (by rfl) (cellsB now) _ HP7.out Tryd.underlying24 (by rfl) (by rw [cellsB_length, hnow]; exact Tryd.sizeDg) ?_)
          | (refine wpList_eqD (.tmp 31) (.tmp 32) (by rfl) (by rfl) Y now lY hnow (by rfl) (by rfl) false HDY.out ?_))
        go_ret
        rw [HR.out]
        exact ⟨rfl, HB7.out⟩
    · have HDX : Hid (decide (X = old) = false) := decide_eq_false hX
      have HR : Hid (checkB m n old now pf = false) := decide_eq_false (fun q => hX (by
        have := q.2.2.2.2
        rw [HOK.out.2] at this
        exact congrArg Prod.fst this))
      clear hX
      go_wp2_with (first
        | (refine wpList_allocE (by rfl) 24 (by rfl) (cellsB zD).toArray Tryd.zeroDg g3 hg3 w4 hw4 ?_)
        | (refine wpList_allocE (by rfl) 24 (by rfl) (cellsB zD).toArray Tryd.zeroDg g4 hg4 w5 hw5 ?_)
        | (refine wpList_store_mid (by rfl) 24 (.tmp 11) (.tmp 20) (by rfl) g3 0 (cellsB X).toArray (by rfl) (by rfl) (by rw [cellsB_size, lX]; exact HT5.out) (by rw [cellsB_size, lX]; exact Tryd.sizeDg) (all_oneCell_toArray (cellsB_one _)) ?_)
        | (refine wpList_store_mid (by rfl) 24 (.tmp 12) (.tmp 21) (by rfl) g4 0 (cellsB Y).toArray (by rfl) (by rfl) (by rw [cellsB_size, lY]; exact HU6.out) (by rw [cellsB_size, lY]; exact Tryd.sizeDg) (all_oneCell_toArray (cellsB_one _)) ?_)
        | (refine wpList_load_midG (by rfl) 24 (.tmp 11) (by rfl) g3 0 (by rfl) (cellsB X) _ HX7.out Tryd.underlying24 (by rfl) (by rw [cellsB_length, lX]; exact Tryd.sizeDg) ?_)
        | (refine wpList_load_midG (by rfl) 24 (.tmp 7) (by rfl) w.heap.size 0 (by rfl) (cellsB old) _ HO7.out Tryd.underlying24 (by rfl) (by rw [cellsB_length, ho]; exact Tryd.sizeDg) ?_)
        | (refine wpList_eqD (.tmp 26) (.tmp 27) (by rfl) (by rfl) X old lX ho (by rfl) (by rfl) false HDX.out ?_))
      go_ret
      rw [HR.out]
      exact ⟨rfl, HB7.out⟩
  · have HR : Hid (checkB m n old now pf = false) := decide_eq_false (fun q => hno ⟨q.1, q.2.1, q.2.2.1, q.2.2.2.1⟩)
    clear hno
    go_wp2_with (first
      | (refine wpList_allocE (by rfl) 24 (by rfl) (cellsB zD).toArray Tryd.zeroDg g3 hg3 w4 hw4 ?_)
      | (refine wpList_allocE (by rfl) 24 (by rfl) (cellsB zD).toArray Tryd.zeroDg g4 hg4 w5 hw5 ?_)
      | (refine wpList_store_mid (by rfl) 24 (.tmp 11) (.tmp 20) (by rfl) g3 0 (cellsB X).toArray (by rfl) (by rfl) (by rw [cellsB_size, lX]; exact HT5.out) (by rw [cellsB_size, lX]; exact Tryd.sizeDg) (all_oneCell_toArray (cellsB_one _)) ?_)
      | (refine wpList_store_mid (by rfl) 24 (.tmp 12) (.tmp 21) (by rfl) g4 0 (cellsB Y).toArray (by rfl) (by rfl) (by rw [cellsB_size, lY]; exact HU6.out) (by rw [cellsB_size, lY]; exact Tryd.sizeDg) (all_oneCell_toArray (cellsB_one _)) ?_))
    go_ret
    rw [HR.out]
    exact ⟨rfl, HB7.out⟩
end Go.Proofs.YtdldkhhcicjbmabDoor
/- The digest again, in a form that the kernel reckons fast: every number is forced before it goes on. -/
namespace Go.Proofs.YtdldkhhcicjbmabDoor
open Go.RowKit
set_option linter.unusedVariables false
set_option linter.unusedSimpArgs false

/-- f of x, x reckoned first. -/
def frc {α : Type} (x : Nat) (f : Nat → α) : α := Nat.rec (motive := fun _ => α) (f 0) (fun n _ => f (Nat.succ n)) x
theorem frc_eq {α : Type} (x : Nat) (f : Nat → α) : frc x f = f x := by cases x <;> rfl
/-- The rounds, with the words in a window of sixteen. -/
def goR {α : Type} (fin : Nat → Nat → Nat → Nat → Nat → Nat → Nat → Nat → α) : List Nat → Nat → Nat → Nat → Nat → Nat → Nat → Nat → Nat → Nat → Nat → Nat → Nat → Nat → Nat → Nat → Nat → Nat → Nat → Nat → Nat → Nat → Nat → Nat → Nat → α
  | [], w0, w1, w2, w3, w4, w5, w6, w7, w8, w9, w10, w11, w12, w13, w14, w15, a, b, c, d, e, f, g, h => fin a b c d e f g h
  | k :: ks, w0, w1, w2, w3, w4, w5, w6, w7, w8, w9, w10, w11, w12, w13, w14, w15, a, b, c, d, e, f, g, h =>
    frc (h + bs1 e + chW e f g + k + w0) fun p =>
    frc ((p + (bs0 a + mjW a b c)) % 4294967296) fun a' =>
    frc ((d + p) % 4294967296) fun e' =>
    frc ((ss1 w14 + w9 + ss0 w1 + w0) % 4294967296) fun wn =>
    goR fin ks w1 w2 w3 w4 w5 w6 w7 w8 w9 w10 w11 w12 w13 w14 w15 wn a' a b c e' e f g
/-- The words that 64 bytes are spread to, on and on. -/
def seqW (m : List UInt8) (t : Nat) : Nat := at' (wTo m (t + 1)) t
theorem seqW_lo (m : List UInt8) (t : Nat) (h : t < 16) : seqW m t = wordB m t := by
  unfold seqW
  rw [wTo]
  have := at_snoc (l := wTo m t) (x := if t < 16 then wordB m t else (ss1 (at' (wTo m t) (t - 2)) + at' (wTo m t) (t - 7) + ss0 (at' (wTo m t) (t - 15)) + at' (wTo m t) (t - 16)) % 4294967296)
  rw [wTo_length] at this
  rw [this, if_pos h]
theorem seqW_hi (m : List UInt8) (t : Nat) : seqW m (t + 16) = (ss1 (seqW m (t + 14)) + seqW m (t + 9) + ss0 (seqW m (t + 1)) + seqW m t) % 4294967296 := by
  have := at_snoc (l := wTo m (t + 16)) (x := if t + 16 < 16 then wordB m (t + 16) else (ss1 (at' (wTo m (t + 16)) (t + 16 - 2)) + at' (wTo m (t + 16)) (t + 16 - 7) + ss0 (at' (wTo m (t + 16)) (t + 16 - 15)) + at' (wTo m (t + 16)) (t + 16 - 16)) % 4294967296)
  rw [wTo_length] at this
  have e : seqW m (t + 16) = (ss1 (at' (wTo m (t + 16)) (t + 16 - 2)) + at' (wTo m (t + 16)) (t + 16 - 7) + ss0 (at' (wTo m (t + 16)) (t + 16 - 15)) + at' (wTo m (t + 16)) (t + 16 - 16)) % 4294967296 := by
    unfold seqW
    rw [wTo, this, if_neg (by omega)]
  rw [e, wTo_at m (t + 16 - 2) (t + 16) (by omega), wTo_at m (t + 16 - 7) (t + 16) (by omega), wTo_at m (t + 16 - 15) (t + 16) (by omega), wTo_at m (t + 16 - 16) (t + 16) (by omega)]
  rw [show t + 16 - 2 = t + 14 by omega, show t + 16 - 7 = t + 9 by omega, show t + 16 - 15 = t + 1 by omega, show t + 16 - 16 = t by omega]
  rfl
theorem seqW_64 (m : List UInt8) (t : Nat) (h : t < 64) : at' (wTo m 64) t = seqW m t := wTo_at m t 64 h
theorem kW_drop (t : Nat) (h : t < 64) : kW.drop t = at' kW t :: kW.drop (t + 1) := by
  have hl : t < kW.length := h
  rw [List.drop_eq_getElem_cons hl]
  congr 1
  unfold at'
  simp [List.getD_eq_getElem?_getD, List.getElem?_eq_getElem hl]
theorem goR_eq {α : Type} (fin : Nat → Nat → Nat → Nat → Nat → Nat → Nat → Nat → α) (m : List UInt8) (h : List Nat) : ∀ n t, t + n = 64 →
    goR fin (kW.drop t) (seqW m t) (seqW m (t + 1)) (seqW m (t + 2)) (seqW m (t + 3)) (seqW m (t + 4)) (seqW m (t + 5)) (seqW m (t + 6)) (seqW m (t + 7)) (seqW m (t + 8)) (seqW m (t + 9)) (seqW m (t + 10)) (seqW m (t + 11)) (seqW m (t + 12)) (seqW m (t + 13)) (seqW m (t + 14)) (seqW m (t + 15))
      (at' (rTo h (wTo m 64) t) 0) (at' (rTo h (wTo m 64) t) 1) (at' (rTo h (wTo m 64) t) 2) (at' (rTo h (wTo m 64) t) 3) (at' (rTo h (wTo m 64) t) 4) (at' (rTo h (wTo m 64) t) 5) (at' (rTo h (wTo m 64) t) 6) (at' (rTo h (wTo m 64) t) 7)
    = fin (at' (rTo h (wTo m 64) 64) 0) (at' (rTo h (wTo m 64) 64) 1) (at' (rTo h (wTo m 64) 64) 2) (at' (rTo h (wTo m 64) 64) 3) (at' (rTo h (wTo m 64) 64) 4) (at' (rTo h (wTo m 64) 64) 5) (at' (rTo h (wTo m 64) 64) 6) (at' (rTo h (wTo m 64) 64) 7)
  | 0, t, ht => by
    obtain rfl : t = 64 := by omega
    have : kW.drop 64 = [] := List.drop_eq_nil_of_le (Nat.le_refl _)
    rw [this]
    rfl
  | n + 1, t, ht => by
    have ih := goR_eq fin m h n (t + 1) (by omega)
    rw [kW_drop t (by omega)]
    unfold goR
    simp only [frc_eq]
    rw [← seqW_hi m t]
    have e : rTo h (wTo m 64) (t + 1) = stepW (rTo h (wTo m 64) t) (at' kW t) (at' (wTo m 64) t) := rfl
    rw [seqW_64 m t (by omega)] at e
    rw [e] at ih
    have s0 : ∀ v k w, at' (stepW v k w) 0 = (pW v k w + qW v) % 4294967296 := fun _ _ _ => rfl
    have s1 : ∀ v k w, at' (stepW v k w) 1 = at' v 0 := fun _ _ _ => rfl
    have s2 : ∀ v k w, at' (stepW v k w) 2 = at' v 1 := fun _ _ _ => rfl
    have s3 : ∀ v k w, at' (stepW v k w) 3 = at' v 2 := fun _ _ _ => rfl
    have s4 : ∀ v k w, at' (stepW v k w) 4 = (at' v 3 + pW v k w) % 4294967296 := fun _ _ _ => rfl
    have s5 : ∀ v k w, at' (stepW v k w) 5 = at' v 4 := fun _ _ _ => rfl
    have s6 : ∀ v k w, at' (stepW v k w) 6 = at' v 5 := fun _ _ _ => rfl
    have s7 : ∀ v k w, at' (stepW v k w) 7 = at' v 6 := fun _ _ _ => rfl
    rw [s0, s1, s2, s3, s4, s5, s6, s7] at ih
    rw [← ih]
    unfold pW qW
    simp only [Nat.add_assoc, Nat.reduceAdd]
/-- 64 bytes, as sixteen words, taken to eight words. -/
def goT {α : Type} (k : Nat → Nat → Nat → Nat → Nat → Nat → Nat → Nat → α) (w0 w1 w2 w3 w4 w5 w6 w7 w8 w9 w10 w11 w12 w13 w14 w15 a b c d e f g h : Nat) : α :=
  goR (fun a' b' c' d' e' f' g' h' => frc ((a' + a) % 4294967296) fun a => frc ((b' + b) % 4294967296) fun b => frc ((c' + c) % 4294967296) fun c => frc ((d' + d) % 4294967296) fun d => frc ((e' + e) % 4294967296) fun e => frc ((f' + f) % 4294967296) fun f => frc ((g' + g) % 4294967296) fun g => frc ((h' + h) % 4294967296) fun h => k a b c d e f g h) kW w0 w1 w2 w3 w4 w5 w6 w7 w8 w9 w10 w11 w12 w13 w14 w15 a b c d e f g h
/-- All eight words of a list. -/
def app8 {α : Type} (k : Nat → Nat → Nat → Nat → Nat → Nat → Nat → Nat → α) (l : List Nat) : α := k (at' l 0) (at' l 1) (at' l 2) (at' l 3) (at' l 4) (at' l 5) (at' l 6) (at' l 7)
theorem goT_eq {α : Type} (k : Nat → Nat → Nat → Nat → Nat → Nat → Nat → Nat → α) (m : List UInt8) (h : List Nat) :
    goT k (wordB m 0) (wordB m 1) (wordB m 2) (wordB m 3) (wordB m 4) (wordB m 5) (wordB m 6) (wordB m 7) (wordB m 8) (wordB m 9) (wordB m 10) (wordB m 11) (wordB m 12) (wordB m 13) (wordB m 14) (wordB m 15)
      (at' h 0) (at' h 1) (at' h 2) (at' h 3) (at' h 4) (at' h 5) (at' h 6) (at' h 7) = app8 k (blockW h m) := by
  have H := goR_eq (fun a' b' c' d' e' f' g' h' => frc ((a' + at' h 0) % 4294967296) fun a => frc ((b' + at' h 1) % 4294967296) fun b => frc ((c' + at' h 2) % 4294967296) fun c => frc ((d' + at' h 3) % 4294967296) fun d => frc ((e' + at' h 4) % 4294967296) fun e => frc ((f' + at' h 5) % 4294967296) fun f => frc ((g' + at' h 6) % 4294967296) fun g => frc ((h' + at' h 7) % 4294967296) fun h => k a b c d e f g h) m h 64 0 rfl
  rw [List.drop_zero] at H
  simp only [Nat.zero_add] at H
  rw [seqW_lo m 0 (by omega), seqW_lo m 1 (by omega), seqW_lo m 2 (by omega), seqW_lo m 3 (by omega), seqW_lo m 4 (by omega), seqW_lo m 5 (by omega), seqW_lo m 6 (by omega), seqW_lo m 7 (by omega), seqW_lo m 8 (by omega), seqW_lo m 9 (by omega), seqW_lo m 10 (by omega), seqW_lo m 11 (by omega), seqW_lo m 12 (by omega), seqW_lo m 13 (by omega), seqW_lo m 14 (by omega), seqW_lo m 15 (by omega)] at H
  unfold goT
  refine Eq.trans H ?_
  have ha : ∀ (u v : List Nat) (i : Nat), i < 8 → at' (addW u v) i = (at' u i + at' v i) % 4294967296 := fun u v i hi => at_map_range _ 8 i hi
  unfold app8 blockW
  generalize rTo h (wTo m 64) 64 = R
  rw [ha R h 0 (by omega), ha R h 1 (by omega), ha R h 2 (by omega), ha R h 3 (by omega), ha R h 4 (by omega), ha R h 5 (by omega), ha R h 6 (by omega), ha R h 7 (by omega)]
  simp only [frc_eq]
/-! bytes, as numbers -/
def nums (l : List UInt8) : List Nat := l.map (·.toNat)
theorem nums_append (l r : List UInt8) : nums (l ++ r) = nums l ++ nums r := by simp [nums]
theorem nums_length (l : List UInt8) : (nums l).length = l.length := by simp [nums]
/-- A word of four bytes, and what is left. -/
def wd4 {α : Type} (f : Nat → List Nat → α) : List Nat → α
  | b0 :: b1 :: b2 :: b3 :: r => frc (((b0 * 256 + b1) * 256 + b2) * 256 + b3) fun w => f w r
  | _ => f 0 []
theorem wd4_eq {α : Type} (f : Nat → List Nat → α) (l : List UInt8) (h : 4 ≤ l.length) : wd4 f (nums l) = f (wordB l 0) (nums (l.drop 4)) := by
  match l, h with
  | b0 :: b1 :: b2 :: b3 :: r, _ => unfold nums; simp only [List.map_cons]; rw [wd4, frc_eq]; rfl
theorem wordB_drop (l : List UInt8) (n t : Nat) : wordB (l.drop (4 * n)) t = wordB l (n + t) := by
  unfold wordB
  simp only [List.getD_eq_getElem?_getD, List.getElem?_drop]
  rw [show 4 * n + 4 * t = 4 * (n + t) by omega, show 4 * n + (4 * t + 1) = 4 * (n + t) + 1 by omega, show 4 * n + (4 * t + 2) = 4 * (n + t) + 2 by omega, show 4 * n + (4 * t + 3) = 4 * (n + t) + 3 by omega]
theorem wordB_take (l : List UInt8) (t : Nat) (h : t < 16) : wordB (l.take 64) t = wordB l t := by
  unfold wordB
  simp only [List.getD_eq_getElem?_getD, List.getElem?_take]
  rw [if_pos (by omega), if_pos (by omega), if_pos (by omega), if_pos (by omega)]
def blk16 {α : Type} (f : Nat → Nat → Nat → Nat → Nat → Nat → Nat → Nat → Nat → Nat → Nat → Nat → Nat → Nat → Nat → Nat → List Nat → α) (l : List Nat) : α :=
  wd4 (fun w0 l => wd4 (fun w1 l => wd4 (fun w2 l => wd4 (fun w3 l => wd4 (fun w4 l => wd4 (fun w5 l => wd4 (fun w6 l => wd4 (fun w7 l => wd4 (fun w8 l => wd4 (fun w9 l => wd4 (fun w10 l => wd4 (fun w11 l => wd4 (fun w12 l => wd4 (fun w13 l => wd4 (fun w14 l => wd4 (fun w15 l => f w0 w1 w2 w3 w4 w5 w6 w7 w8 w9 w10 w11 w12 w13 w14 w15 l) l) l) l) l) l) l) l) l) l) l) l) l) l) l) l) l
theorem blk16_eq {α : Type} (f : Nat → Nat → Nat → Nat → Nat → Nat → Nat → Nat → Nat → Nat → Nat → Nat → Nat → Nat → Nat → Nat → List Nat → α) (l : List UInt8) (h : 64 ≤ l.length) :
    blk16 f (nums l) = f (wordB (l.take 64) 0) (wordB (l.take 64) 1) (wordB (l.take 64) 2) (wordB (l.take 64) 3) (wordB (l.take 64) 4) (wordB (l.take 64) 5) (wordB (l.take 64) 6) (wordB (l.take 64) 7) (wordB (l.take 64) 8) (wordB (l.take 64) 9) (wordB (l.take 64) 10) (wordB (l.take 64) 11) (wordB (l.take 64) 12) (wordB (l.take 64) 13) (wordB (l.take 64) 14) (wordB (l.take 64) 15) (nums (l.drop 64)) := by
  unfold blk16
  rw [wd4_eq _ _ (by first | omega | (simp only [List.length_drop]; omega))]
  rw [wd4_eq _ _ (by first | omega | (simp only [List.length_drop]; omega))]
  rw [wd4_eq _ _ (by first | omega | (simp only [List.length_drop]; omega))]
  rw [wd4_eq _ _ (by first | omega | (simp only [List.length_drop]; omega))]
  rw [wd4_eq _ _ (by first | omega | (simp only [List.length_drop]; omega))]
  rw [wd4_eq _ _ (by first | omega | (simp only [List.length_drop]; omega))]
  rw [wd4_eq _ _ (by first | omega | (simp only [List.length_drop]; omega))]
  rw [wd4_eq _ _ (by first | omega | (simp only [List.length_drop]; omega))]
  rw [wd4_eq _ _ (by first | omega | (simp only [List.length_drop]; omega))]
  rw [wd4_eq _ _ (by first | omega | (simp only [List.length_drop]; omega))]
  rw [wd4_eq _ _ (by first | omega | (simp only [List.length_drop]; omega))]
  rw [wd4_eq _ _ (by first | omega | (simp only [List.length_drop]; omega))]
  rw [wd4_eq _ _ (by first | omega | (simp only [List.length_drop]; omega))]
  rw [wd4_eq _ _ (by first | omega | (simp only [List.length_drop]; omega))]
  rw [wd4_eq _ _ (by first | omega | (simp only [List.length_drop]; omega))]
  rw [wd4_eq _ _ (by first | omega | (simp only [List.length_drop]; omega))]
  simp only [List.drop_drop, Nat.reduceAdd]
  rw [wordB_take l 0 (by omega), wordB_take l 1 (by omega), wordB_take l 2 (by omega), wordB_take l 3 (by omega), wordB_take l 4 (by omega), wordB_take l 5 (by omega), wordB_take l 6 (by omega), wordB_take l 7 (by omega), wordB_take l 8 (by omega), wordB_take l 9 (by omega), wordB_take l 10 (by omega), wordB_take l 11 (by omega), wordB_take l 12 (by omega), wordB_take l 13 (by omega), wordB_take l 14 (by omega), wordB_take l 15 (by omega)]
  rw [show wordB (l.drop 4) 0 = wordB l 1 from wordB_drop l 1 0]
  rw [show wordB (l.drop 8) 0 = wordB l 2 from wordB_drop l 2 0]
  rw [show wordB (l.drop 12) 0 = wordB l 3 from wordB_drop l 3 0]
  rw [show wordB (l.drop 16) 0 = wordB l 4 from wordB_drop l 4 0]
  rw [show wordB (l.drop 20) 0 = wordB l 5 from wordB_drop l 5 0]
  rw [show wordB (l.drop 24) 0 = wordB l 6 from wordB_drop l 6 0]
  rw [show wordB (l.drop 28) 0 = wordB l 7 from wordB_drop l 7 0]
  rw [show wordB (l.drop 32) 0 = wordB l 8 from wordB_drop l 8 0]
  rw [show wordB (l.drop 36) 0 = wordB l 9 from wordB_drop l 9 0]
  rw [show wordB (l.drop 40) 0 = wordB l 10 from wordB_drop l 10 0]
  rw [show wordB (l.drop 44) 0 = wordB l 11 from wordB_drop l 11 0]
  rw [show wordB (l.drop 48) 0 = wordB l 12 from wordB_drop l 12 0]
  rw [show wordB (l.drop 52) 0 = wordB l 13 from wordB_drop l 13 0]
  rw [show wordB (l.drop 56) 0 = wordB l 14 from wordB_drop l 14 0]
  rw [show wordB (l.drop 60) 0 = wordB l 15 from wordB_drop l 15 0]
/-- So many blocks. -/
def blocksF {α : Type} (k : Nat → Nat → Nat → Nat → Nat → Nat → Nat → Nat → α) : Nat → List Nat → Nat → Nat → Nat → Nat → Nat → Nat → Nat → Nat → α
  | 0, _, a, b, c, d, e, f, g, h => k a b c d e f g h
  | n + 1, l, a, b, c, d, e, f, g, h => blk16 (fun w0 w1 w2 w3 w4 w5 w6 w7 w8 w9 w10 w11 w12 w13 w14 w15 r => goT (fun a b c d e f g h => blocksF k n r a b c d e f g h) w0 w1 w2 w3 w4 w5 w6 w7 w8 w9 w10 w11 w12 w13 w14 w15 a b c d e f g h) l
theorem blocksF_eq {α : Type} (k : Nat → Nat → Nat → Nat → Nat → Nat → Nat → Nat → α) (p : List UInt8) : ∀ n b, 64 * (b + n) ≤ p.length →
    blocksF k n (nums (p.drop (64 * b))) (at' (hTo p b) 0) (at' (hTo p b) 1) (at' (hTo p b) 2) (at' (hTo p b) 3) (at' (hTo p b) 4) (at' (hTo p b) 5) (at' (hTo p b) 6) (at' (hTo p b) 7) = app8 k (hTo p (b + n))
  | 0, b, _ => rfl
  | n + 1, b, h => by
    have ih := blocksF_eq k p n (b + 1) (by omega)
    rw [blocksF, blk16_eq _ _ (by rw [List.length_drop]; omega), goT_eq, List.drop_drop]
    have e : hTo p (b + 1) = blockW (hTo p b) ((p.drop (64 * b)).take 64) := rfl
    rw [← e, show 64 * b + 64 = 64 * (b + 1) by omega, show b + (n + 1) = b + 1 + n by omega]
    exact ih
/-- The words of the digest of bytes. -/
def shaW (l : List UInt8) : List Nat := hTo (padL l) ((padL l).length / 64)
theorem shaL_words (l : List UInt8) : shaL l = outL (shaW l) := rfl
theorem hTo_len (p : List UInt8) : ∀ b, (hTo p b).length = 8
  | 0 => rfl
  | b + 1 => by rw [hTo]; unfold blockW addW; simp
/-- What stands behind so many bytes. -/
def endN (n : Nat) : List Nat := 128 :: (List.replicate ((119 - n % 64) % 64) 0 ++ nums (putL (8 * n) 8))
theorem padL_nums (l : List UInt8) : nums (padL l) = nums l ++ endN l.length := by
  unfold padL endN
  rw [nums_append, nums_append, nums_append, List.append_assoc, List.append_assoc]
  congr 1
  have e : nums (List.replicate ((119 - l.length % 64) % 64) (0 : UInt8)) = List.replicate ((119 - l.length % 64) % 64) 0 := by simp [nums]
  rw [e]
  rfl
/-- The digest of n bytes: k of its words. -/
def shaK {α : Type} (k : List Nat → α) (n : Nat) (l : List Nat) : α :=
  blocksF (fun a b c d e f g h => k [a, b, c, d, e, f, g, h]) ((n + 1 + (119 - n % 64) % 64 + 8) / 64) (l ++ endN n) (at' hW 0) (at' hW 1) (at' hW 2) (at' hW 3) (at' hW 4) (at' hW 5) (at' hW 6) (at' hW 7)
theorem list8 {l : List Nat} (h : l.length = 8) : [at' l 0, at' l 1, at' l 2, at' l 3, at' l 4, at' l 5, at' l 6, at' l 7] = l := by
  match l, h with
  | [a, b, c, d, e, f, g, i], _ => rfl
theorem shaK_eq {α : Type} (k : List Nat → α) (l : List UInt8) (n : Nat) (hn : l.length = n) : shaK k n (nums l) = k (shaW l) := by
  subst hn
  have hlen : (padL l).length = l.length + 1 + (119 - l.length % 64) % 64 + 8 := by
    unfold padL
    rw [List.length_append, List.length_append, List.length_append, putL_length, List.length_replicate]
    rfl
  have H := blocksF_eq (fun a b c d e f g h => k [a, b, c, d, e, f, g, h]) (padL l) ((padL l).length / 64) 0 (by omega)
  rw [Nat.mul_zero, List.drop_zero, Nat.zero_add, padL_nums] at H
  have e : hTo (padL l) 0 = hW := rfl
  rw [e] at H
  unfold shaK
  rw [← hlen, H]
  exact congrArg k (list8 (hTo_len _ _))
/-- The bytes of a word, ahead of others; of eight words. -/
def out4 (a : Nat) (r : List Nat) : List Nat := frc (a >>> 24 % 256) fun x => x :: frc (a >>> 16 % 256) fun x => x :: frc (a >>> 8 % 256) fun x => x :: frc (a % 256) fun x => x :: r
def outN : List Nat → List Nat → List Nat
  | [a, b, c, d, e, f, g, h], r => out4 a (out4 b (out4 c (out4 d (out4 e (out4 f (out4 g (out4 h r)))))))
  | _, r => r
theorem outN_eq (h : List Nat) (hl : h.length = 8) (r : List Nat) : outN h r = nums (outL h) ++ r := by
  match h, hl with
  | [a, b, c, d, e, f, g, i], _ =>
    unfold outN out4
    simp only [frc_eq]
    unfold nums outL
    simp [List.range, List.range.loop, at']
theorem fast_abc : shaK (fun h => at' h 0) 3 [97, 98, 99] = 3128432319 := by decide +kernel
end Go.Proofs.YtdldkhhcicjbmabDoor
