/- Texts of this claim, joined: Wpath, Wround, Till, Wstamps. -/
import Derived.Test.YtdgaimlccpmojaaGreatDoorJ19
import Derived.Test.YtdgaimlccpmojaaGreatDoorJ20
import Derived.RangeFuncNested
import Derived.RangeFuncBound
import Derived.RangeFuncCalls
import Derived.RangeFuncLeaves
import Derived.Shelf.Abstract
import Derived.Shelf.RegionOpen
import Derived.WalkKit
import Derived.OwnWalkIn
import Derived.TacticsInMore
import Derived.LoopNIn
import Derived.LoopIn
import Derived.OrdersHeld
import Derived.Test.YtdgaimlccpmojaaGreatDoorJ01
import Derived.Deep.RegionHeld
import Derived.Deep.DeepCutAuto
import Derived.Deep.RegionHeld3
/- The contracts of tree.pathOf and tree.Path. -/
namespace Go.Proofs.YtdgaimlccpmojaaGreatDoor
open Go.RowKit
set_option linter.unusedVariables false
set_option linter.unusedSimpArgs false

set_option maxRecDepth 100000 in
set_option maxHeartbeats 1000000 in
theorem wpathof_any : ∀ (n : Nat), ∀ (a : Option Addr) (c i : Nat) (ls : List (List UInt8)) (w : World), Env w → DRow w a n ls → n ≤ c → 1 ≤ n → n ≤ 256 → i < n →
    Calls Tryz.prog 45 #[.slice a n c, .int .i64 (i : Int)] w fun e w' => (∃ v, e = .returned v ∧ OwnD w' w.heap.size v (pathT ls i)) ∧ Below w.heap.size w w' := by
  intro n
  induction n using Nat.strongRecOn with
  | ind n ih =>
    intro a c i ls w G R hc h1 hn hi
    have HI : Hid (∀ m, m < n → ∀ (a : Option Addr) (c i : Nat) (ls : List (List UInt8)) (w : World), Env w → DRow w a m ls → m ≤ c → 1 ≤ m → m ≤ 256 → i < m → Calls Tryz.prog 45 #[.slice a m c, .int .i64 (i : Int)] w fun e w' => (∃ v, e = .returned v ∧ OwnD w' w.heap.size v (pathT ls i)) ∧ Below w.heap.size w w') := ih
    clear ih
    have HLEN : Hid (ls.length = n) := R.1
    have HR : Hid (∀ wx, Below w.heap.size w wx → DRow wx a n ls) := fun wx hx => R.below hx
    have H0 : Hid (Below w.heap.size w w) := Below.refl _ _
    have HGE : Hid (∀ wx, Below w.heap.size w wx → Env wx) := fun wx hx => G.below hx
    clear R G
    go_enter Tryz.func45, Tryz.ntmps45
    by_cases h2 : 2 ≤ n
    · have e1 : ((n : Int) == 1) = false := by simp; omega
      go_wp2_with fail
      refine (wsplit_any n w h2 (by omega)).mono ?_
      rintro e w' ⟨rfl, rfl⟩
      have hk1 := halfT_lt h2
      have hk2 := halfT_pos n
      obtain ⟨b, o, rfl⟩ := (HR.out _ H0.out).addr (by omega)
      have HKL : Hid (∀ wx, Below w'.heap.size w' wx → DRow wx (some ⟨b, o, none⟩) (halfT n) (ls.take (halfT n)) ∧ DRow wx (some ⟨b, o + halfT n * 32, none⟩) (n - halfT n) (ls.drop (halfT n))) := fun wx hx => ⟨(HR.out wx hx).take _ (by omega), (HR.out wx hx).drop _ (by omega)⟩
      have lA := rootT_length (HKL.out w' (Below.refl _ _)).1.2.1
      have lB := rootT_length (HKL.out w' (Below.refl _ _)).2.2.1
      have h2' : 2 ≤ ls.length := by rw [HLEN.out]; exact h2
      have HR1 : Hid (∀ wx, Env wx → DRow wx (some ⟨b, o, none⟩) (halfT n) (ls.take (halfT n)) → Calls Tryz.prog 42 #[.slice (some ⟨b, o, none⟩) (halfT n) c] wx fun e w' => e = .returned (digestV (rootT (ls.take (halfT n)))) ∧ Below wx.heap.size wx w') := fun wx hg hr => wroot_any (halfT n) _ c _ wx hg hr (by omega) (by omega)
      have HR2 : Hid (∀ wx, Env wx → DRow wx (some ⟨b, o + halfT n * 32, none⟩) (n - halfT n) (ls.drop (halfT n)) → Calls Tryz.prog 42 #[.slice (some ⟨b, o + halfT n * 32, none⟩) (n - halfT n) (c - halfT n)] wx fun e w' => e = .returned (digestV (rootT (ls.drop (halfT n)))) ∧ Below wx.heap.size wx w') := fun wx hg hr => wroot_any (n - halfT n) _ (c - halfT n) _ wx hg hr (by omega) (by omega)
      by_cases hik : i < halfT n
      · have HE : Hid (pathT ls i = pathT (ls.take (halfT n)) i ++ [rootT (ls.drop (halfT n))]) := by
          have := pathT_lo (ls := ls) (i := i) h2' (by rw [HLEN.out]; exact hik)
          rw [HLEN.out] at this
          exact this
        have HPL : Hid ((pathT (ls.take (halfT n)) i).length ≤ 100000) := by
          unfold Hid
          rw [(fold_path (halfT n) (ls.take (halfT n)) i (by rw [List.length_take, HLEN.out]; omega) hik).2]
          have := longT_le (halfT n) i
          omega
        have HCP : Hid (∀ wx, Env wx → DRow wx (some ⟨b, o, none⟩) (halfT n) (ls.take (halfT n)) → Calls Tryz.prog 45 #[.slice (some ⟨b, o, none⟩) (halfT n) c, .int .i64 (i : Int)] wx fun e w' => (∃ v, e = .returned v ∧ OwnD w' wx.heap.size v (pathT (ls.take (halfT n)) i)) ∧ Below wx.heap.size wx w') := fun wx hg hr => HI.out (halfT n) hk1 _ c i _ wx hg hr (by omega) (by omega) (by omega) hik
        generalize halfT n = k at *
        generalize rootT (ls.take k) = X at *
        generalize rootT (ls.drop k) = Y at *
        generalize pathT (ls.take k) i = PP at *
        have g1 : (i : Int) < (k : Int) := by omega
        clear HI h2'
        have k0 : (0 : Int) ≤ (k : Int) := by omega
        have k1 : (k : Int) ≤ (n : Int) := by omega
        have k2 : (k : Int) ≤ (c : Int) := by omega
        have n1 : (n : Int) ≤ (c : Int) := by omega
        go_wp2_with fail
        refine wp_region_noPanic ?_
        refine wp_region_held_drew (S := fun _ => True) (by kernel_rfl) True.intro (fun hHeld => ?_)
        try simp only [Act.put, List.setIfInBounds_toArray, List.set_cons_zero, List.set_cons_succ]
        have HBd : Hid (Below w'.heap.size w' w'.drew) := below_drewN w' 1
        generalize w'.drew = wd at *
        refine wpAnyH_take (i := 0) (v := ?_) (by simp only [List.getElem?_toArray, List.getElem?_cons_zero, List.getElem?_cons_succ]; rfl) (by kernel_rfl) (by kernel_rfl) (by kernel_rfl) (fun _ _ _ h => h) (Or.inl ⟨by rfl, ?_⟩) hHeld ?_
        rotate_left
        · intro w hSw
          go_simp
          try with_reducible rfl
        try simp only [Act.put, List.setIfInBounds_toArray, List.set_cons_zero, List.set_cons_succ]
        refine wpAnyH_take (i := 1) (v := ?_) (by simp only [List.getElem?_toArray, List.getElem?_cons_zero, List.getElem?_cons_succ]; rfl) (by kernel_rfl) (by kernel_rfl) (by kernel_rfl) (fun _ _ _ h => h) (Or.inl ⟨by rfl, ?_⟩) hHeld ?_
        rotate_left
        · intro w hSw
          go_simp
          try with_reducible rfl
        try simp only [Act.put, List.setIfInBounds_toArray, List.set_cons_zero, List.set_cons_succ]
        refine wpAnyH_take (i := 2) (v := .slice (some ⟨b, o, none⟩) k c) (by simp only [List.getElem?_toArray, List.getElem?_cons_zero, List.getElem?_cons_succ]; rfl) (by kernel_rfl) (by kernel_rfl) (by kernel_rfl) (fun _ _ _ h => h) (Or.inl ⟨by rfl, ?_⟩) hHeld ?_
        · intro w hSw
          go_simp
        try simp only [Act.put, List.setIfInBounds_toArray, List.set_cons_zero, List.set_cons_succ]
        refine wpAnyH_take (i := 3) (v := ?_) (by simp only [List.getElem?_toArray, List.getElem?_cons_zero, List.getElem?_cons_succ]; rfl) (by kernel_rfl) (by kernel_rfl) (by kernel_rfl) (fun _ _ _ h => h) (Or.inl ⟨by rfl, ?_⟩) hHeld ?_
        rotate_left
        · intro w hSw
          go_simp
          try with_reducible rfl
        try simp only [Act.put, List.setIfInBounds_toArray, List.set_cons_zero, List.set_cons_succ]
        refine wpAnyH_take (i := 5) (v := ?_) (by simp only [List.getElem?_toArray, List.getElem?_cons_zero, List.getElem?_cons_succ]; rfl) (by kernel_rfl) (by kernel_rfl) (by kernel_rfl) (fun _ _ _ h => h) (Or.inl ⟨by rfl, ?_⟩) hHeld ?_
        rotate_left
        · intro w hSw
          go_simp
          try with_reducible rfl
        try simp only [Act.put, List.setIfInBounds_toArray, List.set_cons_zero, List.set_cons_succ]
        refine wpAnyH_take (i := 6) (v := ?_) (by simp only [List.getElem?_toArray, List.getElem?_cons_zero, List.getElem?_cons_succ]; rfl) (by kernel_rfl) (by kernel_rfl) (by kernel_rfl) (fun _ _ _ h => h) (Or.inl ⟨by rfl, ?_⟩) hHeld ?_
        rotate_left
        · intro w hSw
          go_simp
          try with_reducible rfl
        try simp only [Act.put, List.setIfInBounds_toArray, List.set_cons_zero, List.set_cons_succ]
        refine wpAnyH_take (i := 7) (v := .slice (some ⟨b, o + k * 32, none⟩) (n - k) (c - k)) (by simp only [List.getElem?_toArray, List.getElem?_cons_zero, List.getElem?_cons_succ]; rfl) (by kernel_rfl) (by kernel_rfl) (by kernel_rfl) (fun _ _ _ h => h) (Or.inl ⟨by rfl, ?_⟩) hHeld ?_
        · intro w hSw
          go_simp
          omega
        try simp only [Act.put, List.setIfInBounds_toArray, List.set_cons_zero, List.set_cons_succ]
        refine wpAnyH_ready (rs := [4]) (by kernel_rfl) (by simp) ?_
        refine AllReadyH.cons (by simp only [List.getElem?_toArray, List.getElem?_cons_zero, List.getElem?_cons_succ]; rfl) (fun K hK => ?_) AllReadyH.nil
        rw [if_pos (by rfl)]
        go_simp
        refine (HCP.out wd (HGE.out _ HBd.out) (HKL.out _ HBd.out).1).mono ?_
        rintro e w3 ⟨⟨v3, rfl, ho3⟩, hb3⟩
        have HB3 : Hid (Below w'.heap.size w' w3) := HBd.out.trans (hb3.mono HBd.out.size)
        have HO3 : Hid (OwnD w3 w'.heap.size v3 PP) := ho3.lower HBd.out.size
        clear hb3 HBd HCP ho3
        go_wp2_with fail
        refine hK.out _ _ True.intro (fun hHeld => ?_)
        clear hK K
        try simp only [Act.put, List.setIfInBounds_toArray, List.set_cons_zero, List.set_cons_succ]
        refine wpAnyH_ready (rs := [8]) (by kernel_rfl) (by simp) ?_
        refine AllReadyH.cons (by simp only [List.getElem?_toArray, List.getElem?_cons_zero, List.getElem?_cons_succ]; rfl) (fun K hK => ?_) AllReadyH.nil
        rw [if_pos (by rfl)]
        go_simp
        refine (HR2.out w3 (HGE.out _ HB3.out) (HKL.out _ HB3.out).2).mono ?_
        rintro e w4 ⟨rfl, hb4⟩
        have HB4 : Hid (Below w'.heap.size w' w4) := HB3.out.trans (hb4.mono HB3.out.size)
        have HO4 : Hid (OwnD w4 w'.heap.size v3 PP) := OwnD.below HO3.out hb4
        clear hb4 HB3 HO3
        go_wp2_with fail
        refine hK.out _ _ True.intro (fun hHeld => ?_)
        clear hK K
        try simp only [Act.put, List.setIfInBounds_toArray, List.set_cons_zero, List.set_cons_succ]
        refine wpAnyH_ready (rs := [9]) (by kernel_rfl) (by simp) ?_
        refine AllReadyH.cons (by simp only [List.getElem?_toArray, List.getElem?_cons_zero, List.getElem?_cons_succ]; rfl) (fun K hK => ?_) AllReadyH.nil
        rw [if_pos (by rfl)]
        refine wp_buildD1 _ rfl Y lB rfl ?_
        have hs5 := HB4.out.size
        have HO5 : Hid (OwnD (w4.alloc (.cells (cellsB Y).toArray 23)) w'.heap.size v3 PP) := OwnD.alloc HO4.out _
        have HB5 : Hid (Below w'.heap.size w' (w4.alloc (.cells (cellsB Y).toArray 23))) := Below.alloc HB4.out hs5 _
        have HY5 : Hid (DRow (w4.alloc (.cells (cellsB Y).toArray 23)) (some ⟨w4.heap.size, 0, none⟩) 1 [Y]) := DRow.lit1 w4 Y _ lB
        refine hK.out _ _ True.intro (fun hHeld => ?_)
        clear HO4 HB4 hs5
        generalize w4.alloc (.cells (cellsB Y).toArray 23) = w5 at *
        clear hK K
        try simp only [Act.put, List.setIfInBounds_toArray, List.set_cons_zero, List.set_cons_succ]
        refine wpAnyH_ready (rs := [10]) (by kernel_rfl) (by simp) ?_
        refine AllReadyH.cons (by simp only [List.getElem?_toArray, List.getElem?_cons_zero, List.getElem?_cons_succ]; rfl) (fun K hK => ?_) AllReadyH.nil
        rw [if_pos (by rfl)]
        refine wp_appendD _ _ rfl w'.heap.size v3 PP rfl HO5.out ⟨w4.heap.size, 0, none⟩ 1 1 [Y] rfl HY5.out (by omega) (by have := HPL.out; omega) HB5.out.size ?_
        intro v7 w7 ho7 hg7 _
        have HB7 : Hid (Below w'.heap.size w' w7) := OwnD.grown HO5.out HB5.out hg7 (Nat.le_refl _) HB5.out.size
        have HO7 : Hid (OwnD w7 w'.heap.size v7 (PP ++ [Y])) := ho7
        refine hK.out _ _ True.intro (fun hHeld => ?_)
        clear HO5 HB5 HY5 hg7 ho7
        clear hK K
        try simp only [Act.put, List.setIfInBounds_toArray, List.set_cons_zero, List.set_cons_succ]
        refine wpAnyH_take (i := 11) (v := ?_) (by simp only [List.getElem?_toArray, List.getElem?_cons_zero, List.getElem?_cons_succ]; rfl) (by kernel_rfl) (by kernel_rfl) (by kernel_rfl) (fun _ _ _ h => h) (Or.inl ⟨by rfl, ?_⟩) hHeld ?_
        rotate_left
        · intro w hSw
          go_simp
          try with_reducible rfl
        try simp only [Act.put, List.setIfInBounds_toArray, List.set_cons_zero, List.set_cons_succ]
        refine wpAnyH_done (by kernel_rfl) (NoPanic.normal ?_) _
        clear hHeld
        go_wp2_with fail
        go_ret
        exact ⟨⟨_, rfl, by rw [HE.out]; exact HO7.out⟩, HB7.out⟩
      · have HE : Hid (pathT ls i = pathT (ls.drop (halfT n)) (i - halfT n) ++ [rootT (ls.take (halfT n))]) := by
          have := pathT_hi (ls := ls) (i := i) h2' (by rw [HLEN.out]; exact hik)
          rw [HLEN.out] at this
          exact this
        have HPL : Hid ((pathT (ls.drop (halfT n)) (i - halfT n)).length ≤ 100000) := by
          unfold Hid
          rw [(fold_path (n - halfT n) (ls.drop (halfT n)) (i - halfT n) (by rw [List.length_drop, HLEN.out]) (by omega)).2]
          have := longT_le (n - halfT n) (i - halfT n)
          omega
        have HCP : Hid (∀ wx, Env wx → DRow wx (some ⟨b, o + halfT n * 32, none⟩) (n - halfT n) (ls.drop (halfT n)) → Calls Tryz.prog 45 #[.slice (some ⟨b, o + halfT n * 32, none⟩) (n - halfT n) (c - halfT n), .int .i64 ((i - halfT n : Nat) : Int)] wx fun e w' => (∃ v, e = .returned v ∧ OwnD w' wx.heap.size v (pathT (ls.drop (halfT n)) (i - halfT n))) ∧ Below wx.heap.size wx w') := fun wx hg hr => HI.out (n - halfT n) (by omega) _ (c - halfT n) (i - halfT n) _ wx hg hr (by omega) (by omega) (by omega) (by omega)
        generalize halfT n = k at *
        generalize rootT (ls.take k) = X at *
        generalize rootT (ls.drop k) = Y at *
        have s1 : (i : Int) - (k : Int) = ((i - k : Nat) : Int) := by omega
        have b1 : i - k ≤ 100000 := by omega
        have HIK : Hid (i - k = i - k) := rfl
        generalize pathT (ls.drop k) (i - k) = PP at *
        generalize i - k = i' at *
        have wi : IntKind.i64.wrap (i' : Int) = (i' : Int) := wrapT i' (by omega)
        have g1 : ¬ (i : Int) < (k : Int) := by omega
        clear HI h2'
        have k0 : (0 : Int) ≤ (k : Int) := by omega
        have k1 : (k : Int) ≤ (n : Int) := by omega
        have k2 : (k : Int) ≤ (c : Int) := by omega
        have n1 : (n : Int) ≤ (c : Int) := by omega
        go_wp2_with fail
        refine wp_region_noPanic ?_
        refine wp_region_held_drew (S := fun _ => True) (by kernel_rfl) True.intro (fun hHeld => ?_)
        try simp only [Act.put, List.setIfInBounds_toArray, List.set_cons_zero, List.set_cons_succ]
        have HBd : Hid (Below w'.heap.size w' w'.drew) := below_drewN w' 1
        generalize w'.drew = wd at *
        refine wpAnyH_take (i := 0) (v := ?_) (by simp only [List.getElem?_toArray, List.getElem?_cons_zero, List.getElem?_cons_succ]; rfl) (by kernel_rfl) (by kernel_rfl) (by kernel_rfl) (fun _ _ _ h => h) (Or.inl ⟨by rfl, ?_⟩) hHeld ?_
        rotate_left
        · intro w hSw
          go_simp
          try with_reducible rfl
        try simp only [Act.put, List.setIfInBounds_toArray, List.set_cons_zero, List.set_cons_succ]
        refine wpAnyH_take (i := 1) (v := ?_) (by simp only [List.getElem?_toArray, List.getElem?_cons_zero, List.getElem?_cons_succ]; rfl) (by kernel_rfl) (by kernel_rfl) (by kernel_rfl) (fun _ _ _ h => h) (Or.inl ⟨by rfl, ?_⟩) hHeld ?_
        rotate_left
        · intro w hSw
          go_simp
          try with_reducible rfl
        try simp only [Act.put, List.setIfInBounds_toArray, List.set_cons_zero, List.set_cons_succ]
        refine wpAnyH_take (i := 2) (v := .slice (some ⟨b, o + k * 32, none⟩) (n - k) (c - k)) (by simp only [List.getElem?_toArray, List.getElem?_cons_zero, List.getElem?_cons_succ]; rfl) (by kernel_rfl) (by kernel_rfl) (by kernel_rfl) (fun _ _ _ h => h) (Or.inl ⟨by rfl, ?_⟩) hHeld ?_
        · intro w hSw
          go_simp
          omega
        try simp only [Act.put, List.setIfInBounds_toArray, List.set_cons_zero, List.set_cons_succ]
        refine wpAnyH_take (i := 3) (v := ?_) (by simp only [List.getElem?_toArray, List.getElem?_cons_zero, List.getElem?_cons_succ]; rfl) (by kernel_rfl) (by kernel_rfl) (by kernel_rfl) (fun _ _ _ h => h) (Or.inl ⟨by rfl, ?_⟩) hHeld ?_
        rotate_left
        · intro w hSw
          go_simp
          try with_reducible rfl
        try simp only [Act.put, List.setIfInBounds_toArray, List.set_cons_zero, List.set_cons_succ]
        refine wpAnyH_take (i := 4) (v := ?_) (by simp only [List.getElem?_toArray, List.getElem?_cons_zero, List.getElem?_cons_succ]; rfl) (by kernel_rfl) (by kernel_rfl) (by kernel_rfl) (fun _ _ _ h => h) (Or.inl ⟨by rfl, ?_⟩) hHeld ?_
        rotate_left
        · intro w hSw
          go_simp
          try with_reducible rfl
        try simp only [Act.put, List.setIfInBounds_toArray, List.set_cons_zero, List.set_cons_succ]
        refine wpAnyH_take (i := 5) (v := .int .i64 (i' : Int)) (by simp only [List.getElem?_toArray, List.getElem?_cons_zero, List.getElem?_cons_succ]; rfl) (by kernel_rfl) (by kernel_rfl) (by kernel_rfl) (fun _ _ _ h => h) (Or.inl ⟨by rfl, ?_⟩) hHeld ?_
        · intro w hSw
          go_simp
        try simp only [Act.put, List.setIfInBounds_toArray, List.set_cons_zero, List.set_cons_succ]
        refine wpAnyH_take (i := 7) (v := ?_) (by simp only [List.getElem?_toArray, List.getElem?_cons_zero, List.getElem?_cons_succ]; rfl) (by kernel_rfl) (by kernel_rfl) (by kernel_rfl) (fun _ _ _ h => h) (Or.inl ⟨by rfl, ?_⟩) hHeld ?_
        rotate_left
        · intro w hSw
          go_simp
          try with_reducible rfl
        try simp only [Act.put, List.setIfInBounds_toArray, List.set_cons_zero, List.set_cons_succ]
        refine wpAnyH_take (i := 8) (v := ?_) (by simp only [List.getElem?_toArray, List.getElem?_cons_zero, List.getElem?_cons_succ]; rfl) (by kernel_rfl) (by kernel_rfl) (by kernel_rfl) (fun _ _ _ h => h) (Or.inl ⟨by rfl, ?_⟩) hHeld ?_
        rotate_left
        · intro w hSw
          go_simp
          try with_reducible rfl
        try simp only [Act.put, List.setIfInBounds_toArray, List.set_cons_zero, List.set_cons_succ]
        refine wpAnyH_take (i := 9) (v := .slice (some ⟨b, o, none⟩) k c) (by simp only [List.getElem?_toArray, List.getElem?_cons_zero, List.getElem?_cons_succ]; rfl) (by kernel_rfl) (by kernel_rfl) (by kernel_rfl) (fun _ _ _ h => h) (Or.inl ⟨by rfl, ?_⟩) hHeld ?_
        · intro w hSw
          go_simp
        try simp only [Act.put, List.setIfInBounds_toArray, List.set_cons_zero, List.set_cons_succ]
        refine wpAnyH_ready (rs := [6]) (by kernel_rfl) (by simp) ?_
        refine AllReadyH.cons (by simp only [List.getElem?_toArray, List.getElem?_cons_zero, List.getElem?_cons_succ]; rfl) (fun K hK => ?_) AllReadyH.nil
        rw [if_pos (by rfl)]
        go_simp
        refine (HCP.out wd (HGE.out _ HBd.out) (HKL.out _ HBd.out).2).mono ?_
        rintro e w3 ⟨⟨v3, rfl, ho3⟩, hb3⟩
        have HB3 : Hid (Below w'.heap.size w' w3) := HBd.out.trans (hb3.mono HBd.out.size)
        have HO3 : Hid (OwnD w3 w'.heap.size v3 PP) := ho3.lower HBd.out.size
        clear hb3 HBd HCP ho3
        go_wp2_with fail
        refine hK.out _ _ True.intro (fun hHeld => ?_)
        clear hK K
        try simp only [Act.put, List.setIfInBounds_toArray, List.set_cons_zero, List.set_cons_succ]
        refine wpAnyH_ready (rs := [10]) (by kernel_rfl) (by simp) ?_
        refine AllReadyH.cons (by simp only [List.getElem?_toArray, List.getElem?_cons_zero, List.getElem?_cons_succ]; rfl) (fun K hK => ?_) AllReadyH.nil
        rw [if_pos (by rfl)]
        go_simp
        refine (HR1.out w3 (HGE.out _ HB3.out) (HKL.out _ HB3.out).1).mono ?_
        rintro e w4 ⟨rfl, hb4⟩
        have HB4 : Hid (Below w'.heap.size w' w4) := HB3.out.trans (hb4.mono HB3.out.size)
        have HO4 : Hid (OwnD w4 w'.heap.size v3 PP) := OwnD.below HO3.out hb4
        clear hb4 HB3 HO3
        go_wp2_with fail
        refine hK.out _ _ True.intro (fun hHeld => ?_)
        clear hK K
        try simp only [Act.put, List.setIfInBounds_toArray, List.set_cons_zero, List.set_cons_succ]
        refine wpAnyH_ready (rs := [11]) (by kernel_rfl) (by simp) ?_
        refine AllReadyH.cons (by simp only [List.getElem?_toArray, List.getElem?_cons_zero, List.getElem?_cons_succ]; rfl) (fun K hK => ?_) AllReadyH.nil
        rw [if_pos (by rfl)]
        refine wp_buildD1 _ rfl X lA rfl ?_
        have hs5 := HB4.out.size
        have HO5 : Hid (OwnD (w4.alloc (.cells (cellsB X).toArray 23)) w'.heap.size v3 PP) := OwnD.alloc HO4.out _
        have HB5 : Hid (Below w'.heap.size w' (w4.alloc (.cells (cellsB X).toArray 23))) := Below.alloc HB4.out hs5 _
        have HY5 : Hid (DRow (w4.alloc (.cells (cellsB X).toArray 23)) (some ⟨w4.heap.size, 0, none⟩) 1 [X]) := DRow.lit1 w4 X _ lA
        refine hK.out _ _ True.intro (fun hHeld => ?_)
        clear HO4 HB4 hs5
        generalize w4.alloc (.cells (cellsB X).toArray 23) = w5 at *
        clear hK K
        try simp only [Act.put, List.setIfInBounds_toArray, List.set_cons_zero, List.set_cons_succ]
        refine wpAnyH_ready (rs := [12]) (by kernel_rfl) (by simp) ?_
        refine AllReadyH.cons (by simp only [List.getElem?_toArray, List.getElem?_cons_zero, List.getElem?_cons_succ]; rfl) (fun K hK => ?_) AllReadyH.nil
        rw [if_pos (by rfl)]
        refine wp_appendD _ _ rfl w'.heap.size v3 PP rfl HO5.out ⟨w4.heap.size, 0, none⟩ 1 1 [X] rfl HY5.out (by omega) (by have := HPL.out; omega) HB5.out.size ?_
        intro v7 w7 ho7 hg7 _
        have HB7 : Hid (Below w'.heap.size w' w7) := OwnD.grown HO5.out HB5.out hg7 (Nat.le_refl _) HB5.out.size
        have HO7 : Hid (OwnD w7 w'.heap.size v7 (PP ++ [X])) := ho7
        refine hK.out _ _ True.intro (fun hHeld => ?_)
        clear HO5 HB5 HY5 hg7 ho7
        clear hK K
        try simp only [Act.put, List.setIfInBounds_toArray, List.set_cons_zero, List.set_cons_succ]
        refine wpAnyH_take (i := 13) (v := ?_) (by simp only [List.getElem?_toArray, List.getElem?_cons_zero, List.getElem?_cons_succ]; rfl) (by kernel_rfl) (by kernel_rfl) (by kernel_rfl) (fun _ _ _ h => h) (Or.inl ⟨by rfl, ?_⟩) hHeld ?_
        rotate_left
        · intro w hSw
          go_simp
          try with_reducible rfl
        try simp only [Act.put, List.setIfInBounds_toArray, List.set_cons_zero, List.set_cons_succ]
        refine wpAnyH_done (by kernel_rfl) (NoPanic.normal ?_) _
        clear hHeld
        go_wp2_with fail
        go_ret
        exact ⟨⟨_, rfl, by rw [HE.out]; exact HO7.out⟩, HB7.out⟩
    · obtain rfl : n = 1 := by omega
      have HE : Hid (pathT ls i = []) := pathT_one (by rw [HLEN.out]; omega)
      go_wp2_with fail
      go_ret
      exact ⟨⟨_, rfl, by rw [HE.out]; exact OwnD.nil _ _⟩, H0.out⟩

set_option maxRecDepth 100000 in
set_option maxHeartbeats 1000000 in
theorem wtree_path (a : Option Addr) (n c i : Nat) (ls : List (List UInt8)) (w : World) (G : Env w) (R : DRow w a n ls) (hc : n ≤ c) (hn : n ≤ 256) (hi : i < n) :
    Calls Tryz.prog 30 #[.slice a n c, .int .i64 (i : Int)] w fun e w' => (∃ a' c', e = .returned (.tuple #[.slice a' (longT i n) c', .nilIface]) ∧ longT i n ≤ c' ∧ DRow w' a' (longT i n) (pathT ls i)) ∧ Below w.heap.size w w' := by
  have HG : Hid (Env w ∧ DRow w a n ls) := ⟨G, R⟩
  have HL : Hid ((pathT ls i).length = longT i n) := (fold_path n ls i R.1 hi).2
  clear G R
  have g1 : ¬ (256 : Int) < (n : Int) := by omega
  have g2 : ¬ (i : Int) < 0 := by omega
  have g3 : ¬ (n : Int) ≤ (i : Int) := by omega
  go_enter Tryz.func30, Tryz.ntmps30
  go_wp2_with fail
  refine (wpathof_any n a c i ls w HG.out.1 HG.out.2 hc (by omega) hn hi).mono ?_
  rintro e w3 ⟨⟨v3, rfl, ho3⟩, hb3⟩
  obtain ⟨a3, c3, rfl, R3, hc3⟩ := OwnD.form ho3
  rw [HL.out] at R3 hc3 ⊢
  have HR3 : Hid (DRow w3 a3 (longT i n) (pathT ls i) ∧ Below w.heap.size w w3) := ⟨R3, hb3⟩
  clear R3 hb3 ho3 HG HL
  generalize hY : longT i n = y at *
  have HY : Hid (longT i n = y) := hY
  clear hY
  go_wp2_with fail
  go_ret2
  rw [HY.out]
  exact ⟨⟨_, _, rfl, hc3, HR3.out.1⟩, HR3.out.2⟩
set_option maxRecDepth 100000 in
set_option maxHeartbeats 1000000 in
theorem wtree_pathfull (a : Option Addr) (n c : Nat) (i : Int) (ls : List (List UInt8)) (w : World) (G : Env w) (R : DRow w a n ls) (hc : n ≤ c) (hn : 256 < n) (hn2 : 32 * n ≤ 140737488351232) (hi1 : -9223372036854775808 ≤ i) (hi2 : i ≤ 9223372036854775807) :
    Calls Tryz.prog 30 #[.slice a n c, .int .i64 i] w fun e w' => (∃ a' c', e = .returned (.tuple #[.slice a' 0 c', .iface 27 (.int .i64 4)])) ∧ Below w.heap.size w w' := by
  clear G R
  have g1 : (256 : Int) < (n : Int) := by omega
  go_enter Tryz.func30, Tryz.ntmps30
  go_wp2_with fail
  go_ret2
  exact ⟨⟨_, _, rfl⟩, Below.refl _ _⟩
set_option maxRecDepth 100000 in
set_option maxHeartbeats 1000000 in
theorem wtree_pathout (a : Option Addr) (n c : Nat) (i : Int) (ls : List (List UInt8)) (w : World) (G : Env w) (R : DRow w a n ls) (hc : n ≤ c) (hn : n ≤ 256) (hi : i < 0 ∨ (n : Int) ≤ i) (hi1 : -9223372036854775808 ≤ i) (hi2 : i ≤ 9223372036854775807) :
    Calls Tryz.prog 30 #[.slice a n c, .int .i64 i] w fun e w' => (∃ a' c', e = .returned (.tuple #[.slice a' 0 c', .iface 27 (.int .i64 2)])) ∧ Below w.heap.size w w' := by
  clear G R
  have g1 : ¬ (256 : Int) < (n : Int) := by omega
  by_cases g2 : i < 0
  · clear hi
    go_enter Tryz.func30, Tryz.ntmps30
    go_wp2_with fail
    go_ret2
    exact ⟨⟨_, _, rfl⟩, Below.refl _ _⟩
  · have g3 : (n : Int) ≤ i := by omega
    clear hi
    go_enter Tryz.func30, Tryz.ntmps30
    go_wp2_with fail
    go_ret2
    exact ⟨⟨_, _, rfl⟩, Below.refl _ _⟩
end Go.Proofs.YtdgaimlccpmojaaGreatDoor
/- A region in a round of a range over a function: as anywhere, under the wide fence. -/
namespace Go.Proofs.YtdgaimlccpmojaaGreatDoor
open Go.RowKit
set_option linter.unusedVariables false
set_option linter.unusedSimpArgs false

theorem rows_wide {P : Program} {row : String} {args : Array Value} {w : World} {R : Value → World → Prop} (l n : Nat) (h : Rows P row args w R) : RowsIn (Fence.wide.inRound l) n P row args w R :=
  fun c cs _ => let ⟨v, w', r, s⟩ := h c cs; ⟨v, w', r, stepsIn_wide.2 s⟩
theorem uponIn_round_wide {P : Program} {o : Oper} {a : Act} {K K' : Act → World → Prop} {Q : Exit → Act → World → Prop} (l n : Nat) (hK : ∀ a w, K a w → K' a w) (r : Result Next) (h : o.upon P a K Q r) :
    o.uponIn (Fence.wide.inRound l) n P a K' Q r := by
  unfold Oper.upon at h
  unfold Oper.uponIn
  split at h
  · exact hK _ _ h
  · exact hK _ _ h
  · exact hK _ _ h
  · refine ⟨fun hd => (by cases hd), CallsIn.inRound l (callsIn_wide.2 (h.mono ?_))⟩
    intro e w' he
    cases e with
    | returned v => exact hK _ _ he
    | panicked c => exact he
    | outgrown => exact he
  · exact ⟨fun hd => (by cases hd), rows_wide l _ (h.mono fun v w' hv => hK _ _ hv)⟩
  · exact h
  · exact h.elim
/-- No statement in it is a 'defer'. -/
def noDefer (ops : Array Oper) : Bool := ops.toList.all fun o => match o.op with | .defer _ => false | _ => true
theorem noDefer_spec {ops : Array Oper} (h : noDefer ops = true) {i : Nat} {o : Oper} (ho : ops[i]? = some o) : ∀ c, o.op ≠ .defer c := by
  intro c hc
  have hm : o ∈ ops.toList := by
    have := (Array.getElem?_eq_some_iff.1 ho).2
    have hi := (Array.getElem?_eq_some_iff.1 ho).1
    rw [← this]
    exact Array.mem_toList_iff.2 (Array.getElem_mem hi)
  have := List.all_eq_true.1 h o hm
  rw [hc] at this
  cases this
theorem wpOps_round {P : Program} {ops : Array Oper} {Q : Exit → Act → World → Prop} (l n : Nat) (hd : noDefer ops = true) (hQ : ¬ LetsOut Q) :
    ∀ (js : List Nat) (a : Act) (w : World), wpOps P ops Q js a w → wpOpsIn (Fence.wide.inRound l) n P ops Q js a w
  | [], _, _, h => h
  | i :: rest, a, w, h => by
    have ih := wpOps_round (P := P) l n hd hQ rest
    unfold wpOps at h
    unfold wpOpsIn
    cases ho : ops[i]? with
    | none =>
      rw [ho] at h
      exact ih a w h
    | some o =>
      rw [ho] at h
      simp only at h ⊢
      by_cases hw : Region.wanted o (yielded ops a.tmps) = true
      · rw [if_pos hw] at h ⊢
        rcases h with h | ⟨_, h⟩
        · refine ⟨fun _ _ => trivial, ?_⟩
          rw [Oper.semAt_eq _ _ _ (noDefer_spec hd ho)]
          exact uponIn_round_wide l n ih _ h
        · exact absurd h hQ
      · rw [if_neg hw] at h ⊢
        exact ⟨fun _ _ => trivial, ih _ _ h⟩
theorem wpIn_round_list {P : Program} {ops : Array Oper} {Q : Exit → Act → World → Prop} {id : Nat} {a : Act} {w : World} (l n : Nat) (hd : noDefer ops = true) (hQ : ¬ LetsOut Q) (h : wpList P ops Q ops.toList a w) :
    (Code.region id ops false).wpIn (Fence.wide.inRound l) n P Q a w := by
  refine wpIn_region (wpOps_round l n hd hQ _ _ _ ?_)
  rw [List.range_eq_range', show ops.size = ops.toList.length from rfl, wpOps_eq_wpList ops.toList 0 (by simp)]
  exact h
theorem wpIn_round_held {P : Program} {ops : Array Oper} {Q : Exit → Act → World → Prop} {S : World → Prop} {id : Nat} {a : Act} {w : World} (l n : Nat) (hm : P.follows .mixedOrders = true) (hd : noDefer ops = true) (hQ : ¬ LetsOut Q)
    (h : wpAnyH P .any ops Q S ops.size (Array.replicate ops.size false) a { w with drawn := w.drawn + 1 }) : (Code.region id ops true).wpIn (Fence.wide.inRound l) n P Q a w :=
  wpIn_region_draw fun t => by
    refine wpOps_round l n hd hQ _ _ _ ?_
    simp only [Region.schedule, hm, Bool.true_or, if_true]
    exact wpAny_sound ops.size t _ a _ (wpAny_of_held _ _ _ _ h)
end Go.Proofs.YtdgaimlccpmojaaGreatDoor
/- A region that draws its order, and whose last operation (it waits for all others) writes what was loaded: a condition on the world that holds behind each operation but the last. No theorem of the program. -/
namespace Go.Proofs.YtdgaimlccpmojaaGreatDoor
open Go.RowKit
set_option linter.unusedVariables false
set_option linter.unusedSimpArgs false
section
variable {P : Program} {ops : Array Oper} {Q : Exit → Act → World → Prop} {md : Region.Mode} {S : World → Prop} {last : Nat}

def wpAnyT (P : Program) (md : Region.Mode) (ops : Array Oper) (Q : Exit → Act → World → Prop) (S : World → Prop) (last : Nat) : Nat → Array Bool → Act → World → Prop
  | 0, listed, a, w => Region.ready md ops listed = [] ∧ Q .normal a w
  | fuel + 1, listed, a, w =>
    (Region.ready md ops listed = [] → Q .normal a w) ∧
    ∀ i ∈ Region.ready md ops listed, wpOp P ops Q i (fun a' w' => (i ≠ last → S w') ∧ wpAnyT P md ops Q S last fuel (listed.setIfInBounds i true) a' w') a w
theorem wpAny_of_till : ∀ (fuel : Nat) (listed : Array Bool) (a : Act) (w : World), wpAnyT P md ops Q S last fuel listed a w → wpAny P md ops Q fuel listed a w
  | 0, _, _, _, h => h
  | fuel + 1, _, _, _, h => ⟨h.1, fun i hi => wpOp_mono (fun a' w' h' => wpAny_of_till fuel _ a' w' h'.2) (h.2 i hi)⟩
/-- The last one waits for i. -/
def lastWaits (md : Region.Mode) (ops : Array Oper) (last i : Nat) : Bool := match ops[last]? with
  | none => false
  | some o => o.after.toList.any fun e => Region.binds md e && e.on == i
theorem lastWaits_spec {i : Nat} {listed : Array Bool} (h : lastWaits md ops last i = true) (hi : listed.getD i true = false) : last ∉ Region.ready md ops listed := by
  intro hl
  obtain ⟨_, o, ho, hall⟩ := mem_ready.1 hl
  unfold lastWaits at h
  rw [ho] at h
  obtain ⟨e, he, hb⟩ := List.any_eq_true.1 h
  simp only [Bool.and_eq_true, beq_iff_eq] at hb
  have := hall e (Array.mem_toList_iff.1 he) hb.1
  rw [hb.2] at this
  rcases Nat.lt_or_ge i listed.size with h' | h'
  · simp [h'] at hi this; rw [hi] at this; cases this
  · simp [Array.getElem?_eq_none h'] at this
theorem wpAnyT_first {i : Nat} {oi : Oper} {v : Value} (hi : ops[i]? = some oi) (hsel : ∀ (j : Nat) (o : Oper) cs b, ops[j]? = some o → o.op ≠ .select cs b)
    (hQ : ∀ c a w, Q (.panic c) (a.put oi.dst v) w → Q (.panic c) a w) (hw8 : lastWaits md ops last i = true) :
    ∀ (fuel : Nat) (listed : Array Bool) (a : Act) (w : World),
      (∀ j oj, ops[j]? = some oj → j ≠ i → listed.getD j true = false → (∀ e ∈ oj.after, Region.binds md e = true → e.on ≠ i) → oi.apart ops oj = true) →
      i ∈ Region.ready md ops listed → YieldsIf P ops S oi v a → S w →
      wpAnyT P md ops Q S last fuel (listed.setIfInBounds i true) (a.put oi.dst v) w → wpAnyT P md ops Q S last (fuel + 1) listed a w := by
  intro fuel
  induction fuel with
  | zero =>
    intro listed a w _ hr hy hS H
    refine ⟨fun h => (by rw [h] at hr; cases hr), fun j hj => ?_⟩
    by_cases hji : j = i
    · subst hji; exact hy.wpOp hi hS ⟨fun _ => hS, H⟩
    · have := ready_mono hj hji
      rw [H.1] at this
      cases this
  | succ fuel ih =>
    intro listed a w hfree hr hy hS H
    refine ⟨fun h => (by rw [h] at hr; cases hr), fun j hj => ?_⟩
    by_cases hji : j = i
    · subst hji; exact hy.wpOp hi hS ⟨fun _ => hS, H⟩
    · have hjl : j ≠ last := fun e => lastWaits_spec hw8 (mem_ready.1 hr).1 (e ▸ hj)
      have h1 := H.2 j (ready_mono hj hji)
      obtain ⟨hjun, oj, hoj, hall⟩ := mem_ready.1 hj
      have hnot : ∀ e ∈ oj.after, Region.binds md e = true → e.on ≠ i := fun e he hb heq => by
        have h1 := hall e he hb
        have h0 := (mem_ready.1 hr).1
        rw [heq] at h1
        rcases Nat.lt_or_ge i listed.size with h' | h'
        · simp [h'] at h0 h1; rw [h0] at h1; cases h1
        · simp [Array.getElem?_eq_none h'] at h1
      have h2 := wpOp_putIf hoj (hfree j oj hoj hji hjun hnot) (fun cs b => hsel i oi cs b hi) (fun cs b => hsel j oj cs b hoj) hQ hy h1
      have hfree' : ∀ k ok, ops[k]? = some ok → k ≠ i → (listed.setIfInBounds j true).getD k true = false →
          (∀ e ∈ ok.after, Region.binds md e = true → e.on ≠ i) → oi.apart ops ok = true := fun k ok hk hki hun hno => by
        refine hfree k ok hk hki ?_ hno
        by_cases hjk : j = k
        · subst hjk; exact hjun
        · rw [getD_set_ne true hjk] at hun; exact hun
      refine wpOp_mono (fun a' w' h3 => ⟨h3.2.1, ih (listed.setIfInBounds j true) a' w' hfree' (ready_mono hr (Ne.symm hji)) h3.1 (h3.2.1 hjl) ?_⟩) h2
      rw [Array.setIfInBounds_comm _ _ hji]
      exact h3.2.2
theorem wpAnyT_take {i : Nat} {oi : Oper} {v : Value} {fuel : Nat} {listed : Array Bool} {a : Act} {w : World} (hi : ops[i]? = some oi)
    (hs : Region.noSelect ops = true) (hf : Region.free md ops listed i = true) (hr : (Region.ready md ops listed).contains i = true) (hw8 : lastWaits md ops last i = true)
    (hQ : ∀ c a w, Q (.panic c) (a.put oi.dst v) w → Q (.panic c) a w) (hy : YieldsIf P ops S oi v a) (hS : S w)
    (h : wpAnyT P md ops Q S last fuel (listed.setIfInBounds i true) (a.put oi.dst v) w) : wpAnyT P md ops Q S last (fuel + 1) listed a w :=
  wpAnyT_first hi (Region.noSelect_spec hs) hQ hw8 fuel listed a w (Region.free_spec hi hf) (by simpa using hr) hy hS h
def AllReadyT (P : Program) (md : Region.Mode) (ops : Array Oper) (Q : Exit → Act → World → Prop) (S : World → Prop) (last : Nat) (fuel : Nat) (listed : Array Bool) (a : Act) (w : World) (rs : List Nat) : Prop :=
  ∀ i ∈ rs, wpOp P ops Q i (fun a' w' => (i ≠ last → S w') ∧ wpAnyT P md ops Q S last fuel (listed.setIfInBounds i true) a' w') a w
theorem AllReadyT.nil {fuel : Nat} {listed : Array Bool} {a : Act} {w : World} : AllReadyT P md ops Q S last fuel listed a w [] := fun _ h => by cases h
theorem AllReadyT.cons {fuel : Nat} {listed : Array Bool} {a : Act} {w : World} {i : Nat} {o : Oper} {rs : List Nat} (ho : ops[i]? = some o)
    (h : ∀ K' : Act → World → Prop, Shut (∀ a w, S w → (S w → wpAnyT P md ops Q S last fuel (listed.setIfInBounds i true) a w) → K' a w) → if Region.wanted o (yielded ops a.tmps) = true then Oper.wp P o a w K' Q else K' (a.put o.dst undef) w)
    (hs : AllReadyT P md ops Q S last fuel listed a w rs) : AllReadyT P md ops Q S last fuel listed a w (i :: rs) := fun j hj => by
  rcases List.mem_cons.1 hj with rfl | hj
  · exact wpOp_step ho (fun K' hK => h K' (fun a w hS hW => hK a w ⟨fun _ => hS, hW hS⟩))
  · exact hs j hj
/-- The last one: behind it nothing is asked of the world. -/
theorem AllReadyT.lastly {fuel : Nat} {listed : Array Bool} {a : Act} {w : World} {i : Nat} {o : Oper} {rs : List Nat} (ho : ops[i]? = some o) (hl : last = i)
    (h : ∀ K' : Act → World → Prop, Shut (∀ a w, wpAnyT P md ops Q S last fuel (listed.setIfInBounds i true) a w → K' a w) → if Region.wanted o (yielded ops a.tmps) = true then Oper.wp P o a w K' Q else K' (a.put o.dst undef) w)
    (hs : AllReadyT P md ops Q S last fuel listed a w rs) : AllReadyT P md ops Q S last fuel listed a w (i :: rs) := fun j hj => by
  rcases List.mem_cons.1 hj with rfl | hj
  · exact wpOp_step ho (fun K' hK => h K' (fun a w hW => hK a w ⟨fun hn => absurd hl.symm hn, hW⟩))
  · exact hs j hj
theorem wpAnyT_ready {rs : List Nat} {fuel : Nat} {listed : Array Bool} {a : Act} {w : World} (hr : Region.ready md ops listed = rs) (hne : rs ≠ [])
    (h : AllReadyT P md ops Q S last fuel listed a w rs) : wpAnyT P md ops Q S last (fuel + 1) listed a w := ⟨fun h0 => absurd (hr ▸ h0) hne, hr ▸ h⟩
theorem wpAnyT_done {listed : Array Bool} {a : Act} {w : World} (hr : Region.ready md ops listed = []) (h : Q .normal a w) :
    ∀ fuel, wpAnyT P md ops Q S last fuel listed a w
  | 0 => ⟨hr, h⟩
  | _ + 1 => ⟨fun _ => h, by rw [hr]; simp⟩
theorem wp_region_till {id : Nat} {a : Act} {w : World} (last : Nat) (hm : P.follows .mixedOrders = true) (hS : S w.drew)
    (h : S w.drew → wpAnyT P .any ops Q S last ops.size (Array.replicate ops.size false) a w.drew) : (Code.region id ops true).wp P Q a w :=
  wp_region_any hm (wpAny_of_till _ _ _ _ (h hS))
theorem wpIn_round_till {id : Nat} {a : Act} {w : World} (last : Nat) (l n : Nat) (hm : P.follows .mixedOrders = true) (hd : noDefer ops = true) (hQ : ¬ LetsOut Q) (hS : S w.drew)
    (h : S w.drew → wpAnyT P .any ops Q S last ops.size (Array.replicate ops.size false) a w.drew) : (Code.region id ops true).wpIn (Fence.wide.inRound l) n P Q a w :=
  wpIn_region_draw fun t => by
    refine wpOps_round l n hd hQ _ _ _ ?_
    simp only [Region.schedule, hm, Bool.true_or, if_true]
    exact wpAny_sound ops.size t _ a _ (wpAny_of_till _ _ _ _ (h hS))
end
end Go.Proofs.YtdgaimlccpmojaaGreatDoor
/- The contracts of stamp.Stamp's Left and Sign. -/
namespace Go.Proofs.YtdgaimlccpmojaaGreatDoor
open Go.RowKit
set_option linter.unusedVariables false
set_option linter.unusedSimpArgs false

set_option maxRecDepth 100000 in
set_option maxHeartbeats 1000000 in
theorem wstamp_left (g : Nat) (seed : List UInt8) (h i : Nat) (w : World) (G : Env w) (H : Stm w g seed h i) :
    Calls Tryz.prog 12 #[.pointer (some ⟨g, 0, none⟩)] w fun e w' => e = .returned (.int .i64 ((2 ^ h - i : Nat) : Int)) ∧ Below w.heap.size w w' := by
  have hgb := H.block
  obtain ⟨lb, c, h1, h2, _, _, h5, _, h7, _⟩ := H
  have hn16 := (Stm.pow h1).2
  obtain ⟨n, hn⟩ : ∃ n, 2 ^ h = n := ⟨_, rfl⟩
  have HN : Hid (2 ^ h = n) := hn
  rw [hn] at h2 h5 hn16
  clear hn G
  have hb : Below w.heap.size w w.drew := below_drewN w 1
  have HC : Hid (w.drew.cell? ⟨g, 32, none⟩ = some (.slice (some ⟨lb, 0, none⟩) n c) ∧ w.drew.cell? ⟨g, 33, none⟩ = some (.int .i64 (i : Int))) := ⟨(hb.cell (p := ⟨g, 32, none⟩) hgb).trans h5, (hb.cell (p := ⟨g, 33, none⟩) hgb).trans h7⟩
  have HB : Hid (Below w.heap.size w w.drew) := hb
  clear h5 h7 hb hgb
  have kw : IntKind.i64.wrap ((n : Int) - (i : Int)) = ((n - i : Nat) : Int) := by rw [IntKind.wrap_i64]; omega
  go_enter Tryz.func12, Tryz.ntmps12
  go_upto_region 1 with fail
  refine wp_region_noPanic ?_
  refine wp_region_held_drew (S := fun wx => wx.cell? ⟨g, 32, none⟩ = some (.slice (some ⟨lb, 0, none⟩) n c) ∧ wx.cell? ⟨g, 33, none⟩ = some (.int .i64 (i : Int))) (by kernel_rfl) HC.out (fun hHeld => ?_)
  try simp only [Act.put, List.setIfInBounds_toArray, List.set_cons_zero, List.set_cons_succ]
  generalize w.drew = wd at *
  refine wpAnyH_take (i := 0) (v := ?_) (by simp only [List.getElem?_toArray, List.getElem?_cons_zero, List.getElem?_cons_succ]; rfl) (by kernel_rfl) (by kernel_rfl) (by kernel_rfl) (fun _ _ _ h => h) (Or.inl ⟨by rfl, ?_⟩) hHeld ?_
  rotate_left
  · intro w hSw
    obtain ⟨hSw0, hSw1⟩ := hSw
    go_simp
    try with_reducible rfl
  try simp only [Act.put, List.setIfInBounds_toArray, List.set_cons_zero, List.set_cons_succ]
  refine wpAnyH_take (i := 1) (v := ?_) (by simp only [List.getElem?_toArray, List.getElem?_cons_zero, List.getElem?_cons_succ]; rfl) (by kernel_rfl) (by kernel_rfl) (by kernel_rfl) (fun _ _ _ h => h) (Or.inl ⟨by rfl, ?_⟩) hHeld ?_
  rotate_left
  · intro w hSw
    obtain ⟨hSw0, hSw1⟩ := hSw
    go_simp
    try with_reducible rfl
  try simp only [Act.put, List.setIfInBounds_toArray, List.set_cons_zero, List.set_cons_succ]
  refine wpAnyH_take (i := 2) (v := ?_) (by simp only [List.getElem?_toArray, List.getElem?_cons_zero, List.getElem?_cons_succ]; rfl) (by kernel_rfl) (by kernel_rfl) (by kernel_rfl) (fun _ _ _ h => h) (Or.inl ⟨by rfl, ?_⟩) hHeld ?_
  rotate_left
  · intro w hSw
    obtain ⟨hSw0, hSw1⟩ := hSw
    go_simp
    try with_reducible rfl
  try simp only [Act.put, List.setIfInBounds_toArray, List.set_cons_zero, List.set_cons_succ]
  refine wpAnyH_take (i := 3) (v := ?_) (by simp only [List.getElem?_toArray, List.getElem?_cons_zero, List.getElem?_cons_succ]; rfl) (by kernel_rfl) (by kernel_rfl) (by kernel_rfl) (fun _ _ _ h => h) (Or.inl ⟨by rfl, ?_⟩) hHeld ?_
  rotate_left
  · intro w hSw
    obtain ⟨hSw0, hSw1⟩ := hSw
    go_simp
    try with_reducible rfl
  try simp only [Act.put, List.setIfInBounds_toArray, List.set_cons_zero, List.set_cons_succ]
  refine wpAnyH_take (i := 4) (v := ?_) (by simp only [List.getElem?_toArray, List.getElem?_cons_zero, List.getElem?_cons_succ]; rfl) (by kernel_rfl) (by kernel_rfl) (by kernel_rfl) (fun _ _ _ h => h) (Or.inl ⟨by rfl, ?_⟩) hHeld ?_
  rotate_left
  · intro w hSw
    obtain ⟨hSw0, hSw1⟩ := hSw
    go_simp
    try with_reducible rfl
  try simp only [Act.put, List.setIfInBounds_toArray, List.set_cons_zero, List.set_cons_succ]
  refine wpAnyH_take (i := 5) (v := ?_) (by simp only [List.getElem?_toArray, List.getElem?_cons_zero, List.getElem?_cons_succ]; rfl) (by kernel_rfl) (by kernel_rfl) (by kernel_rfl) (fun _ _ _ h => h) (Or.inl ⟨by rfl, ?_⟩) hHeld ?_
  rotate_left
  · intro w hSw
    obtain ⟨hSw0, hSw1⟩ := hSw
    go_simp
    try with_reducible rfl
  try simp only [Act.put, List.setIfInBounds_toArray, List.set_cons_zero, List.set_cons_succ]
  refine wpAnyH_take (i := 6) (v := ?_) (by simp only [List.getElem?_toArray, List.getElem?_cons_zero, List.getElem?_cons_succ]; rfl) (by kernel_rfl) (by kernel_rfl) (by kernel_rfl) (fun _ _ _ h => h) (Or.inl ⟨by rfl, ?_⟩) hHeld ?_
  rotate_left
  · intro w hSw
    obtain ⟨hSw0, hSw1⟩ := hSw
    go_simp
    try with_reducible rfl
  try simp only [Act.put, List.setIfInBounds_toArray, List.set_cons_zero, List.set_cons_succ]
  refine wpAnyH_take (i := 7) (v := ?_) (by simp only [List.getElem?_toArray, List.getElem?_cons_zero, List.getElem?_cons_succ]; rfl) (by kernel_rfl) (by kernel_rfl) (by kernel_rfl) (fun _ _ _ h => h) (Or.inl ⟨by rfl, ?_⟩) hHeld ?_
  rotate_left
  · intro w hSw
    obtain ⟨hSw0, hSw1⟩ := hSw
    go_simp
    try with_reducible rfl
  try simp only [Act.put, List.setIfInBounds_toArray, List.set_cons_zero, List.set_cons_succ]
  refine wpAnyH_take (i := 8) (v := ?_) (by simp only [List.getElem?_toArray, List.getElem?_cons_zero, List.getElem?_cons_succ]; rfl) (by kernel_rfl) (by kernel_rfl) (by kernel_rfl) (fun _ _ _ h => h) (Or.inl ⟨by rfl, ?_⟩) hHeld ?_
  rotate_left
  · intro w hSw
    obtain ⟨hSw0, hSw1⟩ := hSw
    go_simp
    try with_reducible rfl
  try simp only [Act.put, List.setIfInBounds_toArray, List.set_cons_zero, List.set_cons_succ]
  refine wpAnyH_take (i := 9) (v := .int .i64 ((n - i : Nat) : Int)) (by simp only [List.getElem?_toArray, List.getElem?_cons_zero, List.getElem?_cons_succ]; rfl) (by kernel_rfl) (by kernel_rfl) (by kernel_rfl) (fun _ _ _ h => h) (Or.inl ⟨by rfl, ?_⟩) hHeld ?_
  · intro w hSw
    obtain ⟨hSw0, hSw1⟩ := hSw
    go_simp
  try simp only [Act.put, List.setIfInBounds_toArray, List.set_cons_zero, List.set_cons_succ]
  refine wpAnyH_take (i := 10) (v := ?_) (by simp only [List.getElem?_toArray, List.getElem?_cons_zero, List.getElem?_cons_succ]; rfl) (by kernel_rfl) (by kernel_rfl) (by kernel_rfl) (fun _ _ _ h => h) (Or.inl ⟨by rfl, ?_⟩) hHeld ?_
  rotate_left
  · intro w hSw
    obtain ⟨hSw0, hSw1⟩ := hSw
    go_simp
    try with_reducible rfl
  try simp only [Act.put, List.setIfInBounds_toArray, List.set_cons_zero, List.set_cons_succ]
  refine wpAnyH_done (by kernel_rfl) (NoPanic.normal ?_) _
  go_wp2_with fail
  go_ret
  exact ⟨by rw [HN.out]; rfl, HB.out⟩
set_option maxRecDepth 100000 in
set_option maxHeartbeats 1000000 in
theorem wstamp_spent (g : Nat) (seed m : List UInt8) (h : Nat) (w : World) (G : Env w) (H : Stm w g seed h (2 ^ h)) (hm : m.length = 32) :
    Calls Tryz.prog 13 #[.pointer (some ⟨g, 0, none⟩), digestV m] w fun e w' => (∃ a1 c1 a2 c2, e = .returned (.tuple #[sigV 0 a1 0 c1 a2 0 c2, .iface 27 (.int .i64 6)]) ∧ Stm w' g seed h (2 ^ h)) ∧ w.grownBy w' (some g) := by
  obtain ⟨i, hi⟩ : ∃ i, 2 ^ h = i := ⟨_, rfl⟩
  rw [hi] at H
  obtain ⟨w2, hw2⟩ : ∃ w2, (w.alloc (.cells (cellsB m).toArray 23)).alloc (.cells #[.int .i64 0, .slice none 0 0, .slice none 0 0] 26) = w2 := ⟨_, rfl⟩
  have hs1 : (w.alloc (.cells (cellsB m).toArray 23)).heap.size = w.heap.size + 1 := by simp
  have HS2 : Hid (w2.heap.size = w.heap.size + 1 + 1) := by unfold Hid; rw [← hw2]; simp
  have HB2 : Hid (Below w.heap.size w w2) := by rw [← hw2]; exact ((Below.refl _ _).alloc (Nat.le_refl _) _).alloc (by simp) _
  have HM2 : Hid (DAt w2 w.heap.size 0 m) := by rw [← hw2]; exact World.rangeAt_alloc (box_dat w m _) _
  have HT2 : Hid (w2.there (w.heap.size + 1) 0 3) := by rw [← hw2]; exact alloc_thereAt _ _ _ 3 _ hs1 rfl
  have HI2 : Hid (Stm w2 g seed h i) := H.below HB2.out
  have HG2 : Hid (Env w2) := G.below HB2.out
  have HGB : Hid (g < w.heap.size) := H.block
  have H0 : Hid (Stm w g seed h i) := H
  clear H G
  go_enter Tryz.func13, Tryz.ntmps13
  go_wp2_with (refine wpList_allocE (by rfl) 26 (by rfl) #[.int .i64 0, .slice none 0 0, .slice none 0 0] Tryz.zeroSg (w.heap.size + 1) hs1 w2 hw2 ?_)
  clear hw2 hs1
  refine (wstamp_left g seed h i w2 HG2.out HI2.out).mono ?_
  rintro e w3 ⟨rfl, hb3⟩
  rw [hi, Nat.sub_self]
  have HB3 : Hid (Below w2.heap.size w2 w3) := hb3
  have HT3 : Hid (w3.there (w.heap.size + 1) 0 3) := there_below HT2.out hb3 (by have := HS2.out; omega)
  have HF : Hid (Stm (w3.setCells (w.heap.size + 1) 0 #[.int .i64 0, .slice none 0 0, .slice none 0 0].toList) g seed h i ∧ w.grownBy (w3.setCells (w.heap.size + 1) 0 #[.int .i64 0, .slice none 0 0, .slice none 0 0].toList) (some g)) := by
    have hb : Below w2.heap.size w2 w3 := hb3
    have b1 : Below w.heap.size w (w3.setCells (w.heap.size + 1) 0 #[.int .i64 0, .slice none 0 0, .slice none 0 0].toList) := below_setCells _ (by omega) _ _ _ (HB2.out.trans (hb.mono (by have := HS2.out; omega)))
    exact ⟨H0.out.below b1, gr_below b1 _⟩
  have HH : Hid (2 ^ h = i) := hi
  clear hb3 hi
  go_wp2_with (first
    | (refine wpList_buildC (by rfl) 26 #[] (by rfl) #[.int .i64 0, .slice none 0 0, .slice none 0 0] (by kernel_rfl) ?_)
    | (refine wpList_store_mid (by rfl) 26 (.tmp 4) (.tmp 12) (by rfl) (w.heap.size + 1) 0 #[.int .i64 0, .slice none 0 0, .slice none 0 0] (by rfl) (by rfl) HT3.out Tryz.sizeSg (sig_one _ _ _ _ _ _ _) ?_))
  refine bodyPost_ret (v := .tuple #[.agg #[.int .i64 0, .slice none 0 0, .slice none 0 0], .iface 27 (.int .i64 6)]) (run_results_row2 Tryz.results13 _ _ (w.heap.size + 1) 0 (by rfl) _ (by rfl) (#[.int .i64 0, .slice none 0 0, .slice none 0 0] : Array Value).toList (World.rangeAt_setCells_same _ _ _ _ HT3.out) _ Tryz.underlying26 (by rfl) Tryz.sizeSg) rfl ⟨⟨_, _, _, _, rfl, ?_⟩, HF.out.2⟩
  rw [HH.out]
  exact HF.out.1
set_option maxRecDepth 100000 in
set_option maxHeartbeats 1000000 in
theorem wtree_path_new (a : Option Addr) (n c i : Nat) (ls : List (List UInt8)) (w : World) (G : Env w) (R : DRow w a n ls) (hc : n ≤ c) (hn : n ≤ 256) (hi : i < n) :
    Calls Tryz.prog 30 #[.slice a n c, .int .i64 (i : Int)] w fun e w' => (∃ a' c', e = .returned (.tuple #[.slice a' (longT i n) c', .nilIface]) ∧ longT i n ≤ c' ∧ OwnD w' w.heap.size (.slice a' (longT i n) c') (pathT ls i)) ∧ Below w.heap.size w w' := by
  have HG : Hid (Env w ∧ DRow w a n ls) := ⟨G, R⟩
  have HL : Hid ((pathT ls i).length = longT i n) := (fold_path n ls i R.1 hi).2
  clear G R
  have g1 : ¬ (256 : Int) < (n : Int) := by omega
  have g2 : ¬ (i : Int) < 0 := by omega
  have g3 : ¬ (n : Int) ≤ (i : Int) := by omega
  go_enter Tryz.func30, Tryz.ntmps30
  go_wp2_with fail
  refine (wpathof_any n a c i ls w HG.out.1 HG.out.2 hc (by omega) hn hi).mono ?_
  rintro e w3 ⟨⟨v3, rfl, ho3⟩, hb3⟩
  obtain ⟨a3, c3, rfl, R3, hc3⟩ := OwnD.form ho3
  rw [HL.out] at R3 hc3 ho3 ⊢
  have HR3 : Hid (OwnD w3 w.heap.size (.slice a3 (longT i n) c3) (pathT ls i) ∧ Below w.heap.size w w3) := ⟨ho3, hb3⟩
  clear R3 hb3 ho3 HG HL
  generalize hY : longT i n = y at *
  have HY : Hid (longT i n = y) := hY
  clear hY
  go_wp2_with fail
  go_ret2
  rw [HY.out]
  exact ⟨⟨_, _, rfl, hc3, HR3.out.1⟩, HR3.out.2⟩
theorem OwnD.grs {w w' : World} {B g : Nat} {v : Value} {ls : List (List UInt8)} (h : OwnD w B v ls) (hg : w.grownBy w' (some g)) (hne : g < B) : OwnD w' B v ls := by
  refine ⟨h.1, ?_⟩
  have h := h.2
  rcases h.2 with ⟨h1, h0⟩ | ⟨gg, cap, cur, e1, e2, e3, e4⟩
  · exact ⟨h.1, .inl ⟨h1, h0⟩⟩
  · have hgl := World.ownsRow.lt h gg (by rw [e1]; rfl)
    exact ⟨h.1, .inr ⟨gg, cap, cur, e1, e2, (hg.block gg hgl.2 (by intro e; have := Option.some.inj e; omega)).trans e3, e4⟩⟩
theorem OwnD.row {w : World} {B n c : Nat} {a : Option Addr} {ls : List (List UInt8)} (h : OwnD w B (.slice a n c) ls) : DRow w a n ls := by
  obtain ⟨a', c', e, R, _⟩ := h.form
  cases e
  exact R
theorem grs_new {w w' : World} {g b : Nat} {vs : List Value} {o : Nat} (h1 : w.grownBy w' (some g)) (hb : w.heap.size ≤ b) : w.grownBy (w'.setCells b o vs) (some g) := by
  have h2 : Below w.heap.size w' (w'.setCells b o vs) := below_setCells _ hb _ _ _ (Below.refl _ _)
  exact ⟨h2.os.trans h1.os, h2.tape.trans h1.tape, h2.output.trans h1.output, Nat.le_trans h1.size h2.size, fun i hi hne => (h2.block i hi).trans (h1.block i hi hne)⟩
set_option maxRecDepth 100000 in
set_option maxHeartbeats 1000000 in
theorem wstamp_signk (g : Nat) (seed m : List UInt8) (h i : Nat) (w : World) (G : Env w) (H : Stm w g seed h i) (hm : m.length = 32) (hi : i < 2 ^ h) :
    Calls Tryz.prog 13 #[.pointer (some ⟨g, 0, none⟩), digestV m] w fun e w' => (∃ a1 c1 a2 c2, e = .returned (.tuple #[sigV (i : Int) a1 67 c1 a2 (longT i (2 ^ h)) c2, .nilIface]) ∧ 67 ≤ c1 ∧ longT i (2 ^ h) ≤ c2 ∧ DRow w' a1 67 (wotsSigL (stampKeyL seed i) m 67) ∧ DRow w' a2 (longT i (2 ^ h)) (pathT (stampLeavesL seed (2 ^ h)) i) ∧ Stm w' g seed h (i + 1) ∧ (∀ wy, w'.grownBy wy (some g) → DRow wy a1 67 (wotsSigL (stampKeyL seed i) m 67) ∧ DRow wy a2 (longT i (2 ^ h)) (pathT (stampLeavesL seed (2 ^ h)) i))) ∧ w.grownBy w' (some g) := by
  obtain ⟨w2, hw2⟩ : ∃ w2, (w.alloc (.cells (cellsB m).toArray 23)).alloc (.cells #[.int .i64 0, .slice none 0 0, .slice none 0 0] 26) = w2 := ⟨_, rfl⟩
  have hs1 : (w.alloc (.cells (cellsB m).toArray 23)).heap.size = w.heap.size + 1 := by simp
  have HS2 : Hid (w2.heap.size = w.heap.size + 1 + 1) := by unfold Hid; rw [← hw2]; simp
  have HB2 : Hid (Below w.heap.size w w2) := by rw [← hw2]; exact ((Below.refl _ _).alloc (Nat.le_refl _) _).alloc (by simp) _
  have HM2 : Hid (DAt w2 w.heap.size 0 m) := by rw [← hw2]; exact World.rangeAt_alloc (box_dat w m _) _
  have HT2 : Hid (w2.there (w.heap.size + 1) 0 3) := by rw [← hw2]; exact alloc_thereAt _ _ _ 3 _ hs1 rfl
  have HI2 : Hid (Stm w2 g seed h i) := H.below HB2.out
  have HG2 : Hid (Env w2) := G.below HB2.out
  have HGB : Hid (g < w.heap.size) := H.block
  obtain ⟨lb, c, HL⟩ := H
  have hh4 : h ≤ 4 := HL.1
  have hs : seed.length = 32 := HL.2.2.1
  have hn16 := (Stm.pow hh4).2
  have hcc := HL.2.2.2.2.2.1
  have HLB : Hid (lb < w.heap.size) := HL.leaves
  have HLL : Hid (StmL w2 g seed h i lb c) := HL.below HB2.out
  clear HL G
  go_enter Tryz.func13, Tryz.ntmps13
  go_wp2_with (refine wpList_allocE (by rfl) 26 (by rfl) #[.int .i64 0, .slice none 0 0, .slice none 0 0] Tryz.zeroSg (w.heap.size + 1) hs1 w2 hw2 ?_)
  clear hw2 hs1
  refine (wstamp_left g seed h i w2 HG2.out HI2.out).mono ?_
  rintro e w3 ⟨rfl, hb3⟩
  have HL3 : Hid (StmL w3 g seed h i lb c) := HLL.out.below hb3
  have HB3 : Hid (Below w2.heap.size w2 w3) := hb3
  have hc33 : w3.cell? ⟨g, 33, none⟩ = some (.int .i64 (i : Int)) := HL3.out.2.2.2.2.2.2.1
  have hf33 : w3.frozen? ⟨g, 33, none⟩ = false := by
    have := (HL3.out.2.2.2.2.2.2.2.1 33 (by omega)).2
    rwa [Nat.zero_add] at this
  have HL4 : Hid (StmL (w3.setCell ⟨g, 33, none⟩ (.int .i64 ((i : Int) + 1))) g seed h (i + 1) lb c) := HL3.out.spend hi
  have HW4 : Hid (w2.grownBy (w3.setCell ⟨g, 33, none⟩ (.int .i64 ((i : Int) + 1))) (some g)) := gr_trans (gr_below HB3.out _) (gr_setCell _ _ _ _)
  obtain ⟨n, hn⟩ : ∃ n, 2 ^ h = n := ⟨_, rfl⟩
  have HN : Hid (2 ^ h = n) := hn
  obtain ⟨k, hk⟩ : ∃ k, 2 ^ h - i = k := ⟨_, rfl⟩
  have hk0 : 0 < k := by omega
  rw [hk]
  rw [hn] at hcc hi hn16
  have hc32 : (w3.setCell ⟨g, 33, none⟩ (.int .i64 ((i : Int) + 1))).cell? ⟨g, 32, none⟩ = some (.slice (some ⟨lb, 0, none⟩) n c) := by rw [← hn]; exact HL4.out.2.2.2.2.1
  have e0 : ((k : Int) == 0) = false := beq_eq_false_iff_ne.2 (by omega)
  have hi16 : i < 16 := by omega
  clear hb3 hk hn HI2
  go_wp2_with fail
  clear hc33 hf33 e0 hk0
  generalize w3.setCell ⟨g, 33, none⟩ (.int .i64 ((i : Int) + 1)) = w4 at *
  have HG4 : Hid (Env w4) := HG2.out.stm HLL.out HW4.out
  refine (wtree_path_new (some ⟨lb, 0, none⟩) n c i (stampLeavesL seed n) w4 HG4.out (by rw [← HN.out]; exact HL4.out.2.2.2.2.2.2.2.2.1) hcc (by omega) hi).mono ?_
  rintro e w5 ⟨⟨a2, c2, rfl, hc2, ho2⟩, hb5⟩
  have HO5 : Hid (OwnD w5 w4.heap.size (.slice a2 (longT i n) c2) (pathT (stampLeavesL seed n) i)) := ho2
  have HSZ : Hid (w2.heap.size ≤ w4.heap.size ∧ w4.heap.size ≤ w5.heap.size ∧ w.heap.size + 2 ≤ w2.heap.size ∧ g < w.heap.size ∧ lb < w.heap.size) := ⟨HW4.out.size, hb5.size, by have := HS2.out; omega, HGB.out, HLB.out⟩
  have HK : Hid (∀ wx, Below w5.heap.size w5 wx → wx.rangeAt g 0 (cellsB seed) ∧ wx.rangeAt w.heap.size 0 (cellsB m) ∧ Env wx ∧ StmL wx g seed h (i + 1) lb c ∧ wx.there (w.heap.size + 1) 0 3 ∧ OwnD wx w4.heap.size (.slice a2 (longT i n) c2) (pathT (stampLeavesL seed n) i) ∧ w.grownBy wx (some g)) := fun wx hx => by
    obtain ⟨z1, z2, z3, z4, z5⟩ := HSZ.out
    have b45 : Below w4.heap.size w4 wx := hb5.trans (hx.mono hb5.size)
    have hL := HL4.out.below b45
    have g4 : w2.grownBy wx (some g) := gr_trans HW4.out (gr_below b45 _)
    have hm2 : DAt wx w.heap.size 0 m := dat_grs HM2.out g4 (by omega) (by omega)
    have ht2 : wx.there (w.heap.size + 1) 0 3 := by
      have hk := g4.block (w.heap.size + 1) (by omega) (by intro e; have := Option.some.inj e; omega)
      intro j hj
      rw [World.cell?_of_block (w := w2) (a := ⟨w.heap.size + 1, 0 + j, none⟩) hk, World.frozen?_of_block (w := w2) (a := ⟨w.heap.size + 1, 0 + j, none⟩) hk]
      exact HT2.out j hj
    exact ⟨hL.2.2.2.1, hm2, HG4.out.below b45, hL, ht2, ho2.below hx, gr_trans (gr_below HB2.out _) g4⟩
  clear hb5 ho2 HG2 HG4 HL4 HW4 HM2 HT2 HB2 HB3 HL3 HLL hc32 HS2
  obtain ⟨y, hy⟩ : ∃ y, longT i n = y := ⟨_, rfl⟩
  have HY : Hid (longT i n = y) := hy
  rw [hy] at HK HO5 hc2
  simp only [hy]
  clear hy
  go_upto_region 6 with fail
  refine wp_region_noPanic ?_
  refine wp_region_held_drew (S := fun wx => wx.rangeAt g 0 (cellsB seed) ∧ wx.rangeAt w.heap.size 0 (cellsB m)) (by kernel_rfl) ⟨(HK.out _ (below_drewN w5 1)).1, (HK.out _ (below_drewN w5 1)).2.1⟩ (fun hHeld => ?_)
  try simp only [Act.put, List.setIfInBounds_toArray, List.set_cons_zero, List.set_cons_succ]
  have HBd : Hid (Below w5.heap.size w5 w5.drew) := below_drewN w5 1
  generalize w5.drew = wd at *
  refine wpAnyH_take (i := 0) (v := ?_) (by simp only [List.getElem?_toArray, List.getElem?_cons_zero, List.getElem?_cons_succ]; rfl) (by kernel_rfl) (by kernel_rfl) (by kernel_rfl) (fun _ _ _ h => h) (Or.inl ⟨by rfl, ?_⟩) hHeld ?_
  rotate_left
  · intro w hSw
    obtain ⟨hSw0, hSw1⟩ := hSw
    go_simp
    try with_reducible rfl
  try simp only [Act.put, List.setIfInBounds_toArray, List.set_cons_zero, List.set_cons_succ]
  refine wpAnyH_take (i := 1) (v := ?_) (by simp only [List.getElem?_toArray, List.getElem?_cons_zero, List.getElem?_cons_succ]; rfl) (by kernel_rfl) (by kernel_rfl) (by kernel_rfl) (fun _ _ _ h => h) (Or.inl ⟨by rfl, ?_⟩) hHeld ?_
  rotate_left
  · intro w hSw
    obtain ⟨hSw0, hSw1⟩ := hSw
    go_simp
    try with_reducible rfl
  try simp only [Act.put, List.setIfInBounds_toArray, List.set_cons_zero, List.set_cons_succ]
  refine wpAnyH_take (i := 2) (v := ?_) (by simp only [List.getElem?_toArray, List.getElem?_cons_zero, List.getElem?_cons_succ]; rfl) (by kernel_rfl) (by kernel_rfl) (by kernel_rfl) (fun _ _ _ h => h) (Or.inl ⟨by rfl, ?_⟩) hHeld ?_
  rotate_left
  · intro w hSw
    obtain ⟨hSw0, hSw1⟩ := hSw
    go_simp
    try with_reducible rfl
  try simp only [Act.put, List.setIfInBounds_toArray, List.set_cons_zero, List.set_cons_succ]
  refine wpAnyH_take (i := 3) (v := ?_) (by simp only [List.getElem?_toArray, List.getElem?_cons_zero, List.getElem?_cons_succ]; rfl) (by kernel_rfl) (by kernel_rfl) (by kernel_rfl) (fun _ _ _ h => h) (Or.inl ⟨by rfl, ?_⟩) hHeld ?_
  rotate_left
  · intro w hSw
    obtain ⟨hSw0, hSw1⟩ := hSw
    go_simp
    try with_reducible rfl
  try simp only [Act.put, List.setIfInBounds_toArray, List.set_cons_zero, List.set_cons_succ]
  refine wpAnyH_take (i := 4) (v := .agg (cellsB seed).toArray) (by simp only [List.getElem?_toArray, List.getElem?_cons_zero, List.getElem?_cons_succ]; rfl) (by kernel_rfl) (by kernel_rfl) (by kernel_rfl) (fun _ _ _ h => h)
    (yieldsIf_load_mid (by rfl) _ _ rfl _ _ rfl _ _ (fun w hw => hw.1) Tryz.underlying23 rfl (by rw [cellsB_length, hs]; exact Tryz.sizeDg)) hHeld ?_
  try simp only [Act.put, List.setIfInBounds_toArray, List.set_cons_zero, List.set_cons_succ]
  refine wpAnyH_take (i := 5) (v := ?_) (by simp only [List.getElem?_toArray, List.getElem?_cons_zero, List.getElem?_cons_succ]; rfl) (by kernel_rfl) (by kernel_rfl) (by kernel_rfl) (fun _ _ _ h => h) (Or.inl ⟨by rfl, ?_⟩) hHeld ?_
  rotate_left
  · intro w hSw
    obtain ⟨hSw0, hSw1⟩ := hSw
    go_simp
    try with_reducible rfl
  try simp only [Act.put, List.setIfInBounds_toArray, List.set_cons_zero, List.set_cons_succ]
  refine wpAnyH_take (i := 7) (v := .agg (cellsB m).toArray) (by simp only [List.getElem?_toArray, List.getElem?_cons_zero, List.getElem?_cons_succ]; rfl) (by kernel_rfl) (by kernel_rfl) (by kernel_rfl) (fun _ _ _ h => h)
    (yieldsIf_load_mid (by rfl) _ _ rfl _ _ rfl _ _ (fun w hw => hw.2) Tryz.underlying23 rfl (by rw [cellsB_length, hm]; exact Tryz.sizeDg)) hHeld ?_
  try simp only [Act.put, List.setIfInBounds_toArray, List.set_cons_zero, List.set_cons_succ]
  refine wpAnyH_take (i := 9) (v := ?_) (by simp only [List.getElem?_toArray, List.getElem?_cons_zero, List.getElem?_cons_succ]; rfl) (by kernel_rfl) (by kernel_rfl) (by kernel_rfl) (fun _ _ _ h => h) (Or.inl ⟨by rfl, ?_⟩) hHeld ?_
  rotate_left
  · intro w hSw
    obtain ⟨hSw0, hSw1⟩ := hSw
    go_simp
    try with_reducible rfl
  try simp only [Act.put, List.setIfInBounds_toArray, List.set_cons_zero, List.set_cons_succ]
  refine wpAnyH_ready (rs := [6]) (by kernel_rfl) (by simp) ?_
  refine AllReadyH.cons (by simp only [List.getElem?_toArray, List.getElem?_cons_zero, List.getElem?_cons_succ]; rfl) (fun K hK => ?_) AllReadyH.nil
  rw [if_pos (by rfl)]
  go_simp
  refine (wkey_any seed i wd (HK.out _ HBd.out).2.2.1 hs (by omega)).mono ?_
  rintro e wn ⟨rfl, hbn⟩
  have HBn : Hid (Below w5.heap.size w5 wn) := HBd.out.trans (hbn.mono HBd.out.size)
  have lX := stampKeyL_length seed i
  have HXE : Hid (∃ X, stampKeyL seed i = X) := ⟨_, rfl⟩
  clear hbn HBd
  generalize hX : stampKeyL seed i = X at *
  have HX : Hid (stampKeyL seed i = X) := hX
  clear hX
  go_wp2_with fail
  refine hK.out _ _ ⟨(HK.out _ HBn.out).1, (HK.out _ HBn.out).2.1⟩ (fun hHeld => ?_)
  clear hK K
  try simp only [Act.put, List.setIfInBounds_toArray, List.set_cons_zero, List.set_cons_succ]
  refine wpAnyH_ready (rs := [8]) (by kernel_rfl) (by simp) ?_
  refine AllReadyH.cons (by simp only [List.getElem?_toArray, List.getElem?_cons_zero, List.getElem?_cons_succ]; rfl) (fun K hK => ?_) AllReadyH.nil
  rw [if_pos (by rfl)]
  go_simp
  refine (wwots_sign_new X m wn (HK.out _ HBn.out).2.2.1 lX hm).mono ?_
  rintro e wo ⟨⟨a1, c1, rfl, hc1, ha1, hr1⟩, hbo⟩
  have HBo : Hid (Below w5.heap.size w5 wo) := HBn.out.trans (hbo.mono HBn.out.size)
  have HR1 : Hid (DRow wo (some ⟨a1, 0, none⟩) 67 (wotsSigL X m 67) ∧ w5.heap.size ≤ a1) := ⟨hr1, Nat.le_trans HBn.out.size ha1⟩
  clear hbo hr1 ha1
  go_wp2_with fail
  refine hK.out _ _ ⟨(HK.out _ HBo.out).1, (HK.out _ HBo.out).2.1⟩ (fun hHeld => ?_)
  clear hK K
  try simp only [Act.put, List.setIfInBounds_toArray, List.set_cons_zero, List.set_cons_succ]
  refine wpAnyH_take (i := 10) (v := ?_) (by simp only [List.getElem?_toArray, List.getElem?_cons_zero, List.getElem?_cons_succ]; rfl) (by kernel_rfl) (by kernel_rfl) (by kernel_rfl) (fun _ _ _ h => h) (Or.inl ⟨by rfl, ?_⟩) hHeld ?_
  rotate_left
  · intro w hSw
    obtain ⟨hSw0, hSw1⟩ := hSw
    go_simp
    try with_reducible rfl
  try simp only [Act.put, List.setIfInBounds_toArray, List.set_cons_zero, List.set_cons_succ]
  refine wpAnyH_ready (rs := [11]) (by kernel_rfl) (by simp) ?_
  refine AllReadyH.cons (by simp only [List.getElem?_toArray, List.getElem?_cons_zero, List.getElem?_cons_succ]; rfl) (fun K hK => ?_) AllReadyH.nil
  rw [if_pos (by rfl)]
  refine wp_store_mid _ _ _ rfl (w.heap.size + 1) 0 #[.int .i64 (i : Int), .slice (some ⟨a1, 0, none⟩) 67 c1, .slice a2 y c2] rfl rfl (HK.out _ HBo.out).2.2.2.2.1 Tryz.sizeSg (sig_one _ _ _ _ _ _ _) ?_
  have HNE : Hid (g ≠ w.heap.size + 1 ∧ w.heap.size ≠ w.heap.size + 1) := by have := HSZ.out; exact ⟨by omega, by omega⟩
  refine hK.out _ _ ⟨World.rangeAt_setCells_apart hHeld.1 _ _ _ (.inl HNE.out.1), World.rangeAt_setCells_apart hHeld.2 _ _ _ (.inl HNE.out.2)⟩ (fun hHeld => ?_)
  clear hK K
  try simp only [Act.put, List.setIfInBounds_toArray, List.set_cons_zero, List.set_cons_succ]
  refine wpAnyH_take (i := 12) (v := ?_) (by simp only [List.getElem?_toArray, List.getElem?_cons_zero, List.getElem?_cons_succ]; rfl) (by kernel_rfl) (by kernel_rfl) (by kernel_rfl) (fun _ _ _ h => h) (Or.inl ⟨by rfl, ?_⟩) hHeld ?_
  rotate_left
  · intro w hSw
    obtain ⟨hSw0, hSw1⟩ := hSw
    go_simp
    try with_reducible rfl
  try simp only [Act.put, List.setIfInBounds_toArray, List.set_cons_zero, List.set_cons_succ]
  refine wpAnyH_done (by kernel_rfl) (NoPanic.normal ?_) _
  have HF : Hid (DRow (wo.setCells (w.heap.size + 1) 0 (#[.int .i64 (i : Int), .slice (some ⟨a1, 0, none⟩) 67 c1, .slice a2 y c2] : Array Value).toList) (some ⟨a1, 0, none⟩) 67 (wotsSigL X m 67) ∧ OwnD (wo.setCells (w.heap.size + 1) 0 (#[.int .i64 (i : Int), .slice (some ⟨a1, 0, none⟩) 67 c1, .slice a2 y c2] : Array Value).toList) w4.heap.size (.slice a2 y c2) (pathT (stampLeavesL seed n) i) ∧ StmL (wo.setCells (w.heap.size + 1) 0 (#[.int .i64 (i : Int), .slice (some ⟨a1, 0, none⟩) 67 c1, .slice a2 y c2] : Array Value).toList) g seed h (i + 1) lb c ∧ w.grownBy (wo.setCells (w.heap.size + 1) 0 (#[.int .i64 (i : Int), .slice (some ⟨a1, 0, none⟩) 67 c1, .slice a2 y c2] : Array Value).toList) (some g)) := by
    obtain ⟨z1, z2, z3, z4, z5⟩ := HSZ.out
    obtain ⟨_, _, _, k4, _, k6, k7⟩ := HK.out _ HBo.out
    have gs := gr_setCells (w.heap.size + 1) (#[.int .i64 (i : Int), .slice (some ⟨a1, 0, none⟩) 67 c1, .slice a2 y c2] : Array Value).toList 0 wo
    have hq := HR1.out.2
    refine ⟨drow_grs HR1.out.1 gs (by omega), k6.grs gs (by omega), k4.other gs (by omega) (by omega), grs_new k7 (by omega)⟩
  have HT : Hid (wo.there (w.heap.size + 1) 0 3) := (HK.out _ HBo.out).2.2.2.2.1
  have HA1 : Hid (w5.heap.size ≤ a1) := HR1.out.2
  clear hHeld HK HO5 HR1 HBn HBo HXE
  go_wp2_with fail
  refine bodyPost_ret (v := .tuple #[.agg #[.int .i64 (i : Int), .slice (some ⟨a1, 0, none⟩) 67 c1, .slice a2 y c2], .nilIface]) (run_results_row2 Tryz.results13 _ _ (w.heap.size + 1) 0 (by rfl) _ (by rfl) (#[.int .i64 (i : Int), .slice (some ⟨a1, 0, none⟩) 67 c1, .slice a2 y c2] : Array Value).toList (World.rangeAt_setCells_same _ _ _ _ HT.out) _ Tryz.underlying26 (by rfl) Tryz.sizeSg) rfl ⟨⟨some ⟨a1, 0, none⟩, c1, a2, c2, ?_, hc1, ?_, ?_, ?_, ⟨lb, c, HF.out.2.2.1⟩, ?_⟩, HF.out.2.2.2⟩
  · rw [HN.out, HY.out]; rfl
  · rw [HN.out, HY.out]; exact hc2
  · rw [HX.out]; exact HF.out.1
  · rw [HN.out, HY.out]; exact HF.out.2.1.row
  · intro wy gy
    obtain ⟨z1, z2, z3, z4, z5⟩ := HSZ.out
    rw [HX.out, HN.out, HY.out]
    exact ⟨drow_grs HF.out.1 gy (by have := HA1.out; omega), (HF.out.2.1.grs gy (by omega)).row⟩
theorem wstamp_sign (g : Nat) (seed m : List UInt8) (h i : Nat) (w : World) (G : Env w) (H : Stm w g seed h i) (hm : m.length = 32) (hi : i < 2 ^ h) :
    Calls Tryz.prog 13 #[.pointer (some ⟨g, 0, none⟩), digestV m] w fun e w' => (∃ a1 c1 a2 c2, e = .returned (.tuple #[sigV (i : Int) a1 67 c1 a2 (longT i (2 ^ h)) c2, .nilIface]) ∧ 67 ≤ c1 ∧ longT i (2 ^ h) ≤ c2 ∧ DRow w' a1 67 (wotsSigL (stampKeyL seed i) m 67) ∧ DRow w' a2 (longT i (2 ^ h)) (pathT (stampLeavesL seed (2 ^ h)) i) ∧ Stm w' g seed h (i + 1)) ∧ w.grownBy w' (some g) := by
  refine (wstamp_signk g seed m h i w G H hm hi).mono ?_
  rintro e w' ⟨⟨a1, c1, a2, c2, k1, k2, k3, k4, k5, k6, _⟩, hg⟩
  exact ⟨⟨a1, c1, a2, c2, k1, k2, k3, k4, k5, k6⟩, hg⟩
end Go.Proofs.YtdgaimlccpmojaaGreatDoor
