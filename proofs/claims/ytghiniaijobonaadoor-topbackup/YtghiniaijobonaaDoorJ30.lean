/- Texts of this claim, joined: Rtree, Rtree2, Rtree3, Wpath. -/
import Derived.Test.YtghiniaijobonaaDoorJ28
import Derived.Test.YtghiniaijobonaaDoorJ27
import Derived.Test.YtghiniaijobonaaDoorJ15
import Derived.Test.YtghiniaijobonaaDoorJ16
import Derived.Test.YtghiniaijobonaaDoorJ25
import Derived.Deep.RegionHeld3
import Derived.Test.YtghiniaijobonaaDoorJ29
/- The contracts of oathbookref1.Leaf, Node, Half and Long. -/
namespace Go.Proofs.YtghiniaijobonaaDoor
open Go.RowKit
set_option linter.unusedVariables false
set_option linter.unusedSimpArgs false

theorem Tryd.infoTu8 : (Tryd.prog.info? 5).map (fun i => (i.zero, i.size, i.bytes)) = some (some (.int .u8 0), 1, 1) := by kernel_rfl
end Go.Proofs.YtghiniaijobonaaDoor
/- The contracts of oathbookref1.Long and Root: they call themselves. -/
namespace Go.Proofs.YtghiniaijobonaaDoor
open Go.RowKit
set_option linter.unusedVariables false
set_option linter.unusedSimpArgs false

end Go.Proofs.YtghiniaijobonaaDoor
/- The contracts of oathbookref1.Path and Folded: they call themselves. -/
namespace Go.Proofs.YtghiniaijobonaaDoor
open Go.RowKit
set_option linter.unusedVariables false
set_option linter.unusedSimpArgs false

theorem wrapT (n : Nat) (h : n < 9223372036854775808) : IntKind.i64.wrap (n : Int) = n := by
  simp only [IntKind.wrap, IntKind.bits, IntKind.signed, Bool.true_and]
  rw [if_neg (by simp; omega)]
  omega
theorem OwnD.lower {w : World} {B B' : Nat} {v : Value} {ls : List (List UInt8)} (h : OwnD w B v ls) (hb : B' ≤ B) : OwnD w B' v ls := by
  refine ⟨h.1, ?_⟩
  have h := h.2
  rcases h.2 with ⟨h1, h0⟩ | ⟨g, cap, cur, e1, e2, e3, e4⟩
  · exact ⟨h.1, .inl ⟨h1, h0⟩⟩
  · exact ⟨h.1, .inr ⟨g, cap, cur, e1, Nat.le_trans hb e2, e3, e4⟩⟩

end Go.Proofs.YtghiniaijobonaaDoor
/- The contracts of tree.pathOf and tree.Path. -/
namespace Go.Proofs.YtghiniaijobonaaDoor
open Go.RowKit
set_option linter.unusedVariables false
set_option linter.unusedSimpArgs false

set_option maxRecDepth 100000 in
set_option maxHeartbeats 1000000 in
theorem wpathof_any : ∀ (n : Nat), ∀ (a : Option Addr) (c i : Nat) (ls : List (List UInt8)) (w : World), Env w → DRow w a n ls → n ≤ c → 1 ≤ n → n ≤ 256 → i < n →
    Calls Tryd.prog 30 #[.slice a n c, .int .i64 (i : Int)] w fun e w' => (∃ v, e = .returned v ∧ OwnD w' w.heap.size v (pathT ls i)) ∧ Below w.heap.size w w' := by
  intro n
  induction n using Nat.strongRecOn with
  | ind n ih =>
    intro a c i ls w G R hc h1 hn hi
    have HI : Hid (∀ m, m < n → ∀ (a : Option Addr) (c i : Nat) (ls : List (List UInt8)) (w : World), Env w → DRow w a m ls → m ≤ c → 1 ≤ m → m ≤ 256 → i < m → Calls Tryd.prog 30 #[.slice a m c, .int .i64 (i : Int)] w fun e w' => (∃ v, e = .returned v ∧ OwnD w' w.heap.size v (pathT ls i)) ∧ Below w.heap.size w w') := ih
    clear ih
    have HLEN : Hid (ls.length = n) := R.1
    have HR : Hid (∀ wx, Below w.heap.size w wx → DRow wx a n ls) := fun wx hx => R.below hx
    have H0 : Hid (Below w.heap.size w w) := Below.refl _ _
    have HGE : Hid (∀ wx, Below w.heap.size w wx → Env wx) := fun wx hx => G.below hx
    clear R G
    go_enter Tryd.func30, Tryd.ntmps30
    by_cases h2 : 2 ≤ n
    · have e1 : ((n : Int) == 1) = false := by simp; omega
      go_wp2_with fail
      refine (wsplit_any n w h2 (by omega)).mono ?_
      rintro e w' ⟨rfl, rfl⟩
      have hk1 := halfT_lt h2
      have hk2 := halfT_pos n
      obtain ⟨b, o, rfl⟩ := (HR.out _ H0.out).addr (by omega)
      have HKL : Hid (∀ wx, Below w'.heap.size w' wx → DRow wx (some ⟨b, o, none⟩) (halfT n) (ls.take (halfT n)) ∧ DRow wx (some ⟨b, o + halfT n * 32, none⟩) (n - halfT n) (ls.drop (halfT n))) := fun wx hx => ⟨(HR.out wx hx).take _ (by omega), (HR.out wx hx).drop _ (by omega)⟩
      have lA := rootT_length (HKL.out w' (Below.refl _ _)).1.2.1
      have lB := rootT_length (HKL.out w' (Below.refl _ _)).2.2.1
      have h2' : 2 ≤ ls.length := by rw [HLEN.out]; exact h2
      have HR1 : Hid (∀ wx, Env wx → DRow wx (some ⟨b, o, none⟩) (halfT n) (ls.take (halfT n)) → Calls Tryd.prog 24 #[.slice (some ⟨b, o, none⟩) (halfT n) c] wx fun e w' => e = .returned (digestV (rootT (ls.take (halfT n)))) ∧ Below wx.heap.size wx w') := fun wx hg hr => wroot_any (halfT n) _ c _ wx hg hr (by omega) (by omega)
      have HR2 : Hid (∀ wx, Env wx → DRow wx (some ⟨b, o + halfT n * 32, none⟩) (n - halfT n) (ls.drop (halfT n)) → Calls Tryd.prog 24 #[.slice (some ⟨b, o + halfT n * 32, none⟩) (n - halfT n) (c - halfT n)] wx fun e w' => e = .returned (digestV (rootT (ls.drop (halfT n)))) ∧ Below wx.heap.size wx w') := fun wx hg hr => wroot_any (n - halfT n) _ (c - halfT n) _ wx hg hr (by omega) (by omega)
      by_cases hik : i < halfT n
      · have HE : Hid (pathT ls i = pathT (ls.take (halfT n)) i ++ [rootT (ls.drop (halfT n))]) := by
          have := pathT_lo (ls := ls) (i := i) h2' (by rw [HLEN.out]; exact hik)
          rw [HLEN.out] at this
          exact this
        have HPL : Hid ((pathT (ls.take (halfT n)) i).length ≤ 100000) := by
          unfold Hid
          rw [(fold_path (halfT n) (ls.take (halfT n)) i (by rw [List.length_take, HLEN.out]; omega) hik).2]
          have := longT_le (halfT n) i
          omega
        have HCP : Hid (∀ wx, Env wx → DRow wx (some ⟨b, o, none⟩) (halfT n) (ls.take (halfT n)) → Calls Tryd.prog 30 #[.slice (some ⟨b, o, none⟩) (halfT n) c, .int .i64 (i : Int)] wx fun e w' => (∃ v, e = .returned v ∧ OwnD w' wx.heap.size v (pathT (ls.take (halfT n)) i)) ∧ Below wx.heap.size wx w') := fun wx hg hr => HI.out (halfT n) hk1 _ c i _ wx hg hr (by omega) (by omega) (by omega) hik
        generalize halfT n = k at *
        generalize rootT (ls.take k) = X at *
        generalize rootT (ls.drop k) = Y at *
        generalize pathT (ls.take k) i = PP at *
        have g1 : (i : Int) < (k : Int) := by omega
        clear HI h2'
        have k0 : (0 : Int) ≤ (k : Int) := by omega
        have k1 : (k : Int) ≤ (n : Int) := by omega
        have k2 : (k : Int) ≤ (c : Int) := by omega
        have n1 : (n : Int) ≤ (c : Int) := by omega
        go_wp2_with fail
        refine wp_region_noPanic ?_
        refine wp_region_held_drew (S := fun _ => True) (by kernel_rfl) True.intro (fun hHeld => ?_)
        try simp only [Act.put, List.setIfInBounds_toArray, List.set_cons_zero, List.set_cons_succ]
        have HBd : Hid (Below w'.heap.size w' w'.drew) := below_drewN w' 1
        generalize w'.drew = wd at *
        refine wpAnyH_take (i := 0) (v := ?_) (by simp only [List.getElem?_toArray, List.getElem?_cons_zero, List.getElem?_cons_succ]; rfl) (by kernel_rfl) (by kernel_rfl) (by kernel_rfl) (fun _ _ _ h => h) (Or.inl ⟨by rfl, ?_⟩) hHeld ?_
        rotate_left
        · intro w hSw
          go_simp
          try with_reducible rfl
        try simp only [Act.put, List.setIfInBounds_toArray, List.set_cons_zero, List.set_cons_succ]
        refine wpAnyH_take (i := 1) (v := ?_) (by simp only [List.getElem?_toArray, List.getElem?_cons_zero, List.getElem?_cons_succ]; rfl) (by kernel_rfl) (by kernel_rfl) (by kernel_rfl) (fun _ _ _ h => h) (Or.inl ⟨by rfl, ?_⟩) hHeld ?_
        rotate_left
        · intro w hSw
          go_simp
          try with_reducible rfl
        try simp only [Act.put, List.setIfInBounds_toArray, List.set_cons_zero, List.set_cons_succ]
        refine wpAnyH_take (i := 2) (v := .slice (some ⟨b, o, none⟩) k c) (by simp only [List.getElem?_toArray, List.getElem?_cons_zero, List.getElem?_cons_succ]; rfl) (by kernel_rfl) (by kernel_rfl) (by kernel_rfl) (fun _ _ _ h => h) (Or.inl ⟨by rfl, ?_⟩) hHeld ?_
        · intro w hSw
          go_simp
        try simp only [Act.put, List.setIfInBounds_toArray, List.set_cons_zero, List.set_cons_succ]
        refine wpAnyH_take (i := 3) (v := ?_) (by simp only [List.getElem?_toArray, List.getElem?_cons_zero, List.getElem?_cons_succ]; rfl) (by kernel_rfl) (by kernel_rfl) (by kernel_rfl) (fun _ _ _ h => h) (Or.inl ⟨by rfl, ?_⟩) hHeld ?_
        rotate_left
        · intro w hSw
          go_simp
          try with_reducible rfl
        try simp only [Act.put, List.setIfInBounds_toArray, List.set_cons_zero, List.set_cons_succ]
        refine wpAnyH_take (i := 5) (v := ?_) (by simp only [List.getElem?_toArray, List.getElem?_cons_zero, List.getElem?_cons_succ]; rfl) (by kernel_rfl) (by kernel_rfl) (by kernel_rfl) (fun _ _ _ h => h) (Or.inl ⟨by rfl, ?_⟩) hHeld ?_
        rotate_left
        · intro w hSw
          go_simp
          try with_reducible rfl
        try simp only [Act.put, List.setIfInBounds_toArray, List.set_cons_zero, List.set_cons_succ]
        refine wpAnyH_take (i := 6) (v := ?_) (by simp only [List.getElem?_toArray, List.getElem?_cons_zero, List.getElem?_cons_succ]; rfl) (by kernel_rfl) (by kernel_rfl) (by kernel_rfl) (fun _ _ _ h => h) (Or.inl ⟨by rfl, ?_⟩) hHeld ?_
        rotate_left
        · intro w hSw
          go_simp
          try with_reducible rfl
        try simp only [Act.put, List.setIfInBounds_toArray, List.set_cons_zero, List.set_cons_succ]
        refine wpAnyH_take (i := 7) (v := .slice (some ⟨b, o + k * 32, none⟩) (n - k) (c - k)) (by simp only [List.getElem?_toArray, List.getElem?_cons_zero, List.getElem?_cons_succ]; rfl) (by kernel_rfl) (by kernel_rfl) (by kernel_rfl) (fun _ _ _ h => h) (Or.inl ⟨by rfl, ?_⟩) hHeld ?_
        · intro w hSw
          go_simp
          omega
        try simp only [Act.put, List.setIfInBounds_toArray, List.set_cons_zero, List.set_cons_succ]
        refine wpAnyH_ready (rs := [4]) (by kernel_rfl) (by simp) ?_
        refine AllReadyH.cons (by simp only [List.getElem?_toArray, List.getElem?_cons_zero, List.getElem?_cons_succ]; rfl) (fun K hK => ?_) AllReadyH.nil
        rw [if_pos (by rfl)]
        go_simp
        refine (HCP.out wd (HGE.out _ HBd.out) (HKL.out _ HBd.out).1).mono ?_
        rintro e w3 ⟨⟨v3, rfl, ho3⟩, hb3⟩
        have HB3 : Hid (Below w'.heap.size w' w3) := HBd.out.trans (hb3.mono HBd.out.size)
        have HO3 : Hid (OwnD w3 w'.heap.size v3 PP) := ho3.lower HBd.out.size
        clear hb3 HBd HCP ho3
        go_wp2_with fail
        refine hK.out _ _ True.intro (fun hHeld => ?_)
        clear hK K
        try simp only [Act.put, List.setIfInBounds_toArray, List.set_cons_zero, List.set_cons_succ]
        refine wpAnyH_ready (rs := [8]) (by kernel_rfl) (by simp) ?_
        refine AllReadyH.cons (by simp only [List.getElem?_toArray, List.getElem?_cons_zero, List.getElem?_cons_succ]; rfl) (fun K hK => ?_) AllReadyH.nil
        rw [if_pos (by rfl)]
        go_simp
        refine (HR2.out w3 (HGE.out _ HB3.out) (HKL.out _ HB3.out).2).mono ?_
        rintro e w4 ⟨rfl, hb4⟩
        have HB4 : Hid (Below w'.heap.size w' w4) := HB3.out.trans (hb4.mono HB3.out.size)
        have HO4 : Hid (OwnD w4 w'.heap.size v3 PP) := OwnD.below HO3.out hb4
        clear hb4 HB3 HO3
        go_wp2_with fail
        refine hK.out _ _ True.intro (fun hHeld => ?_)
        clear hK K
        try simp only [Act.put, List.setIfInBounds_toArray, List.set_cons_zero, List.set_cons_succ]
        refine wpAnyH_ready (rs := [9]) (by kernel_rfl) (by simp) ?_
        refine AllReadyH.cons (by simp only [List.getElem?_toArray, List.getElem?_cons_zero, List.getElem?_cons_succ]; rfl) (fun K hK => ?_) AllReadyH.nil
        rw [if_pos (by rfl)]
        refine wp_buildD1 _ rfl Y lB rfl ?_
        have hs5 := HB4.out.size
        have HO5 : Hid (OwnD (w4.alloc (.cells (cellsB Y).toArray 23)) w'.heap.size v3 PP) := OwnD.alloc HO4.out _
        have HB5 : Hid (Below w'.heap.size w' (w4.alloc (.cells (cellsB Y).toArray 23))) := Below.alloc HB4.out hs5 _
        have HY5 : Hid (DRow (w4.alloc (.cells (cellsB Y).toArray 23)) (some ⟨w4.heap.size, 0, none⟩) 1 [Y]) := DRow.lit1 w4 Y _ lB
        refine hK.out _ _ True.intro (fun hHeld => ?_)
        clear HO4 HB4 hs5
        generalize w4.alloc (.cells (cellsB Y).toArray 23) = w5 at *
        clear hK K
        try simp only [Act.put, List.setIfInBounds_toArray, List.set_cons_zero, List.set_cons_succ]
        refine wpAnyH_ready (rs := [10]) (by kernel_rfl) (by simp) ?_
        refine AllReadyH.cons (by simp only [List.getElem?_toArray, List.getElem?_cons_zero, List.getElem?_cons_succ]; rfl) (fun K hK => ?_) AllReadyH.nil
        rw [if_pos (by rfl)]
        refine wp_appendD _ _ rfl w'.heap.size v3 PP rfl HO5.out ⟨w4.heap.size, 0, none⟩ 1 1 [Y] rfl HY5.out (by omega) (by have := HPL.out; omega) HB5.out.size ?_
        intro v7 w7 ho7 hg7 _
        have HB7 : Hid (Below w'.heap.size w' w7) := OwnD.grown HO5.out HB5.out hg7 (Nat.le_refl _) HB5.out.size
        have HO7 : Hid (OwnD w7 w'.heap.size v7 (PP ++ [Y])) := ho7
        refine hK.out _ _ True.intro (fun hHeld => ?_)
        clear HO5 HB5 HY5 hg7 ho7
        clear hK K
        try simp only [Act.put, List.setIfInBounds_toArray, List.set_cons_zero, List.set_cons_succ]
        refine wpAnyH_take (i := 11) (v := ?_) (by simp only [List.getElem?_toArray, List.getElem?_cons_zero, List.getElem?_cons_succ]; rfl) (by kernel_rfl) (by kernel_rfl) (by kernel_rfl) (fun _ _ _ h => h) (Or.inl ⟨by rfl, ?_⟩) hHeld ?_
        rotate_left
        · intro w hSw
          go_simp
          try with_reducible rfl
        try simp only [Act.put, List.setIfInBounds_toArray, List.set_cons_zero, List.set_cons_succ]
        refine wpAnyH_done (by kernel_rfl) (NoPanic.normal ?_) _
        clear hHeld
        go_wp2_with fail
        go_ret
        exact ⟨⟨_, rfl, by rw [HE.out]; exact HO7.out⟩, HB7.out⟩
      · have HE : Hid (pathT ls i = pathT (ls.drop (halfT n)) (i - halfT n) ++ [rootT (ls.take (halfT n))]) := by
          have := pathT_hi (ls := ls) (i := i) h2' (by rw [HLEN.out]; exact hik)
          rw [HLEN.out] at this
          exact this
        have HPL : Hid ((pathT (ls.drop (halfT n)) (i - halfT n)).length ≤ 100000) := by
          unfold Hid
          rw [(fold_path (n - halfT n) (ls.drop (halfT n)) (i - halfT n) (by rw [List.length_drop, HLEN.out]) (by omega)).2]
          have := longT_le (n - halfT n) (i - halfT n)
          omega
        have HCP : Hid (∀ wx, Env wx → DRow wx (some ⟨b, o + halfT n * 32, none⟩) (n - halfT n) (ls.drop (halfT n)) → Calls Tryd.prog 30 #[.slice (some ⟨b, o + halfT n * 32, none⟩) (n - halfT n) (c - halfT n), .int .i64 ((i - halfT n : Nat) : Int)] wx fun e w' => (∃ v, e = .returned v ∧ OwnD w' wx.heap.size v (pathT (ls.drop (halfT n)) (i - halfT n))) ∧ Below wx.heap.size wx w') := fun wx hg hr => HI.out (n - halfT n) (by omega) _ (c - halfT n) (i - halfT n) _ wx hg hr (by omega) (by omega) (by omega) (by omega)
        generalize halfT n = k at *
        generalize rootT (ls.take k) = X at *
        generalize rootT (ls.drop k) = Y at *
        have s1 : (i : Int) - (k : Int) = ((i - k : Nat) : Int) := by omega
        have b1 : i - k ≤ 100000 := by omega
        have HIK : Hid (i - k = i - k) := rfl
        generalize pathT (ls.drop k) (i - k) = PP at *
        generalize i - k = i' at *
        have wi : IntKind.i64.wrap (i' : Int) = (i' : Int) := wrapT i' (by omega)
        have g1 : ¬ (i : Int) < (k : Int) := by omega
        clear HI h2'
        have k0 : (0 : Int) ≤ (k : Int) := by omega
        have k1 : (k : Int) ≤ (n : Int) := by omega
        have k2 : (k : Int) ≤ (c : Int) := by omega
        have n1 : (n : Int) ≤ (c : Int) := by omega
        go_wp2_with fail
        refine wp_region_noPanic ?_
        refine wp_region_held_drew (S := fun _ => True) (by kernel_rfl) True.intro (fun hHeld => ?_)
        try simp only [Act.put, List.setIfInBounds_toArray, List.set_cons_zero, List.set_cons_succ]
        have HBd : Hid (Below w'.heap.size w' w'.drew) := below_drewN w' 1
        generalize w'.drew = wd at *
        refine wpAnyH_take (i := 0) (v := ?_) (by simp only [List.getElem?_toArray, List.getElem?_cons_zero, List.getElem?_cons_succ]; rfl) (by kernel_rfl) (by kernel_rfl) (by kernel_rfl) (fun _ _ _ h => h) (Or.inl ⟨by rfl, ?_⟩) hHeld ?_
        rotate_left
        · intro w hSw
          go_simp
          try with_reducible rfl
        try simp only [Act.put, List.setIfInBounds_toArray, List.set_cons_zero, List.set_cons_succ]
        refine wpAnyH_take (i := 1) (v := ?_) (by simp only [List.getElem?_toArray, List.getElem?_cons_zero, List.getElem?_cons_succ]; rfl) (by kernel_rfl) (by kernel_rfl) (by kernel_rfl) (fun _ _ _ h => h) (Or.inl ⟨by rfl, ?_⟩) hHeld ?_
        rotate_left
        · intro w hSw
          go_simp
          try with_reducible rfl
        try simp only [Act.put, List.setIfInBounds_toArray, List.set_cons_zero, List.set_cons_succ]
        refine wpAnyH_take (i := 2) (v := .slice (some ⟨b, o + k * 32, none⟩) (n - k) (c - k)) (by simp only [List.getElem?_toArray, List.getElem?_cons_zero, List.getElem?_cons_succ]; rfl) (by kernel_rfl) (by kernel_rfl) (by kernel_rfl) (fun _ _ _ h => h) (Or.inl ⟨by rfl, ?_⟩) hHeld ?_
        · intro w hSw
          go_simp
          omega
        try simp only [Act.put, List.setIfInBounds_toArray, List.set_cons_zero, List.set_cons_succ]
        refine wpAnyH_take (i := 3) (v := ?_) (by simp only [List.getElem?_toArray, List.getElem?_cons_zero, List.getElem?_cons_succ]; rfl) (by kernel_rfl) (by kernel_rfl) (by kernel_rfl) (fun _ _ _ h => h) (Or.inl ⟨by rfl, ?_⟩) hHeld ?_
        rotate_left
        · intro w hSw
          go_simp
          try with_reducible rfl
        try simp only [Act.put, List.setIfInBounds_toArray, List.set_cons_zero, List.set_cons_succ]
        refine wpAnyH_take (i := 4) (v := ?_) (by simp only [List.getElem?_toArray, List.getElem?_cons_zero, List.getElem?_cons_succ]; rfl) (by kernel_rfl) (by kernel_rfl) (by kernel_rfl) (fun _ _ _ h => h) (Or.inl ⟨by rfl, ?_⟩) hHeld ?_
        rotate_left
        · intro w hSw
          go_simp
          try with_reducible rfl
        try simp only [Act.put, List.setIfInBounds_toArray, List.set_cons_zero, List.set_cons_succ]
        refine wpAnyH_take (i := 5) (v := .int .i64 (i' : Int)) (by simp only [List.getElem?_toArray, List.getElem?_cons_zero, List.getElem?_cons_succ]; rfl) (by kernel_rfl) (by kernel_rfl) (by kernel_rfl) (fun _ _ _ h => h) (Or.inl ⟨by rfl, ?_⟩) hHeld ?_
        · intro w hSw
          go_simp
        try simp only [Act.put, List.setIfInBounds_toArray, List.set_cons_zero, List.set_cons_succ]
        refine wpAnyH_take (i := 7) (v := ?_) (by simp only [List.getElem?_toArray, List.getElem?_cons_zero, List.getElem?_cons_succ]; rfl) (by kernel_rfl) (by kernel_rfl) (by kernel_rfl) (fun _ _ _ h => h) (Or.inl ⟨by rfl, ?_⟩) hHeld ?_
        rotate_left
        · intro w hSw
          go_simp
          try with_reducible rfl
        try simp only [Act.put, List.setIfInBounds_toArray, List.set_cons_zero, List.set_cons_succ]
        refine wpAnyH_take (i := 8) (v := ?_) (by simp only [List.getElem?_toArray, List.getElem?_cons_zero, List.getElem?_cons_succ]; rfl) (by kernel_rfl) (by kernel_rfl) (by kernel_rfl) (fun _ _ _ h => h) (Or.inl ⟨by rfl, ?_⟩) hHeld ?_
        rotate_left
        · intro w hSw
          go_simp
          try with_reducible rfl
        try simp only [Act.put, List.setIfInBounds_toArray, List.set_cons_zero, List.set_cons_succ]
        refine wpAnyH_take (i := 9) (v := .slice (some ⟨b, o, none⟩) k c) (by simp only [List.getElem?_toArray, List.getElem?_cons_zero, List.getElem?_cons_succ]; rfl) (by kernel_rfl) (by kernel_rfl) (by kernel_rfl) (fun _ _ _ h => h) (Or.inl ⟨by rfl, ?_⟩) hHeld ?_
        · intro w hSw
          go_simp
        try simp only [Act.put, List.setIfInBounds_toArray, List.set_cons_zero, List.set_cons_succ]
        refine wpAnyH_ready (rs := [6]) (by kernel_rfl) (by simp) ?_
        refine AllReadyH.cons (by simp only [List.getElem?_toArray, List.getElem?_cons_zero, List.getElem?_cons_succ]; rfl) (fun K hK => ?_) AllReadyH.nil
        rw [if_pos (by rfl)]
        go_simp
        refine (HCP.out wd (HGE.out _ HBd.out) (HKL.out _ HBd.out).2).mono ?_
        rintro e w3 ⟨⟨v3, rfl, ho3⟩, hb3⟩
        have HB3 : Hid (Below w'.heap.size w' w3) := HBd.out.trans (hb3.mono HBd.out.size)
        have HO3 : Hid (OwnD w3 w'.heap.size v3 PP) := ho3.lower HBd.out.size
        clear hb3 HBd HCP ho3
        go_wp2_with fail
        refine hK.out _ _ True.intro (fun hHeld => ?_)
        clear hK K
        try simp only [Act.put, List.setIfInBounds_toArray, List.set_cons_zero, List.set_cons_succ]
        refine wpAnyH_ready (rs := [10]) (by kernel_rfl) (by simp) ?_
        refine AllReadyH.cons (by simp only [List.getElem?_toArray, List.getElem?_cons_zero, List.getElem?_cons_succ]; rfl) (fun K hK => ?_) AllReadyH.nil
        rw [if_pos (by rfl)]
        go_simp
        refine (HR1.out w3 (HGE.out _ HB3.out) (HKL.out _ HB3.out).1).mono ?_
        rintro e w4 ⟨rfl, hb4⟩
        have HB4 : Hid (Below w'.heap.size w' w4) := HB3.out.trans (hb4.mono HB3.out.size)
        have HO4 : Hid (OwnD w4 w'.heap.size v3 PP) := OwnD.below HO3.out hb4
        clear hb4 HB3 HO3
        go_wp2_with fail
        refine hK.out _ _ True.intro (fun hHeld => ?_)
        clear hK K
        try simp only [Act.put, List.setIfInBounds_toArray, List.set_cons_zero, List.set_cons_succ]
        refine wpAnyH_ready (rs := [11]) (by kernel_rfl) (by simp) ?_
        refine AllReadyH.cons (by simp only [List.getElem?_toArray, List.getElem?_cons_zero, List.getElem?_cons_succ]; rfl) (fun K hK => ?_) AllReadyH.nil
        rw [if_pos (by rfl)]
        refine wp_buildD1 _ rfl X lA rfl ?_
        have hs5 := HB4.out.size
        have HO5 : Hid (OwnD (w4.alloc (.cells (cellsB X).toArray 23)) w'.heap.size v3 PP) := OwnD.alloc HO4.out _
        have HB5 : Hid (Below w'.heap.size w' (w4.alloc (.cells (cellsB X).toArray 23))) := Below.alloc HB4.out hs5 _
        have HY5 : Hid (DRow (w4.alloc (.cells (cellsB X).toArray 23)) (some ⟨w4.heap.size, 0, none⟩) 1 [X]) := DRow.lit1 w4 X _ lA
        refine hK.out _ _ True.intro (fun hHeld => ?_)
        clear HO4 HB4 hs5
        generalize w4.alloc (.cells (cellsB X).toArray 23) = w5 at *
        clear hK K
        try simp only [Act.put, List.setIfInBounds_toArray, List.set_cons_zero, List.set_cons_succ]
        refine wpAnyH_ready (rs := [12]) (by kernel_rfl) (by simp) ?_
        refine AllReadyH.cons (by simp only [List.getElem?_toArray, List.getElem?_cons_zero, List.getElem?_cons_succ]; rfl) (fun K hK => ?_) AllReadyH.nil
        rw [if_pos (by rfl)]
        refine wp_appendD _ _ rfl w'.heap.size v3 PP rfl HO5.out ⟨w4.heap.size, 0, none⟩ 1 1 [X] rfl HY5.out (by omega) (by have := HPL.out; omega) HB5.out.size ?_
        intro v7 w7 ho7 hg7 _
        have HB7 : Hid (Below w'.heap.size w' w7) := OwnD.grown HO5.out HB5.out hg7 (Nat.le_refl _) HB5.out.size
        have HO7 : Hid (OwnD w7 w'.heap.size v7 (PP ++ [X])) := ho7
        refine hK.out _ _ True.intro (fun hHeld => ?_)
        clear HO5 HB5 HY5 hg7 ho7
        clear hK K
        try simp only [Act.put, List.setIfInBounds_toArray, List.set_cons_zero, List.set_cons_succ]
        refine wpAnyH_take (i := 13) (v := ?_) (by simp only [List.getElem?_toArray, List.getElem?_cons_zero, List.getElem?_cons_succ]; rfl) (by kernel_rfl) (by kernel_rfl) (by kernel_rfl) (fun _ _ _ h => h) (Or.inl ⟨by rfl, ?_⟩) hHeld ?_
        rotate_left
        · intro w hSw
          go_simp
          try with_reducible rfl
        try simp only [Act.put, List.setIfInBounds_toArray, List.set_cons_zero, List.set_cons_succ]
        refine wpAnyH_done (by kernel_rfl) (NoPanic.normal ?_) _
        clear hHeld
        go_wp2_with fail
        go_ret
        exact ⟨⟨_, rfl, by rw [HE.out]; exact HO7.out⟩, HB7.out⟩
    · obtain rfl : n = 1 := by omega
      have HE : Hid (pathT ls i = []) := pathT_one (by rw [HLEN.out]; omega)
      go_wp2_with fail
      go_ret
      exact ⟨⟨_, rfl, by rw [HE.out]; exact OwnD.nil _ _⟩, H0.out⟩

set_option maxRecDepth 100000 in
set_option maxHeartbeats 1000000 in
theorem wtree_path (a : Option Addr) (n c i : Nat) (ls : List (List UInt8)) (w : World) (G : Env w) (R : DRow w a n ls) (hc : n ≤ c) (hn : n ≤ 256) (hi : i < n) :
    Calls Tryd.prog 17 #[.slice a n c, .int .i64 (i : Int)] w fun e w' => (∃ a' c', e = .returned (.tuple #[.slice a' (longT i n) c', .nilIface]) ∧ longT i n ≤ c' ∧ DRow w' a' (longT i n) (pathT ls i)) ∧ Below w.heap.size w w' := by
  have HG : Hid (Env w ∧ DRow w a n ls) := ⟨G, R⟩
  have HL : Hid ((pathT ls i).length = longT i n) := (fold_path n ls i R.1 hi).2
  clear G R
  have g1 : ¬ (256 : Int) < (n : Int) := by omega
  have g2 : ¬ (i : Int) < 0 := by omega
  have g3 : ¬ (n : Int) ≤ (i : Int) := by omega
  go_enter Tryd.func17, Tryd.ntmps17
  go_wp2_with fail
  refine (wpathof_any n a c i ls w HG.out.1 HG.out.2 hc (by omega) hn hi).mono ?_
  rintro e w3 ⟨⟨v3, rfl, ho3⟩, hb3⟩
  obtain ⟨a3, c3, rfl, R3, hc3⟩ := OwnD.form ho3
  rw [HL.out] at R3 hc3 ⊢
  have HR3 : Hid (DRow w3 a3 (longT i n) (pathT ls i) ∧ Below w.heap.size w w3) := ⟨R3, hb3⟩
  clear R3 hb3 ho3 HG HL
  generalize hY : longT i n = y at *
  have HY : Hid (longT i n = y) := hY
  clear hY
  go_wp2_with fail
  go_ret2
  rw [HY.out]
  exact ⟨⟨_, _, rfl, hc3, HR3.out.1⟩, HR3.out.2⟩
set_option maxRecDepth 100000 in
set_option maxHeartbeats 1000000 in
theorem wtree_pathfull (a : Option Addr) (n c : Nat) (i : Int) (ls : List (List UInt8)) (w : World) (G : Env w) (R : DRow w a n ls) (hc : n ≤ c) (hn : 256 < n) (hn2 : 32 * n ≤ 140737488351232) (hi1 : -9223372036854775808 ≤ i) (hi2 : i ≤ 9223372036854775807) :
    Calls Tryd.prog 17 #[.slice a n c, .int .i64 i] w fun e w' => (∃ a' c', e = .returned (.tuple #[.slice a' 0 c', .iface 51 (.int .i64 4)])) ∧ Below w.heap.size w w' := by
  clear G R
  have g1 : (256 : Int) < (n : Int) := by omega
  go_enter Tryd.func17, Tryd.ntmps17
  go_wp2_with fail
  go_ret2
  exact ⟨⟨_, _, rfl⟩, Below.refl _ _⟩
set_option maxRecDepth 100000 in
set_option maxHeartbeats 1000000 in
theorem wtree_pathout (a : Option Addr) (n c : Nat) (i : Int) (ls : List (List UInt8)) (w : World) (G : Env w) (R : DRow w a n ls) (hc : n ≤ c) (hn : n ≤ 256) (hi : i < 0 ∨ (n : Int) ≤ i) (hi1 : -9223372036854775808 ≤ i) (hi2 : i ≤ 9223372036854775807) :
    Calls Tryd.prog 17 #[.slice a n c, .int .i64 i] w fun e w' => (∃ a' c', e = .returned (.tuple #[.slice a' 0 c', .iface 51 (.int .i64 2)])) ∧ Below w.heap.size w w' := by
  clear G R
  have g1 : ¬ (256 : Int) < (n : Int) := by omega
  by_cases g2 : i < 0
  · clear hi
    go_enter Tryd.func17, Tryd.ntmps17
    go_wp2_with fail
    go_ret2
    exact ⟨⟨_, _, rfl⟩, Below.refl _ _⟩
  · have g3 : (n : Int) ≤ i := by omega
    clear hi
    go_enter Tryd.func17, Tryd.ntmps17
    go_wp2_with fail
    go_ret2
    exact ⟨⟨_, _, rfl⟩, Below.refl _ _⟩
end Go.Proofs.YtghiniaijobonaaDoor
