/- Texts of this claim, joined: Wsplit, Wleaf, Wroot, Wstampn. -/
import Derived.Test.YtghiniaijobonaaDoorJ01
import Derived.Test.YtghiniaijobonaaDoorJ02
import Derived.Test.YtghiniaijobonaaDoorJ15
import Derived.Lib.BitFns
import Derived.Test.YtghiniaijobonaaDoorJ20
import Derived.Test.YtghiniaijobonaaDoorJ04
import Derived.Test.YtghiniaijobonaaDoorJ16
import Derived.Test.YtghiniaijobonaaDoorJ25
import Derived.Deep.RegionHeld3
import Derived.Test.YtghiniaijobonaaDoorJ28
/- The contracts of math/bits.Len64 and Len (numbers below 256) and of tree.Split. -/
namespace Go.Proofs.YtghiniaijobonaaDoor
open Go.RowKit
set_option linter.unusedVariables false
set_option linter.unusedSimpArgs false

theorem half_len : ∀ n, n < 257 → 2 ≤ n → halfT n = 2 ^ (Lib.bitLen (n - 1) - 1) ∧ 1 ≤ Lib.bitLen (n - 1) ∧ Lib.bitLen (n - 1) ≤ 8 := by decide +kernel
set_option maxRecDepth 100000 in
set_option maxHeartbeats 1000000 in
theorem wlen64_any (x : Int) (w : World) (h0 : 0 ≤ x) (h1 : x < 256) :
    Calls Tryd.prog 64 #[.int .u64 x] w fun e w' => e = .returned (.int .i64 (Lib.bitLen x.toNat : Int)) ∧ w' = w := by
  have l := Lib.bitLen_le8' x h0 (by omega)
  have HE : Hid (Lib.len8 x = (Lib.bitLen x.toNat : Int)) := Lib.len8_of x h0 (by omega)
  go_enter Tryd.func64, Tryd.ntmps64
  go_wp2
  go_ret
  refine ⟨ret_int ?_, rfl⟩
  have hE := HE.out
  unfold Lib.len8 at hE
  have hg : ∀ h, ((Lib.len8tab[x.toNat]'h).toNat : Int) = (Lib.bitLen x.toNat : Int) := fun h => by
    rw [getElem?_pos Lib.len8tab x.toNat h] at hE
    exact hE
  rw [hg]
  generalize Lib.bitLen x.toNat = L at *
  unfold wrap64
  omega
set_option maxRecDepth 100000 in
set_option maxHeartbeats 1000000 in
theorem wlen_any (x : Int) (w : World) (h0 : 0 ≤ x) (h1 : x < 256) :
    Calls Tryd.prog 54 #[.int .u64 x] w fun e w' => e = .returned (.int .i64 (Lib.bitLen x.toNat : Int)) ∧ w' = w := by
  go_enter Tryd.func54, Tryd.ntmps54
  go_wp2_with fail
  refine (wlen64_any x w h0 h1).mono ?_
  rintro e w' ⟨rfl, rfl⟩
  go_wp2
  go_ret
  exact ⟨rfl, rfl⟩
set_option maxRecDepth 100000 in
set_option maxHeartbeats 1000000 in
theorem wsplit_any (n : Nat) (w : World) (h2 : 2 ≤ n) (hn : n ≤ 256) :
    Calls Tryd.prog 41 #[.int .i64 (n : Int)] w fun e w' => e = .returned (.int .i64 (halfT n : Int)) ∧ w' = w := by
  obtain ⟨hE, hl1, hl8⟩ := half_len n (by omega) h2
  have HE : Hid (halfT n = 2 ^ (Lib.bitLen (n - 1) - 1)) := hE
  clear hE
  have g0 : ¬ (n : Int) < 2 := by omega
  have s1 : (n : Int) - 1 = ((n - 1 : Nat) : Int) := by omega
  have b1 : n - 1 < 256 := by omega
  generalize n - 1 = m at *
  have hm : ((m : Int)).toNat = m := by omega
  go_enter Tryd.func41, Tryd.ntmps41
  go_wp2_with fail
  refine (wlen_any (m : Int) w (by omega) (by omega)).mono ?_
  rintro e w' ⟨rfl, rfl⟩
  rw [hm]
  generalize Lib.bitLen m = L at *
  have : L = 1 ∨ L = 2 ∨ L = 3 ∨ L = 4 ∨ L = 5 ∨ L = 6 ∨ L = 7 ∨ L = 8 := by omega
  rcases this with rfl | rfl | rfl | rfl | rfl | rfl | rfl | rfl <;>
  · go_wp2_with fail
    go_ret
    refine ⟨ret_int ?_, rfl⟩
    rw [HE.out]
    rfl
end Go.Proofs.YtghiniaijobonaaDoor
/- The contracts of tree.Leaf and tree.Node. -/
namespace Go.Proofs.YtghiniaijobonaaDoor
open Go.RowKit
set_option linter.unusedVariables false
set_option linter.unusedSimpArgs false

set_option maxRecDepth 100000 in
set_option maxHeartbeats 1000000 in
theorem wtree_node (l r : List UInt8) (w : World) (G : Env w) (hl : l.length = 32) (hr : r.length = 32) :
    Calls Tryd.prog 42 #[digestV l, digestV r] w fun e w' => e = .returned (digestV (nodeT l r)) ∧ Below w.heap.size w w' := by
  obtain ⟨w2, hw2⟩ : ∃ w2, ((w.alloc (.cells (cellsB l).toArray 23)).alloc (.cells (cellsB r).toArray 23)).alloc (.cells (cellsB zD).toArray 23) = w2 := ⟨_, rfl⟩
  have hs0 : (w.alloc (.cells (cellsB l).toArray 23)).heap.size = w.heap.size + 1 := by simp
  have hs1 : ((w.alloc (.cells (cellsB l).toArray 23)).alloc (.cells (cellsB r).toArray 23)).heap.size = w.heap.size + 1 + 1 := by simp
  have HS2 : Hid (w2.heap.size = w.heap.size + 1 + 1 + 1) := by unfold Hid; rw [← hw2]; simp
  have HD2 : Hid (DAt w2 w.heap.size 0 l ∧ DAt w2 (w.heap.size + 1) 0 r) := by rw [← hw2]; exact ⟨World.rangeAt_alloc (World.rangeAt_alloc (box_dat w l _) _) _, World.rangeAt_alloc (box_rangeAt _ _ _ _ hs0) _⟩
  have HT2 : Hid (w2.there (w.heap.size + 1 + 1) 0 32) := by rw [← hw2]; exact alloc_thereAt _ _ _ 32 _ hs1 zD_size.symm
  have HB2 : Hid (Below w.heap.size w w2) := by rw [← hw2]; exact (((Below.refl _ _).alloc (Nat.le_refl _) _).alloc (by simp) _).alloc (by simp; omega) _
  have HKT : Hid (∀ wx, Below w2.heap.size w2 wx → Row wx (some ⟨w.heap.size, 0, none⟩) 32 l ∧ Row wx (some ⟨w.heap.size + 1, 0, none⟩) 32 r ∧ wx.there (w.heap.size + 1 + 1) 0 32 ∧ Below w.heap.size w wx ∧ Tab wx) := fun wx hx => by
    have s := HS2.out
    have b : Below w.heap.size w wx := HB2.out.trans (hx.mono (by omega))
    exact ⟨(HD2.out.1.below hx (by omega)).row hl, (HD2.out.2.below hx (by omega)).row hr, there_below HT2.out hx (by omega), b, Env.below G b⟩
  clear G HD2 HT2 HB2 HS2
  go_enter Tryd.func42, Tryd.ntmps42
  go_wp2_with (refine wpList_allocE (by rfl) 23 (by rfl) (cellsB zD).toArray Tryd.zeroDg (w.heap.size + 1 + 1) hs1 w2 hw2 ?_)
  clear hw2 hs0 hs1
  refine wp_region_noPanic ?_
  refine wp_region_held_drew (S := fun _ => True) (by kernel_rfl) True.intro (fun hHeld => ?_)
  try simp only [Act.put, List.setIfInBounds_toArray, List.set_cons_zero, List.set_cons_succ]
  have HBd : Hid (Below w2.heap.size w2 w2.drew) := below_drewN w2 1
  generalize w2.drew = wd at *
  refine wpAnyH_take (i := 1) (v := .slice (some ⟨w.heap.size, 0, none⟩) 32 32) (by simp only [List.getElem?_toArray, List.getElem?_cons_zero, List.getElem?_cons_succ]; rfl) (by kernel_rfl) (by kernel_rfl) (by kernel_rfl) (fun _ _ _ h => h) (Or.inl ⟨by rfl, ?_⟩) hHeld ?_
  · intro w hSw
    go_simp
  try simp only [Act.put, List.setIfInBounds_toArray, List.set_cons_zero, List.set_cons_succ]
  refine wpAnyH_take (i := 2) (v := .slice (some ⟨w.heap.size + 1, 0, none⟩) 32 32) (by simp only [List.getElem?_toArray, List.getElem?_cons_zero, List.getElem?_cons_succ]; rfl) (by kernel_rfl) (by kernel_rfl) (by kernel_rfl) (fun _ _ _ h => h) (Or.inl ⟨by rfl, ?_⟩) hHeld ?_
  · intro w hSw
    go_simp
  try simp only [Act.put, List.setIfInBounds_toArray, List.set_cons_zero, List.set_cons_succ]
  refine wpAnyH_ready (rs := [0]) (by kernel_rfl) (by simp) ?_
  refine AllReadyH.cons (by simp only [List.getElem?_toArray, List.getElem?_cons_zero, List.getElem?_cons_succ]; rfl) (fun K hK => ?_) AllReadyH.nil
  rw [if_pos (by rfl)]
  go_simp
  have hb3 : Below wd.heap.size wd (wd.alloc (.cells #[.int .u8 1] 5)) := (Below.refl _ _).alloc (Nat.le_refl _) _
  have HB3 : Hid (Below w2.heap.size w2 (wd.alloc (.cells #[.int .u8 1] 5))) := HBd.out.trans (hb3.mono HBd.out.size)
  have HR3 : Hid (Row (wd.alloc (.cells #[.int .u8 1] 5)) (some ⟨wd.heap.size, 0, none⟩) 1 [1]) := Row.lit1v wd 1 5 1 rfl
  clear hb3
  refine hK.out _ _ True.intro (fun hHeld => ?_)
  generalize wd.alloc (.cells #[.int .u8 1] 5) = w3 at *
  generalize wd.heap.size = g at *
  clear hK K
  try simp only [Act.put, List.setIfInBounds_toArray, List.set_cons_zero, List.set_cons_succ]
  refine wpAnyH_ready (rs := [3]) (by kernel_rfl) (by simp) ?_
  refine AllReadyH.cons (by simp only [List.getElem?_toArray, List.getElem?_cons_zero, List.getElem?_cons_succ]; rfl) (fun K hK => ?_) AllReadyH.nil
  rw [if_pos (by rfl)]
  go_simp
  have HB4 : Hid (Below w2.heap.size w2 (w3.alloc (.cells #[.slice (some ⟨g, 0, none⟩) 1 1, .slice (some ⟨w.heap.size, 0, none⟩) 32 32, .slice (some ⟨w.heap.size + 1, 0, none⟩) 32 32] 33))) := Below.alloc HB3.out HB3.out.size _
  have HR4 : Hid (BRows (w3.alloc (.cells #[.slice (some ⟨g, 0, none⟩) 1 1, .slice (some ⟨w.heap.size, 0, none⟩) 32 32, .slice (some ⟨w.heap.size + 1, 0, none⟩) 32 32] 33)) (some ⟨w3.heap.size, 0, none⟩) 3 [[1], l, r]) := BRows.lit3 (Nat.le_refl 1) HR3.out (Nat.le_refl 32) (HKT.out _ HB3.out).1 (Nat.le_refl 32) (HKT.out _ HB3.out).2.1
  refine hK.out _ _ True.intro (fun hHeld => ?_)
  generalize w3.alloc (.cells #[.slice (some ⟨g, 0, none⟩) 1 1, .slice (some ⟨w.heap.size, 0, none⟩) 32 32, .slice (some ⟨w.heap.size + 1, 0, none⟩) 32 32] 33) = w4 at *
  generalize w3.heap.size = g' at *
  clear HB3 HR3
  clear hK K
  try simp only [Act.put, List.setIfInBounds_toArray, List.set_cons_zero, List.set_cons_succ]
  refine wpAnyH_ready (rs := [4]) (by kernel_rfl) (by simp) ?_
  refine AllReadyH.cons (by simp only [List.getElem?_toArray, List.getElem?_cons_zero, List.getElem?_cons_succ]; rfl) (fun K hK => ?_) AllReadyH.nil
  rw [if_pos (by rfl)]
  go_simp
  refine (wsumof_any _ 3 3 [[1], l, r] w4 (HKT.out _ HB4.out).2.2.2.2 HR4.out (by simp; omega) (by omega)).mono ?_
  rintro e w5 ⟨rfl, hb5⟩
  have hE : shaL [[1], l, r].flatten = nodeT l r := by simp [nodeT]
  rw [hE]
  have HB5 : Hid (Below w2.heap.size w2 w5) := HB4.out.trans (hb5.mono HB4.out.size)
  have hlen := nodeT_length l r
  clear hb5 HB4 HR4 hE
  generalize hD : nodeT l r = D at *
  have HD : Hid (nodeT l r = D) := hD
  clear hD
  go_wp2_with fail
  refine hK.out _ _ True.intro (fun hHeld => ?_)
  clear hK K
  try simp only [Act.put, List.setIfInBounds_toArray, List.set_cons_zero, List.set_cons_succ]
  refine wpAnyH_ready (rs := [5]) (by kernel_rfl) (by simp) ?_
  refine AllReadyH.cons (by simp only [List.getElem?_toArray, List.getElem?_cons_zero, List.getElem?_cons_succ]; rfl) (fun K hK => ?_) AllReadyH.nil
  rw [if_pos (by rfl)]
  have HT5 : Hid (w5.there (w.heap.size + 1 + 1) 0 32) := (HKT.out _ HB5.out).2.2.1
  refine wp_store_mid _ _ _ rfl (w.heap.size + 1 + 1) 0 (cellsB D).toArray rfl rfl (by rw [cellsB_size, hlen]; exact HT5.out) (by rw [cellsB_size, hlen]; exact Tryd.sizeDg) (all_oneCell_toArray (cellsB_one _)) ?_
  refine hK.out _ _ True.intro (fun hHeld => ?_)
  clear hK K
  try simp only [Act.put, List.setIfInBounds_toArray, List.set_cons_zero, List.set_cons_succ]
  refine wpAnyH_done (by kernel_rfl) (NoPanic.normal ?_) _
  clear hHeld
  go_wp2_with fail
  refine bodyPost_ret (v := digestV D) (run_results_row Tryd.results42 _ _ (w.heap.size + 1 + 1) 0 (by rfl) (cellsB D) (World.rangeAt_setCells_same _ _ _ _ (by rw [cellsB_length, hlen]; exact HT5.out)) _ Tryd.underlying23 (by rfl) (by rw [cellsB_length, hlen]; exact Tryd.sizeDg)) rfl ⟨by rw [HD.out], ?_⟩
  exact below_setCells _ (by omega) _ _ _ (HKT.out _ HB5.out).2.2.2.1
end Go.Proofs.YtghiniaijobonaaDoor
/- The contracts of tree.root and tree.Root. -/
namespace Go.Proofs.YtghiniaijobonaaDoor
open Go.RowKit
set_option linter.unusedVariables false
set_option linter.unusedSimpArgs false

set_option maxRecDepth 100000 in
set_option maxHeartbeats 1000000 in
theorem wroot_any : ∀ (n : Nat) (a : Option Addr) (c : Nat) (ls : List (List UInt8)) (w : World), Env w → DRow w a n ls → n ≤ c → n ≤ 256 →
    Calls Tryd.prog 24 #[.slice a n c] w fun e w' => e = .returned (digestV (rootT ls)) ∧ Below w.heap.size w w' := by
  intro n
  induction n using Nat.strongRecOn with
  | ind n ih =>
    intro a c ls w G R hc hn
    have HI : Hid (∀ m, m < n → ∀ (a : Option Addr) (c : Nat) (ls : List (List UInt8)) (w : World), Env w → DRow w a m ls → m ≤ c → m ≤ 256 → Calls Tryd.prog 24 #[.slice a m c] w fun e w' => e = .returned (digestV (rootT ls)) ∧ Below w.heap.size w w') := ih
    clear ih
    obtain ⟨w2, hw2⟩ : ∃ w2, w.alloc (.cells (cellsB zD).toArray 23) = w2 := ⟨_, rfl⟩
    have HS2 : Hid (w2.heap.size = w.heap.size + 1) := by unfold Hid; rw [← hw2]; simp
    have HB2 : Hid (Below w.heap.size w w2) := by rw [← hw2]; exact (Below.refl _ _).alloc (Nat.le_refl _) _
    have HT2 : Hid (w2.there w.heap.size 0 32) := by rw [← hw2]; exact alloc_thereAt _ _ _ 32 _ rfl zD_size.symm
    have HR2 : Hid (DRow w2 a n ls) := R.below HB2.out
    have HLEN : Hid (ls.length = n) := R.1
    have HKT : Hid (∀ wx, Below w2.heap.size w2 wx → DRow wx a n ls ∧ wx.there w.heap.size 0 32 ∧ Below w.heap.size w wx) := fun wx hx => ⟨HR2.out.below hx, there_below HT2.out hx (by have := HS2.out; omega), HB2.out.trans (hx.mono (by have := HS2.out; omega))⟩
    have HGE : Hid (∀ wx, Below w2.heap.size w2 wx → Env wx) := fun wx hx => G.below (HKT.out wx hx).2.2
    clear R G
    have hlen := rootT_length HR2.out.2.1
    go_enter Tryd.func24, Tryd.ntmps24
    by_cases h2 : 2 ≤ n
    · have e0 : ((n : Int) == 0) = false := by simp; omega
      have e1 : ((n : Int) == 1) = false := by simp; omega
      go_wp2_with (refine wpList_allocE (by rfl) 23 (by rfl) (cellsB zD).toArray Tryd.zeroDg w.heap.size rfl w2 hw2 ?_)
      refine (wsplit_any n w2 h2 (by omega)).mono ?_
      rintro e w' ⟨rfl, rfl⟩
      clear hw2
      have hk1 := halfT_lt h2
      have hk2 := halfT_pos n
      have HE : Hid (rootT ls = nodeT (rootT (ls.take (halfT n))) (rootT (ls.drop (halfT n)))) := by
        have := rootT_two (ls := ls) (by rw [HLEN.out]; exact h2)
        rw [HLEN.out] at this
        exact this
      obtain ⟨b, o, rfl⟩ := HR2.out.addr (by omega)
      have HKL : Hid (∀ wx, Below w'.heap.size w' wx → DRow wx (some ⟨b, o, none⟩) (halfT n) (ls.take (halfT n)) ∧ DRow wx (some ⟨b, o + halfT n * 32, none⟩) (n - halfT n) (ls.drop (halfT n))) := fun wx hx => ⟨(HKT.out wx hx).1.take _ (by omega), (HKT.out wx hx).1.drop _ (by omega)⟩
      have HC1 : Hid (∀ wx, Env wx → DRow wx (some ⟨b, o, none⟩) (halfT n) (ls.take (halfT n)) → Calls Tryd.prog 24 #[.slice (some ⟨b, o, none⟩) (halfT n) c] wx fun e w' => e = .returned (digestV (rootT (ls.take (halfT n)))) ∧ Below wx.heap.size wx w') := fun wx hg hr => HI.out (halfT n) hk1 _ c _ wx hg hr (by omega) (by omega)
      have HC2 : Hid (∀ wx, Env wx → DRow wx (some ⟨b, o + halfT n * 32, none⟩) (n - halfT n) (ls.drop (halfT n)) → Calls Tryd.prog 24 #[.slice (some ⟨b, o + halfT n * 32, none⟩) (n - halfT n) (c - halfT n)] wx fun e w' => e = .returned (digestV (rootT (ls.drop (halfT n)))) ∧ Below wx.heap.size wx w') := fun wx hg hr => HI.out (n - halfT n) (by omega) _ (c - halfT n) _ wx hg hr (by omega) (by omega)
      have lA := rootT_length (HKL.out w' (Below.refl _ _)).1.2.1
      have lB := rootT_length (HKL.out w' (Below.refl _ _)).2.2.1
      rw [HE.out] at hlen
      generalize halfT n = k at *
      generalize rootT (ls.take k) = X at *
      generalize rootT (ls.drop k) = Y at *
      have k0 : (0 : Int) ≤ (k : Int) := by omega
      have k1 : (k : Int) ≤ (n : Int) := by omega
      have k2 : (k : Int) ≤ (c : Int) := by omega
      have n1 : (n : Int) ≤ (c : Int) := by omega
      go_wp2_with fail
      refine wp_region_noPanic ?_
      refine wp_region_held_drew (S := fun _ => True) (by kernel_rfl) True.intro (fun hHeld => ?_)
      try simp only [Act.put, List.setIfInBounds_toArray, List.set_cons_zero, List.set_cons_succ]
      have HBd : Hid (Below w'.heap.size w' w'.drew) := below_drewN w' 1
      generalize w'.drew = wd at *
      refine wpAnyH_take (i := 0) (v := ?_) (by simp only [List.getElem?_toArray, List.getElem?_cons_zero, List.getElem?_cons_succ]; rfl) (by kernel_rfl) (by kernel_rfl) (by kernel_rfl) (fun _ _ _ h => h) (Or.inl ⟨by rfl, ?_⟩) hHeld ?_
      rotate_left
      · intro w hSw
        go_simp
        try with_reducible rfl
      try simp only [Act.put, List.setIfInBounds_toArray, List.set_cons_zero, List.set_cons_succ]
      refine wpAnyH_take (i := 1) (v := ?_) (by simp only [List.getElem?_toArray, List.getElem?_cons_zero, List.getElem?_cons_succ]; rfl) (by kernel_rfl) (by kernel_rfl) (by kernel_rfl) (fun _ _ _ h => h) (Or.inl ⟨by rfl, ?_⟩) hHeld ?_
      rotate_left
      · intro w hSw
        go_simp
        try with_reducible rfl
      try simp only [Act.put, List.setIfInBounds_toArray, List.set_cons_zero, List.set_cons_succ]
      refine wpAnyH_take (i := 2) (v := .slice (some ⟨b, o, none⟩) k c) (by simp only [List.getElem?_toArray, List.getElem?_cons_zero, List.getElem?_cons_succ]; rfl) (by kernel_rfl) (by kernel_rfl) (by kernel_rfl) (fun _ _ _ h => h) (Or.inl ⟨by rfl, ?_⟩) hHeld ?_
      · intro w hSw
        go_simp
      try simp only [Act.put, List.setIfInBounds_toArray, List.set_cons_zero, List.set_cons_succ]
      refine wpAnyH_take (i := 4) (v := ?_) (by simp only [List.getElem?_toArray, List.getElem?_cons_zero, List.getElem?_cons_succ]; rfl) (by kernel_rfl) (by kernel_rfl) (by kernel_rfl) (fun _ _ _ h => h) (Or.inl ⟨by rfl, ?_⟩) hHeld ?_
      rotate_left
      · intro w hSw
        go_simp
        try with_reducible rfl
      try simp only [Act.put, List.setIfInBounds_toArray, List.set_cons_zero, List.set_cons_succ]
      refine wpAnyH_take (i := 5) (v := ?_) (by simp only [List.getElem?_toArray, List.getElem?_cons_zero, List.getElem?_cons_succ]; rfl) (by kernel_rfl) (by kernel_rfl) (by kernel_rfl) (fun _ _ _ h => h) (Or.inl ⟨by rfl, ?_⟩) hHeld ?_
      rotate_left
      · intro w hSw
        go_simp
        try with_reducible rfl
      try simp only [Act.put, List.setIfInBounds_toArray, List.set_cons_zero, List.set_cons_succ]
      refine wpAnyH_take (i := 6) (v := .slice (some ⟨b, o + k * 32, none⟩) (n - k) (c - k)) (by simp only [List.getElem?_toArray, List.getElem?_cons_zero, List.getElem?_cons_succ]; rfl) (by kernel_rfl) (by kernel_rfl) (by kernel_rfl) (fun _ _ _ h => h) (Or.inl ⟨by rfl, ?_⟩) hHeld ?_
      · intro w hSw
        go_simp
        omega
      try simp only [Act.put, List.setIfInBounds_toArray, List.set_cons_zero, List.set_cons_succ]
      refine wpAnyH_ready (rs := [3]) (by kernel_rfl) (by simp) ?_
      refine AllReadyH.cons (by simp only [List.getElem?_toArray, List.getElem?_cons_zero, List.getElem?_cons_succ]; rfl) (fun K hK => ?_) AllReadyH.nil
      rw [if_pos (by rfl)]
      go_simp
      refine (HC1.out wd (HGE.out _ HBd.out) (HKL.out _ HBd.out).1).mono ?_
      rintro e w3 ⟨rfl, hb3⟩
      have HB3 : Hid (Below w'.heap.size w' w3) := HBd.out.trans (hb3.mono HBd.out.size)
      clear hb3 HBd HC1
      go_wp2_with fail
      refine hK.out _ _ True.intro (fun hHeld => ?_)
      clear hK K
      try simp only [Act.put, List.setIfInBounds_toArray, List.set_cons_zero, List.set_cons_succ]
      refine wpAnyH_ready (rs := [7]) (by kernel_rfl) (by simp) ?_
      refine AllReadyH.cons (by simp only [List.getElem?_toArray, List.getElem?_cons_zero, List.getElem?_cons_succ]; rfl) (fun K hK => ?_) AllReadyH.nil
      rw [if_pos (by rfl)]
      go_simp
      refine (HC2.out w3 (HGE.out _ HB3.out) (HKL.out _ HB3.out).2).mono ?_
      rintro e w4 ⟨rfl, hb4⟩
      have HB4 : Hid (Below w'.heap.size w' w4) := HB3.out.trans (hb4.mono HB3.out.size)
      clear hb4 HB3 HC2
      go_wp2_with fail
      refine hK.out _ _ True.intro (fun hHeld => ?_)
      clear hK K
      try simp only [Act.put, List.setIfInBounds_toArray, List.set_cons_zero, List.set_cons_succ]
      refine wpAnyH_ready (rs := [8]) (by kernel_rfl) (by simp) ?_
      refine AllReadyH.cons (by simp only [List.getElem?_toArray, List.getElem?_cons_zero, List.getElem?_cons_succ]; rfl) (fun K hK => ?_) AllReadyH.nil
      rw [if_pos (by rfl)]
      go_simp
      refine (wtree_node X Y w4 (HGE.out _ HB4.out) lA lB).mono ?_
      rintro e w5 ⟨rfl, hb5⟩
      have HB5 : Hid (Below w'.heap.size w' w5) := HB4.out.trans (hb5.mono HB4.out.size)
      clear hb5 HB4
      generalize nodeT X Y = D at *
      go_wp2_with fail
      refine hK.out _ _ True.intro (fun hHeld => ?_)
      clear hK K
      try simp only [Act.put, List.setIfInBounds_toArray, List.set_cons_zero, List.set_cons_succ]
      refine wpAnyH_ready (rs := [9]) (by kernel_rfl) (by simp) ?_
      refine AllReadyH.cons (by simp only [List.getElem?_toArray, List.getElem?_cons_zero, List.getElem?_cons_succ]; rfl) (fun K hK => ?_) AllReadyH.nil
      rw [if_pos (by rfl)]
      refine wp_store_mid _ _ _ rfl w.heap.size 0 (cellsB D).toArray rfl rfl (by rw [cellsB_size, hlen]; exact (HKT.out _ HB5.out).2.1) (by rw [cellsB_size, hlen]; exact Tryd.sizeDg) (all_oneCell_toArray (cellsB_one _)) ?_
      refine hK.out _ _ True.intro (fun hHeld => ?_)
      clear hK K
      try simp only [Act.put, List.setIfInBounds_toArray, List.set_cons_zero, List.set_cons_succ]
      refine wpAnyH_done (by kernel_rfl) (NoPanic.normal ?_) _
      clear hHeld
      go_wp2_with fail
      refine bodyPost_ret (v := digestV D) (run_results_row Tryd.results24 _ _ w.heap.size 0 (by rfl) (cellsB D) (World.rangeAt_setCells_same _ _ _ _ (by rw [cellsB_length, hlen]; exact (HKT.out _ HB5.out).2.1)) _ Tryd.underlying23 (by rfl) (by rw [cellsB_length, hlen]; exact Tryd.sizeDg)) rfl ⟨by rw [HE.out], ?_⟩
      exact below_setCells _ (Nat.le_refl _) _ _ _ (HKT.out _ HB5.out).2.2
    · by_cases h0 : n = 0
      · subst h0
        have HE : Hid (rootT ls = shaL []) := rootT_none HLEN.out
        rw [HE.out] at hlen
        go_wp2_with (refine wpList_allocE (by rfl) 23 (by rfl) (cellsB zD).toArray Tryd.zeroDg w.heap.size rfl w2 hw2 ?_)
        refine (wsum_any none 0 0 [] w2 (HGE.out _ (Below.refl _ _)) (Row.nil _) (by omega) (by omega)).mono ?_
        rintro e w3 ⟨rfl, hb3⟩
        have HB3 : Hid (Below w2.heap.size w2 w3) := hb3
        clear hb3
        generalize shaL [] = D at *
        go_wp2_with (refine wpList_store_mid (by rfl) 23 (.tmp 2) (.tmp 8) (by rfl) w.heap.size 0 (cellsB D).toArray (by rfl) (by rfl) (by rw [cellsB_size, hlen]; exact (HKT.out _ HB3.out).2.1) (by rw [cellsB_size, hlen]; exact Tryd.sizeDg) (all_oneCell_toArray (cellsB_one _)) ?_)
        refine bodyPost_ret (v := digestV D) (run_results_row Tryd.results24 _ _ w.heap.size 0 (by rfl) (cellsB D) (World.rangeAt_setCells_same _ _ _ _ (by rw [cellsB_length, hlen]; exact (HKT.out _ HB3.out).2.1)) _ Tryd.underlying23 (by rfl) (by rw [cellsB_length, hlen]; exact Tryd.sizeDg)) rfl ⟨by rw [HE.out], ?_⟩
        exact below_setCells _ (Nat.le_refl _) _ _ _ (HKT.out _ HB3.out).2.2
      · obtain rfl : n = 1 := by omega
        have HE : Hid (rootT ls = ls.getD 0 []) := rootT_one HLEN.out
        rw [HE.out] at hlen
        obtain ⟨b, o, rfl⟩ := HR2.out.addr (by omega)
        have HX : Hid (DAt w2 b o (ls.getD 0 [])) := by have := HR2.out.at 0 (by omega); rwa [Nat.zero_mul, Nat.add_zero] at this
        generalize ls.getD 0 [] = D at *
        go_wp2_with (first
          | (refine wpList_allocE (by rfl) 23 (by rfl) (cellsB zD).toArray Tryd.zeroDg w.heap.size rfl w2 hw2 ?_)
          | (refine wpList_load_mid (by rfl) 23 (.tmp 12) (by rfl) b o (by rfl) (cellsB D) _ HX.out Tryd.underlying23 (by rfl) (by rw [cellsB_length, hlen]; exact Tryd.sizeDg) ?_)
          | (refine wpList_store_mid (by rfl) 23 (.tmp 2) (.tmp 13) (by rfl) w.heap.size 0 (cellsB D).toArray (by rfl) (by rfl) (by rw [cellsB_size, hlen]; exact HT2.out) (by rw [cellsB_size, hlen]; exact Tryd.sizeDg) (all_oneCell_toArray (cellsB_one _)) ?_))
        refine bodyPost_ret (v := digestV D) (run_results_row Tryd.results24 _ _ w.heap.size 0 (by rfl) (cellsB D) (World.rangeAt_setCells_same _ _ _ _ (by rw [cellsB_length, hlen]; exact HT2.out)) _ Tryd.underlying23 (by rfl) (by rw [cellsB_length, hlen]; exact Tryd.sizeDg)) rfl ⟨by rw [HE.out], ?_⟩
        exact below_setCells _ (Nat.le_refl _) _ _ _ HB2.out
set_option maxRecDepth 100000 in
set_option maxHeartbeats 1000000 in
theorem wtree_root (a : Option Addr) (n c : Nat) (ls : List (List UInt8)) (w : World) (G : Env w) (R : DRow w a n ls) (hc : n ≤ c) (hn : n ≤ 256) :
    Calls Tryd.prog 11 #[.slice a n c] w fun e w' => e = .returned (.tuple #[digestV (rootT ls), .nilIface]) ∧ Below w.heap.size w w' := by
  obtain ⟨w2, hw2⟩ : ∃ w2, w.alloc (.cells (cellsB zD).toArray 23) = w2 := ⟨_, rfl⟩
  have HS2 : Hid (w2.heap.size = w.heap.size + 1) := by unfold Hid; rw [← hw2]; simp
  have HB2 : Hid (Below w.heap.size w w2) := by rw [← hw2]; exact (Below.refl _ _).alloc (Nat.le_refl _) _
  have HT2 : Hid (w2.there w.heap.size 0 32) := by rw [← hw2]; exact alloc_thereAt _ _ _ 32 _ rfl zD_size.symm
  have HG : Hid (Env w2 ∧ DRow w2 a n ls) := ⟨G.below HB2.out, R.below HB2.out⟩
  have hlen := rootT_length R.2.1
  clear G R
  have g1 : ¬ (256 : Int) < (n : Int) := by omega
  go_enter Tryd.func11, Tryd.ntmps11
  go_wp2_with (refine wpList_allocE (by rfl) 23 (by rfl) (cellsB zD).toArray Tryd.zeroDg w.heap.size rfl w2 hw2 ?_)
  refine (wroot_any n a c ls w2 HG.out.1 HG.out.2 hc hn).mono ?_
  rintro e w3 ⟨rfl, hb3⟩
  have HB3 : Hid (Below w.heap.size w w3) := below_trans HB2.out hb3
  have HT3 : Hid (w3.there w.heap.size 0 32) := there_below HT2.out hb3 (by have := HS2.out; omega)
  clear hb3 hw2 HG
  generalize hD : rootT ls = D at *
  have HD : Hid (rootT ls = D) := hD
  clear hD
  go_wp2_with (refine wpList_store_mid (by rfl) 23 (.tmp 2) (.tmp 10) (by rfl) w.heap.size 0 (cellsB D).toArray (by rfl) (by rfl) (by rw [cellsB_size, hlen]; exact HT3.out) (by rw [cellsB_size, hlen]; exact Tryd.sizeDg) (all_oneCell_toArray (cellsB_one _)) ?_)
  refine bodyPost_ret (v := .tuple #[digestV D, .nilIface]) (run_results_row2 Tryd.results11 _ _ w.heap.size 0 (by rfl) _ (by rfl) (cellsB D) (World.rangeAt_setCells_same _ _ _ _ (by rw [cellsB_length, hlen]; exact HT3.out)) _ Tryd.underlying23 (by rfl) (by rw [cellsB_length, hlen]; exact Tryd.sizeDg)) rfl ⟨by rw [HD.out], ?_⟩
  exact below_setCells _ (Nat.le_refl _) _ _ _ HB3.out
set_option maxRecDepth 100000 in
set_option maxHeartbeats 1000000 in
theorem wtree_full (a : Option Addr) (n c : Nat) (ls : List (List UInt8)) (w : World) (G : Env w) (R : DRow w a n ls) (hc : n ≤ c) (hn : 256 < n) (hn2 : 32 * n ≤ 140737488351232) :
    Calls Tryd.prog 11 #[.slice a n c] w fun e w' => e = .returned (.tuple #[digestV zD, .iface 51 (.int .i64 4)]) ∧ Below w.heap.size w w' := by
  obtain ⟨w2, hw2⟩ : ∃ w2, w.alloc (.cells (cellsB zD).toArray 23) = w2 := ⟨_, rfl⟩
  have HS2 : Hid (w2.heap.size = w.heap.size + 1) := by unfold Hid; rw [← hw2]; simp
  have HB2 : Hid (Below w.heap.size w w2) := by rw [← hw2]; exact (Below.refl _ _).alloc (Nat.le_refl _) _
  have HT2 : Hid (w2.there w.heap.size 0 32) := by rw [← hw2]; exact alloc_thereAt _ _ _ 32 _ rfl zD_size.symm
  clear G R
  have g1 : (256 : Int) < (n : Int) := by omega
  go_enter Tryd.func11, Tryd.ntmps11
  go_wp2_with (first
    | (refine wpList_allocE (by rfl) 23 (by rfl) (cellsB zD).toArray Tryd.zeroDg w.heap.size rfl w2 hw2 ?_)
    | (refine wpList_buildC (by rfl) 23 _ (by rfl) (cellsB zD).toArray (by kernel_rfl) ?_)
    | (refine wpList_store_mid (by rfl) 23 (.tmp 2) (.tmp 7) (by rfl) w.heap.size 0 (cellsB zD).toArray (by rfl) (by rfl) (by rw [cellsB_size]; exact HT2.out) (by rw [cellsB_size]; exact Tryd.sizeDg) (all_oneCell_toArray (cellsB_one _)) ?_))
  refine bodyPost_ret (v := .tuple #[digestV zD, .iface 51 (.int .i64 4)]) (run_results_row2 Tryd.results11 _ _ w.heap.size 0 (by rfl) _ (by rfl) (cellsB zD) (World.rangeAt_setCells_same _ _ _ _ (by rw [cellsB_length]; exact HT2.out)) _ Tryd.underlying23 (by rfl) (by rw [cellsB_length]; exact Tryd.sizeDg)) rfl ⟨rfl, ?_⟩
  exact below_setCells _ (Nat.le_refl _) _ _ _ HB2.out
end Go.Proofs.YtghiniaijobonaaDoor
/- The contracts of stamp.Public and New. -/
namespace Go.Proofs.YtghiniaijobonaaDoor
open Go.RowKit
set_option linter.unusedVariables false
set_option linter.unusedSimpArgs false

set_option maxRecDepth 100000 in
set_option maxHeartbeats 1000000 in
theorem wstamp_public (seed : List UInt8) (h : Nat) (w : World) (G : Env w) (hs : seed.length = 32) (hh : h ≤ 4) :
    Calls Tryd.prog 4 #[digestV seed, .int .i64 (h : Int)] w fun e w' => e = .returned (.tuple #[digestV (stampPubL seed (2 ^ h)), .nilIface]) ∧ Below w.heap.size w w' := by
  obtain ⟨w2, hw2⟩ : ∃ w2, (w.alloc (.cells (cellsB seed).toArray 23)).alloc (.cells (cellsB zD).toArray 23) = w2 := ⟨_, rfl⟩
  have hs1 : (w.alloc (.cells (cellsB seed).toArray 23)).heap.size = w.heap.size + 1 := by simp
  have HS2 : Hid (w2.heap.size = w.heap.size + 1 + 1) := by unfold Hid; rw [← hw2]; simp
  have HB2 : Hid (Below w.heap.size w w2) := by rw [← hw2]; exact ((Below.refl _ _).alloc (Nat.le_refl _) _).alloc (by simp) _
  have HD2 : Hid (DAt w2 w.heap.size 0 seed) := by rw [← hw2]; exact World.rangeAt_alloc (box_dat w seed _) _
  have HT2 : Hid (w2.there (w.heap.size + 1) 0 32) := by rw [← hw2]; exact alloc_thereAt _ _ _ 32 _ hs1 zD_size.symm
  have HG : Hid (Env w2) := G.below HB2.out
  clear G
  have hp16 := (Stm.pow hh).2
  go_enter Tryd.func4, Tryd.ntmps4
  go_wp2_with (first
    | (refine wpList_allocE (by rfl) 23 (by rfl) (cellsB zD).toArray Tryd.zeroDg (w.heap.size + 1) hs1 w2 hw2 ?_)
    | (refine wpList_load_mid (by rfl) 23 (.tmp 2) (by rfl) w.heap.size 0 (by rfl) (cellsB seed) _ HD2.out Tryd.underlying23 (by rfl) (by rw [cellsB_length, hs]; exact Tryd.sizeDg) ?_))
  clear hw2 hs1
  refine (wleaves_any seed h w2 HG.out hs hh).mono ?_
  rintro e w3 ⟨⟨g, c, rfl, hg3, hc3, hr3⟩, hb3⟩
  have HR3 : Hid (DRow w3 (some ⟨g, 0, none⟩) (2 ^ h) (stampLeavesL seed (2 ^ h)) ∧ Below w2.heap.size w2 w3) := ⟨hr3, hb3⟩
  clear hr3 hb3 hg3
  have HE : Hid (rootT (stampLeavesL seed (2 ^ h)) = stampPubL seed (2 ^ h)) := rfl
  obtain ⟨n, hn⟩ : ∃ n, 2 ^ h = n := ⟨_, rfl⟩
  have HN : Hid (2 ^ h = n) := hn
  rw [hn] at HR3 HE hc3 hp16 ⊢
  clear hn
  go_wp2_with fail
  refine (wtree_root (some ⟨g, 0, none⟩) n c (stampLeavesL seed n) w3 (HG.out.below HR3.out.2) HR3.out.1 hc3 (by omega)).mono ?_
  rintro e w4 ⟨rfl, hb4⟩
  rw [HE.out]
  have HB4 : Hid (Below w2.heap.size w2 w4) := below_trans HR3.out.2 hb4
  have HT4 : Hid (w4.there (w.heap.size + 1) 0 32) := there_below HT2.out HB4.out (by have := HS2.out; omega)
  have hlen := stampPubL_length seed n
  clear hb4 HR3 HE
  generalize hD : stampPubL seed n = D at *
  have HD : Hid (stampPubL seed n = D) := hD
  clear hD
  go_wp2_with (refine wpList_store_mid (by rfl) 23 (.tmp 4) (.tmp 20) (by rfl) (w.heap.size + 1) 0 (cellsB D).toArray (by rfl) (by rfl) (by rw [cellsB_size, hlen]; exact HT4.out) (by rw [cellsB_size, hlen]; exact Tryd.sizeDg) (all_oneCell_toArray (cellsB_one _)) ?_)
  refine bodyPost_ret (v := .tuple #[digestV D, .nilIface]) (run_results_row2 Tryd.results4 _ _ (w.heap.size + 1) 0 (by rfl) _ (by rfl) (cellsB D) (World.rangeAt_setCells_same _ _ _ _ (by rw [cellsB_length, hlen]; exact HT4.out)) _ Tryd.underlying23 (by rfl) (by rw [cellsB_length, hlen]; exact Tryd.sizeDg)) rfl ⟨by rw [HN.out, HD.out], ?_⟩
  exact below_setCells _ (by omega) _ _ _ (HB2.out.trans (HB4.out.mono (by have := HS2.out; omega)))
set_option maxRecDepth 100000 in
set_option maxHeartbeats 1000000 in
theorem wstamp_pubout (seed : List UInt8) (h : Int) (w : World) (G : Env w) (hs : seed.length = 32) (hh : h < 0 ∨ 4 < h) (h1 : -9223372036854775808 ≤ h) (h2 : h ≤ 9223372036854775807) :
    Calls Tryd.prog 4 #[digestV seed, .int .i64 h] w fun e w' => e = .returned (.tuple #[digestV zD, .iface 51 (.int .i64 2)]) ∧ Below w.heap.size w w' := by
  obtain ⟨w2, hw2⟩ : ∃ w2, (w.alloc (.cells (cellsB seed).toArray 23)).alloc (.cells (cellsB zD).toArray 23) = w2 := ⟨_, rfl⟩
  have hs1 : (w.alloc (.cells (cellsB seed).toArray 23)).heap.size = w.heap.size + 1 := by simp
  have HS2 : Hid (w2.heap.size = w.heap.size + 1 + 1) := by unfold Hid; rw [← hw2]; simp
  have HB2 : Hid (Below w.heap.size w w2) := by rw [← hw2]; exact ((Below.refl _ _).alloc (Nat.le_refl _) _).alloc (by simp) _
  have HD2 : Hid (DAt w2 w.heap.size 0 seed) := by rw [← hw2]; exact World.rangeAt_alloc (box_dat w seed _) _
  have HT2 : Hid (w2.there (w.heap.size + 1) 0 32) := by rw [← hw2]; exact alloc_thereAt _ _ _ 32 _ hs1 zD_size.symm
  clear G
  go_enter Tryd.func4, Tryd.ntmps4
  go_wp2_with (first
    | (refine wpList_allocE (by rfl) 23 (by rfl) (cellsB zD).toArray Tryd.zeroDg (w.heap.size + 1) hs1 w2 hw2 ?_)
    | (refine wpList_load_mid (by rfl) 23 (.tmp 2) (by rfl) w.heap.size 0 (by rfl) (cellsB seed) _ HD2.out Tryd.underlying23 (by rfl) (by rw [cellsB_length, hs]; exact Tryd.sizeDg) ?_))
  clear hw2 hs1
  refine (wleaves_out seed h w2 hs hh h1 h2).mono ?_
  rintro e w3 ⟨rfl, hb3⟩
  have HT3 : Hid (w3.there (w.heap.size + 1) 0 32) := there_below HT2.out hb3 (by have := HS2.out; omega)
  have HB3 : Hid (Below w.heap.size w w3) := below_trans HB2.out hb3
  clear hb3 hh
  have lZ : zD.length = 32 := rfl
  have hbu : Tryd.prog.built 23 [] = some (cellsB zD).toArray := by kernel_rfl
  obtain ⟨Z, hZ⟩ : ∃ Z, zD = Z := ⟨_, rfl⟩
  have HZ : Hid (zD = Z) := hZ
  rw [hZ] at lZ hbu
  have HBU : Hid (Tryd.prog.built 23 [] = some (cellsB Z).toArray) := hbu
  clear hZ hbu
  go_wp2_with (first
    | (refine wpList_buildC (by rfl) 23 #[] (by rfl) (cellsB Z).toArray (by simpa using HBU.out) ?_)
    | (refine wpList_store_mid (by rfl) 23 (.tmp 4) (.tmp 16) (by rfl) (w.heap.size + 1) 0 (cellsB Z).toArray (by rfl) (by rfl) (by rw [cellsB_size, lZ]; exact HT3.out) (by rw [cellsB_size, lZ]; exact Tryd.sizeDg) (all_oneCell_toArray (cellsB_one _)) ?_))
  refine bodyPost_ret (v := .tuple #[digestV Z, .iface 51 (.int .i64 2)]) (run_results_row2 Tryd.results4 _ _ (w.heap.size + 1) 0 (by rfl) _ (by rfl) (cellsB Z) (World.rangeAt_setCells_same _ _ _ _ (by rw [cellsB_length, lZ]; exact HT3.out)) _ Tryd.underlying23 (by rfl) (by rw [cellsB_length, lZ]; exact Tryd.sizeDg)) rfl ⟨by rw [HZ.out], ?_⟩
  exact below_setCells _ (by omega) _ _ _ HB3.out
/-- A Stamp as it is made. -/
def stV (seed : List UInt8) (a : Option Addr) (n c : Nat) : List Value := cellsB seed ++ [.slice a n c, .int .i64 0]
theorem Tryd.zeroSt : (Tryd.prog.info? 57).map (·.zero) = some (some (.agg (stV zD none 0 0).toArray)) := by kernel_rfl
theorem Tryd.placesSt : (match Tryd.prog.underlying 57 with | some (.struct fields) => fields.toList.mapM (fun f => (Tryd.prog.info? f.type).map fun i => (f.offset, i.size)) | _ => none) = some [(0, 32), (32, 1), (33, 1)] := by kernel_rfl
theorem fillSt (seed : List UInt8) (hs : seed.length = 32) (a : Option Addr) (n c : Nat) : Instr.fill (([(0, 32), (32, 1), (33, 1)] : List (Nat × Nat)).toArray[·]?) (stV zD none 0 0).toArray [(0, digestV seed), (1, .slice a n c)] = some (stV seed a n c).toArray := by
  have hsz : (digestV seed).cells.size = 32 := cells32 hs
  have hb : ((digestV seed).cells.zipIdx.foldl (fun (cs : Array Value) (x : Value × Nat) => cs.setIfInBounds (0 + x.2) x.1) (stV zD none 0 0).toArray) = (cellsB seed ++ [Value.slice none 0 0, Value.int .i64 0]).toArray := by
    have := fold_set 0 (cellsB seed) 0 (stV zD none 0 0).toArray (by rw [cellsB_length, hs]; decide)
    rw [cellsB_length, hs] at this
    have h2 : ((digestV seed).cells.zipIdx.foldl (fun (cs : Array Value) (x : Value × Nat) => cs.setIfInBounds (0 + x.2) x.1) (stV zD none 0 0).toArray).toList = cellsB seed ++ [Value.slice none 0 0, Value.int .i64 0] := by
      have e1 : ((digestV seed).cells.zipIdx.foldl (fun (cs : Array Value) (x : Value × Nat) => cs.setIfInBounds (0 + x.2) x.1) (stV zD none 0 0).toArray) = ((cellsB seed).zipIdx.foldl (fun (cs : Array Value) (x : Value × Nat) => cs.setIfInBounds (0 + x.2) x.1) (stV zD none 0 0).toArray) := by
        show ((cellsB seed).toArray.zipIdx.foldl _ _) = _
        rw [← Array.foldl_toList, Array.toList_zipIdx]
      rw [e1, this]
      have e0 : (stV zD none 0 0).toArray.toList.drop (0 + 0 + 32) = [Value.slice none 0 0, Value.int .i64 0] := by rfl
      rw [e0]
      simp
    rw [← h2]
  unfold Instr.fill
  simp only [List.getElem?_toArray, List.getElem?_cons_zero]
  rw [if_neg (by simp only [hsz]; simp [stV, cellsB_length, zD])]
  unfold Instr.fill
  simp only [List.getElem?_toArray, List.getElem?_cons_succ, List.getElem?_cons_zero]
  rw [hb]
  rw [if_neg (by simp [Value.cells, cellsB_length, hs])]
  unfold Instr.fill
  congr 1
  have h3 : (cellsB seed).length = 32 := by rw [cellsB_length, hs]
  simp [stV, Value.cells, h3]
theorem Tryd.builtSt (seed : List UInt8) (hs : seed.length = 32) (a : Option Addr) (n c : Nat) : Tryd.prog.built 57 [(0, digestV seed), (1, .slice a n c)] = some (stV seed a n c).toArray := by
  unfold Program.built
  cases hi : Tryd.prog.info? 57 with
  | none => have := Tryd.zeroSt; rw [hi] at this; cases this
  | some it =>
    have hz : it.zero = some (.agg (stV zD none 0 0).toArray) := by have := Tryd.zeroSt; rw [hi] at this; simpa using this
    have hp := Tryd.placesSt
    cases hu : Tryd.prog.underlying 57 with
    | none => rw [hu] at hp; cases hp
    | some d =>
      rw [hu] at hp
      cases d <;> try (cases hp; done)
      case struct fs =>
        have hp' : fs.toList.mapM (fun f => (Tryd.prog.info? f.type).map fun i => (f.offset, i.size)) = some [(0, 32), (32, 1), (33, 1)] := hp
        show (match it.zero, fs.toList.mapM (fun f => (Tryd.prog.info? f.type).map fun i => (f.offset, i.size)) with | some z, some places => Instr.fill (places.toArray[·]?) z.cells [(0, digestV seed), (1, .slice a n c)] | _, _ => none) = _
        rw [hz, hp']
        exact fillSt seed hs a n c
theorem stm_new (w : World) (seed : List UInt8) (h g c : Nat) (hs : seed.length = 32) (hh : h ≤ 4) (hc : 2 ^ h ≤ c) (R : DRow w (some ⟨g, 0, none⟩) (2 ^ h) (stampLeavesL seed (2 ^ h))) (hg : g < w.heap.size) (t : TypeId) :
    Stm (w.alloc (.cells (stV seed (some ⟨g, 0, none⟩) (2 ^ h) c).toArray t)) w.heap.size seed h 0 := by
  have hb : Below w.heap.size w (w.alloc (.cells (stV seed (some ⟨g, 0, none⟩) (2 ^ h) c).toArray t)) := (Below.refl _ _).alloc (Nat.le_refl _) _
  have hr := box_range w (stV seed (some ⟨g, 0, none⟩) (2 ^ h) c) t
  have hl : (cellsB seed).length = 32 := by rw [cellsB_length, hs]
  have hsz : (stV seed (some ⟨g, 0, none⟩) (2 ^ h) c).toArray.size = 34 := by simp [stV, hl]
  refine ⟨g, c, hh, Nat.zero_le _, hs, fun j v hj => hr j v ?_, ?_, hc, ?_, alloc_there _ _ _ 34 (by rw [hsz]; omega), R.below hb, by omega⟩
  · unfold stV
    rw [List.getElem?_append_left (by have := (List.getElem?_eq_some_iff.1 hj).1; exact this)]
    exact hj
  · have := hr 32 (.slice (some ⟨g, 0, none⟩) (2 ^ h) c) (by unfold stV; rw [List.getElem?_append_right (by omega), hl]; rfl)
    exact this
  · have := hr 33 (.int .i64 0) (by unfold stV; rw [List.getElem?_append_right (by omega), hl]; rfl)
    exact this
set_option maxRecDepth 100000 in
set_option maxHeartbeats 1000000 in
theorem wstamp_newout (seed : List UInt8) (h : Int) (w : World) (G : Env w) (hs : seed.length = 32) (hh : h < 0 ∨ 4 < h) (h1 : -9223372036854775808 ≤ h) (h2 : h ≤ 9223372036854775807) :
    Calls Tryd.prog 7 #[digestV seed, .int .i64 h] w fun e w' => e = .returned (.tuple #[.pointer none, .iface 51 (.int .i64 2)]) ∧ Below w.heap.size w w' := by
  obtain ⟨w2, hw2⟩ : ∃ w2, w.alloc (.cells (cellsB seed).toArray 23) = w2 := ⟨_, rfl⟩
  have HS2 : Hid (w2.heap.size = w.heap.size + 1) := by unfold Hid; rw [← hw2]; simp
  have HD2 : Hid (DAt w2 w.heap.size 0 seed) := by rw [← hw2]; exact box_dat w seed _
  have HB2 : Hid (Below w.heap.size w w2) := by rw [← hw2]; exact (Below.refl _ _).alloc (Nat.le_refl _) _
  clear G
  go_enter Tryd.func7, Tryd.ntmps7
  go_wp2_with (refine wpList_load_mid (by rfl) 23 (.tmp 2) (by rfl) w.heap.size 0 (by rfl) (cellsB seed) _ (by first | exact HD2.out | (rw [hw2]; exact HD2.out)) Tryd.underlying23 (by rfl) (by rw [cellsB_length, hs]; exact Tryd.sizeDg) ?_)
  try rw [hw2]
  clear hw2
  refine (wleaves_out seed h w2 hs hh h1 h2).mono ?_
  rintro e w3 ⟨rfl, hb3⟩
  have HB3 : Hid (Below w.heap.size w w3) := below_trans HB2.out hb3
  clear hb3 hh
  go_wp2_with fail
  go_ret2
  exact ⟨rfl, HB3.out⟩
set_option maxRecDepth 100000 in
set_option maxHeartbeats 1000000 in
theorem wstamp_new (seed : List UInt8) (h : Nat) (w : World) (G : Env w) (hs : seed.length = 32) (hh : h ≤ 4) :
    Calls Tryd.prog 7 #[digestV seed, .int .i64 (h : Int)] w fun e w' => (∃ g, e = .returned (.tuple #[.pointer (some ⟨g, 0, none⟩), .nilIface]) ∧ w.heap.size ≤ g ∧ Stm w' g seed h 0) ∧ Below w.heap.size w w' := by
  obtain ⟨w2, hw2⟩ : ∃ w2, w.alloc (.cells (cellsB seed).toArray 23) = w2 := ⟨_, rfl⟩
  have HS2 : Hid (w2.heap.size = w.heap.size + 1) := by unfold Hid; rw [← hw2]; simp
  have HD2 : Hid (DAt w2 w.heap.size 0 seed) := by rw [← hw2]; exact box_dat w seed _
  have HB2 : Hid (Below w.heap.size w w2) := by rw [← hw2]; exact (Below.refl _ _).alloc (Nat.le_refl _) _
  have HG : Hid (Env w2) := G.below HB2.out
  clear G
  go_enter Tryd.func7, Tryd.ntmps7
  go_wp2_with (refine wpList_load_mid (by rfl) 23 (.tmp 2) (by rfl) w.heap.size 0 (by rfl) (cellsB seed) _ (by first | exact HD2.out | (rw [hw2]; exact HD2.out)) Tryd.underlying23 (by rfl) (by rw [cellsB_length, hs]; exact Tryd.sizeDg) ?_)
  try rw [hw2]
  clear hw2
  refine (wleaves_any seed h w2 HG.out hs hh).mono ?_
  rintro e w3 ⟨⟨g, c, rfl, hg3, hc3, hr3⟩, hb3⟩
  have HD3 : Hid (DAt w3 w.heap.size 0 seed) := HD2.out.below hb3 (by have := HS2.out; omega)
  have hgl : g < w3.heap.size := cell_block ((hr3.at 0 (Stm.pow hh).1).cell 0 (by rw [hr3.len 0 (Stm.pow hh).1]; omega))
  have HN3 : Hid (Stm (w3.alloc (.cells (stV seed (some ⟨g, 0, none⟩) (2 ^ h) c).toArray 57)) w3.heap.size seed h 0) := stm_new w3 seed h g c hs hh hc3 hr3 hgl _
  have HB3 : Hid (Below w.heap.size w (w3.alloc (.cells (stV seed (some ⟨g, 0, none⟩) (2 ^ h) c).toArray 57)) ∧ w.heap.size ≤ w3.heap.size) := ⟨(below_trans HB2.out hb3).alloc (by have := hb3.size; have := HS2.out; omega) _, by have := hb3.size; have := HS2.out; omega⟩
  clear hr3 hb3 hg3 HG hgl
  obtain ⟨nn, hnn⟩ : ∃ nn, 2 ^ h = nn := ⟨_, rfl⟩
  have HNN : Hid (2 ^ h = nn) := hnn
  rw [hnn] at HN3 HB3 hc3 ⊢
  clear hnn
  obtain ⟨SV, hSV⟩ : ∃ SV, stV seed (some ⟨g, 0, none⟩) nn c = SV := ⟨_, rfl⟩
  have hbs : Hid (Tryd.prog.built 57 [(0, digestV seed), (1, .slice (some ⟨g, 0, none⟩) nn c)] = some SV.toArray) := by rw [← hSV]; exact Tryd.builtSt seed hs _ _ _
  rw [hSV] at HN3 HB3
  clear hSV
  go_wp2_with (first
    | (refine wpList_load_mid (by rfl) 23 (.tmp 2) (by rfl) w.heap.size 0 (by rfl) (cellsB seed) _ HD3.out Tryd.underlying23 (by rfl) (by rw [cellsB_length, hs]; exact Tryd.sizeDg) ?_)
    | (refine wpList_buildC (by rfl) 57 _ (by rfl) SV.toArray (by simp only [List.map_toArray, List.map_cons, List.map_nil, Act.eval]; exact hbs.out) ?_))
  go_ret2
  exact ⟨⟨_, rfl, HB3.out.2, HN3.out⟩, HB3.out.1⟩
end Go.Proofs.YtghiniaijobonaaDoor
