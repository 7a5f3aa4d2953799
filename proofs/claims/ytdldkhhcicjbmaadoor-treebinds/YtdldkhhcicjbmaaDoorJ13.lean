/- Texts of this claim, joined: Lrooted, Lclash. -/
import Derived.Test.YtdldkhhcicjbmaaDoorJ12
import Derived.Test.YtdldkhhcicjbmaaDoorJ07
import Derived.Deep.RegionHeld3
import Derived.Test.YtdldkhhcicjbmaaDoorJ11
/- The laws' rooted: the root of two leaves is their Node, and not bytes 0. -/
namespace Go.Proofs.YtdldkhhcicjbmaaDoor
open Go.RowKit
set_option linter.unusedVariables false
set_option linter.unusedSimpArgs false

theorem dOne_lit : (cellsB dOne).toArray = #[.int .u8 1, .int .u8 0, .int .u8 0, .int .u8 0, .int .u8 0, .int .u8 0, .int .u8 0, .int .u8 0, .int .u8 0, .int .u8 0, .int .u8 0, .int .u8 0, .int .u8 0, .int .u8 0, .int .u8 0, .int .u8 0, .int .u8 0, .int .u8 0, .int .u8 0, .int .u8 0, .int .u8 0, .int .u8 0, .int .u8 0, .int .u8 0, .int .u8 0, .int .u8 0, .int .u8 0, .int .u8 0, .int .u8 0, .int .u8 0, .int .u8 0, .int .u8 0] := by kernel_rfl
theorem dTwo_lit : (cellsB dTwo).toArray = #[.int .u8 2, .int .u8 0, .int .u8 0, .int .u8 0, .int .u8 0, .int .u8 0, .int .u8 0, .int .u8 0, .int .u8 0, .int .u8 0, .int .u8 0, .int .u8 0, .int .u8 0, .int .u8 0, .int .u8 0, .int .u8 0, .int .u8 0, .int .u8 0, .int .u8 0, .int .u8 0, .int .u8 0, .int .u8 0, .int .u8 0, .int .u8 0, .int .u8 0, .int .u8 0, .int .u8 0, .int .u8 0, .int .u8 0, .int .u8 0, .int .u8 0, .int .u8 0] := by kernel_rfl
theorem zD_litT : (cellsB zD).toArray = #[.int .u8 0, .int .u8 0, .int .u8 0, .int .u8 0, .int .u8 0, .int .u8 0, .int .u8 0, .int .u8 0, .int .u8 0, .int .u8 0, .int .u8 0, .int .u8 0, .int .u8 0, .int .u8 0, .int .u8 0, .int .u8 0, .int .u8 0, .int .u8 0, .int .u8 0, .int .u8 0, .int .u8 0, .int .u8 0, .int .u8 0, .int .u8 0, .int .u8 0, .int .u8 0, .int .u8 0, .int .u8 0, .int .u8 0, .int .u8 0, .int .u8 0, .int .u8 0] := by kernel_rfl

set_option maxRecDepth 100000 in
set_option maxHeartbeats 1000000 in
theorem lrooted_any (w : World) (G : Env w) :
    Calls Tryd.prog 22 #[] w fun e w' => e = .returned (.bool true) ∧ Below w.heap.size w w' := by
  obtain ⟨iD, hiD, hzD0, hzD1, hzD2⟩ := info_parts Tryd.infoDg
  have l1 : dOne.length = 32 := rfl
  have l2 : dTwo.length = 32 := rfl
  have HR2 : Hid (DRow (w.alloc (.cells (cellsB (dOne ++ dTwo)).toArray 26)) (some ⟨w.heap.size, 0, none⟩) 2 [dOne, dTwo]) := DRow.lit2 w dOne dTwo _ l1 l2
  have HB2 : Hid (Below w.heap.size w (w.alloc (.cells (cellsB (dOne ++ dTwo)).toArray 26))) := (Below.refl _ _).alloc (Nat.le_refl _) _
  have HCR : Hid (Calls Tryd.prog 10 #[.slice (some ⟨w.heap.size, 0, none⟩) 2 2] (w.alloc (.cells (cellsB (dOne ++ dTwo)).toArray 26)) fun e w' => e = .returned (.tuple #[digestV (nodeT dOne dTwo), .nilIface]) ∧ Below (w.alloc (.cells (cellsB (dOne ++ dTwo)).toArray 26)).heap.size (w.alloc (.cells (cellsB (dOne ++ dTwo)).toArray 26)) w') := by
    have := wtree_root _ 2 2 _ _ (G.below HB2.out) HR2.out (Nat.le_refl _) (by omega)
    rw [root_two] at this
    exact this
  have HNC : Hid (∀ wx, Env wx → Calls Tryd.prog 20 #[.agg #[.int .u8 1, .int .u8 0, .int .u8 0, .int .u8 0, .int .u8 0, .int .u8 0, .int .u8 0, .int .u8 0, .int .u8 0, .int .u8 0, .int .u8 0, .int .u8 0, .int .u8 0, .int .u8 0, .int .u8 0, .int .u8 0, .int .u8 0, .int .u8 0, .int .u8 0, .int .u8 0, .int .u8 0, .int .u8 0, .int .u8 0, .int .u8 0, .int .u8 0, .int .u8 0, .int .u8 0, .int .u8 0, .int .u8 0, .int .u8 0, .int .u8 0, .int .u8 0], .agg #[.int .u8 2, .int .u8 0, .int .u8 0, .int .u8 0, .int .u8 0, .int .u8 0, .int .u8 0, .int .u8 0, .int .u8 0, .int .u8 0, .int .u8 0, .int .u8 0, .int .u8 0, .int .u8 0, .int .u8 0, .int .u8 0, .int .u8 0, .int .u8 0, .int .u8 0, .int .u8 0, .int .u8 0, .int .u8 0, .int .u8 0, .int .u8 0, .int .u8 0, .int .u8 0, .int .u8 0, .int .u8 0, .int .u8 0, .int .u8 0, .int .u8 0, .int .u8 0]] wx fun e w' => e = .returned (digestV (nodeT dOne dTwo)) ∧ Below wx.heap.size wx w') := fun wx hx => by
    have := wtree_node dOne dTwo wx hx l1 l2
    unfold digestV at this
    rw [dOne_lit, dTwo_lit] at this
    exact this
  have lN := nodeT_length dOne dTwo
  have HNE : Hid (nodeT dOne dTwo ≠ zD) := tree_ne
  have HG : Hid (Env w) := G
  clear G HR2
  generalize nodeT dOne dTwo = X at *
  go_enter Tryd.func22, Tryd.ntmps22
  go_wp2_with (first
    | (refine wpList_buildC (by rfl) 26 #[(0, .const (.int .u8 1))] (by rfl) (cellsB dOne).toArray (by kernel_rfl) ?_)
    | (refine wpList_buildC (by rfl) 26 #[(0, .const (.int .u8 2))] (by rfl) (cellsB dTwo).toArray (by kernel_rfl) ?_)
    | (refine wpList_build2 (by rfl) (.tmp 4) (.tmp 5) 22 (by rfl) 26 (.agg zeros32) iD dOne dTwo l1 l2 (by rfl) (by rfl) Tryd.underlying22 hiD hzD0 (by rfl) hzD1 ?_))
  refine HCR.out.mono ?_
  rintro e w3 ⟨rfl, hb3⟩
  have HB3 : Hid (Below w.heap.size w w3) := below_trans HB2.out hb3
  clear hb3 HB2 HCR
  obtain ⟨w4, hw4⟩ : ∃ w4, w3.alloc (.cells (cellsB zD).toArray 26) = w4 := ⟨_, rfl⟩
  have HT4 : Hid (w4.there w3.heap.size 0 32) := by rw [← hw4]; exact alloc_thereAt _ _ _ 32 _ rfl zD_size.symm
  have hb5 : Below w3.heap.size w3 (w4.setCells w3.heap.size 0 (cellsB X)) := by rw [← hw4]; exact new_stored _ _ _
  have HX5 : Hid (DAt (w4.setCells w3.heap.size 0 (cellsB X)) w3.heap.size 0 X) := dat_stored HT4.out lN
  have HB5 : Hid (Below w.heap.size w (w4.setCells w3.heap.size 0 (cellsB X))) := below_trans HB3.out hb5
  clear hb5 HB3
  obtain ⟨w5, hw5⟩ : ∃ w5, w4.setCells w3.heap.size 0 (cellsB X) = w5 := ⟨_, rfl⟩
  rw [hw5] at HX5 HB5
  go_wp2_with (first
    | (refine wpList_allocE (by rfl) 26 (by rfl) (cellsB zD).toArray Tryd.zeroDg w3.heap.size rfl w4 hw4 ?_)
    | (refine wpList_store_mid (by rfl) 26 (.tmp 1) (.tmp 8) (by rfl) w3.heap.size 0 (cellsB X).toArray (by rfl) (by rfl) (by rw [cellsB_size, lN]; exact HT4.out) (by rw [cellsB_size, lN]; exact Tryd.sizeDg) (all_oneCell_toArray (cellsB_one _)) ?_; rw [show (cellsB X).toArray.toList = cellsB X from rfl, hw5]))
  clear hw4 hw5 HT4
  generalize w3.heap.size = g at *
  have hg5 : g < w5.heap.size := cell_block (HX5.out.cell 0 (by omega))
  have HSx : Hid (∀ wx, Below w5.heap.size w5 wx → wx.rangeAt g 0 (cellsB X)) := fun wx hx => HX5.out.below hx hg5
  refine wp_region_noPanic ?_
  refine wp_region_held_drew (S := fun w' => w'.rangeAt g 0 (cellsB X)) (by kernel_rfl) (HSx.out _ (below_drewN w5 1)) (fun hHeld => ?_)
  try simp only [Act.put, List.setIfInBounds_toArray, List.set_cons_zero, List.set_cons_succ]
  have HBd : Hid (Below w5.heap.size w5 w5.drew) := below_drewN w5 1
  generalize w5.drew = wd at *
  refine wpAnyH_take (i := 0) (v := ?_) (by simp only [List.getElem?_toArray, List.getElem?_cons_zero, List.getElem?_cons_succ]; rfl) (by kernel_rfl) (by kernel_rfl) (by kernel_rfl) (fun _ _ _ h => h) (Or.inl ⟨by rfl, ?_⟩) hHeld ?_
  rotate_left
  · intro w hSw
    go_simp
    try with_reducible rfl
  try simp only [Act.put, List.setIfInBounds_toArray, List.set_cons_zero, List.set_cons_succ]
  refine wpAnyH_take (i := 1) (v := ?_) (by simp only [List.getElem?_toArray, List.getElem?_cons_zero, List.getElem?_cons_succ]; rfl) (by kernel_rfl) (by kernel_rfl) (by kernel_rfl) (fun _ _ _ h => h) (Or.inl ⟨by rfl, ?_⟩) hHeld ?_
  rotate_left
  · intro w hSw
    go_simp
    try with_reducible rfl
  try simp only [Act.put, List.setIfInBounds_toArray, List.set_cons_zero, List.set_cons_succ]
  refine wpAnyH_take (i := 2) (v := ?_) (by simp only [List.getElem?_toArray, List.getElem?_cons_zero, List.getElem?_cons_succ]; rfl) (by kernel_rfl) (by kernel_rfl) (by kernel_rfl) (fun _ _ _ h => h) (Or.inl ⟨by rfl, ?_⟩) hHeld ?_
  rotate_left
  · intro w hSw
    go_simp
    try with_reducible rfl
  try simp only [Act.put, List.setIfInBounds_toArray, List.set_cons_zero, List.set_cons_succ]
  refine wpAnyH_take (i := 3) (v := .agg (cellsB X).toArray) (by simp only [List.getElem?_toArray, List.getElem?_cons_zero, List.getElem?_cons_succ]; rfl) (by kernel_rfl) (by kernel_rfl) (by kernel_rfl) (fun _ _ _ h => h)
    (yieldsIf_load_mid (by rfl) _ _ rfl _ _ rfl _ _ (fun w hw => hw) Tryd.underlying26 rfl (by rw [cellsB_length, lN]; exact Tryd.sizeDg)) hHeld ?_
  try simp only [Act.put, List.setIfInBounds_toArray, List.set_cons_zero, List.set_cons_succ]
  refine wpAnyH_take (i := 4) (v := ?_) (by simp only [List.getElem?_toArray, List.getElem?_cons_zero, List.getElem?_cons_succ]; rfl) (by kernel_rfl) (by kernel_rfl) (by kernel_rfl) (fun _ _ _ h => h) (Or.inl ⟨by rfl, ?_⟩) hHeld ?_
  rotate_left
  · intro w hSw
    go_simp
    try with_reducible rfl
  try simp only [Act.put, List.setIfInBounds_toArray, List.set_cons_zero, List.set_cons_succ]
  refine wpAnyH_take (i := 5) (v := ?_) (by simp only [List.getElem?_toArray, List.getElem?_cons_zero, List.getElem?_cons_succ]; rfl) (by kernel_rfl) (by kernel_rfl) (by kernel_rfl) (fun _ _ _ h => h) (Or.inl ⟨by rfl, ?_⟩) hHeld ?_
  rotate_left
  · intro w hSw
    go_simp
    try with_reducible rfl
  try simp only [Act.put, List.setIfInBounds_toArray, List.set_cons_zero, List.set_cons_succ]
  refine wpAnyH_ready (rs := [6]) (by kernel_rfl) (by simp) ?_
  refine AllReadyH.cons (by simp only [List.getElem?_toArray, List.getElem?_cons_zero, List.getElem?_cons_succ]; rfl) (fun K hK => ?_) AllReadyH.nil
  rw [if_pos (by rfl)]
  go_simp
  refine (HNC.out wd (HG.out.below (below_trans HB5.out HBd.out))).mono ?_
  rintro e w6 ⟨rfl, hb6⟩
  have HB6 : Hid (Below w5.heap.size w5 w6) := HBd.out.trans (hb6.mono HBd.out.size)
  clear hb6 HBd
  go_wp2_with fail
  refine hK.out _ _ (HSx.out _ HB6.out) (fun hHeld => ?_)
  clear hK K
  try simp only [Act.put, List.setIfInBounds_toArray, List.set_cons_zero, List.set_cons_succ]
  refine wpAnyH_take (i := 7) (v := .bool true) (by simp only [List.getElem?_toArray, List.getElem?_cons_zero, List.getElem?_cons_succ]; rfl) (by kernel_rfl) (by kernel_rfl) (by kernel_rfl) (fun _ _ _ h => h)
    (yieldsIf_eqD (by rfl) _ _ rfl X X lN lN rfl rfl true (decide_eq_true rfl)) hHeld ?_
  try simp only [Act.put, List.setIfInBounds_toArray, List.set_cons_zero, List.set_cons_succ]
  refine wpAnyH_take (i := 8) (v := ?_) (by simp only [List.getElem?_toArray, List.getElem?_cons_zero, List.getElem?_cons_succ]; rfl) (by kernel_rfl) (by kernel_rfl) (by kernel_rfl) (fun _ _ _ h => h) (Or.inl ⟨by rfl, ?_⟩) hHeld ?_
  rotate_left
  · intro w hSw
    go_simp
    try with_reducible rfl
  try simp only [Act.put, List.setIfInBounds_toArray, List.set_cons_zero, List.set_cons_succ]
  refine wpAnyH_take (i := 9) (v := ?_) (by simp only [List.getElem?_toArray, List.getElem?_cons_zero, List.getElem?_cons_succ]; rfl) (by kernel_rfl) (by kernel_rfl) (by kernel_rfl) (fun _ _ _ h => h) (Or.inl ⟨by rfl, ?_⟩) hHeld ?_
  rotate_left
  · intro w hSw
    go_simp
    try with_reducible rfl
  try simp only [Act.put, List.setIfInBounds_toArray, List.set_cons_zero, List.set_cons_succ]
  refine wpAnyH_take (i := 10) (v := .agg (cellsB X).toArray) (by simp only [List.getElem?_toArray, List.getElem?_cons_zero, List.getElem?_cons_succ]; rfl) (by kernel_rfl) (by kernel_rfl) (by kernel_rfl) (fun _ _ _ h => h)
    (yieldsIf_load_mid (by rfl) _ _ rfl _ _ rfl _ _ (fun w hw => hw) Tryd.underlying26 rfl (by rw [cellsB_length, lN]; exact Tryd.sizeDg)) hHeld ?_
  try simp only [Act.put, List.setIfInBounds_toArray, List.set_cons_zero, List.set_cons_succ]
  refine wpAnyH_take (i := 11) (v := ?_) (by simp only [List.getElem?_toArray, List.getElem?_cons_zero, List.getElem?_cons_succ]; rfl) (by kernel_rfl) (by kernel_rfl) (by kernel_rfl) (fun _ _ _ h => h) (Or.inl ⟨by rfl, ?_⟩) hHeld ?_
  rotate_left
  · intro w hSw
    go_simp
    try with_reducible rfl
  try simp only [Act.put, List.setIfInBounds_toArray, List.set_cons_zero, List.set_cons_succ]
  refine wpAnyH_take (i := 12) (v := .bool true) (by simp only [List.getElem?_toArray, List.getElem?_cons_zero, List.getElem?_cons_succ]; rfl) (by kernel_rfl) (by kernel_rfl) (by kernel_rfl) (fun _ _ _ h => h)
    (yieldsIf_neqD (by rfl) _ _ rfl X zD lN rfl rfl (by rw [zD_litT]; rfl) true (by simp [HNE.out])) hHeld ?_
  try simp only [Act.put, List.setIfInBounds_toArray, List.set_cons_zero, List.set_cons_succ]
  refine wpAnyH_take (i := 13) (v := ?_) (by simp only [List.getElem?_toArray, List.getElem?_cons_zero, List.getElem?_cons_succ]; rfl) (by kernel_rfl) (by kernel_rfl) (by kernel_rfl) (fun _ _ _ h => h) (Or.inl ⟨by rfl, ?_⟩) hHeld ?_
  rotate_left
  · intro w hSw
    go_simp
    try with_reducible rfl
  try simp only [Act.put, List.setIfInBounds_toArray, List.set_cons_zero, List.set_cons_succ]
  refine wpAnyH_take (i := 14) (v := ?_) (by simp only [List.getElem?_toArray, List.getElem?_cons_zero, List.getElem?_cons_succ]; rfl) (by kernel_rfl) (by kernel_rfl) (by kernel_rfl) (fun _ _ _ h => h) (Or.inl ⟨by rfl, ?_⟩) hHeld ?_
  rotate_left
  · intro w hSw
    go_simp
    try with_reducible rfl
  try simp only [Act.put, List.setIfInBounds_toArray, List.set_cons_zero, List.set_cons_succ]
  refine wpAnyH_done (by kernel_rfl) (NoPanic.normal ?_) _
  clear hHeld
  go_wp2_with fail
  go_ret
  exact ⟨rfl, below_trans HB5.out HB6.out⟩
end Go.Proofs.YtdldkhhcicjbmaaDoor
/- The laws' clash: two ways up to one root, from unlike leaves, have two unlike pairs with one Node. -/
namespace Go.Proofs.YtdldkhhcicjbmaaDoor
open Go.RowKit
set_option linter.unusedVariables false
set_option linter.unusedSimpArgs false

set_option maxRecDepth 100000 in
set_option maxHeartbeats 4000000 in
theorem lclash_any : ∀ (n : Nat), ∀ (la lb : List UInt8) (i p c1 c2 : Nat) (pa pb : Option Addr) (P1 P2 : List (List UInt8)) (w : World), la.length = 32 → lb.length = 32 → la ≠ lb → DRow w pa p P1 → DRow w pb p P2 → p = longT i n → p ≤ c1 → p ≤ c2 → 1 ≤ n → n ≤ 100000 → i < n → foldT la i n P1 = foldT lb i n P2 →
    Calls Tryd.prog 23 #[digestV la, .slice pa p c1, digestV lb, .slice pb p c2, .int .i64 (i : Int), .int .i64 (n : Int)] w fun e w' => e = .returned (.bool true) ∧ Below w.heap.size w w' := by
  intro n
  induction n using Nat.strongRecOn with
  | ind n ih =>
    intro la lb i p c1 c2 pa pb P1 P2 w hla hlb hne R1 R2 hp hc1 hc2 h1 hn hi hF
    have HI : Hid (∀ m, m < n → ∀ (la lb : List UInt8) (i p c1 c2 : Nat) (pa pb : Option Addr) (P1 P2 : List (List UInt8)) (w : World), la.length = 32 → lb.length = 32 → la ≠ lb → DRow w pa p P1 → DRow w pb p P2 → p = longT i m → p ≤ c1 → p ≤ c2 → 1 ≤ m → m ≤ 100000 → i < m → foldT la i m P1 = foldT lb i m P2 → Calls Tryd.prog 23 #[digestV la, .slice pa p c1, digestV lb, .slice pb p c2, .int .i64 (i : Int), .int .i64 (m : Int)] w fun e w' => e = .returned (.bool true) ∧ Below w.heap.size w w') := ih
    clear ih
    have h2 : 2 ≤ n := by
      apply Classical.byContradiction
      intro h
      rw [foldT_one h, foldT_one h] at hF
      exact hne hF
    obtain ⟨w2, hw2⟩ : ∃ w2, (w.alloc (.cells (cellsB la).toArray 26)).alloc (.cells (cellsB lb).toArray 26) = w2 := ⟨_, rfl⟩
    have hs1 : (w.alloc (.cells (cellsB la).toArray 26)).heap.size = w.heap.size + 1 := by simp
    have HS2 : Hid (w2.heap.size = w.heap.size + 1 + 1) := by unfold Hid; rw [← hw2]; simp
    have HB2 : Hid (Below w.heap.size w w2) := by rw [← hw2]; exact ((Below.refl _ _).alloc (Nat.le_refl _) _).alloc (by simp) _
    have HK : Hid (∀ wx, Below w2.heap.size w2 wx → (wx.rangeAt w.heap.size 0 (cellsB la) ∧ wx.rangeAt (w.heap.size + 1) 0 (cellsB lb)) ∧ (DRow wx pa p P1 ∧ DRow wx pb p P2) ∧ Below w.heap.size w wx) := fun wx hx => by
      have s := HS2.out
      have b : Below w.heap.size w wx := HB2.out.trans (hx.mono (by omega))
      refine ⟨⟨?_, ?_⟩, ⟨R1.below b, R2.below b⟩, b⟩
      · refine DAt.below (l := la) ?_ hx (by omega)
        rw [← hw2]; exact World.rangeAt_alloc (box_dat w la _) _
      · refine DAt.below (l := lb) ?_ hx (by omega)
        rw [← hw2]; exact box_rangeAt _ _ _ _ hs1
    have H0 : Hid (Below w2.heap.size w2 w2) := Below.refl _ _
    have hl1 : P1.length = p := R1.1
    have hl2 : P2.length = p := R2.1
    have hp1 : 1 ≤ p := by
      rw [hp]
      by_cases hik : i < halfT n
      · rw [longT_lo h2 hik]; omega
      · rw [longT_hi h2 hik]; omega
    obtain ⟨b1, o1, rfl⟩ := R1.addr (by omega)
    obtain ⟨b2, o2, rfl⟩ := R2.addr (by omega)
    obtain ⟨q, hq⟩ : ∃ q : Nat, p - 1 = q := ⟨_, rfl⟩
    have lX := R1.len q (by omega)
    have lY := R2.len q (by omega)
    have hqb : q ≤ 100000 := by have := longT_le n i; omega
    have HNE : Hid (la ≠ lb) := hne
    have HX : Hid (∀ wx, Below w2.heap.size w2 wx → wx.rangeAt b1 (o1 + q * 32) (cellsB (P1.getD q [])) ∧ wx.rangeAt b2 (o2 + q * 32) (cellsB (P2.getD q [])) ∧ DRow wx (some ⟨b1, o1, none⟩) q (P1.take q) ∧ DRow wx (some ⟨b2, o2, none⟩) q (P2.take q)) := fun wx hx => ⟨(HK.out _ hx).2.1.1.at q (by omega), (HK.out _ hx).2.1.2.at q (by omega), (HK.out _ hx).2.1.1.take q (by omega), (HK.out _ hx).2.1.2.take q (by omega)⟩
    have HLO : Hid (i < halfT n → nodeT (foldT la i (halfT n) (P1.take q)) (P1.getD q []) = nodeT (foldT lb i (halfT n) (P2.take q)) (P2.getD q []) ∧ q = longT i (halfT n)) := fun h => by
      have hF' := hF
      rw [foldT_lo h2 h, foldT_lo h2 h, hl1, hl2, hq] at hF'
      have := longT_lo h2 h
      exact ⟨hF', by omega⟩
    have HHI : Hid (¬ i < halfT n → nodeT (P1.getD q []) (foldT la (i - halfT n) (n - halfT n) (P1.take q)) = nodeT (P2.getD q []) (foldT lb (i - halfT n) (n - halfT n) (P2.take q)) ∧ q = longT (i - halfT n) (n - halfT n)) := fun h => by
      have hF' := hF
      rw [foldT_hi h2 h, foldT_hi h2 h, hl1, hl2, hq] at hF'
      have := longT_hi h2 h
      exact ⟨hF', by omega⟩
    have hpq : (p : Int) - 1 = (q : Int) := by omega
    have hqp : q < p := by omega
    have q0 : (0 : Int) ≤ (q : Int) := by omega
    have q1 : (q : Int) < (p : Int) := by omega
    have q2 : (q : Int) ≤ (c1 : Int) := by omega
    have q3 : (q : Int) ≤ (c2 : Int) := by omega
    have hk1 := halfT_lt h2
    have hk2 := halfT_pos n
    have e1 : ((n : Int) == 1) = false := by simp; omega
    have HHC : Hid (Calls Tryd.prog 25 #[.int .i64 (n : Int)] w2 fun e w' => e = .returned (.int .i64 (halfT n : Int)) ∧ w' = w2) := rhalf_any n w2 h2 (by omega)
    clear R1 R2 hp hF hl1 hl2 hq hne
    generalize P1.getD q [] = X at *
    generalize P2.getD q [] = Y at *
    generalize P1.take q = T1 at *
    generalize P2.take q = T2 at *
    generalize halfT n = k at *
    go_enter Tryd.func23, Tryd.ntmps23
    go_wp2_with fail
    try rw [hw2]
    clear hw2 hs1
    refine HHC.out.mono ?_
    rintro e w' ⟨rfl, hw'⟩
    subst hw'
    clear HHC
    obtain ⟨w3, hw3⟩ : ∃ w3, w'.alloc (.cells (cellsB zD).toArray 26) = w3 := ⟨_, rfl⟩
    have HTw3 : Hid (w3.there w'.heap.size 0 32) := by rw [← hw3]; exact alloc_thereAt _ _ _ 32 _ rfl zD_size.symm
    have hbw4 : Below w'.heap.size w' (w3.setCells w'.heap.size 0 (cellsB X)) := by rw [← hw3]; exact new_stored _ _ _
    have HX4 : Hid (DAt (w3.setCells w'.heap.size 0 (cellsB X)) w'.heap.size 0 X) := dat_stored HTw3.out lX
    have HB4 : Hid (Below w'.heap.size w' (w3.setCells w'.heap.size 0 (cellsB X))) := H0.out.trans (hbw4.mono H0.out.size)
    clear hbw4
    obtain ⟨w4, hw4⟩ : ∃ w4, w3.setCells w'.heap.size 0 (cellsB X) = w4 := ⟨_, rfl⟩
    rw [hw4] at HX4 HB4
    obtain ⟨w5, hw5⟩ : ∃ w5, w4.alloc (.cells (cellsB zD).toArray 26) = w5 := ⟨_, rfl⟩
    have HTw5 : Hid (w5.there w4.heap.size 0 32) := by rw [← hw5]; exact alloc_thereAt _ _ _ 32 _ rfl zD_size.symm
    have hbw6 : Below w4.heap.size w4 (w5.setCells w4.heap.size 0 (cellsB Y)) := by rw [← hw5]; exact new_stored _ _ _
    have HY6 : Hid (DAt (w5.setCells w4.heap.size 0 (cellsB Y)) w4.heap.size 0 Y) := dat_stored HTw5.out lY
    have HB6 : Hid (Below w'.heap.size w' (w5.setCells w4.heap.size 0 (cellsB Y))) := HB4.out.trans (hbw6.mono HB4.out.size)
    have hgx4 : w'.heap.size < w4.heap.size := cell_block (HX4.out.cell 0 (by omega))
    have HX6 : Hid (DAt (w5.setCells w4.heap.size 0 (cellsB Y)) w'.heap.size 0 X) := HX4.out.below hbw6 hgx4
    clear hbw6
    obtain ⟨w6, hw6⟩ : ∃ w6, w5.setCells w4.heap.size 0 (cellsB Y) = w6 := ⟨_, rfl⟩
    rw [hw6] at HY6 HB6 HX6
    have hgy6 : w4.heap.size < w6.heap.size := cell_block (HY6.out.cell 0 (by omega))
    by_cases hik : i < k
    · obtain ⟨hE, hQ⟩ := HLO.out hik
      have lU := foldT_length hla i k T1
      have lV := foldT_length hlb i k T2
      have HCU : Hid (∀ wx, DRow wx (some ⟨b1, o1, none⟩) q T1 → Calls Tryd.prog 18 #[digestV la, .int .i64 (i : Int), .int .i64 (k : Int), .slice (some ⟨b1, o1, none⟩) q c1] wx fun e w' => e = .returned (digestV (foldT la i k T1)) ∧ Below wx.heap.size wx w') := fun wx hr => rfold_any k la i q c1 _ T1 wx hla hr hQ (by omega) (by omega) (by omega) hik
      have HCV : Hid (∀ wx, DRow wx (some ⟨b2, o2, none⟩) q T2 → Calls Tryd.prog 18 #[digestV lb, .int .i64 (i : Int), .int .i64 (k : Int), .slice (some ⟨b2, o2, none⟩) q c2] wx fun e w' => e = .returned (digestV (foldT lb i k T2)) ∧ Below wx.heap.size wx w') := fun wx hr => rfold_any k lb i q c2 _ T2 wx hlb hr hQ (by omega) (by omega) (by omega) hik
      have HCR : Hid (foldT la i k T1 = foldT lb i k T2 → ∀ wx, DRow wx (some ⟨b1, o1, none⟩) q T1 → DRow wx (some ⟨b2, o2, none⟩) q T2 → Calls Tryd.prog 23 #[digestV la, .slice (some ⟨b1, o1, none⟩) q c1, digestV lb, .slice (some ⟨b2, o2, none⟩) q c2, .int .i64 (i : Int), .int .i64 (k : Int)] wx fun e w' => e = .returned (.bool true) ∧ Below wx.heap.size wx w') := fun h wx hr1 hr2 => HI.out k hk1 la lb i q c1 c2 _ _ T1 T2 wx hla hlb HNE.out hr1 hr2 hQ (by omega) (by omega) (by omega) (by omega) hik h
      have HE : Hid (nodeT (foldT la i k T1) X = nodeT (foldT lb i k T2) Y) := hE
      clear hE hQ HLO HHI HI
      have g1 : (i : Int) < (k : Int) := by omega
      generalize foldT la i k T1 = U at *
      generalize foldT lb i k T2 = V at *
      go_wp2_with (first
        | (refine wpList_load_mid (by rfl) 26 (.tmp 28) (by rfl) b1 (o1 + q * 32) (by rfl) (cellsB X) _ (HX.out _ H0.out).1 Tryd.underlying26 (by rfl) (by rw [cellsB_length, lX]; exact Tryd.sizeDg) ?_)
        | (refine wpList_allocE (by rfl) 26 (by rfl) (cellsB zD).toArray Tryd.zeroDg w'.heap.size rfl w3 hw3 ?_)
        | (refine wpList_store_mid (by rfl) 26 (.tmp 14) (.tmp 29) (by rfl) w'.heap.size 0 (cellsB X).toArray (by rfl) (by rfl) (by rw [cellsB_size, lX]; exact HTw3.out) (by rw [cellsB_size, lX]; exact Tryd.sizeDg) (all_oneCell_toArray (cellsB_one _)) ?_; rw [show (cellsB X).toArray.toList = cellsB X from rfl, hw4])
        | (refine wpList_load_mid (by rfl) 26 (.tmp 34) (by rfl) b2 (o2 + q * 32) (by rfl) (cellsB Y) _ (HX.out _ HB4.out).2.1 Tryd.underlying26 (by rfl) (by rw [cellsB_length, lY]; exact Tryd.sizeDg) ?_)
        | (refine wpList_allocE (by rfl) 26 (by rfl) (cellsB zD).toArray Tryd.zeroDg w4.heap.size rfl w5 hw5 ?_)
        | (refine wpList_store_mid (by rfl) 26 (.tmp 15) (.tmp 35) (by rfl) w4.heap.size 0 (cellsB Y).toArray (by rfl) (by rfl) (by rw [cellsB_size, lY]; exact HTw5.out) (by rw [cellsB_size, lY]; exact Tryd.sizeDg) (all_oneCell_toArray (cellsB_one _)) ?_; rw [show (cellsB Y).toArray.toList = cellsB Y from rfl, hw6])
        | (refine wpList_load_mid (by rfl) 26 (.tmp 6) (by rfl) w.heap.size 0 (by rfl) (cellsB la) _ (HK.out _ HB6.out).1.1 Tryd.underlying26 (by rfl) (by rw [cellsB_length, hla]; exact Tryd.sizeDg) ?_))
      clear hw3 hw4 hw5 hw6 HTw3 HTw5
      refine (HCU.out w6 (HX.out _ HB6.out).2.2.1).mono ?_
      rintro e w7 ⟨rfl, hb7⟩
      have HB7 : Hid (Below w'.heap.size w' w7) := HB6.out.trans (hb7.mono HB6.out.size)
      have HXY7 : Hid (DAt w7 w'.heap.size 0 X ∧ DAt w7 w4.heap.size 0 Y) := ⟨HX6.out.below hb7 (by omega), HY6.out.below hb7 hgy6⟩
      have hgy7 : w4.heap.size < w7.heap.size := Nat.lt_of_lt_of_le hgy6 hb7.size
      clear hb7 HX6 HY6 HB6 hgy6 HX4 HB4
      obtain ⟨w8, hw8⟩ : ∃ w8, w7.alloc (.cells (cellsB zD).toArray 26) = w8 := ⟨_, rfl⟩
      have HTw8 : Hid (w8.there w7.heap.size 0 32) := by rw [← hw8]; exact alloc_thereAt _ _ _ 32 _ rfl zD_size.symm
      have hbw9 : Below w7.heap.size w7 (w8.setCells w7.heap.size 0 (cellsB U)) := by rw [← hw8]; exact new_stored _ _ _
      have HU9 : Hid (DAt (w8.setCells w7.heap.size 0 (cellsB U)) w7.heap.size 0 U) := dat_stored HTw8.out lU
      have HB9 : Hid (Below w'.heap.size w' (w8.setCells w7.heap.size 0 (cellsB U))) := HB7.out.trans (hbw9.mono HB7.out.size)
      have HXY9 : Hid (DAt (w8.setCells w7.heap.size 0 (cellsB U)) w'.heap.size 0 X ∧ DAt (w8.setCells w7.heap.size 0 (cellsB U)) w4.heap.size 0 Y) := ⟨HXY7.out.1.below hbw9 (by omega), HXY7.out.2.below hbw9 hgy7⟩
      clear hbw9
      obtain ⟨w9, hw9⟩ : ∃ w9, w8.setCells w7.heap.size 0 (cellsB U) = w9 := ⟨_, rfl⟩
      rw [hw9] at HU9 HB9 HXY9
      go_wp2_with (first
        | (refine wpList_allocE (by rfl) 26 (by rfl) (cellsB zD).toArray Tryd.zeroDg w7.heap.size rfl w8 hw8 ?_)
        | (refine wpList_store_mid (by rfl) 26 (.tmp 18) (.tmp 62) (by rfl) w7.heap.size 0 (cellsB U).toArray (by rfl) (by rfl) (by rw [cellsB_size, lU]; exact HTw8.out) (by rw [cellsB_size, lU]; exact Tryd.sizeDg) (all_oneCell_toArray (cellsB_one _)) ?_; rw [show (cellsB U).toArray.toList = cellsB U from rfl, hw9])
        | (refine wpList_load_mid (by rfl) 26 (.tmp 8) (by rfl) (w.heap.size + 1) 0 (by rfl) (cellsB lb) _ (HK.out _ HB9.out).1.2 Tryd.underlying26 (by rfl) (by rw [cellsB_length, hlb]; exact Tryd.sizeDg) ?_))
      clear hw8 hw9 HTw8
      have hgu9 : w7.heap.size < w9.heap.size := cell_block (HU9.out.cell 0 (by omega))
      refine (HCV.out w9 (HX.out _ HB9.out).2.2.2).mono ?_
      rintro e wA ⟨rfl, hbA⟩
      have HBA : Hid (Below w'.heap.size w' wA) := HB9.out.trans (hbA.mono HB9.out.size)
      have HZA : Hid (DAt wA w'.heap.size 0 X ∧ DAt wA w4.heap.size 0 Y ∧ DAt wA w7.heap.size 0 U) := ⟨HXY9.out.1.below hbA (by omega), HXY9.out.2.below hbA (by omega), HU9.out.below hbA hgu9⟩
      have hguA : w7.heap.size < wA.heap.size := Nat.lt_of_lt_of_le hgu9 hbA.size
      clear hbA HXY7 HXY9 HU9 HB7 HB9 hgu9
      obtain ⟨wB, hwB⟩ : ∃ wB, wA.alloc (.cells (cellsB zD).toArray 26) = wB := ⟨_, rfl⟩
      have HTwB : Hid (wB.there wA.heap.size 0 32) := by rw [← hwB]; exact alloc_thereAt _ _ _ 32 _ rfl zD_size.symm
      have hbwC : Below wA.heap.size wA (wB.setCells wA.heap.size 0 (cellsB V)) := by rw [← hwB]; exact new_stored _ _ _
      have HVC : Hid (DAt (wB.setCells wA.heap.size 0 (cellsB V)) wA.heap.size 0 V) := dat_stored HTwB.out lV
      have HBC : Hid (Below w'.heap.size w' (wB.setCells wA.heap.size 0 (cellsB V))) := HBA.out.trans (hbwC.mono HBA.out.size)
      have HZC : Hid (DAt (wB.setCells wA.heap.size 0 (cellsB V)) w'.heap.size 0 X ∧ DAt (wB.setCells wA.heap.size 0 (cellsB V)) w4.heap.size 0 Y ∧ DAt (wB.setCells wA.heap.size 0 (cellsB V)) w7.heap.size 0 U) := ⟨HZA.out.1.below hbwC (by omega), HZA.out.2.1.below hbwC (by omega), HZA.out.2.2.below hbwC hguA⟩
      clear hbwC
      obtain ⟨wC, hwC⟩ : ∃ wC, wB.setCells wA.heap.size 0 (cellsB V) = wC := ⟨_, rfl⟩
      rw [hwC] at HVC HBC HZC
      have hgvC : wA.heap.size < wC.heap.size := cell_block (HVC.out.cell 0 (by omega))
      have HSx : Hid (∀ wx, Below wC.heap.size wC wx → wx.rangeAt w7.heap.size 0 (cellsB U) ∧ wx.rangeAt wA.heap.size 0 (cellsB V) ∧ wx.rangeAt w'.heap.size 0 (cellsB X) ∧ wx.rangeAt w4.heap.size 0 (cellsB Y)) := fun wx hx => ⟨HZC.out.2.2.below hx (by omega), HVC.out.below hx hgvC, HZC.out.1.below hx (by omega), HZC.out.2.1.below hx (by omega)⟩
      have HC0 : Hid (Below wC.heap.size wC wC) := Below.refl _ _
      clear HZA HZC HVC hguA HCU HCV
      by_cases hUV : U = V
      · by_cases hXY : X = Y
        · have hd1 : (!decide (U = V)) = false := by simp [hUV]
          have hd2 : (!decide (X = Y)) = false := by simp [hXY]
          have HUV : Hid (U = V) := hUV
          clear hUV hXY
          go_wp2_with (first
            | (refine wpList_allocE (by rfl) 26 (by rfl) (cellsB zD).toArray Tryd.zeroDg wA.heap.size rfl wB hwB ?_)
            | (refine wpList_store_mid (by rfl) 26 (.tmp 19) (.tmp 67) (by rfl) wA.heap.size 0 (cellsB V).toArray (by rfl) (by rfl) (by rw [cellsB_size, lV]; exact HTwB.out) (by rw [cellsB_size, lV]; exact Tryd.sizeDg) (all_oneCell_toArray (cellsB_one _)) ?_; rw [show (cellsB V).toArray.toList = cellsB V from rfl, hwC])
            | (refine wpList_load_midG (by rfl) 26 (.tmp 18) (by rfl) w7.heap.size 0 (by rfl) (cellsB U) _ (HSx.out _ HC0.out).1 Tryd.underlying26 (by rfl) (by rw [cellsB_length, lU]; exact Tryd.sizeDg) ?_)
            | (refine wpList_load_midG (by rfl) 26 (.tmp 19) (by rfl) wA.heap.size 0 (by rfl) (cellsB V) _ (HSx.out _ HC0.out).2.1 Tryd.underlying26 (by rfl) (by rw [cellsB_length, lV]; exact Tryd.sizeDg) ?_)
            | (refine wpList_load_midG (by rfl) 26 (.tmp 14) (by rfl) w'.heap.size 0 (by rfl) (cellsB X) _ (HSx.out _ HC0.out).2.2.1 Tryd.underlying26 (by rfl) (by rw [cellsB_length, lX]; exact Tryd.sizeDg) ?_)
            | (refine wpList_load_midG (by rfl) 26 (.tmp 15) (by rfl) w4.heap.size 0 (by rfl) (cellsB Y) _ (HSx.out _ HC0.out).2.2.2 Tryd.underlying26 (by rfl) (by rw [cellsB_length, lY]; exact Tryd.sizeDg) ?_)
            | (refine wpList_neqD (.tmp 68) (.tmp 69) (by rfl) (by rfl) U V lU lV (by rfl) (by rfl) false hd1 ?_)
            | (refine wpList_neqD (.tmp 72) (.tmp 73) (by rfl) (by rfl) X Y lX lY (by rfl) (by rfl) false hd2 ?_)
            | (refine wpList_load_midG (by rfl) 26 (.tmp 6) (by rfl) w.heap.size 0 (by rfl) (cellsB la) _ (HK.out _ HBC.out).1.1 Tryd.underlying26 (by rfl) (by rw [cellsB_length, hla]; exact Tryd.sizeDg) ?_)
            | (refine wpList_load_midG (by rfl) 26 (.tmp 8) (by rfl) (w.heap.size + 1) 0 (by rfl) (cellsB lb) _ (HK.out _ HBC.out).1.2 Tryd.underlying26 (by rfl) (by rw [cellsB_length, hlb]; exact Tryd.sizeDg) ?_))
          clear hwB hwC HTwB
          refine (HCR.out HUV.out wC (HX.out _ HBC.out).2.2.1 (HX.out _ HBC.out).2.2.2).mono ?_
          rintro e wG ⟨rfl, hbG⟩
          have HBG : Hid (Below w'.heap.size w' wG) := HBC.out.trans (hbG.mono HBC.out.size)
          clear hbG
          go_wp2_with fail
          go_ret
          exact ⟨rfl, (HK.out _ HBG.out).2.2⟩
        · have hd1 : (!decide (U = V)) = false := by simp [hUV]
          have hd2 : (!decide (X = Y)) = true := by simp [hXY]
          clear hUV hXY HCR
          go_wp2_with (first
            | (refine wpList_allocE (by rfl) 26 (by rfl) (cellsB zD).toArray Tryd.zeroDg wA.heap.size rfl wB hwB ?_)
            | (refine wpList_store_mid (by rfl) 26 (.tmp 19) (.tmp 67) (by rfl) wA.heap.size 0 (cellsB V).toArray (by rfl) (by rfl) (by rw [cellsB_size, lV]; exact HTwB.out) (by rw [cellsB_size, lV]; exact Tryd.sizeDg) (all_oneCell_toArray (cellsB_one _)) ?_; rw [show (cellsB V).toArray.toList = cellsB V from rfl, hwC])
            | (refine wpList_load_midG (by rfl) 26 (.tmp 18) (by rfl) w7.heap.size 0 (by rfl) (cellsB U) _ (HSx.out _ HC0.out).1 Tryd.underlying26 (by rfl) (by rw [cellsB_length, lU]; exact Tryd.sizeDg) ?_)
            | (refine wpList_load_midG (by rfl) 26 (.tmp 19) (by rfl) wA.heap.size 0 (by rfl) (cellsB V) _ (HSx.out _ HC0.out).2.1 Tryd.underlying26 (by rfl) (by rw [cellsB_length, lV]; exact Tryd.sizeDg) ?_)
            | (refine wpList_load_midG (by rfl) 26 (.tmp 14) (by rfl) w'.heap.size 0 (by rfl) (cellsB X) _ (HSx.out _ HC0.out).2.2.1 Tryd.underlying26 (by rfl) (by rw [cellsB_length, lX]; exact Tryd.sizeDg) ?_)
            | (refine wpList_load_midG (by rfl) 26 (.tmp 15) (by rfl) w4.heap.size 0 (by rfl) (cellsB Y) _ (HSx.out _ HC0.out).2.2.2 Tryd.underlying26 (by rfl) (by rw [cellsB_length, lY]; exact Tryd.sizeDg) ?_)
            | (refine wpList_neqD (.tmp 68) (.tmp 69) (by rfl) (by rfl) U V lU lV (by rfl) (by rfl) false hd1 ?_)
            | (refine wpList_neqD (.tmp 72) (.tmp 73) (by rfl) (by rfl) X Y lX lY (by rfl) (by rfl) true hd2 ?_))
          clear hwB hwC HTwB
          have lN := nodeT_length U X
          have HN1 : Hid (∀ wx, Calls Tryd.prog 21 #[digestV U, digestV X] wx fun e w' => e = .returned (digestV (nodeT U X)) ∧ Below wx.heap.size wx w') := fun wx => rnode_any U X wx lU lX
          have HN2 : Hid (∀ wx, Calls Tryd.prog 21 #[digestV V, digestV Y] wx fun e w' => e = .returned (digestV (nodeT U X)) ∧ Below wx.heap.size wx w') := fun wx => by rw [HE.out]; exact rnode_any V Y wx lV lY
          clear HE
          generalize nodeT U X = N at *
          refine wp_region_noPanic ?_
          refine wp_region_held_drew (S := fun w_ => w_.rangeAt w7.heap.size 0 (cellsB U) ∧ w_.rangeAt wA.heap.size 0 (cellsB V) ∧ w_.rangeAt w'.heap.size 0 (cellsB X) ∧ w_.rangeAt w4.heap.size 0 (cellsB Y)) (by kernel_rfl) (HSx.out _ (below_drewN wC 1)) (fun hHeld => ?_)
          try simp only [Act.put, List.setIfInBounds_toArray, List.set_cons_zero, List.set_cons_succ]
          have HBd : Hid (Below wC.heap.size wC wC.drew) := below_drewN wC 1
          generalize wC.drew = wd at *
          refine wpAnyH_take (i := 0) (v := .agg (cellsB U).toArray) (by simp only [List.getElem?_toArray, List.getElem?_cons_zero, List.getElem?_cons_succ]; rfl) (by kernel_rfl) (by kernel_rfl) (by kernel_rfl) (fun _ _ _ h => h)
            (yieldsIf_load_mid (by rfl) _ _ rfl _ _ rfl _ _ (fun w hw => hw.1) Tryd.underlying26 rfl (by rw [cellsB_length, lU]; exact Tryd.sizeDg)) hHeld ?_
          try simp only [Act.put, List.setIfInBounds_toArray, List.set_cons_zero, List.set_cons_succ]
          refine wpAnyH_take (i := 1) (v := .agg (cellsB X).toArray) (by simp only [List.getElem?_toArray, List.getElem?_cons_zero, List.getElem?_cons_succ]; rfl) (by kernel_rfl) (by kernel_rfl) (by kernel_rfl) (fun _ _ _ h => h)
            (yieldsIf_load_mid (by rfl) _ _ rfl _ _ rfl _ _ (fun w hw => hw.2.2.1) Tryd.underlying26 rfl (by rw [cellsB_length, lX]; exact Tryd.sizeDg)) hHeld ?_
          try simp only [Act.put, List.setIfInBounds_toArray, List.set_cons_zero, List.set_cons_succ]
          refine wpAnyH_take (i := 3) (v := .agg (cellsB V).toArray) (by simp only [List.getElem?_toArray, List.getElem?_cons_zero, List.getElem?_cons_succ]; rfl) (by kernel_rfl) (by kernel_rfl) (by kernel_rfl) (fun _ _ _ h => h)
            (yieldsIf_load_mid (by rfl) _ _ rfl _ _ rfl _ _ (fun w hw => hw.2.1) Tryd.underlying26 rfl (by rw [cellsB_length, lV]; exact Tryd.sizeDg)) hHeld ?_
          try simp only [Act.put, List.setIfInBounds_toArray, List.set_cons_zero, List.set_cons_succ]
          refine wpAnyH_take (i := 4) (v := .agg (cellsB Y).toArray) (by simp only [List.getElem?_toArray, List.getElem?_cons_zero, List.getElem?_cons_succ]; rfl) (by kernel_rfl) (by kernel_rfl) (by kernel_rfl) (fun _ _ _ h => h)
            (yieldsIf_load_mid (by rfl) _ _ rfl _ _ rfl _ _ (fun w hw => hw.2.2.2) Tryd.underlying26 rfl (by rw [cellsB_length, lY]; exact Tryd.sizeDg)) hHeld ?_
          try simp only [Act.put, List.setIfInBounds_toArray, List.set_cons_zero, List.set_cons_succ]
          refine wpAnyH_ready (rs := [2]) (by kernel_rfl) (by simp) ?_
          refine AllReadyH.cons (by simp only [List.getElem?_toArray, List.getElem?_cons_zero, List.getElem?_cons_succ]; rfl) (fun K hK => ?_) AllReadyH.nil
          rw [if_pos (by rfl)]
          go_simp
          refine (HN1.out wd).mono ?_
          rintro e wE ⟨rfl, hbE⟩
          have HBE : Hid (Below wC.heap.size wC wE) := HBd.out.trans (hbE.mono HBd.out.size)
          clear hbE HBd
          go_wp2_with fail
          refine hK.out _ _ (HSx.out _ HBE.out) (fun hHeld => ?_)
          clear hK K
          try simp only [Act.put, List.setIfInBounds_toArray, List.set_cons_zero, List.set_cons_succ]
          refine wpAnyH_ready (rs := [5]) (by kernel_rfl) (by simp) ?_
          refine AllReadyH.cons (by simp only [List.getElem?_toArray, List.getElem?_cons_zero, List.getElem?_cons_succ]; rfl) (fun K hK => ?_) AllReadyH.nil
          rw [if_pos (by rfl)]
          go_simp
          refine (HN2.out wE).mono ?_
          rintro e wF ⟨rfl, hbF⟩
          have HBF : Hid (Below wC.heap.size wC wF) := HBE.out.trans (hbF.mono HBE.out.size)
          clear hbF HBE
          go_wp2_with fail
          refine hK.out _ _ (HSx.out _ HBF.out) (fun hHeld => ?_)
          clear hK K
          try simp only [Act.put, List.setIfInBounds_toArray, List.set_cons_zero, List.set_cons_succ]
          refine wpAnyH_take (i := 6) (v := .bool true) (by simp only [List.getElem?_toArray, List.getElem?_cons_zero, List.getElem?_cons_succ]; rfl) (by kernel_rfl) (by kernel_rfl) (by kernel_rfl) (fun _ _ _ h => h)
            (yieldsIf_eqD (by rfl) _ _ rfl N N lN lN rfl rfl true (decide_eq_true rfl)) hHeld ?_
          try simp only [Act.put, List.setIfInBounds_toArray, List.set_cons_zero, List.set_cons_succ]
          refine wpAnyH_take (i := 7) (v := ?_) (by simp only [List.getElem?_toArray, List.getElem?_cons_zero, List.getElem?_cons_succ]; rfl) (by kernel_rfl) (by kernel_rfl) (by kernel_rfl) (fun _ _ _ h => h) (Or.inl ⟨by rfl, ?_⟩) hHeld ?_
          rotate_left
          · intro w hSw
            obtain ⟨hSw0, hSw1, hSw2, hSw3⟩ := hSw
            go_simp
            try with_reducible rfl
          try simp only [Act.put, List.setIfInBounds_toArray, List.set_cons_zero, List.set_cons_succ]
          refine wpAnyH_done (by kernel_rfl) (NoPanic.normal ?_) _
          clear hHeld
          go_wp2_with fail
          go_ret
          exact ⟨rfl, (HK.out _ (HBC.out.trans (HBF.out.mono HBC.out.size))).2.2⟩
      · have hd1 : (!decide (U = V)) = true := by simp [hUV]
        have hd2 : (!decide (X = Y)) = (!decide (X = Y)) := rfl
        clear hUV HCR
        go_wp2_with (first
          | (refine wpList_allocE (by rfl) 26 (by rfl) (cellsB zD).toArray Tryd.zeroDg wA.heap.size rfl wB hwB ?_)
          | (refine wpList_store_mid (by rfl) 26 (.tmp 19) (.tmp 67) (by rfl) wA.heap.size 0 (cellsB V).toArray (by rfl) (by rfl) (by rw [cellsB_size, lV]; exact HTwB.out) (by rw [cellsB_size, lV]; exact Tryd.sizeDg) (all_oneCell_toArray (cellsB_one _)) ?_; rw [show (cellsB V).toArray.toList = cellsB V from rfl, hwC])
          | (refine wpList_load_midG (by rfl) 26 (.tmp 18) (by rfl) w7.heap.size 0 (by rfl) (cellsB U) _ (HSx.out _ HC0.out).1 Tryd.underlying26 (by rfl) (by rw [cellsB_length, lU]; exact Tryd.sizeDg) ?_)
          | (refine wpList_load_midG (by rfl) 26 (.tmp 19) (by rfl) wA.heap.size 0 (by rfl) (cellsB V) _ (HSx.out _ HC0.out).2.1 Tryd.underlying26 (by rfl) (by rw [cellsB_length, lV]; exact Tryd.sizeDg) ?_)
          | (refine wpList_load_midG (by rfl) 26 (.tmp 14) (by rfl) w'.heap.size 0 (by rfl) (cellsB X) _ (HSx.out _ HC0.out).2.2.1 Tryd.underlying26 (by rfl) (by rw [cellsB_length, lX]; exact Tryd.sizeDg) ?_)
          | (refine wpList_load_midG (by rfl) 26 (.tmp 15) (by rfl) w4.heap.size 0 (by rfl) (cellsB Y) _ (HSx.out _ HC0.out).2.2.2 Tryd.underlying26 (by rfl) (by rw [cellsB_length, lY]; exact Tryd.sizeDg) ?_)
          | (refine wpList_neqD (.tmp 68) (.tmp 69) (by rfl) (by rfl) U V lU lV (by rfl) (by rfl) true hd1 ?_)
          | (refine wpList_neqD (.tmp 72) (.tmp 73) (by rfl) (by rfl) X Y lX lY (by rfl) (by rfl) (!decide (X = Y)) hd2 ?_))
        clear hwB hwC HTwB
        have lN := nodeT_length U X
        have HN1 : Hid (∀ wx, Calls Tryd.prog 21 #[digestV U, digestV X] wx fun e w' => e = .returned (digestV (nodeT U X)) ∧ Below wx.heap.size wx w') := fun wx => rnode_any U X wx lU lX
        have HN2 : Hid (∀ wx, Calls Tryd.prog 21 #[digestV V, digestV Y] wx fun e w' => e = .returned (digestV (nodeT U X)) ∧ Below wx.heap.size wx w') := fun wx => by rw [HE.out]; exact rnode_any V Y wx lV lY
        clear HE
        generalize nodeT U X = N at *
        refine wp_region_noPanic ?_
        refine wp_region_held_drew (S := fun w_ => w_.rangeAt w7.heap.size 0 (cellsB U) ∧ w_.rangeAt wA.heap.size 0 (cellsB V) ∧ w_.rangeAt w'.heap.size 0 (cellsB X) ∧ w_.rangeAt w4.heap.size 0 (cellsB Y)) (by kernel_rfl) (HSx.out _ (below_drewN wC 1)) (fun hHeld => ?_)
        try simp only [Act.put, List.setIfInBounds_toArray, List.set_cons_zero, List.set_cons_succ]
        have HBd : Hid (Below wC.heap.size wC wC.drew) := below_drewN wC 1
        generalize wC.drew = wd at *
        refine wpAnyH_take (i := 0) (v := .agg (cellsB U).toArray) (by simp only [List.getElem?_toArray, List.getElem?_cons_zero, List.getElem?_cons_succ]; rfl) (by kernel_rfl) (by kernel_rfl) (by kernel_rfl) (fun _ _ _ h => h)
          (yieldsIf_load_mid (by rfl) _ _ rfl _ _ rfl _ _ (fun w hw => hw.1) Tryd.underlying26 rfl (by rw [cellsB_length, lU]; exact Tryd.sizeDg)) hHeld ?_
        try simp only [Act.put, List.setIfInBounds_toArray, List.set_cons_zero, List.set_cons_succ]
        refine wpAnyH_take (i := 1) (v := .agg (cellsB X).toArray) (by simp only [List.getElem?_toArray, List.getElem?_cons_zero, List.getElem?_cons_succ]; rfl) (by kernel_rfl) (by kernel_rfl) (by kernel_rfl) (fun _ _ _ h => h)
          (yieldsIf_load_mid (by rfl) _ _ rfl _ _ rfl _ _ (fun w hw => hw.2.2.1) Tryd.underlying26 rfl (by rw [cellsB_length, lX]; exact Tryd.sizeDg)) hHeld ?_
        try simp only [Act.put, List.setIfInBounds_toArray, List.set_cons_zero, List.set_cons_succ]
        refine wpAnyH_take (i := 3) (v := .agg (cellsB V).toArray) (by simp only [List.getElem?_toArray, List.getElem?_cons_zero, List.getElem?_cons_succ]; rfl) (by kernel_rfl) (by kernel_rfl) (by kernel_rfl) (fun _ _ _ h => h)
          (yieldsIf_load_mid (by rfl) _ _ rfl _ _ rfl _ _ (fun w hw => hw.2.1) Tryd.underlying26 rfl (by rw [cellsB_length, lV]; exact Tryd.sizeDg)) hHeld ?_
        try simp only [Act.put, List.setIfInBounds_toArray, List.set_cons_zero, List.set_cons_succ]
        refine wpAnyH_take (i := 4) (v := .agg (cellsB Y).toArray) (by simp only [List.getElem?_toArray, List.getElem?_cons_zero, List.getElem?_cons_succ]; rfl) (by kernel_rfl) (by kernel_rfl) (by kernel_rfl) (fun _ _ _ h => h)
          (yieldsIf_load_mid (by rfl) _ _ rfl _ _ rfl _ _ (fun w hw => hw.2.2.2) Tryd.underlying26 rfl (by rw [cellsB_length, lY]; exact Tryd.sizeDg)) hHeld ?_
        try simp only [Act.put, List.setIfInBounds_toArray, List.set_cons_zero, List.set_cons_succ]
        refine wpAnyH_ready (rs := [2]) (by kernel_rfl) (by simp) ?_
        refine AllReadyH.cons (by simp only [List.getElem?_toArray, List.getElem?_cons_zero, List.getElem?_cons_succ]; rfl) (fun K hK => ?_) AllReadyH.nil
        rw [if_pos (by rfl)]
        go_simp
        refine (HN1.out wd).mono ?_
        rintro e wE ⟨rfl, hbE⟩
        have HBE : Hid (Below wC.heap.size wC wE) := HBd.out.trans (hbE.mono HBd.out.size)
        clear hbE HBd
        go_wp2_with fail
        refine hK.out _ _ (HSx.out _ HBE.out) (fun hHeld => ?_)
        clear hK K
        try simp only [Act.put, List.setIfInBounds_toArray, List.set_cons_zero, List.set_cons_succ]
        refine wpAnyH_ready (rs := [5]) (by kernel_rfl) (by simp) ?_
        refine AllReadyH.cons (by simp only [List.getElem?_toArray, List.getElem?_cons_zero, List.getElem?_cons_succ]; rfl) (fun K hK => ?_) AllReadyH.nil
        rw [if_pos (by rfl)]
        go_simp
        refine (HN2.out wE).mono ?_
        rintro e wF ⟨rfl, hbF⟩
        have HBF : Hid (Below wC.heap.size wC wF) := HBE.out.trans (hbF.mono HBE.out.size)
        clear hbF HBE
        go_wp2_with fail
        refine hK.out _ _ (HSx.out _ HBF.out) (fun hHeld => ?_)
        clear hK K
        try simp only [Act.put, List.setIfInBounds_toArray, List.set_cons_zero, List.set_cons_succ]
        refine wpAnyH_take (i := 6) (v := .bool true) (by simp only [List.getElem?_toArray, List.getElem?_cons_zero, List.getElem?_cons_succ]; rfl) (by kernel_rfl) (by kernel_rfl) (by kernel_rfl) (fun _ _ _ h => h)
          (yieldsIf_eqD (by rfl) _ _ rfl N N lN lN rfl rfl true (decide_eq_true rfl)) hHeld ?_
        try simp only [Act.put, List.setIfInBounds_toArray, List.set_cons_zero, List.set_cons_succ]
        refine wpAnyH_take (i := 7) (v := ?_) (by simp only [List.getElem?_toArray, List.getElem?_cons_zero, List.getElem?_cons_succ]; rfl) (by kernel_rfl) (by kernel_rfl) (by kernel_rfl) (fun _ _ _ h => h) (Or.inl ⟨by rfl, ?_⟩) hHeld ?_
        rotate_left
        · intro w hSw
          obtain ⟨hSw0, hSw1, hSw2, hSw3⟩ := hSw
          go_simp
          try with_reducible rfl
        try simp only [Act.put, List.setIfInBounds_toArray, List.set_cons_zero, List.set_cons_succ]
        refine wpAnyH_done (by kernel_rfl) (NoPanic.normal ?_) _
        clear hHeld
        go_wp2_with fail
        go_ret
        exact ⟨rfl, (HK.out _ (HBC.out.trans (HBF.out.mono HBC.out.size))).2.2⟩
    · obtain ⟨hE, hQ⟩ := HHI.out hik
      have lU := foldT_length hla (i - k) (n - k) T1
      have lV := foldT_length hlb (i - k) (n - k) T2
      have HCU : Hid (∀ wx, DRow wx (some ⟨b1, o1, none⟩) q T1 → Calls Tryd.prog 18 #[digestV la, .int .i64 ((i - k : Nat) : Int), .int .i64 ((n - k : Nat) : Int), .slice (some ⟨b1, o1, none⟩) q c1] wx fun e w' => e = .returned (digestV (foldT la (i - k) (n - k) T1)) ∧ Below wx.heap.size wx w') := fun wx hr => rfold_any (n - k) la (i - k) q c1 _ T1 wx hla hr hQ (by omega) (by omega) (by omega) (by omega)
      have HCV : Hid (∀ wx, DRow wx (some ⟨b2, o2, none⟩) q T2 → Calls Tryd.prog 18 #[digestV lb, .int .i64 ((i - k : Nat) : Int), .int .i64 ((n - k : Nat) : Int), .slice (some ⟨b2, o2, none⟩) q c2] wx fun e w' => e = .returned (digestV (foldT lb (i - k) (n - k) T2)) ∧ Below wx.heap.size wx w') := fun wx hr => rfold_any (n - k) lb (i - k) q c2 _ T2 wx hlb hr hQ (by omega) (by omega) (by omega) (by omega)
      have HCR : Hid (foldT la (i - k) (n - k) T1 = foldT lb (i - k) (n - k) T2 → ∀ wx, DRow wx (some ⟨b1, o1, none⟩) q T1 → DRow wx (some ⟨b2, o2, none⟩) q T2 → Calls Tryd.prog 23 #[digestV la, .slice (some ⟨b1, o1, none⟩) q c1, digestV lb, .slice (some ⟨b2, o2, none⟩) q c2, .int .i64 ((i - k : Nat) : Int), .int .i64 ((n - k : Nat) : Int)] wx fun e w' => e = .returned (.bool true) ∧ Below wx.heap.size wx w') := fun h wx hr1 hr2 => HI.out (n - k) (by omega) la lb (i - k) q c1 c2 _ _ T1 T2 wx hla hlb HNE.out hr1 hr2 hQ (by omega) (by omega) (by omega) (by omega) (by omega) h
      have HE : Hid (nodeT X (foldT la (i - k) (n - k) T1) = nodeT Y (foldT lb (i - k) (n - k) T2)) := hE
      clear hE hQ HLO HHI HI
      have g1 : ¬ (i : Int) < (k : Int) := by omega
      have s1 : (i : Int) - (k : Int) = ((i - k : Nat) : Int) := by omega
      have s2 : (n : Int) - (k : Int) = ((n - k : Nat) : Int) := by omega
      have d1 : i - k ≤ 100000 := by omega
      have d2 : n - k ≤ 100000 := by omega
      generalize foldT la (i - k) (n - k) T1 = U at *
      generalize foldT lb (i - k) (n - k) T2 = V at *
      generalize i - k = i' at *
      generalize n - k = n' at *
      go_wp2_with (first
        | (refine wpList_load_mid (by rfl) 26 (.tmp 28) (by rfl) b1 (o1 + q * 32) (by rfl) (cellsB X) _ (HX.out _ H0.out).1 Tryd.underlying26 (by rfl) (by rw [cellsB_length, lX]; exact Tryd.sizeDg) ?_)
        | (refine wpList_allocE (by rfl) 26 (by rfl) (cellsB zD).toArray Tryd.zeroDg w'.heap.size rfl w3 hw3 ?_)
        | (refine wpList_store_mid (by rfl) 26 (.tmp 14) (.tmp 29) (by rfl) w'.heap.size 0 (cellsB X).toArray (by rfl) (by rfl) (by rw [cellsB_size, lX]; exact HTw3.out) (by rw [cellsB_size, lX]; exact Tryd.sizeDg) (all_oneCell_toArray (cellsB_one _)) ?_; rw [show (cellsB X).toArray.toList = cellsB X from rfl, hw4])
        | (refine wpList_load_mid (by rfl) 26 (.tmp 34) (by rfl) b2 (o2 + q * 32) (by rfl) (cellsB Y) _ (HX.out _ HB4.out).2.1 Tryd.underlying26 (by rfl) (by rw [cellsB_length, lY]; exact Tryd.sizeDg) ?_)
        | (refine wpList_allocE (by rfl) 26 (by rfl) (cellsB zD).toArray Tryd.zeroDg w4.heap.size rfl w5 hw5 ?_)
        | (refine wpList_store_mid (by rfl) 26 (.tmp 15) (.tmp 35) (by rfl) w4.heap.size 0 (cellsB Y).toArray (by rfl) (by rfl) (by rw [cellsB_size, lY]; exact HTw5.out) (by rw [cellsB_size, lY]; exact Tryd.sizeDg) (all_oneCell_toArray (cellsB_one _)) ?_; rw [show (cellsB Y).toArray.toList = cellsB Y from rfl, hw6])
        | (refine wpList_load_mid (by rfl) 26 (.tmp 6) (by rfl) w.heap.size 0 (by rfl) (cellsB la) _ (HK.out _ HB6.out).1.1 Tryd.underlying26 (by rfl) (by rw [cellsB_length, hla]; exact Tryd.sizeDg) ?_))
      clear hw3 hw4 hw5 hw6 HTw3 HTw5
      refine (HCU.out w6 (HX.out _ HB6.out).2.2.1).mono ?_
      rintro e w7 ⟨rfl, hb7⟩
      have HB7 : Hid (Below w'.heap.size w' w7) := HB6.out.trans (hb7.mono HB6.out.size)
      have HXY7 : Hid (DAt w7 w'.heap.size 0 X ∧ DAt w7 w4.heap.size 0 Y) := ⟨HX6.out.below hb7 (by omega), HY6.out.below hb7 hgy6⟩
      have hgy7 : w4.heap.size < w7.heap.size := Nat.lt_of_lt_of_le hgy6 hb7.size
      clear hb7 HX6 HY6 HB6 hgy6 HX4 HB4
      obtain ⟨w8, hw8⟩ : ∃ w8, w7.alloc (.cells (cellsB zD).toArray 26) = w8 := ⟨_, rfl⟩
      have HTw8 : Hid (w8.there w7.heap.size 0 32) := by rw [← hw8]; exact alloc_thereAt _ _ _ 32 _ rfl zD_size.symm
      have hbw9 : Below w7.heap.size w7 (w8.setCells w7.heap.size 0 (cellsB U)) := by rw [← hw8]; exact new_stored _ _ _
      have HU9 : Hid (DAt (w8.setCells w7.heap.size 0 (cellsB U)) w7.heap.size 0 U) := dat_stored HTw8.out lU
      have HB9 : Hid (Below w'.heap.size w' (w8.setCells w7.heap.size 0 (cellsB U))) := HB7.out.trans (hbw9.mono HB7.out.size)
      have HXY9 : Hid (DAt (w8.setCells w7.heap.size 0 (cellsB U)) w'.heap.size 0 X ∧ DAt (w8.setCells w7.heap.size 0 (cellsB U)) w4.heap.size 0 Y) := ⟨HXY7.out.1.below hbw9 (by omega), HXY7.out.2.below hbw9 hgy7⟩
      clear hbw9
      obtain ⟨w9, hw9⟩ : ∃ w9, w8.setCells w7.heap.size 0 (cellsB U) = w9 := ⟨_, rfl⟩
      rw [hw9] at HU9 HB9 HXY9
      go_wp2_with (first
        | (refine wpList_allocE (by rfl) 26 (by rfl) (cellsB zD).toArray Tryd.zeroDg w7.heap.size rfl w8 hw8 ?_)
        | (refine wpList_store_mid (by rfl) 26 (.tmp 18) (.tmp 62) (by rfl) w7.heap.size 0 (cellsB U).toArray (by rfl) (by rfl) (by rw [cellsB_size, lU]; exact HTw8.out) (by rw [cellsB_size, lU]; exact Tryd.sizeDg) (all_oneCell_toArray (cellsB_one _)) ?_; rw [show (cellsB U).toArray.toList = cellsB U from rfl, hw9])
        | (refine wpList_load_mid (by rfl) 26 (.tmp 8) (by rfl) (w.heap.size + 1) 0 (by rfl) (cellsB lb) _ (HK.out _ HB9.out).1.2 Tryd.underlying26 (by rfl) (by rw [cellsB_length, hlb]; exact Tryd.sizeDg) ?_))
      clear hw8 hw9 HTw8
      have hgu9 : w7.heap.size < w9.heap.size := cell_block (HU9.out.cell 0 (by omega))
      refine (HCV.out w9 (HX.out _ HB9.out).2.2.2).mono ?_
      rintro e wA ⟨rfl, hbA⟩
      have HBA : Hid (Below w'.heap.size w' wA) := HB9.out.trans (hbA.mono HB9.out.size)
      have HZA : Hid (DAt wA w'.heap.size 0 X ∧ DAt wA w4.heap.size 0 Y ∧ DAt wA w7.heap.size 0 U) := ⟨HXY9.out.1.below hbA (by omega), HXY9.out.2.below hbA (by omega), HU9.out.below hbA hgu9⟩
      have hguA : w7.heap.size < wA.heap.size := Nat.lt_of_lt_of_le hgu9 hbA.size
      clear hbA HXY7 HXY9 HU9 HB7 HB9 hgu9
      obtain ⟨wB, hwB⟩ : ∃ wB, wA.alloc (.cells (cellsB zD).toArray 26) = wB := ⟨_, rfl⟩
      have HTwB : Hid (wB.there wA.heap.size 0 32) := by rw [← hwB]; exact alloc_thereAt _ _ _ 32 _ rfl zD_size.symm
      have hbwC : Below wA.heap.size wA (wB.setCells wA.heap.size 0 (cellsB V)) := by rw [← hwB]; exact new_stored _ _ _
      have HVC : Hid (DAt (wB.setCells wA.heap.size 0 (cellsB V)) wA.heap.size 0 V) := dat_stored HTwB.out lV
      have HBC : Hid (Below w'.heap.size w' (wB.setCells wA.heap.size 0 (cellsB V))) := HBA.out.trans (hbwC.mono HBA.out.size)
      have HZC : Hid (DAt (wB.setCells wA.heap.size 0 (cellsB V)) w'.heap.size 0 X ∧ DAt (wB.setCells wA.heap.size 0 (cellsB V)) w4.heap.size 0 Y ∧ DAt (wB.setCells wA.heap.size 0 (cellsB V)) w7.heap.size 0 U) := ⟨HZA.out.1.below hbwC (by omega), HZA.out.2.1.below hbwC (by omega), HZA.out.2.2.below hbwC hguA⟩
      clear hbwC
      obtain ⟨wC, hwC⟩ : ∃ wC, wB.setCells wA.heap.size 0 (cellsB V) = wC := ⟨_, rfl⟩
      rw [hwC] at HVC HBC HZC
      have hgvC : wA.heap.size < wC.heap.size := cell_block (HVC.out.cell 0 (by omega))
      have HSx : Hid (∀ wx, Below wC.heap.size wC wx → wx.rangeAt w7.heap.size 0 (cellsB U) ∧ wx.rangeAt wA.heap.size 0 (cellsB V) ∧ wx.rangeAt w'.heap.size 0 (cellsB X) ∧ wx.rangeAt w4.heap.size 0 (cellsB Y)) := fun wx hx => ⟨HZC.out.2.2.below hx (by omega), HVC.out.below hx hgvC, HZC.out.1.below hx (by omega), HZC.out.2.1.below hx (by omega)⟩
      have HC0 : Hid (Below wC.heap.size wC wC) := Below.refl _ _
      clear HZA HZC HVC hguA HCU HCV
      by_cases hUV : U = V
      · by_cases hXY : X = Y
        · have hd1 : (!decide (U = V)) = false := by simp [hUV]
          have hd2 : (!decide (X = Y)) = false := by simp [hXY]
          have HUV : Hid (U = V) := hUV
          clear hUV hXY
          go_wp2_with (first
            | (refine wpList_allocE (by rfl) 26 (by rfl) (cellsB zD).toArray Tryd.zeroDg wA.heap.size rfl wB hwB ?_)
            | (refine wpList_store_mid (by rfl) 26 (.tmp 19) (.tmp 67) (by rfl) wA.heap.size 0 (cellsB V).toArray (by rfl) (by rfl) (by rw [cellsB_size, lV]; exact HTwB.out) (by rw [cellsB_size, lV]; exact Tryd.sizeDg) (all_oneCell_toArray (cellsB_one _)) ?_; rw [show (cellsB V).toArray.toList = cellsB V from rfl, hwC])
            | (refine wpList_load_midG (by rfl) 26 (.tmp 18) (by rfl) w7.heap.size 0 (by rfl) (cellsB U) _ (HSx.out _ HC0.out).1 Tryd.underlying26 (by rfl) (by rw [cellsB_length, lU]; exact Tryd.sizeDg) ?_)
            | (refine wpList_load_midG (by rfl) 26 (.tmp 19) (by rfl) wA.heap.size 0 (by rfl) (cellsB V) _ (HSx.out _ HC0.out).2.1 Tryd.underlying26 (by rfl) (by rw [cellsB_length, lV]; exact Tryd.sizeDg) ?_)
            | (refine wpList_load_midG (by rfl) 26 (.tmp 14) (by rfl) w'.heap.size 0 (by rfl) (cellsB X) _ (HSx.out _ HC0.out).2.2.1 Tryd.underlying26 (by rfl) (by rw [cellsB_length, lX]; exact Tryd.sizeDg) ?_)
            | (refine wpList_load_midG (by rfl) 26 (.tmp 15) (by rfl) w4.heap.size 0 (by rfl) (cellsB Y) _ (HSx.out _ HC0.out).2.2.2 Tryd.underlying26 (by rfl) (by rw [cellsB_length, lY]; exact Tryd.sizeDg) ?_)
            | (refine wpList_neqD (.tmp 68) (.tmp 69) (by rfl) (by rfl) U V lU lV (by rfl) (by rfl) false hd1 ?_)
            | (refine wpList_neqD (.tmp 72) (.tmp 73) (by rfl) (by rfl) X Y lX lY (by rfl) (by rfl) false hd2 ?_)
            | (refine wpList_load_midG (by rfl) 26 (.tmp 6) (by rfl) w.heap.size 0 (by rfl) (cellsB la) _ (HK.out _ HBC.out).1.1 Tryd.underlying26 (by rfl) (by rw [cellsB_length, hla]; exact Tryd.sizeDg) ?_)
            | (refine wpList_load_midG (by rfl) 26 (.tmp 8) (by rfl) (w.heap.size + 1) 0 (by rfl) (cellsB lb) _ (HK.out _ HBC.out).1.2 Tryd.underlying26 (by rfl) (by rw [cellsB_length, hlb]; exact Tryd.sizeDg) ?_))
          clear hwB hwC HTwB
          refine (HCR.out HUV.out wC (HX.out _ HBC.out).2.2.1 (HX.out _ HBC.out).2.2.2).mono ?_
          rintro e wG ⟨rfl, hbG⟩
          have HBG : Hid (Below w'.heap.size w' wG) := HBC.out.trans (hbG.mono HBC.out.size)
          clear hbG
          go_wp2_with fail
          go_ret
          exact ⟨rfl, (HK.out _ HBG.out).2.2⟩
        · have hd1 : (!decide (U = V)) = false := by simp [hUV]
          have hd2 : (!decide (X = Y)) = true := by simp [hXY]
          clear hUV hXY HCR
          go_wp2_with (first
            | (refine wpList_allocE (by rfl) 26 (by rfl) (cellsB zD).toArray Tryd.zeroDg wA.heap.size rfl wB hwB ?_)
            | (refine wpList_store_mid (by rfl) 26 (.tmp 19) (.tmp 67) (by rfl) wA.heap.size 0 (cellsB V).toArray (by rfl) (by rfl) (by rw [cellsB_size, lV]; exact HTwB.out) (by rw [cellsB_size, lV]; exact Tryd.sizeDg) (all_oneCell_toArray (cellsB_one _)) ?_; rw [show (cellsB V).toArray.toList = cellsB V from rfl, hwC])
            | (refine wpList_load_midG (by rfl) 26 (.tmp 18) (by rfl) w7.heap.size 0 (by rfl) (cellsB U) _ (HSx.out _ HC0.out).1 Tryd.underlying26 (by rfl) (by rw [cellsB_length, lU]; exact Tryd.sizeDg) ?_)
            | (refine wpList_load_midG (by rfl) 26 (.tmp 19) (by rfl) wA.heap.size 0 (by rfl) (cellsB V) _ (HSx.out _ HC0.out).2.1 Tryd.underlying26 (by rfl) (by rw [cellsB_length, lV]; exact Tryd.sizeDg) ?_)
            | (refine wpList_load_midG (by rfl) 26 (.tmp 14) (by rfl) w'.heap.size 0 (by rfl) (cellsB X) _ (HSx.out _ HC0.out).2.2.1 Tryd.underlying26 (by rfl) (by rw [cellsB_length, lX]; exact Tryd.sizeDg) ?_)
            | (refine wpList_load_midG (by rfl) 26 (.tmp 15) (by rfl) w4.heap.size 0 (by rfl) (cellsB Y) _ (HSx.out _ HC0.out).2.2.2 Tryd.underlying26 (by rfl) (by rw [cellsB_length, lY]; exact Tryd.sizeDg) ?_)
            | (refine wpList_neqD (.tmp 68) (.tmp 69) (by rfl) (by rfl) U V lU lV (by rfl) (by rfl) false hd1 ?_)
            | (refine wpList_neqD (.tmp 72) (.tmp 73) (by rfl) (by rfl) X Y lX lY (by rfl) (by rfl) true hd2 ?_))
          clear hwB hwC HTwB
          have lN := nodeT_length X U
          have HN1 : Hid (∀ wx, Calls Tryd.prog 21 #[digestV X, digestV U] wx fun e w' => e = .returned (digestV (nodeT X U)) ∧ Below wx.heap.size wx w') := fun wx => rnode_any X U wx lX lU
          have HN2 : Hid (∀ wx, Calls Tryd.prog 21 #[digestV Y, digestV V] wx fun e w' => e = .returned (digestV (nodeT X U)) ∧ Below wx.heap.size wx w') := fun wx => by rw [HE.out]; exact rnode_any Y V wx lY lV
          clear HE
          generalize nodeT X U = N at *
          refine wp_region_noPanic ?_
          refine wp_region_held_drew (S := fun w_ => w_.rangeAt w7.heap.size 0 (cellsB U) ∧ w_.rangeAt wA.heap.size 0 (cellsB V) ∧ w_.rangeAt w'.heap.size 0 (cellsB X) ∧ w_.rangeAt w4.heap.size 0 (cellsB Y)) (by kernel_rfl) (HSx.out _ (below_drewN wC 1)) (fun hHeld => ?_)
          try simp only [Act.put, List.setIfInBounds_toArray, List.set_cons_zero, List.set_cons_succ]
          have HBd : Hid (Below wC.heap.size wC wC.drew) := below_drewN wC 1
          generalize wC.drew = wd at *
          refine wpAnyH_take (i := 0) (v := .agg (cellsB X).toArray) (by simp only [List.getElem?_toArray, List.getElem?_cons_zero, List.getElem?_cons_succ]; rfl) (by kernel_rfl) (by kernel_rfl) (by kernel_rfl) (fun _ _ _ h => h)
            (yieldsIf_load_mid (by rfl) _ _ rfl _ _ rfl _ _ (fun w hw => hw.2.2.1) Tryd.underlying26 rfl (by rw [cellsB_length, lX]; exact Tryd.sizeDg)) hHeld ?_
          try simp only [Act.put, List.setIfInBounds_toArray, List.set_cons_zero, List.set_cons_succ]
          refine wpAnyH_take (i := 1) (v := .agg (cellsB U).toArray) (by simp only [List.getElem?_toArray, List.getElem?_cons_zero, List.getElem?_cons_succ]; rfl) (by kernel_rfl) (by kernel_rfl) (by kernel_rfl) (fun _ _ _ h => h)
            (yieldsIf_load_mid (by rfl) _ _ rfl _ _ rfl _ _ (fun w hw => hw.1) Tryd.underlying26 rfl (by rw [cellsB_length, lU]; exact Tryd.sizeDg)) hHeld ?_
          try simp only [Act.put, List.setIfInBounds_toArray, List.set_cons_zero, List.set_cons_succ]
          refine wpAnyH_take (i := 3) (v := .agg (cellsB Y).toArray) (by simp only [List.getElem?_toArray, List.getElem?_cons_zero, List.getElem?_cons_succ]; rfl) (by kernel_rfl) (by kernel_rfl) (by kernel_rfl) (fun _ _ _ h => h)
            (yieldsIf_load_mid (by rfl) _ _ rfl _ _ rfl _ _ (fun w hw => hw.2.2.2) Tryd.underlying26 rfl (by rw [cellsB_length, lY]; exact Tryd.sizeDg)) hHeld ?_
          try simp only [Act.put, List.setIfInBounds_toArray, List.set_cons_zero, List.set_cons_succ]
          refine wpAnyH_take (i := 4) (v := .agg (cellsB V).toArray) (by simp only [List.getElem?_toArray, List.getElem?_cons_zero, List.getElem?_cons_succ]; rfl) (by kernel_rfl) (by kernel_rfl) (by kernel_rfl) (fun _ _ _ h => h)
            (yieldsIf_load_mid (by rfl) _ _ rfl _ _ rfl _ _ (fun w hw => hw.2.1) Tryd.underlying26 rfl (by rw [cellsB_length, lV]; exact Tryd.sizeDg)) hHeld ?_
          try simp only [Act.put, List.setIfInBounds_toArray, List.set_cons_zero, List.set_cons_succ]
          refine wpAnyH_ready (rs := [2]) (by kernel_rfl) (by simp) ?_
          refine AllReadyH.cons (by simp only [List.getElem?_toArray, List.getElem?_cons_zero, List.getElem?_cons_succ]; rfl) (fun K hK => ?_) AllReadyH.nil
          rw [if_pos (by rfl)]
          go_simp
          refine (HN1.out wd).mono ?_
          rintro e wE ⟨rfl, hbE⟩
          have HBE : Hid (Below wC.heap.size wC wE) := HBd.out.trans (hbE.mono HBd.out.size)
          clear hbE HBd
          go_wp2_with fail
          refine hK.out _ _ (HSx.out _ HBE.out) (fun hHeld => ?_)
          clear hK K
          try simp only [Act.put, List.setIfInBounds_toArray, List.set_cons_zero, List.set_cons_succ]
          refine wpAnyH_ready (rs := [5]) (by kernel_rfl) (by simp) ?_
          refine AllReadyH.cons (by simp only [List.getElem?_toArray, List.getElem?_cons_zero, List.getElem?_cons_succ]; rfl) (fun K hK => ?_) AllReadyH.nil
          rw [if_pos (by rfl)]
          go_simp
          refine (HN2.out wE).mono ?_
          rintro e wF ⟨rfl, hbF⟩
          have HBF : Hid (Below wC.heap.size wC wF) := HBE.out.trans (hbF.mono HBE.out.size)
          clear hbF HBE
          go_wp2_with fail
          refine hK.out _ _ (HSx.out _ HBF.out) (fun hHeld => ?_)
          clear hK K
          try simp only [Act.put, List.setIfInBounds_toArray, List.set_cons_zero, List.set_cons_succ]
          refine wpAnyH_take (i := 6) (v := .bool true) (by simp only [List.getElem?_toArray, List.getElem?_cons_zero, List.getElem?_cons_succ]; rfl) (by kernel_rfl) (by kernel_rfl) (by kernel_rfl) (fun _ _ _ h => h)
            (yieldsIf_eqD (by rfl) _ _ rfl N N lN lN rfl rfl true (decide_eq_true rfl)) hHeld ?_
          try simp only [Act.put, List.setIfInBounds_toArray, List.set_cons_zero, List.set_cons_succ]
          refine wpAnyH_take (i := 7) (v := ?_) (by simp only [List.getElem?_toArray, List.getElem?_cons_zero, List.getElem?_cons_succ]; rfl) (by kernel_rfl) (by kernel_rfl) (by kernel_rfl) (fun _ _ _ h => h) (Or.inl ⟨by rfl, ?_⟩) hHeld ?_
          rotate_left
          · intro w hSw
            obtain ⟨hSw0, hSw1, hSw2, hSw3⟩ := hSw
            go_simp
            try with_reducible rfl
          try simp only [Act.put, List.setIfInBounds_toArray, List.set_cons_zero, List.set_cons_succ]
          refine wpAnyH_done (by kernel_rfl) (NoPanic.normal ?_) _
          clear hHeld
          go_wp2_with fail
          go_ret
          exact ⟨rfl, (HK.out _ (HBC.out.trans (HBF.out.mono HBC.out.size))).2.2⟩
      · have hd1 : (!decide (U = V)) = true := by simp [hUV]
        have hd2 : (!decide (X = Y)) = (!decide (X = Y)) := rfl
        clear hUV HCR
        go_wp2_with (first
          | (refine wpList_allocE (by rfl) 26 (by rfl) (cellsB zD).toArray Tryd.zeroDg wA.heap.size rfl wB hwB ?_)
          | (refine wpList_store_mid (by rfl) 26 (.tmp 19) (.tmp 67) (by rfl) wA.heap.size 0 (cellsB V).toArray (by rfl) (by rfl) (by rw [cellsB_size, lV]; exact HTwB.out) (by rw [cellsB_size, lV]; exact Tryd.sizeDg) (all_oneCell_toArray (cellsB_one _)) ?_; rw [show (cellsB V).toArray.toList = cellsB V from rfl, hwC])
          | (refine wpList_load_midG (by rfl) 26 (.tmp 18) (by rfl) w7.heap.size 0 (by rfl) (cellsB U) _ (HSx.out _ HC0.out).1 Tryd.underlying26 (by rfl) (by rw [cellsB_length, lU]; exact Tryd.sizeDg) ?_)
          | (refine wpList_load_midG (by rfl) 26 (.tmp 19) (by rfl) wA.heap.size 0 (by rfl) (cellsB V) _ (HSx.out _ HC0.out).2.1 Tryd.underlying26 (by rfl) (by rw [cellsB_length, lV]; exact Tryd.sizeDg) ?_)
          | (refine wpList_load_midG (by rfl) 26 (.tmp 14) (by rfl) w'.heap.size 0 (by rfl) (cellsB X) _ (HSx.out _ HC0.out).2.2.1 Tryd.underlying26 (by rfl) (by rw [cellsB_length, lX]; exact Tryd.sizeDg) ?_)
          | (refine wpList_load_midG (by rfl) 26 (.tmp 15) (by rfl) w4.heap.size 0 (by rfl) (cellsB Y) _ (HSx.out _ HC0.out).2.2.2 Tryd.underlying26 (by rfl) (by rw [cellsB_length, lY]; exact Tryd.sizeDg) ?_)
          | (refine wpList_neqD (.tmp 68) (.tmp 69) (by rfl) (by rfl) U V lU lV (by rfl) (by rfl) true hd1 ?_)
          | (refine wpList_neqD (.tmp 72) (.tmp 73) (by rfl) (by rfl) X Y lX lY (by rfl) (by rfl) (!decide (X = Y)) hd2 ?_))
        clear hwB hwC HTwB
        have lN := nodeT_length X U
        have HN1 : Hid (∀ wx, Calls Tryd.prog 21 #[digestV X, digestV U] wx fun e w' => e = .returned (digestV (nodeT X U)) ∧ Below wx.heap.size wx w') := fun wx => rnode_any X U wx lX lU
        have HN2 : Hid (∀ wx, Calls Tryd.prog 21 #[digestV Y, digestV V] wx fun e w' => e = .returned (digestV (nodeT X U)) ∧ Below wx.heap.size wx w') := fun wx => by rw [HE.out]; exact rnode_any Y V wx lY lV
        clear HE
        generalize nodeT X U = N at *
        refine wp_region_noPanic ?_
        refine wp_region_held_drew (S := fun w_ => w_.rangeAt w7.heap.size 0 (cellsB U) ∧ w_.rangeAt wA.heap.size 0 (cellsB V) ∧ w_.rangeAt w'.heap.size 0 (cellsB X) ∧ w_.rangeAt w4.heap.size 0 (cellsB Y)) (by kernel_rfl) (HSx.out _ (below_drewN wC 1)) (fun hHeld => ?_)
        try simp only [Act.put, List.setIfInBounds_toArray, List.set_cons_zero, List.set_cons_succ]
        have HBd : Hid (Below wC.heap.size wC wC.drew) := below_drewN wC 1
        generalize wC.drew = wd at *
        refine wpAnyH_take (i := 0) (v := .agg (cellsB X).toArray) (by simp only [List.getElem?_toArray, List.getElem?_cons_zero, List.getElem?_cons_succ]; rfl) (by kernel_rfl) (by kernel_rfl) (by kernel_rfl) (fun _ _ _ h => h)
          (yieldsIf_load_mid (by rfl) _ _ rfl _ _ rfl _ _ (fun w hw => hw.2.2.1) Tryd.underlying26 rfl (by rw [cellsB_length, lX]; exact Tryd.sizeDg)) hHeld ?_
        try simp only [Act.put, List.setIfInBounds_toArray, List.set_cons_zero, List.set_cons_succ]
        refine wpAnyH_take (i := 1) (v := .agg (cellsB U).toArray) (by simp only [List.getElem?_toArray, List.getElem?_cons_zero, List.getElem?_cons_succ]; rfl) (by kernel_rfl) (by kernel_rfl) (by kernel_rfl) (fun _ _ _ h => h)
          (yieldsIf_load_mid (by rfl) _ _ rfl _ _ rfl _ _ (fun w hw => hw.1) Tryd.underlying26 rfl (by rw [cellsB_length, lU]; exact Tryd.sizeDg)) hHeld ?_
        try simp only [Act.put, List.setIfInBounds_toArray, List.set_cons_zero, List.set_cons_succ]
        refine wpAnyH_take (i := 3) (v := .agg (cellsB Y).toArray) (by simp only [List.getElem?_toArray, List.getElem?_cons_zero, List.getElem?_cons_succ]; rfl) (by kernel_rfl) (by kernel_rfl) (by kernel_rfl) (fun _ _ _ h => h)
          (yieldsIf_load_mid (by rfl) _ _ rfl _ _ rfl _ _ (fun w hw => hw.2.2.2) Tryd.underlying26 rfl (by rw [cellsB_length, lY]; exact Tryd.sizeDg)) hHeld ?_
        try simp only [Act.put, List.setIfInBounds_toArray, List.set_cons_zero, List.set_cons_succ]
        refine wpAnyH_take (i := 4) (v := .agg (cellsB V).toArray) (by simp only [List.getElem?_toArray, List.getElem?_cons_zero, List.getElem?_cons_succ]; rfl) (by kernel_rfl) (by kernel_rfl) (by kernel_rfl) (fun _ _ _ h => h)
          (yieldsIf_load_mid (by rfl) _ _ rfl _ _ rfl _ _ (fun w hw => hw.2.1) Tryd.underlying26 rfl (by rw [cellsB_length, lV]; exact Tryd.sizeDg)) hHeld ?_
        try simp only [Act.put, List.setIfInBounds_toArray, List.set_cons_zero, List.set_cons_succ]
        refine wpAnyH_ready (rs := [2]) (by kernel_rfl) (by simp) ?_
        refine AllReadyH.cons (by simp only [List.getElem?_toArray, List.getElem?_cons_zero, List.getElem?_cons_succ]; rfl) (fun K hK => ?_) AllReadyH.nil
        rw [if_pos (by rfl)]
        go_simp
        refine (HN1.out wd).mono ?_
        rintro e wE ⟨rfl, hbE⟩
        have HBE : Hid (Below wC.heap.size wC wE) := HBd.out.trans (hbE.mono HBd.out.size)
        clear hbE HBd
        go_wp2_with fail
        refine hK.out _ _ (HSx.out _ HBE.out) (fun hHeld => ?_)
        clear hK K
        try simp only [Act.put, List.setIfInBounds_toArray, List.set_cons_zero, List.set_cons_succ]
        refine wpAnyH_ready (rs := [5]) (by kernel_rfl) (by simp) ?_
        refine AllReadyH.cons (by simp only [List.getElem?_toArray, List.getElem?_cons_zero, List.getElem?_cons_succ]; rfl) (fun K hK => ?_) AllReadyH.nil
        rw [if_pos (by rfl)]
        go_simp
        refine (HN2.out wE).mono ?_
        rintro e wF ⟨rfl, hbF⟩
        have HBF : Hid (Below wC.heap.size wC wF) := HBE.out.trans (hbF.mono HBE.out.size)
        clear hbF HBE
        go_wp2_with fail
        refine hK.out _ _ (HSx.out _ HBF.out) (fun hHeld => ?_)
        clear hK K
        try simp only [Act.put, List.setIfInBounds_toArray, List.set_cons_zero, List.set_cons_succ]
        refine wpAnyH_take (i := 6) (v := .bool true) (by simp only [List.getElem?_toArray, List.getElem?_cons_zero, List.getElem?_cons_succ]; rfl) (by kernel_rfl) (by kernel_rfl) (by kernel_rfl) (fun _ _ _ h => h)
          (yieldsIf_eqD (by rfl) _ _ rfl N N lN lN rfl rfl true (decide_eq_true rfl)) hHeld ?_
        try simp only [Act.put, List.setIfInBounds_toArray, List.set_cons_zero, List.set_cons_succ]
        refine wpAnyH_take (i := 7) (v := ?_) (by simp only [List.getElem?_toArray, List.getElem?_cons_zero, List.getElem?_cons_succ]; rfl) (by kernel_rfl) (by kernel_rfl) (by kernel_rfl) (fun _ _ _ h => h) (Or.inl ⟨by rfl, ?_⟩) hHeld ?_
        rotate_left
        · intro w hSw
          obtain ⟨hSw0, hSw1, hSw2, hSw3⟩ := hSw
          go_simp
          try with_reducible rfl
        try simp only [Act.put, List.setIfInBounds_toArray, List.set_cons_zero, List.set_cons_succ]
        refine wpAnyH_done (by kernel_rfl) (NoPanic.normal ?_) _
        clear hHeld
        go_wp2_with fail
        go_ret
        exact ⟨rfl, (HK.out _ (HBC.out.trans (HBF.out.mono HBC.out.size))).2.2⟩
end Go.Proofs.YtdldkhhcicjbmaaDoor
