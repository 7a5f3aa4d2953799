/- The contract of once.Sign. -/
import Derived.Test.YtigdgmoiljifjaaDoorSigi
import Derived.Test.YtigdgmoiljifjaaDoorWsec
import Derived.Test.YtigdgmoiljifjaaDoorSameH
namespace Go.Proofs.YtigdgmoiljifjaaDoor
open Go.RowKit Go.Shelf
set_option linter.unusedVariables false
set_option linter.unusedSimpArgs false
attribute [local go_sem] Oper.semAt_some

set_option maxRecDepth 100000 in
set_option maxHeartbeats 2000000 in
theorem wonce_sign (seed m : List UInt8) (w : World) (G : Env w) (hs : seed.length = 32) (hm : m.length = 32) :
    Calls Tryd.prog 6 #[digestV seed, digestV m] w fun e w' => (∃ a c, e = .returned (.slice a 512 c) ∧ 512 ≤ c ∧ DRow w' a 512 (onceSigL seed m 256)) ∧ Below w.heap.size w w' := by
  obtain ⟨iD, hiD, hzD0, hzD1, hzD2⟩ := info_parts Tryd.infoDg
  obtain ⟨w2, hw2⟩ : ∃ w2, (w.alloc (.cells (cellsB seed).toArray 23)).alloc (.cells (cellsB m).toArray 23) = w2 := ⟨_, rfl⟩
  have hs1 : (w.alloc (.cells (cellsB seed).toArray 23)).heap.size = w.heap.size + 1 := by simp
  have hs2 : w2.heap.size = w.heap.size + 2 := by rw [← hw2]; simp
  have HD2 : Hid (DAt w2 w.heap.size 0 seed) := by rw [← hw2]; exact World.rangeAt_alloc (box_dat w seed _) _
  have HM2 : Hid (DAt w2 (w.heap.size + 1) 0 m) := by rw [← hw2]; exact box_rangeAt _ _ _ _ hs1
  have HB2 : Hid (Below w.heap.size w w2) := by rw [← hw2]; exact ((Below.refl _ _).alloc (Nat.le_refl _) _).alloc (by simp) _
  refine (callsIn_wide (n := 5)).1 ?_
  refine callsIn_of_wp_marks Tryd.func6 rfl trivial ?_ rfl
  simp only [Tryd.ntmps6, List.size_toArray, List.length_cons, List.length_nil, Nat.reduceAdd, Nat.reduceSub, Array.replicate_succ, Array.replicate_zero, List.push_toArray, List.append_toArray, List.nil_append, List.cons_append]
  refine wpIn_wide.2 ?_
  go_wp2_with (first
    | (at_make; refine wpList_make_own _ rfl _ _ 24 rfl (w.heap.size + 2) 23 iD (.agg zeros32) 32 Tryd.underlying24 hiD hzD0 hzD1 _ _ _ 512 rfl rfl (by omega) (by rw [hzD2]; omega) (by unfold maxLen; omega) (by rw [hs2]; exact Nat.le_refl _) ?_; intro w3 hown hgrow; rw [hs2] at hown; have HO3 : Hid (OwnD w3 (w.heap.size + 2) (.slice (some ⟨w.heap.size + 2, 0, none⟩) (2 * ([] : List (Fin 256)).length) 512) (sigP seed m [])) := ⟨(fun l hl => by cases hl), hown⟩; have HB3 : Hid (Below w2.heap.size w2 w3) := (Below.refl _ _).grown hgrow (Nat.le_refl _) (fun _ h => by cases h); have hg3 : w.heap.size + 2 < w3.heap.size := (World.ownsRow.lt hown (w.heap.size + 2) rfl).2; clear hown hgrow)
    | (refine wpList_load_mid (by rfl) 23 (.tmp 3) (by rfl) (w.heap.size + 1) 0 (by rfl) (cellsB m) _ (HM2.out.below (HB3.out.alloc HB3.out.size _) (by omega)) Tryd.underlying23 (by rfl) (by rw [cellsB_length, hm]; exact Tryd.sizeDg) ?_))
  refine (callsIn_wide.1 (wbits_any m _)).mono ?_
  rintro e w5 ⟨rfl, rfl⟩
  go_wp2_with fail
  obtain ⟨W0, hW0⟩ : ∃ W0, (w3.alloc (.cells #[.slice (some ⟨w.heap.size + 2, 0, none⟩) 0 512] 24)).alloc (.cells (cellsB m).toArray 23) = W0 := ⟨_, rfl⟩
  rw [hW0]
  have hsa : (w3.alloc (.cells #[.slice (some ⟨w.heap.size + 2, 0, none⟩) 0 512] 24)).heap.size = w3.heap.size + 1 := by simp
  have hsz : W0.heap.size = w3.heap.size + 2 := by rw [← hW0]; simp
  have hb0 : Below w3.heap.size w3 W0 := by rw [← hW0]; exact ((Below.refl _ _).alloc (Nat.le_refl _) _).alloc (by simp) _
  have HD0 : Hid (DAt W0 (w3.heap.size + 1) 0 m) := by rw [← hW0]; exact box_rangeAt _ _ _ _ hsa
  have hbx : Boxed W0 w3.heap.size 24 (.slice (some ⟨w.heap.size + 2, 0, none⟩) 0 512) := by rw [← hW0]; exact (Boxed.new w3 24 (.slice (some ⟨w.heap.size + 2, 0, none⟩) 0 512)).alloc _
  have HI0 : Hid (SigI w w3.heap.size seed m [] W0) :=
    ⟨HD2.out.below (HB3.out.trans (hb0.mono HB3.out.size)) (by omega), HO3.out.keep hb0 hg3, hbx.cell, hbx.frozen, HB2.out.trans ((HB3.out.trans (hb0.mono HB3.out.size)).mono (by omega)), hg3, by omega⟩
  clear hW0 hsa hbx hb0 HO3 HB3 HD2 HM2 HB2 hw2 hs1 hs2 hzD0 hzD1 hzD2 hiD
  generalize w3.heap.size = B at *
  clear w3 w2
  refine (wpIn_wide (n := 5)).1 ?_
  refine wpIn_rangeFunc_ownG (α := Fin 256) rfl (by omega) (gf := 25) (lb := #[.pointer (some ⟨B + 1, 0, none⟩)]) rfl trivial (enters_of Tryd.func25 (by kernel_rfl) rfl)
    (wbits_stops 4 (by omega) (B + 1) m hm W0 (by omega) HD0.out) (fun h1 h2 h => h2 (h1 h))
    (fun W l o o' hl ho h1 h2 hd => DAt.below hd (belowK_b (n₀ := B + 2) (w := W0) (by omega) W l o o' hl ho h1 h2) (by omega)) (Below.refl _ _) (fun _ => rfl)
    (fun pre W => SigI w B seed m pre W) (fun _ _ _ => False)
    (ownFrom_keep (fun s W h => by rw [hsz]; exact h.2.2.2.2.2.2) (fun s W W' h hb => h.keep (by rw [← hsz]; exact hb)))
    (fun _ _ _ _ _ hs _ _ => hs) HI0.out
    (fun x => { tmps := #[digestV seed, digestV m, .pointer (some ⟨w.heap.size, 0, none⟩), .pointer (some ⟨w.heap.size + 1, 0, none⟩), .slice none 0 0, .pointer (some ⟨B, 0, none⟩), .int .i64 (x.1 : Int), .int .i64 ((bitL m x.1 : Nat) : Int), .slice (some ⟨w.heap.size + 2, 0, none⟩) 0 512, .agg (cellsB m).toArray, .func (.func 25) #[] #[.pointer (some ⟨B + 1, 0, none⟩)], .int .i64 (x.1 : Int), .int .i64 ((bitL m x.1 : Nat) : Int), undef, undef, undef, undef, undef, undef, undef, undef, undef, undef, undef, undef, undef, undef], defers := [] }) ?assign ?body ?done ?stop
  case assign =>
    intro l x W K hK
    gi_wp2
    exact hK
  case body =>
    rintro l pre x W hi hlen
    obtain ⟨h1, h2, h3, h4, h5, h6, h7⟩ := hi
    have hbd : Below W.heap.size W W.drew := below_drewN W 1
    have HSd : Hid (W.drew.rangeAt w.heap.size 0 (cellsB seed) ∧ W.drew.cell? ⟨B, 0, none⟩ = some (.slice (some ⟨w.heap.size + 2, 0, none⟩) (2 * pre.length) 512)) := ⟨h1, h3⟩
    have HSK : Hid (∀ wx, Below W.heap.size W wx → (wx.rangeAt w.heap.size 0 (cellsB seed) ∧ wx.cell? ⟨B, 0, none⟩ = some (.slice (some ⟨w.heap.size + 2, 0, none⟩) (2 * pre.length) 512)) ∧ Env wx) := fun wx hx =>
      ⟨⟨DAt.below h1 hx (by omega), (hx.cell (p := ⟨B, 0, none⟩) (by show B < W.heap.size; omega)).trans h3⟩, G.below (h5.trans (hx.mono (by omega)))⟩
    have HBd : Hid (Below W.heap.size W W.drew) := hbd
    have HI : Hid (SigI w B seed m pre W) := ⟨h1, h2, h3, h4, h5, h6, h7⟩
    have hln := sigP_len seed m pre
    have HLN : Hid ((sigP seed m pre).length = 2 * pre.length) := hln
    have hxl := x.2
    have htl := bitL_lt m x.1
    have HSN : Hid (sigP seed m (pre ++ [x]) = sigP seed m pre ++ [onceSecL seed x.1 (bitL m x.1), onceLeafL (onceSecL seed x.1 (1 - bitL m x.1))]) := sigP_snoc seed m pre x
    clear h1 h2 h3 h4 hbd hln HI0 HD0
    generalize hxi : x.1 = xi at *
    clear hxi
    generalize bitL m xi = t at *
    have t0 : (0 : Int) ≤ (t : Int) := by omega
    have t1 : (t : Int) < 2 := by omega
    have hct : (1 : Int) - (t : Int) = ((1 - t : Nat) : Int) := by omega
    have hcw : IntKind.i64.wrap ((1 - t : Nat) : Int) = ((1 - t : Nat) : Int) := wrap_small _ (by omega)
    refine wpIn_block ?_
    refine wpIn_round_till (S := fun w' => w'.rangeAt w.heap.size 0 (cellsB seed) ∧ w'.cell? ⟨B, 0, none⟩ = some (.slice (some ⟨w.heap.size + 2, 0, none⟩) (2 * pre.length) 512)) 13 l _ (by kernel_rfl) (by kernel_rfl) (fun h => by obtain ⟨a, w, h⟩ := h; exact h) HSd.out (fun hHeld => ?_)
    generalize W.drew = wd at *
    clear HSd
    try simp only [Act.put, List.setIfInBounds_toArray, List.set_cons_zero, List.set_cons_succ]
    refine wpAnyT_take (i := 0) (v := ?_) (by simp only [List.getElem?_toArray, List.getElem?_cons_zero, List.getElem?_cons_succ]; rfl) (by kernel_rfl) (by kernel_rfl) (by kernel_rfl) (by kernel_rfl) (fun _ _ _ h => h) (Or.inl ⟨by rfl, ?_⟩) hHeld ?_
    rotate_left
    · intro w hSw
      obtain ⟨hSw0, hSw1⟩ := hSw
      go_simp
      try with_reducible rfl
    try simp only [Act.put, List.setIfInBounds_toArray, List.set_cons_zero, List.set_cons_succ]
    refine wpAnyT_take (i := 1) (v := .agg (cellsB seed).toArray) (by simp only [List.getElem?_toArray, List.getElem?_cons_zero, List.getElem?_cons_succ]; rfl) (by kernel_rfl) (by kernel_rfl) (by kernel_rfl) (by kernel_rfl) (fun _ _ _ h => h)
      (yieldsIf_load_mid (by rfl) _ _ rfl _ _ rfl _ _ (fun w hw => hw.1) Tryd.underlying23 rfl (by rw [cellsB_length, hs]; exact Tryd.sizeDg)) hHeld ?_
    try simp only [Act.put, List.setIfInBounds_toArray, List.set_cons_zero, List.set_cons_succ]
    refine wpAnyT_take (i := 2) (v := ?_) (by simp only [List.getElem?_toArray, List.getElem?_cons_zero, List.getElem?_cons_succ]; rfl) (by kernel_rfl) (by kernel_rfl) (by kernel_rfl) (by kernel_rfl) (fun _ _ _ h => h) (Or.inl ⟨by rfl, ?_⟩) hHeld ?_
    rotate_left
    · intro w hSw
      go_simp
      try with_reducible rfl
    try simp only [Act.put, List.setIfInBounds_toArray, List.set_cons_zero, List.set_cons_succ]
    refine wpAnyT_take (i := 3) (v := ?_) (by simp only [List.getElem?_toArray, List.getElem?_cons_zero, List.getElem?_cons_succ]; rfl) (by kernel_rfl) (by kernel_rfl) (by kernel_rfl) (by kernel_rfl) (fun _ _ _ h => h) (Or.inl ⟨by rfl, ?_⟩) hHeld ?_
    rotate_left
    · intro w hSw
      go_simp
      try with_reducible rfl
    try simp only [Act.put, List.setIfInBounds_toArray, List.set_cons_zero, List.set_cons_succ]
    refine wpAnyT_take (i := 5) (v := .agg (cellsB seed).toArray) (by simp only [List.getElem?_toArray, List.getElem?_cons_zero, List.getElem?_cons_succ]; rfl) (by kernel_rfl) (by kernel_rfl) (by kernel_rfl) (by kernel_rfl) (fun _ _ _ h => h)
      (yieldsIf_load_mid (by rfl) _ _ rfl _ _ rfl _ _ (fun w hw => hw.1) Tryd.underlying23 rfl (by rw [cellsB_length, hs]; exact Tryd.sizeDg)) hHeld ?_
    try simp only [Act.put, List.setIfInBounds_toArray, List.set_cons_zero, List.set_cons_succ]
    refine wpAnyT_take (i := 6) (v := ?_) (by simp only [List.getElem?_toArray, List.getElem?_cons_zero, List.getElem?_cons_succ]; rfl) (by kernel_rfl) (by kernel_rfl) (by kernel_rfl) (by kernel_rfl) (fun _ _ _ h => h) (Or.inl ⟨by rfl, ?_⟩) hHeld ?_
    rotate_left
    · intro w hSw
      go_simp
      try with_reducible rfl
    try simp only [Act.put, List.setIfInBounds_toArray, List.set_cons_zero, List.set_cons_succ]
    refine wpAnyT_take (i := 7) (v := ?_) (by simp only [List.getElem?_toArray, List.getElem?_cons_zero, List.getElem?_cons_succ]; rfl) (by kernel_rfl) (by kernel_rfl) (by kernel_rfl) (by kernel_rfl) (fun _ _ _ h => h) (Or.inl ⟨by rfl, ?_⟩) hHeld ?_
    rotate_left
    · intro w hSw
      go_simp
      try with_reducible rfl
    try simp only [Act.put, List.setIfInBounds_toArray, List.set_cons_zero, List.set_cons_succ]
    refine wpAnyT_take (i := 8) (v := ?_) (by simp only [List.getElem?_toArray, List.getElem?_cons_zero, List.getElem?_cons_succ]; rfl) (by kernel_rfl) (by kernel_rfl) (by kernel_rfl) (by kernel_rfl) (fun _ _ _ h => h) (Or.inl ⟨by rfl, ?_⟩) hHeld ?_
    rotate_left
    · intro w hSw
      go_simp
      try with_reducible rfl
    try simp only [Act.put, List.setIfInBounds_toArray, List.set_cons_zero, List.set_cons_succ]
    refine wpAnyT_ready (rs := [4]) (by kernel_rfl) (by simp) ?_
    refine AllReadyT.cons (by simp only [List.getElem?_toArray, List.getElem?_cons_zero, List.getElem?_cons_succ]; rfl) (fun K hK => ?_) AllReadyT.nil
    rw [if_pos (by rfl)]
    go_simp
    refine (wonce_secret seed xi t wd (HSK.out _ HBd.out).2 hs hxl (by omega)).mono ?_
    rintro e w1 ⟨rfl, hb1⟩
    have HB1 : Hid (Below W.heap.size W w1) := HBd.out.trans (hb1.mono HBd.out.size)
    have lX := onceSecL_length seed xi t
    clear hb1 HBd
    generalize onceSecL seed xi t = X at *
    go_wp2_with fail
    refine hK.out _ _ (HSK.out _ HB1.out).1 (fun hHeld => ?_)
    clear hK K
    try simp only [Act.put, List.setIfInBounds_toArray, List.set_cons_zero, List.set_cons_succ]
    refine wpAnyT_ready (rs := [9]) (by kernel_rfl) (by simp) ?_
    refine AllReadyT.cons (by simp only [List.getElem?_toArray, List.getElem?_cons_zero, List.getElem?_cons_succ]; rfl) (fun K hK => ?_) AllReadyT.nil
    rw [if_pos (by rfl)]
    go_simp
    refine (wonce_secret seed xi (1 - t) w1 (HSK.out _ HB1.out).2 hs hxl (by omega)).mono ?_
    rintro e w2 ⟨rfl, hb2⟩
    have HB2 : Hid (Below W.heap.size W w2) := HB1.out.trans (hb2.mono HB1.out.size)
    have lY := onceSecL_length seed xi (1 - t)
    clear hb2 HB1
    generalize onceSecL seed xi (1 - t) = Y at *
    go_wp2_with fail
    refine hK.out _ _ (HSK.out _ HB2.out).1 (fun hHeld => ?_)
    clear hK K
    try simp only [Act.put, List.setIfInBounds_toArray, List.set_cons_zero, List.set_cons_succ]
    refine wpAnyT_ready (rs := [10]) (by kernel_rfl) (by simp) ?_
    refine AllReadyT.cons (by simp only [List.getElem?_toArray, List.getElem?_cons_zero, List.getElem?_cons_succ]; rfl) (fun K hK => ?_) AllReadyT.nil
    rw [if_pos (by rfl)]
    go_simp
    refine (wonce_leaf Y w2 (HSK.out _ HB2.out).2 lY).mono ?_
    rintro e w3 ⟨rfl, hb3⟩
    have HB3 : Hid (Below W.heap.size W w3) := HB2.out.trans (hb3.mono HB2.out.size)
    have lZ := onceLeafL_length Y
    clear hb3 HB2
    generalize onceLeafL Y = Z at *
    go_wp2_with fail
    refine hK.out _ _ (HSK.out _ HB3.out).1 (fun hHeld => ?_)
    clear hK K
    try simp only [Act.put, List.setIfInBounds_toArray, List.set_cons_zero, List.set_cons_succ]
    refine wpAnyT_ready (rs := [11]) (by kernel_rfl) (by simp) ?_
    refine AllReadyT.cons (by simp only [List.getElem?_toArray, List.getElem?_cons_zero, List.getElem?_cons_succ]; rfl) (fun K hK => ?_) AllReadyT.nil
    rw [if_pos (by rfl)]
    refine wp_buildD2 (.tmp 17) (.tmp 23) (by rfl) X Z lX lZ (by rfl) (by rfl) ?_
    have HR4 : Hid (DRow (w3.alloc (.cells (cellsB (X ++ Z)).toArray 23)) (some ⟨w3.heap.size, 0, none⟩) 2 [X, Z]) := DRow.lit2 w3 X Z _ lX lZ
    have HB4 : Hid (Below W.heap.size W (w3.alloc (.cells (cellsB (X ++ Z)).toArray 23))) := HB3.out.alloc HB3.out.size _
    clear HB3
    generalize w3.alloc (.cells (cellsB (X ++ Z)).toArray 23) = w4 at *
    refine hK.out _ _ (HSK.out _ HB4.out).1 (fun hHeld => ?_)
    clear hK K
    try simp only [Act.put, List.setIfInBounds_toArray, List.set_cons_zero, List.set_cons_succ]
    refine wpAnyT_ready (rs := [12]) (by kernel_rfl) (by simp) ?_
    refine AllReadyT.cons (by simp only [List.getElem?_toArray, List.getElem?_cons_zero, List.getElem?_cons_succ]; rfl) (fun K hK => ?_) AllReadyT.nil
    rw [if_pos (by rfl)]
    have ho4 := HI.out.2.1.keep HB4.out (by omega)
    refine wp_appendDF (.tmp 13) (.tmp 24) (by rfl) (w.heap.size + 2) (w.heap.size + 2) (2 * pre.length) 512 (sigP seed m pre) HLN.out (by rfl) ho4 ⟨w3.heap.size, 0, none⟩ 2 2 [X, Z] (by rfl) HR4.out (by omega) (by omega) ?_
    intro w5 ho5 hg5
    have HO5 : Hid (OwnD w5 (w.heap.size + 2) (.slice (some ⟨w.heap.size + 2, 0, none⟩) (2 * pre.length + 2) 512) (sigP seed m pre ++ [X, Z])) := ho5
    have HSM : Hid (∀ k, k < W.heap.size → k ≠ w.heap.size + 2 → w5.heap[k]? = W.heap[k]?) := fun k hk hne => (hg5.block k (Nat.lt_of_lt_of_le hk HB4.out.size) (fun e => hne (Option.some.inj e))).trans (HB4.out.block k hk)
    have HS5 : Hid (W.heap.size ≤ w5.heap.size) := Nat.le_trans HB4.out.size hg5.size
    have HB5 : Hid (Below w.heap.size w w5) := ((HI.out.2.2.2.2.1.trans (HB4.out.mono (by omega))).grown hg5 (by have := HB4.out.size; omega) (fun k e => by have := Option.some.inj e; omega))
    have hc5 : w5.cell? ⟨B, 0, none⟩ = some (.slice (some ⟨w.heap.size + 2, 0, none⟩) (2 * pre.length) 512) := (World.cell?_of_block (w := W) (a := ⟨B, 0, none⟩) (HSM.out B (by omega) (by omega))).trans HI.out.2.2.1
    have hf5 : w5.frozen? ⟨B, 0, none⟩ = false := (World.frozen?_of_block (w := W) (a := ⟨B, 0, none⟩) (HSM.out B (by omega) (by omega))).trans HI.out.2.2.2.1
    have hd5 : w5.rangeAt w.heap.size 0 (cellsB seed) := fun j v hj => (World.cell?_of_block (w := W) (a := ⟨w.heap.size, 0 + j, none⟩) (HSM.out w.heap.size (by omega) (by omega))).trans (HI.out.1 j v hj)
    clear ho4 ho5 hg5 HB4 HR4
    refine hK.out _ _ ⟨hd5, hc5⟩ (fun hHeld => ?_)
    clear hd5
    clear hK K
    try simp only [Act.put, List.setIfInBounds_toArray, List.set_cons_zero, List.set_cons_succ]
    refine wpAnyT_ready (rs := [13]) (by kernel_rfl) (by simp) ?_
    refine AllReadyT.end (by simp only [List.getElem?_toArray, List.getElem?_cons_zero, List.getElem?_cons_succ]; rfl) rfl (fun K hK => ?_) AllReadyT.nil
    rw [if_pos (by rfl)]
    go_simp
    refine hK.out _ _ ?_
    clear hK K
    try simp only [Act.put, List.setIfInBounds_toArray, List.set_cons_zero, List.set_cons_succ]
    refine wpAnyT_done (by kernel_rfl) ?_ _
    have hg6 := grownBy_setCell' w5 B (.slice (some ⟨w.heap.size + 2, 0, none⟩) (2 * pre.length + 2) 512)
    have same : ∀ k, k < W.heap.size → k ≠ w.heap.size + 2 → k ≠ B → (w5.setCell ⟨B, 0, none⟩ (.slice (some ⟨w.heap.size + 2, 0, none⟩) (2 * pre.length + 2) 512)).heap[k]? = W.heap[k]? := fun k hk h1 h2 =>
      (hg6.block k (Nat.lt_of_lt_of_le hk HS5.out) (fun e => h2 (Option.some.inj e))).trans (HSM.out k hk h1)
    have hs5 := HS5.out
    have hs6 := hg6.size
    have hle : 2 * (pre ++ [x]).length = 2 * pre.length + 2 := by simp; omega
    show KeepsFrom _ _ _ ∧ KpD _ _ _ _ ∧ SigI _ _ _ _ _ _
    refine ⟨keepsFrom_of (by omega) (fun k hk hk2 => same k hk2 (by omega) (by omega)), fun hd j v hj => ?_, ?_⟩
    · exact (World.cell?_of_block (w := W) (a := ⟨B + 1, 0 + j, none⟩) (same (B + 1) (by omega) (by omega) (by omega))).trans (hd j v hj)
    · refine ⟨fun j v hj => (World.cell?_of_block (w := W) (a := ⟨w.heap.size, 0 + j, none⟩) (same w.heap.size (by omega) (by omega) (by omega))).trans (HI.out.1 j v hj), ?_, ?_, ?_, ?_, by omega, by omega⟩
      · rw [hle, HSN.out]
        exact OwnD.same HO5.out (hg6.block (w.heap.size + 2) (by omega) (fun e => by have := Option.some.inj e; omega))
      · rw [hle]
        exact World.cell?_setCell_same' _ _ _ (by rw [hc5]; rfl)
      · rw [World.frozen?_setCell]
        exact hf5
      · exact HB5.out.setCell (p := ⟨B, 0, none⟩) (by show w.heap.size ≤ B; omega) _
  case done =>
    rintro D ys W hD rfl hi hK
    obtain ⟨h1, h2, h3, h4, h5, h6, h7⟩ := hi
    have HO : Hid (OwnD W (w.heap.size + 2) (.slice (some ⟨w.heap.size + 2, 0, none⟩) 512 512) (onceSigL seed m 256)) := by
      have := h2
      rw [sigP_all seed m 256 (by omega), places_len] at this
      exact this
    rw [places_len] at h3
    clear h1 h2
    go_wp2
    refine ⟨by simp, .inl ⟨_, _, rfl, run_takeDeferred hK, ?_⟩⟩
    have hbl := belowK_b (n₀ := W0.heap.size) (w := W0) (Nat.le_refl _) W D _ (.deferred none) hD hK rfl rfl
    refine ⟨_, results_tmp rfl _ _ _, ⟨_, _, rfl, Nat.le_refl _, ?_⟩, h5.trans (hbl.mono (by omega))⟩
    obtain ⟨a5, c5, e5, R5, _⟩ := OwnD.form (HO.out.keep hbl (by omega))
    rw [show (onceSigL seed m 256).length = 512 by rw [onceSigL_len]] at e5 R5
    cases e5
    exact R5
  case stop =>
    rintro D c pre W _ _ h _
    exact h.elim
end Go.Proofs.YtigdgmoiljifjaaDoor
