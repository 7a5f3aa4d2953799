/- Texts of this claim, joined: SameH, Wsign, Reci, Wrec. -/
import Derived.Test.YtigdgmoiljifjaaDoorJ11
import Derived.OrdersHeld
import Derived.Deep.MidRow
import Derived.Test.YtigdgmoiljifjaaDoorJ09
import Derived.Test.YtigdgmoiljifjaaDoorJ05
import Derived.Test.YtigdgmoiljifjaaDoorJ10
/- Digests compared, in a region that draws its order. -/
namespace Go.Proofs.YtigdgmoiljifjaaDoor
open Go.RowKit
set_option linter.unusedVariables false
set_option linter.unusedSimpArgs false

theorem yieldsIf_eqD {ops : Array Oper} {S : World → Prop} {o : Oper} {a : Act} (hw : Region.wanted o (yielded ops a.tmps) = true) (x y : Operand) (ho : o.op = .binOp .eql 23 x y 23) (X Y : List UInt8) (hX : X.length = 32) (hY : Y.length = 32)
    (hx : a.eval x = .agg (cellsB X).toArray) (hy : a.eval y = .agg (cellsB Y).toArray) (b : Bool) (hb : decide (X = Y) = b) : YieldsIf Tryd.prog ops S o (.bool b) a := by
  subst hb
  refine .inl ⟨hw, fun w _ => ?_⟩
  simp [execOp, ho, hx, hy, eqGuard, Tryd.eqGuardDigest, binOp, Op.equal, Op.maxDepth, run_same w X Y hX hY, Result.andThen, Sem.run_bind]
theorem yieldsIf_neqD {ops : Array Oper} {S : World → Prop} {o : Oper} {a : Act} (hw : Region.wanted o (yielded ops a.tmps) = true) (x y : Operand) (ho : o.op = .binOp .neq 23 x y 23) (X Y : List UInt8) (hX : X.length = 32) (hY : Y.length = 32)
    (hx : a.eval x = .agg (cellsB X).toArray) (hy : a.eval y = .agg (cellsB Y).toArray) (b : Bool) (hb : (!decide (X = Y)) = b) : YieldsIf Tryd.prog ops S o (.bool b) a := by
  subst hb
  refine .inl ⟨hw, fun w _ => ?_⟩
  simp [execOp, ho, hx, hy, eqGuard, Tryd.eqGuardDigest, binOp, Op.equal, Op.maxDepth, run_same w X Y hX hY, Result.andThen, Sem.run_bind, -decide_not]
/-- A load of an array, guarded or not. -/
theorem wpList_load_midG {P : Program} {ops : Array Oper} {rest : List Oper} {o : Oper} {a : Act} {w : World} {Q : Exit → Act → World → Prop} (hw : Region.wanted o (yielded ops a.tmps) = true) (ty : TypeId) (x : Operand) (ho : o.op = .load ty x)
    (b p : Nat) (hx : a.eval x = .pointer (some ⟨b, p, none⟩)) (cs : List Value) (d : TypeDesc) (hc : w.rangeAt b p cs) (hu : P.underlying ty = some d) (hd : d.isRow = true) (hi : (P.info? ty).map (·.size) = some cs.length)
    (h : wpList P ops Q rest (a.put o.dst (.agg cs.toArray)) w) : wpList P ops Q (o :: rest) a w :=
  wpList_step fun K hK => by rw [if_pos hw]; exact wp_load_mid ty x ho b p hx cs d hc hu hd hi (hK _ _ h)
end Go.Proofs.YtigdgmoiljifjaaDoor
/- The contract of once.Sign. -/
namespace Go.Proofs.YtigdgmoiljifjaaDoor
open Go.RowKit Go.Shelf
set_option linter.unusedVariables false
set_option linter.unusedSimpArgs false
attribute [local go_sem] Oper.semAt_some

set_option maxRecDepth 100000 in
set_option maxHeartbeats 2000000 in
theorem wonce_sign (seed m : List UInt8) (w : World) (G : Env w) (hs : seed.length = 32) (hm : m.length = 32) :
    Calls Tryd.prog 6 #[digestV seed, digestV m] w fun e w' => (∃ a c, e = .returned (.slice a 512 c) ∧ 512 ≤ c ∧ DRow w' a 512 (onceSigL seed m 256)) ∧ Below w.heap.size w w' := by
  obtain ⟨iD, hiD, hzD0, hzD1, hzD2⟩ := info_parts Tryd.infoDg
  obtain ⟨w2, hw2⟩ : ∃ w2, (w.alloc (.cells (cellsB seed).toArray 23)).alloc (.cells (cellsB m).toArray 23) = w2 := ⟨_, rfl⟩
  have hs1 : (w.alloc (.cells (cellsB seed).toArray 23)).heap.size = w.heap.size + 1 := by simp
  have hs2 : w2.heap.size = w.heap.size + 2 := by rw [← hw2]; simp
  have HD2 : Hid (DAt w2 w.heap.size 0 seed) := by rw [← hw2]; exact World.rangeAt_alloc (box_dat w seed _) _
  have HM2 : Hid (DAt w2 (w.heap.size + 1) 0 m) := by rw [← hw2]; exact box_rangeAt _ _ _ _ hs1
  have HB2 : Hid (Below w.heap.size w w2) := by rw [← hw2]; exact ((Below.refl _ _).alloc (Nat.le_refl _) _).alloc (by simp) _
  refine (callsIn_wide (n := 5)).1 ?_
  refine callsIn_of_wp_marks Tryd.func6 rfl trivial ?_ rfl
  simp only [Tryd.ntmps6, List.size_toArray, List.length_cons, List.length_nil, Nat.reduceAdd, Nat.reduceSub, Array.replicate_succ, Array.replicate_zero, List.push_toArray, List.append_toArray, List.nil_append, List.cons_append]
  refine wpIn_wide.2 ?_
  go_wp2_with (first
    | (at_make; refine wpList_make_own _ rfl _ _ 24 rfl (w.heap.size + 2) 23 iD (.agg zeros32) 32 Tryd.underlying24 hiD hzD0 hzD1 _ _ _ 512 rfl rfl (by omega) (by rw [hzD2]; omega) (by unfold maxLen; omega) (by rw [hs2]; exact Nat.le_refl _) ?_; intro w3 hown hgrow; rw [hs2] at hown; have HO3 : Hid (OwnD w3 (w.heap.size + 2) (.slice (some ⟨w.heap.size + 2, 0, none⟩) (2 * ([] : List (Fin 256)).length) 512) (sigP seed m [])) := ⟨(fun l hl => by cases hl), hown⟩; have HB3 : Hid (Below w2.heap.size w2 w3) := (Below.refl _ _).grown hgrow (Nat.le_refl _) (fun _ h => by cases h); have hg3 : w.heap.size + 2 < w3.heap.size := (World.ownsRow.lt hown (w.heap.size + 2) rfl).2; clear hown hgrow)
    | (refine wpList_load_mid (by rfl) 23 (.tmp 3) (by rfl) (w.heap.size + 1) 0 (by rfl) (cellsB m) _ (HM2.out.below (HB3.out.alloc HB3.out.size _) (by omega)) Tryd.underlying23 (by rfl) (by rw [cellsB_length, hm]; exact Tryd.sizeDg) ?_))
  refine (callsIn_wide.1 (wbits_any m _)).mono ?_
  rintro e w5 ⟨rfl, rfl⟩
  go_wp2_with fail
  obtain ⟨W0, hW0⟩ : ∃ W0, (w3.alloc (.cells #[.slice (some ⟨w.heap.size + 2, 0, none⟩) 0 512] 24)).alloc (.cells (cellsB m).toArray 23) = W0 := ⟨_, rfl⟩
  rw [hW0]
  have hsa : (w3.alloc (.cells #[.slice (some ⟨w.heap.size + 2, 0, none⟩) 0 512] 24)).heap.size = w3.heap.size + 1 := by simp
  have hsz : W0.heap.size = w3.heap.size + 2 := by rw [← hW0]; simp
  have hb0 : Below w3.heap.size w3 W0 := by rw [← hW0]; exact ((Below.refl _ _).alloc (Nat.le_refl _) _).alloc (by simp) _
  have HD0 : Hid (DAt W0 (w3.heap.size + 1) 0 m) := by rw [← hW0]; exact box_rangeAt _ _ _ _ hsa
  have hbx : Boxed W0 w3.heap.size 24 (.slice (some ⟨w.heap.size + 2, 0, none⟩) 0 512) := by rw [← hW0]; exact (Boxed.new w3 24 (.slice (some ⟨w.heap.size + 2, 0, none⟩) 0 512)).alloc _
  have HI0 : Hid (SigI w w3.heap.size seed m [] W0) :=
    ⟨HD2.out.below (HB3.out.trans (hb0.mono HB3.out.size)) (by omega), HO3.out.keep hb0 hg3, hbx.cell, hbx.frozen, HB2.out.trans ((HB3.out.trans (hb0.mono HB3.out.size)).mono (by omega)), hg3, by omega⟩
  clear hW0 hsa hbx hb0 HO3 HB3 HD2 HM2 HB2 hw2 hs1 hs2 hzD0 hzD1 hzD2 hiD
  generalize w3.heap.size = B at *
  clear w3 w2
  refine (wpIn_wide (n := 5)).1 ?_
  refine wpIn_rangeFunc_ownG (α := Fin 256) rfl (by omega) (gf := 25) (lb := #[.pointer (some ⟨B + 1, 0, none⟩)]) rfl trivial (enters_of Tryd.func25 (by kernel_rfl) rfl)
    (wbits_stops 4 (by omega) (B + 1) m hm W0 (by omega) HD0.out) (fun h1 h2 h => h2 (h1 h))
    (fun W l o o' hl ho h1 h2 hd => DAt.below hd (belowK_b (n₀ := B + 2) (w := W0) (by omega) W l o o' hl ho h1 h2) (by omega)) (Below.refl _ _) (fun _ => rfl)
    (fun pre W => SigI w B seed m pre W) (fun _ _ _ => False)
    (ownFrom_keep (fun s W h => by rw [hsz]; exact h.2.2.2.2.2.2) (fun s W W' h hb => h.keep (by rw [← hsz]; exact hb)))
    (fun _ _ _ _ _ hs _ _ => hs) HI0.out
    (fun x => { tmps := #[digestV seed, digestV m, .pointer (some ⟨w.heap.size, 0, none⟩), .pointer (some ⟨w.heap.size + 1, 0, none⟩), .slice none 0 0, .pointer (some ⟨B, 0, none⟩), .int .i64 (x.1 : Int), .int .i64 ((bitL m x.1 : Nat) : Int), .slice (some ⟨w.heap.size + 2, 0, none⟩) 0 512, .agg (cellsB m).toArray, .func (.func 25) #[] #[.pointer (some ⟨B + 1, 0, none⟩)], .int .i64 (x.1 : Int), .int .i64 ((bitL m x.1 : Nat) : Int), undef, undef, undef, undef, undef, undef, undef, undef, undef, undef, undef, undef, undef, undef], defers := [] }) ?assign ?body ?done ?stop
  case assign =>
    intro l x W K hK
    gi_wp2
    exact hK
  case body =>
    rintro l pre x W hi hlen
    obtain ⟨h1, h2, h3, h4, h5, h6, h7⟩ := hi
    have hbd : Below W.heap.size W W.drew := below_drewN W 1
    have HSd : Hid (W.drew.rangeAt w.heap.size 0 (cellsB seed) ∧ W.drew.cell? ⟨B, 0, none⟩ = some (.slice (some ⟨w.heap.size + 2, 0, none⟩) (2 * pre.length) 512)) := ⟨h1, h3⟩
    have HSK : Hid (∀ wx, Below W.heap.size W wx → (wx.rangeAt w.heap.size 0 (cellsB seed) ∧ wx.cell? ⟨B, 0, none⟩ = some (.slice (some ⟨w.heap.size + 2, 0, none⟩) (2 * pre.length) 512)) ∧ Env wx) := fun wx hx =>
      ⟨⟨DAt.below h1 hx (by omega), (hx.cell (p := ⟨B, 0, none⟩) (by show B < W.heap.size; omega)).trans h3⟩, G.below (h5.trans (hx.mono (by omega)))⟩
    have HBd : Hid (Below W.heap.size W W.drew) := hbd
    have HI : Hid (SigI w B seed m pre W) := ⟨h1, h2, h3, h4, h5, h6, h7⟩
    have hln := sigP_len seed m pre
    have HLN : Hid ((sigP seed m pre).length = 2 * pre.length) := hln
    have hxl := x.2
    have htl := bitL_lt m x.1
    have HSN : Hid (sigP seed m (pre ++ [x]) = sigP seed m pre ++ [onceSecL seed x.1 (bitL m x.1), onceLeafL (onceSecL seed x.1 (1 - bitL m x.1))]) := sigP_snoc seed m pre x
    clear h1 h2 h3 h4 hbd hln HI0 HD0
    generalize hxi : x.1 = xi at *
    clear hxi
    generalize bitL m xi = t at *
    have t0 : (0 : Int) ≤ (t : Int) := by omega
    have t1 : (t : Int) < 2 := by omega
    have hct : (1 : Int) - (t : Int) = ((1 - t : Nat) : Int) := by omega
    have hcw : IntKind.i64.wrap ((1 - t : Nat) : Int) = ((1 - t : Nat) : Int) := wrap_small _ (by omega)
    refine wpIn_block ?_
    refine wpIn_round_till (S := fun w' => w'.rangeAt w.heap.size 0 (cellsB seed) ∧ w'.cell? ⟨B, 0, none⟩ = some (.slice (some ⟨w.heap.size + 2, 0, none⟩) (2 * pre.length) 512)) 13 l _ (by kernel_rfl) (by kernel_rfl) (fun h => by obtain ⟨a, w, h⟩ := h; exact h) HSd.out (fun hHeld => ?_)
    generalize W.drew = wd at *
    clear HSd
    try simp only [Act.put, List.setIfInBounds_toArray, List.set_cons_zero, List.set_cons_succ]
    refine wpAnyT_take (i := 0) (v := ?_) (by simp only [List.getElem?_toArray, List.getElem?_cons_zero, List.getElem?_cons_succ]; rfl) (by kernel_rfl) (by kernel_rfl) (by kernel_rfl) (by kernel_rfl) (fun _ _ _ h => h) (Or.inl ⟨by rfl, ?_⟩) hHeld ?_
    rotate_left
    · intro w hSw
      obtain ⟨hSw0, hSw1⟩ := hSw
      go_simp
      try with_reducible rfl
    try simp only [Act.put, List.setIfInBounds_toArray, List.set_cons_zero, List.set_cons_succ]
    refine wpAnyT_take (i := 1) (v := .agg (cellsB seed).toArray) (by simp only [List.getElem?_toArray, List.getElem?_cons_zero, List.getElem?_cons_succ]; rfl) (by kernel_rfl) (by kernel_rfl) (by kernel_rfl) (by kernel_rfl) (fun _ _ _ h => h)
      (yieldsIf_load_mid (by rfl) _ _ rfl _ _ rfl _ _ (fun w hw => hw.1) Tryd.underlying23 rfl (by rw [cellsB_length, hs]; exact Tryd.sizeDg)) hHeld ?_
    try simp only [Act.put, List.setIfInBounds_toArray, List.set_cons_zero, List.set_cons_succ]
    refine wpAnyT_take (i := 2) (v := ?_) (by simp only [List.getElem?_toArray, List.getElem?_cons_zero, List.getElem?_cons_succ]; rfl) (by kernel_rfl) (by kernel_rfl) (by kernel_rfl) (by kernel_rfl) (fun _ _ _ h => h) (Or.inl ⟨by rfl, ?_⟩) hHeld ?_
    rotate_left
    · intro w hSw
      go_simp
      try with_reducible rfl
    try simp only [Act.put, List.setIfInBounds_toArray, List.set_cons_zero, List.set_cons_succ]
    refine wpAnyT_take (i := 3) (v := ?_) (by simp only [List.getElem?_toArray, List.getElem?_cons_zero, List.getElem?_cons_succ]; rfl) (by kernel_rfl) (by kernel_rfl) (by kernel_rfl) (by kernel_rfl) (fun _ _ _ h => h) (Or.inl ⟨by rfl, ?_⟩) hHeld ?_
    rotate_left
    · intro w hSw
      go_simp
      try with_reducible rfl
    try simp only [Act.put, List.setIfInBounds_toArray, List.set_cons_zero, List.set_cons_succ]
    refine wpAnyT_take (i := 5) (v := .agg (cellsB seed).toArray) (by simp only [List.getElem?_toArray, List.getElem?_cons_zero, List.getElem?_cons_succ]; rfl) (by kernel_rfl) (by kernel_rfl) (by kernel_rfl) (by kernel_rfl) (fun _ _ _ h => h)
      (yieldsIf_load_mid (by rfl) _ _ rfl _ _ rfl _ _ (fun w hw => hw.1) Tryd.underlying23 rfl (by rw [cellsB_length, hs]; exact Tryd.sizeDg)) hHeld ?_
    try simp only [Act.put, List.setIfInBounds_toArray, List.set_cons_zero, List.set_cons_succ]
    refine wpAnyT_take (i := 6) (v := ?_) (by simp only [List.getElem?_toArray, List.getElem?_cons_zero, List.getElem?_cons_succ]; rfl) (by kernel_rfl) (by kernel_rfl) (by kernel_rfl) (by kernel_rfl) (fun _ _ _ h => h) (Or.inl ⟨by rfl, ?_⟩) hHeld ?_
    rotate_left
    · intro w hSw
      go_simp
      try with_reducible rfl
    try simp only [Act.put, List.setIfInBounds_toArray, List.set_cons_zero, List.set_cons_succ]
    refine wpAnyT_take (i := 7) (v := ?_) (by simp only [List.getElem?_toArray, List.getElem?_cons_zero, List.getElem?_cons_succ]; rfl) (by kernel_rfl) (by kernel_rfl) (by kernel_rfl) (by kernel_rfl) (fun _ _ _ h => h) (Or.inl ⟨by rfl, ?_⟩) hHeld ?_
    rotate_left
    · intro w hSw
      go_simp
      try with_reducible rfl
    try simp only [Act.put, List.setIfInBounds_toArray, List.set_cons_zero, List.set_cons_succ]
    refine wpAnyT_take (i := 8) (v := ?_) (by simp only [List.getElem?_toArray, List.getElem?_cons_zero, List.getElem?_cons_succ]; rfl) (by kernel_rfl) (by kernel_rfl) (by kernel_rfl) (by kernel_rfl) (fun _ _ _ h => h) (Or.inl ⟨by rfl, ?_⟩) hHeld ?_
    rotate_left
    · intro w hSw
      go_simp
      try with_reducible rfl
    try simp only [Act.put, List.setIfInBounds_toArray, List.set_cons_zero, List.set_cons_succ]
    refine wpAnyT_ready (rs := [4]) (by kernel_rfl) (by simp) ?_
    refine AllReadyT.cons (by simp only [List.getElem?_toArray, List.getElem?_cons_zero, List.getElem?_cons_succ]; rfl) (fun K hK => ?_) AllReadyT.nil
    rw [if_pos (by rfl)]
    go_simp
    refine (wonce_secret seed xi t wd (HSK.out _ HBd.out).2 hs hxl (by omega)).mono ?_
    rintro e w1 ⟨rfl, hb1⟩
    have HB1 : Hid (Below W.heap.size W w1) := HBd.out.trans (hb1.mono HBd.out.size)
    have lX := onceSecL_length seed xi t
    clear hb1 HBd
    generalize onceSecL seed xi t = X at *
    go_wp2_with fail
    refine hK.out _ _ (HSK.out _ HB1.out).1 (fun hHeld => ?_)
    clear hK K
    try simp only [Act.put, List.setIfInBounds_toArray, List.set_cons_zero, List.set_cons_succ]
    refine wpAnyT_ready (rs := [9]) (by kernel_rfl) (by simp) ?_
    refine AllReadyT.cons (by simp only [List.getElem?_toArray, List.getElem?_cons_zero, List.getElem?_cons_succ]; rfl) (fun K hK => ?_) AllReadyT.nil
    rw [if_pos (by rfl)]
    go_simp
    refine (wonce_secret seed xi (1 - t) w1 (HSK.out _ HB1.out).2 hs hxl (by omega)).mono ?_
    rintro e w2 ⟨rfl, hb2⟩
    have HB2 : Hid (Below W.heap.size W w2) := HB1.out.trans (hb2.mono HB1.out.size)
    have lY := onceSecL_length seed xi (1 - t)
    clear hb2 HB1
    generalize onceSecL seed xi (1 - t) = Y at *
    go_wp2_with fail
    refine hK.out _ _ (HSK.out _ HB2.out).1 (fun hHeld => ?_)
    clear hK K
    try simp only [Act.put, List.setIfInBounds_toArray, List.set_cons_zero, List.set_cons_succ]
    refine wpAnyT_ready (rs := [10]) (by kernel_rfl) (by simp) ?_
    refine AllReadyT.cons (by simp only [List.getElem?_toArray, List.getElem?_cons_zero, List.getElem?_cons_succ]; rfl) (fun K hK => ?_) AllReadyT.nil
    rw [if_pos (by rfl)]
    go_simp
    refine (wonce_leaf Y w2 (HSK.out _ HB2.out).2 lY).mono ?_
    rintro e w3 ⟨rfl, hb3⟩
    have HB3 : Hid (Below W.heap.size W w3) := HB2.out.trans (hb3.mono HB2.out.size)
    have lZ := onceLeafL_length Y
    clear hb3 HB2
    generalize onceLeafL Y = Z at *
    go_wp2_with fail
    refine hK.out _ _ (HSK.out _ HB3.out).1 (fun hHeld => ?_)
    clear hK K
    try simp only [Act.put, List.setIfInBounds_toArray, List.set_cons_zero, List.set_cons_succ]
    refine wpAnyT_ready (rs := [11]) (by kernel_rfl) (by simp) ?_
    refine AllReadyT.cons (by simp only [List.getElem?_toArray, List.getElem?_cons_zero, List.getElem?_cons_succ]; rfl) (fun K hK => ?_) AllReadyT.nil
    rw [if_pos (by rfl)]
    refine wp_buildD2 (.tmp 17) (.tmp 23) (by rfl) X Z lX lZ (by rfl) (by rfl) ?_
    have HR4 : Hid (DRow (w3.alloc (.cells (cellsB (X ++ Z)).toArray 23)) (some ⟨w3.heap.size, 0, none⟩) 2 [X, Z]) := DRow.lit2 w3 X Z _ lX lZ
    have HB4 : Hid (Below W.heap.size W (w3.alloc (.cells (cellsB (X ++ Z)).toArray 23))) := HB3.out.alloc HB3.out.size _
    clear HB3
    generalize w3.alloc (.cells (cellsB (X ++ Z)).toArray 23) = w4 at *
    refine hK.out _ _ (HSK.out _ HB4.out).1 (fun hHeld => ?_)
    clear hK K
    try simp only [Act.put, List.setIfInBounds_toArray, List.set_cons_zero, List.set_cons_succ]
    refine wpAnyT_ready (rs := [12]) (by kernel_rfl) (by simp) ?_
    refine AllReadyT.cons (by simp only [List.getElem?_toArray, List.getElem?_cons_zero, List.getElem?_cons_succ]; rfl) (fun K hK => ?_) AllReadyT.nil
    rw [if_pos (by rfl)]
    have ho4 := HI.out.2.1.keep HB4.out (by omega)
    refine wp_appendDF (.tmp 13) (.tmp 24) (by rfl) (w.heap.size + 2) (w.heap.size + 2) (2 * pre.length) 512 (sigP seed m pre) HLN.out (by rfl) ho4 ⟨w3.heap.size, 0, none⟩ 2 2 [X, Z] (by rfl) HR4.out (by omega) (by omega) ?_
    intro w5 ho5 hg5
    have HO5 : Hid (OwnD w5 (w.heap.size + 2) (.slice (some ⟨w.heap.size + 2, 0, none⟩) (2 * pre.length + 2) 512) (sigP seed m pre ++ [X, Z])) := ho5
    have HSM : Hid (∀ k, k < W.heap.size → k ≠ w.heap.size + 2 → w5.heap[k]? = W.heap[k]?) := fun k hk hne => (hg5.block k (Nat.lt_of_lt_of_le hk HB4.out.size) (fun e => hne (Option.some.inj e))).trans (HB4.out.block k hk)
    have HS5 : Hid (W.heap.size ≤ w5.heap.size) := Nat.le_trans HB4.out.size hg5.size
    have HB5 : Hid (Below w.heap.size w w5) := ((HI.out.2.2.2.2.1.trans (HB4.out.mono (by omega))).grown hg5 (by have := HB4.out.size; omega) (fun k e => by have := Option.some.inj e; omega))
    have hc5 : w5.cell? ⟨B, 0, none⟩ = some (.slice (some ⟨w.heap.size + 2, 0, none⟩) (2 * pre.length) 512) := (World.cell?_of_block (w := W) (a := ⟨B, 0, none⟩) (HSM.out B (by omega) (by omega))).trans HI.out.2.2.1
    have hf5 : w5.frozen? ⟨B, 0, none⟩ = false := (World.frozen?_of_block (w := W) (a := ⟨B, 0, none⟩) (HSM.out B (by omega) (by omega))).trans HI.out.2.2.2.1
    have hd5 : w5.rangeAt w.heap.size 0 (cellsB seed) := fun j v hj => (World.cell?_of_block (w := W) (a := ⟨w.heap.size, 0 + j, none⟩) (HSM.out w.heap.size (by omega) (by omega))).trans (HI.out.1 j v hj)
    clear ho4 ho5 hg5 HB4 HR4
    refine hK.out _ _ ⟨hd5, hc5⟩ (fun hHeld => ?_)
    clear hd5
    clear hK K
    try simp only [Act.put, List.setIfInBounds_toArray, List.set_cons_zero, List.set_cons_succ]
    refine wpAnyT_ready (rs := [13]) (by kernel_rfl) (by simp) ?_
    refine AllReadyT.lastly (by simp only [List.getElem?_toArray, List.getElem?_cons_zero, List.getElem?_cons_succ]; rfl) rfl (fun K hK => ?_) AllReadyT.nil
    rw [if_pos (by rfl)]
    go_simp
    refine hK.out _ _ ?_
    clear hK K
    try simp only [Act.put, List.setIfInBounds_toArray, List.set_cons_zero, List.set_cons_succ]
    refine wpAnyT_done (by kernel_rfl) ?_ _
    have hg6 := grownBy_setCell' w5 B (.slice (some ⟨w.heap.size + 2, 0, none⟩) (2 * pre.length + 2) 512)
    have same : ∀ k, k < W.heap.size → k ≠ w.heap.size + 2 → k ≠ B → (w5.setCell ⟨B, 0, none⟩ (.slice (some ⟨w.heap.size + 2, 0, none⟩) (2 * pre.length + 2) 512)).heap[k]? = W.heap[k]? := fun k hk h1 h2 =>
      (hg6.block k (Nat.lt_of_lt_of_le hk HS5.out) (fun e => h2 (Option.some.inj e))).trans (HSM.out k hk h1)
    have hs5 := HS5.out
    have hs6 := hg6.size
    have hle : 2 * (pre ++ [x]).length = 2 * pre.length + 2 := by simp; omega
    show KeepsFrom _ _ _ ∧ KpD _ _ _ _ ∧ SigI _ _ _ _ _ _
    refine ⟨keepsFrom_of (by omega) (fun k hk hk2 => same k hk2 (by omega) (by omega)), fun hd j v hj => ?_, ?_⟩
    · exact (World.cell?_of_block (w := W) (a := ⟨B + 1, 0 + j, none⟩) (same (B + 1) (by omega) (by omega) (by omega))).trans (hd j v hj)
    · refine ⟨fun j v hj => (World.cell?_of_block (w := W) (a := ⟨w.heap.size, 0 + j, none⟩) (same w.heap.size (by omega) (by omega) (by omega))).trans (HI.out.1 j v hj), ?_, ?_, ?_, ?_, by omega, by omega⟩
      · rw [hle, HSN.out]
        exact OwnD.same HO5.out (hg6.block (w.heap.size + 2) (by omega) (fun e => by have := Option.some.inj e; omega))
      · rw [hle]
        exact World.cell?_setCell_same' _ _ _ (by rw [hc5]; rfl)
      · rw [World.frozen?_setCell]
        exact hf5
      · exact HB5.out.setCell (p := ⟨B, 0, none⟩) (by show w.heap.size ≤ B; omega) _
  case done =>
    rintro D ys W hD rfl hi hK
    obtain ⟨h1, h2, h3, h4, h5, h6, h7⟩ := hi
    have HO : Hid (OwnD W (w.heap.size + 2) (.slice (some ⟨w.heap.size + 2, 0, none⟩) 512 512) (onceSigL seed m 256)) := by
      have := h2
      rw [sigP_all seed m 256 (by omega), places_len] at this
      exact this
    rw [places_len] at h3
    clear h1 h2
    go_wp2
    refine ⟨by simp, .inl ⟨_, _, rfl, run_takeDeferred hK, ?_⟩⟩
    have hbl := belowK_b (n₀ := W0.heap.size) (w := W0) (Nat.le_refl _) W D _ (.deferred none) hD hK rfl rfl
    refine ⟨_, results_tmp rfl _ _ _, ⟨_, _, rfl, Nat.le_refl _, ?_⟩, h5.trans (hbl.mono (by omega))⟩
    obtain ⟨a5, c5, e5, R5, _⟩ := OwnD.form (HO.out.keep hbl (by omega))
    rw [show (onceSigL seed m 256).length = 512 by rw [onceSigL_len]] at e5 R5
    cases e5
    exact R5
  case stop =>
    rintro D c pre W _ _ h _
    exact h.elim
end Go.Proofs.YtigdgmoiljifjaaDoor
/- What once.Recover holds between two rounds. -/
namespace Go.Proofs.YtigdgmoiljifjaaDoor
open Go.RowKit
set_option linter.unusedVariables false
set_option linter.unusedSimpArgs false

/-- Those of the places that have come. -/
def memF (F : Nat → List UInt8) (pre : List (Fin 256)) : Nat → List UInt8 := fun j => if pre.any (fun x => x.1 == j / 2) then F j else []
theorem memF_nil (F : Nat → List UInt8) : memF F [] = fun _ => [] := by funext j; simp [memF]
theorem memF_snoc (F : Nat → List UInt8) (pre : List (Fin 256)) (x : Fin 256) (t : Nat) (ht : t < 2) :
    setF (setF (memF F pre) (2 * x.1 + t) (F (2 * x.1 + t))) (2 * x.1 + 1 - t) (F (2 * x.1 + 1 - t)) = memF F (pre ++ [x]) := by
  funext j
  unfold setF memF
  rw [List.any_append]
  by_cases c : j / 2 = x.1
  · have hj : j = 2 * x.1 + t ∨ j = 2 * x.1 + 1 - t := by omega
    have hy : (pre.any (fun x => x.1 == j / 2) || [x].any (fun x => x.1 == j / 2)) = true := by simp [c]
    rw [hy, if_pos rfl]
    rcases hj with rfl | rfl
    · rw [if_neg (by omega), if_pos rfl]
    · rw [if_pos rfl]
  · have hn : ([x].any (fun x => x.1 == j / 2)) = false := by simp; omega
    rw [hn, Bool.or_false, if_neg (by omega), if_neg (by omega)]
theorem mem_places (j : Nat) (hj : j < 512) : (places 256).any (fun x => x.1 == j / 2) = true := by
  rw [List.any_eq_true]
  refine ⟨Fin.ofNat 256 (j / 2), ?_, ?_⟩
  · unfold places
    exact List.mem_map.2 ⟨j / 2, List.mem_range.2 (by omega), rfl⟩
  · have : (Fin.ofNat 256 (j / 2)).1 = j / 2 := by show j / 2 % 256 = j / 2; omega
    rw [this]
    simp
theorem memF_at (F : Nat → List UInt8) (j : Nat) (hj : j < 512) : memF F (places 256) j = F j := by
  unfold memF
  rw [mem_places j hj, if_pos rfl]
theorem memF_all (F : Nat → List UInt8) : (List.range 512).map (memF F (places 256)) = (List.range 512).map F := List.map_congr_left fun j hj => memF_at F j (List.mem_range.1 hj)
theorem onceAt_first (m : List UInt8) (sig : List (List UInt8)) (i : Nat) : onceAt m sig (2 * i + bitL m i) = onceLeafL (sig.getD (2 * i) []) := by
  have hb := bitL_lt m i
  unfold onceAt
  rw [show (2 * i + bitL m i) / 2 = i by omega, show (2 * i + bitL m i) % 2 = bitL m i by omega, if_pos rfl, show 2 * i + bitL m i - bitL m i = 2 * i by omega]
theorem onceAt_second (m : List UInt8) (sig : List (List UInt8)) (i : Nat) : onceAt m sig (2 * i + 1 - bitL m i) = sig.getD (2 * i + 1) [] := by
  have hb := bitL_lt m i
  unfold onceAt
  rw [show (2 * i + 1 - bitL m i) / 2 = i by omega, show (2 * i + 1 - bitL m i) % 2 = 1 - bitL m i by omega, if_neg (by omega), show 2 * i + 1 - bitL m i - (1 - bitL m i) + 1 = 2 * i + 1 by omega]
theorem onceAt_32 (m : List UInt8) (sig : List (List UInt8)) (h : ∀ i, i < 512 → (sig.getD i []).length = 32) (j : Nat) (hj : j < 512) : (onceAt m sig j).length = 32 := by
  unfold onceAt
  split
  · exact onceLeafL_length _
  · exact h _ (by omega)
/-- Blocks: b the digest, b + 1 the variable sig, b + 2 the answer, b + 3 the leaves. -/
def RecI (w : World) (m : List UInt8) (a : Option Addr) (c : Nat) (sig : List (List UInt8)) (pre : List (Fin 256)) (W : World) : Prop :=
  Arr W (w.heap.size + 3) (memF (onceAt m sig) pre) ∧ W.cell? ⟨w.heap.size + 1, 0, none⟩ = some (.slice a 512 c) ∧ W.there (w.heap.size + 2) 0 32 ∧ Below w.heap.size w W ∧ w.heap.size + 5 ≤ W.heap.size
theorem RecI.keep {w : World} {m : List UInt8} {a : Option Addr} {c : Nat} {sig : List (List UInt8)} {pre : List (Fin 256)} {W W' : World} (h : RecI w m a c sig pre W) (hb : Below (w.heap.size + 5) W W') : RecI w m a c sig pre W' := by
  obtain ⟨h1, h2, h3, h4, h5⟩ := h
  exact ⟨h1.below hb (by omega), (hb.cell (p := ⟨w.heap.size + 1, 0, none⟩) (by show w.heap.size + 1 < w.heap.size + 5; omega)).trans h2, there_below h3 hb (by omega), h4.trans (hb.mono (by omega)), Nat.le_trans h5 hb.size⟩
end Go.Proofs.YtigdgmoiljifjaaDoor
/- The contract of once.Recover. -/
namespace Go.Proofs.YtigdgmoiljifjaaDoor
open Go.RowKit Go.Shelf
set_option linter.unusedVariables false
set_option linter.unusedSimpArgs false
attribute [local go_sem] Oper.semAt_some

set_option maxRecDepth 100000 in
set_option maxHeartbeats 2000000 in
theorem wonce_recover (m : List UInt8) (a : Option Addr) (c : Nat) (sig : List (List UInt8)) (w : World) (G : Env w) (hm : m.length = 32) (R : DRow w a 512 sig) :
    Calls Tryd.prog 12 #[digestV m, .slice a 512 c] w fun e w' => e = .returned (.tuple #[digestV (onceKeyL m sig), .nilIface]) ∧ Below w.heap.size w w' := by
  obtain ⟨zs, hzs, hzero⟩ := zeroLeaves
  obtain ⟨w3, hw3⟩ : ∃ w3, ((w.alloc (.cells (cellsB m).toArray 23)).alloc (.cells #[.slice a 512 c] 24)).alloc (.cells (cellsB zD).toArray 23) = w3 := ⟨_, rfl⟩
  have hs2 : ((w.alloc (.cells (cellsB m).toArray 23)).alloc (.cells #[.slice a 512 c] 24)).heap.size = w.heap.size + 2 := by simp
  have hs3 : w3.heap.size = w.heap.size + 3 := by rw [← hw3]; simp
  have HB3 : Hid (Below w.heap.size w w3) := by rw [← hw3]; exact (((Below.refl _ _).alloc (Nat.le_refl _) _).alloc (by simp) _).alloc (by simp; omega) _
  have HM3 : Hid (DAt w3 w.heap.size 0 m) := by rw [← hw3]; exact World.rangeAt_alloc (World.rangeAt_alloc (box_dat w m _) _) _
  have hc3 : w3.cell? ⟨w.heap.size + 1, 0, none⟩ = some (.slice a 512 c) := by
    rw [← hw3]
    have hb := Boxed.new (w.alloc (.cells (cellsB m).toArray 23)) 24 (.slice a 512 c)
    have := (hb.alloc (.cells (cellsB zD).toArray 23)).cell
    rw [World.size_alloc] at this
    exact this
  have HT3 : Hid (w3.there (w.heap.size + 2) 0 32) := by rw [← hw3]; exact alloc_thereAt _ _ _ 32 _ hs2 zD_size.symm
  obtain ⟨w4, hw4⟩ : ∃ w4, w3.alloc (.cells zs 45) = w4 := ⟨_, rfl⟩
  have HA4 : Hid (Arr w4 (w.heap.size + 3) (memF (onceAt m sig) [])) := by rw [memF_nil, ← hw4, ← hs3]; exact Arr.new w3 zs _ hzs
  have hb4 : Below w3.heap.size w3 w4 := by rw [← hw4]; exact (Below.refl _ _).alloc (Nat.le_refl _) _
  have hs4 : w4.heap.size = w.heap.size + 4 := by rw [← hw4]; simp [hs3]
  have HM4 : Hid (DAt w4 w.heap.size 0 m) := HM3.out.below hb4 (by omega)
  refine (callsIn_wide (n := 5)).1 ?_
  refine callsIn_of_wp_marks Tryd.func12 rfl trivial ?_ rfl
  simp only [Tryd.ntmps12, List.size_toArray, List.length_cons, List.length_nil, Nat.reduceAdd, Nat.reduceSub, Array.replicate_succ, Array.replicate_zero, List.push_toArray, List.append_toArray, List.nil_append, List.cons_append]
  refine wpIn_wide.2 ?_
  go_wp2_with (first
    | (refine wpList_allocE (by rfl) 23 (by rfl) (cellsB zD).toArray Tryd.zeroDg (w.heap.size + 2) hs2 w3 hw3 ?_)
    | (refine wpList_allocE (by rfl) 45 (by rfl) zs hzero (w.heap.size + 3) hs3 w4 hw4 ?_)
    | (refine wpList_load_mid (by rfl) 23 (.tmp 2) (by rfl) w.heap.size 0 (by rfl) (cellsB m) _ HM4.out Tryd.underlying23 (by rfl) (by rw [cellsB_length, hm]; exact Tryd.sizeDg) ?_))
  refine (callsIn_wide.1 (wbits_any m w4)).mono ?_
  rintro e w5 ⟨rfl, rfl⟩
  rw [hs4]
  go_wp2_with fail
  obtain ⟨W0, hW0⟩ : ∃ W0, w4.alloc (.cells (cellsB m).toArray 23) = W0 := ⟨_, rfl⟩
  rw [hW0]
  have hsz : W0.heap.size = w.heap.size + 5 := by rw [← hW0]; simp [hs4]
  have hb0 : Below w4.heap.size w4 W0 := by rw [← hW0]; exact (Below.refl _ _).alloc (Nat.le_refl _) _
  have HD0 : Hid (DAt W0 (w.heap.size + 4) 0 m) := by rw [← hW0]; exact box_rangeAt _ _ _ _ hs4
  have hb30 : Below w3.heap.size w3 W0 := hb4.trans (hb0.mono (by omega))
  have HI0 : Hid (RecI w m a c sig [] W0) :=
    ⟨HA4.out.below hb0 (by omega), (hb30.cell (p := ⟨w.heap.size + 1, 0, none⟩) (by show w.heap.size + 1 < w3.heap.size; omega)).trans hc3, there_below HT3.out hb30 (by omega), HB3.out.trans (hb30.mono (by omega)), by omega⟩
  clear hW0 hb0 hb30 HA4 hb4 HM4 hw4 hs4 HT3 hc3 HM3 HB3 hs3 hs2 hw3 hzero hzs
  clear w3 w4
  refine (wpIn_wide (n := 5)).1 ?_
  refine wpIn_rangeFunc_ownG (α := Fin 256) rfl (by omega) (gf := 25) (lb := #[.pointer (some ⟨w.heap.size + 4, 0, none⟩)]) rfl trivial (enters_of Tryd.func25 (by kernel_rfl) rfl)
    (wbits_stops 4 (by omega) (w.heap.size + 4) m hm W0 (by omega) HD0.out) (fun h1 h2 h => h2 (h1 h))
    (fun W l o o' hl ho h1 h2 hd => DAt.below hd (belowK_b (n₀ := w.heap.size + 5) (w := W0) (by omega) W l o o' hl ho h1 h2) (by omega)) (Below.refl _ _) (fun _ => rfl)
    (fun pre W => RecI w m a c sig pre W) (fun _ _ _ => False)
    (ownFrom_keep (fun s W h => by rw [hsz]; exact h.2.2.2.2) (fun s W W' h hb => h.keep (by rw [← hsz]; exact hb)))
    (fun _ _ _ _ _ hs _ _ => hs) HI0.out
    (fun x => { tmps := #[digestV m, .slice a 512 c, .pointer (some ⟨w.heap.size, 0, none⟩), .pointer (some ⟨w.heap.size + 1, 0, none⟩), .pointer (some ⟨w.heap.size + 2, 0, none⟩), .nilIface, .pointer (some ⟨w.heap.size + 3, 0, none⟩), .int .i64 (x.1 : Int), .int .i64 ((bitL m x.1 : Nat) : Int), .slice a 512 c, .int .i64 512, .bool false, undef, undef, .agg (cellsB m).toArray, .func (.func 25) #[] #[.pointer (some ⟨w.heap.size + 4, 0, none⟩)], .int .i64 (x.1 : Int), .int .i64 ((bitL m x.1 : Nat) : Int), undef, undef, undef, undef, undef, undef, undef, undef, undef, undef, undef, undef, undef, undef, undef, undef, undef, undef, undef, undef, undef, undef, undef, undef], defers := [] }) ?assign ?body ?done ?stop
  case assign =>
    intro l x W K hK
    gi_wp2
    exact hK
  case body =>
    rintro l pre x W hi hlen
    obtain ⟨h1, h2, h3, h4, h5⟩ := hi
    obtain ⟨ba, oa, rfl, hcs⟩ : ∃ ba oa, a = some ⟨ba, oa, none⟩ ∧ ∀ i, i < 512 → DAt w ba (oa + 32 * i) (sig.getD i []) := by
      rcases R.2.2 with h | h
      · omega
      · exact h
    have hlen32 := R.len
    have hba : ba < w.heap.size := cell_block ((hcs 0 (by omega)).cell 0 (by rw [hlen32 0 (by omega)]; omega))
    have hxl := x.2
    have htl := bitL_lt m x.1
    have HF1 : Hid (onceAt m sig (2 * x.1 + bitL m x.1) = onceLeafL (sig.getD (2 * x.1) [])) := onceAt_first m sig x.1
    have HF2 : Hid (onceAt m sig (2 * x.1 + 1 - bitL m x.1) = sig.getD (2 * x.1 + 1) []) := onceAt_second m sig x.1
    have HSN : Hid (setF (setF (memF (onceAt m sig) pre) (2 * x.1 + bitL m x.1) (onceAt m sig (2 * x.1 + bitL m x.1))) (2 * x.1 + 1 - bitL m x.1) (onceAt m sig (2 * x.1 + 1 - bitL m x.1)) = memF (onceAt m sig) (pre ++ [x])) := memF_snoc (onceAt m sig) pre x _ htl
    generalize hxi : x.1 = xi at *
    generalize bitL m xi = t at *
    have t0 : (0 : Int) ≤ (t : Int) := by omega
    have t1 : (t : Int) < 2 := by omega
    have HX : Hid (DAt W ba (oa + 2 * xi * 32) (sig.getD (2 * xi) [])) := by have := (hcs (2 * xi) (by omega)).below h4 hba; rwa [show oa + 32 * (2 * xi) = oa + 2 * xi * 32 by omega] at this
    have HY : Hid (∀ wx, Below w.heap.size w wx → DAt wx ba (oa + (2 * xi + 1) * 32) (sig.getD (2 * xi + 1) [])) := fun wx hx => by have := (hcs (2 * xi + 1) (by omega)).below hx hba; rwa [show oa + 32 * (2 * xi + 1) = oa + (2 * xi + 1) * 32 by omega] at this
    have lX := hlen32 (2 * xi) (by omega)
    have lY := hlen32 (2 * xi + 1) (by omega)
    have HI : Hid (RecI w m (some ⟨ba, oa, none⟩) c sig pre W) := ⟨h1, h2, h3, h4, h5⟩
    have HR : Hid (DRow w (some ⟨ba, oa, none⟩) 512 sig) := R
    clear R hcs HD0 HI0 hlen32 h1 h3 h4
    generalize sig.getD (2 * xi) [] = X at *
    generalize sig.getD (2 * xi + 1) [] = Y at *
    refine wpIn_block ?_
    refine wpIn_seq ?_
    refine wpIn_round_list l _ (by kernel_rfl) (fun h => by obtain ⟨a, w, h⟩ := h; exact h) ?_
    obtain ⟨q, hq⟩ : ∃ q : Nat, 2 * xi + t = q := ⟨_, rfl⟩
    have eq1 : (2 : Int) * (xi : Int) + (t : Int) = (q : Int) := by omega
    have hq5 : q < 512 := by omega
    rw [hq] at HF1 HSN
    go_wp2_with (refine wpList_load_mid (by rfl) 23 (.tmp 25) (by rfl) ba (oa + 2 * xi * 32) (by rfl) (cellsB X) _ HX.out Tryd.underlying23 (by rfl) (by rw [cellsB_length, lX]; exact Tryd.sizeDg) ?_)
    refine (wonce_leaf X W (G.below HI.out.2.2.2.1) lX).mono ?_
    rintro e w1 ⟨rfl, hb1⟩
    have lZ := onceLeafL_length X
    have HB1 : Hid (Below W.heap.size W w1) := hb1
    have hA1 : Arr w1 (w.heap.size + 3) (memF (onceAt m sig) pre) := HI.out.1.below hb1 (by omega)
    have HT1 : Hid (w1.there (w.heap.size + 3) (q * 32) 32) := hA1.slot q hq5
    have HA2 : Hid (Arr (w1.setCells (w.heap.size + 3) (q * 32) (cellsB (onceLeafL X))) (w.heap.size + 3) (setF (memF (onceAt m sig) pre) q (onceAt m sig q))) := by
      have := hA1.set q hq5 _ lZ
      rw [HF1.out]
      exact this
    clear hb1 hA1 HX HF1
    generalize onceLeafL X = Z at *
    have hc1 : w1.cell? ⟨w.heap.size + 1, 0, none⟩ = some (.slice (some ⟨ba, oa, none⟩) 512 c) := (HB1.out.cell (p := ⟨w.heap.size + 1, 0, none⟩) (by show w.heap.size + 1 < W.heap.size; omega)).trans h2
    clear h2
    go_wp2_with (refine wpList_store_mid (by rfl) 23 (.tmp 28) (.tmp 27) (by rfl) (w.heap.size + 3) (q * 32) (cellsB Z).toArray (by rfl) (by rfl) (by rw [cellsB_size, lZ]; exact HT1.out) (by rw [cellsB_size, lZ]; exact Tryd.sizeDg) (all_oneCell_toArray (cellsB_one _)) ?_)
    have hg2 := gr_setCells (w.heap.size + 3) (cellsB Z) (q * 32) w1
    have HSM : Hid (∀ k, k < W.heap.size → k ≠ w.heap.size + 3 → (w1.setCells (w.heap.size + 3) (q * 32) (cellsB Z)).heap[k]? = W.heap[k]?) := fun k hk hne =>
      (hg2.block k (Nat.lt_of_lt_of_le hk HB1.out.size) (fun e => hne (Option.some.inj e))).trans (HB1.out.block k hk)
    have HS2 : Hid (W.heap.size ≤ (w1.setCells (w.heap.size + 3) (q * 32) (cellsB Z)).heap.size) := Nat.le_trans HB1.out.size hg2.size
    have HBw : Hid (Below w.heap.size w (w1.setCells (w.heap.size + 3) (q * 32) (cellsB Z))) := below_setCells _ (by omega) _ _ _ (HI.out.2.2.2.1.trans (HB1.out.mono (by omega)))
    clear hg2 HB1 HT1 hc1
    generalize w1.setCells (w.heap.size + 3) (q * 32) (cellsB Z) = w2 at *
    have hc2 : w2.cell? ⟨w.heap.size + 1, 0, none⟩ = some (.slice (some ⟨ba, oa, none⟩) 512 c) := (World.cell?_of_block (w := W) (a := ⟨w.heap.size + 1, 0, none⟩) (HSM.out (w.heap.size + 1) (by omega) (by omega))).trans HI.out.2.1
    obtain ⟨p, hp⟩ : ∃ p : Nat, 2 * xi + 1 - t = p := ⟨_, rfl⟩
    have ep1 : (2 : Int) * (xi : Int) + 1 - (t : Int) = (p : Int) := by omega
    have hp5 : p < 512 := by omega
    rw [hp] at HF2 HSN
    have HT2 : Hid (w2.there (w.heap.size + 3) (p * 32) 32) := HA2.out.slot p hp5
    have HA3 : Hid (Arr (w2.setCells (w.heap.size + 3) (p * 32) (cellsB Y)) (w.heap.size + 3) (memF (onceAt m sig) (pre ++ [x]))) := by
      have := HA2.out.set p hp5 _ lY
      rw [← HSN.out, HF2.out]
      exact this
    have HYw := HY.out _ HBw.out
    clear HF2 HSN HY HA2
    refine wpIn_round_list l _ (by kernel_rfl) (fun h => by obtain ⟨a, w, h⟩ := h; exact h) ?_
    go_wp2_with (first
      | (refine wpList_load_mid (by rfl) 23 (.tmp 38) (by rfl) ba (oa + (2 * xi + 1) * 32) (by rfl) (cellsB Y) _ HYw Tryd.underlying23 (by rfl) (by rw [cellsB_length, lY]; exact Tryd.sizeDg) ?_)
      | (refine wpList_store_mid (by rfl) 23 (.tmp 40) (.tmp 39) (by rfl) (w.heap.size + 3) (p * 32) (cellsB Y).toArray (by rfl) (by rfl) (by rw [cellsB_size, lY]; exact HT2.out) (by rw [cellsB_size, lY]; exact Tryd.sizeDg) (all_oneCell_toArray (cellsB_one _)) ?_))
    have hg3 := gr_setCells (w.heap.size + 3) (cellsB Y) (p * 32) w2
    have same : ∀ k, k < W.heap.size → k ≠ w.heap.size + 3 → (w2.setCells (w.heap.size + 3) (p * 32) (cellsB Y)).heap[k]? = W.heap[k]? := fun k hk hne =>
      (hg3.block k (Nat.lt_of_lt_of_le hk HS2.out) (fun e => hne (Option.some.inj e))).trans (HSM.out k hk hne)
    have hs2 := HS2.out
    have hs3 := hg3.size
    show KeepsFrom _ _ _ ∧ KpD _ _ _ _ ∧ RecI _ _ _ _ _ _ _
    refine ⟨keepsFrom_of (by omega) (fun k hk hk2 => same k hk2 (by omega)), fun hd j v hj => ?_, HA3.out, ?_, ?_, ?_, by omega⟩
    · exact (World.cell?_of_block (w := W) (a := ⟨w.heap.size + 4, 0 + j, none⟩) (same (w.heap.size + 4) (by omega) (by omega))).trans (hd j v hj)
    · exact (World.cell?_of_block (w := W) (a := ⟨w.heap.size + 1, 0, none⟩) (same (w.heap.size + 1) (by omega) (by omega))).trans HI.out.2.1
    · intro j hj
      have hk := same (w.heap.size + 2) (by omega) (by omega)
      rw [World.cell?_of_block (w := W) (a := ⟨w.heap.size + 2, 0 + j, none⟩) hk, World.frozen?_of_block (w := W) (a := ⟨w.heap.size + 2, 0 + j, none⟩) hk]
      exact HI.out.2.2.1 j hj
    · exact below_setCells _ (by omega) _ _ _ HBw.out
  case done =>
    rintro D ys W hD rfl hi hK
    obtain ⟨h1, h2, h3, h4, h5⟩ := hi
    have hlen32 := R.len
    have HA : Hid (Arr W (w.heap.size + 3) (memF (onceAt m sig) (places 256))) := h1
    have HT : Hid (W.there (w.heap.size + 2) 0 32) := h3
    have H32 : Hid (∀ i, i < 512 → (memF (onceAt m sig) (places 256) i).length = 32) := fun i hi => by rw [memF_at _ i hi]; exact onceAt_32 m sig hlen32 i hi
    have HF : Hid (shaL (4 :: ((List.range 512).map (memF (onceAt m sig) (places 256))).flatten) = onceKeyL m sig) := by unfold Hid; rw [memF_all]; rfl
    clear h1 h3
    generalize memF (onceAt m sig) (places 256) = f at *
    go_wp2_with fail
    refine (wonce_leaves _ f W (G.below h4) HA.out H32.out).mono ?_
    rintro e w6 ⟨rfl, hb6⟩
    rw [HF.out]
    have HB6 : Hid (Below W.heap.size W w6) := hb6
    have HT6 : Hid (w6.there (w.heap.size + 2) 0 32) := there_below HT.out hb6 (by omega)
    have hlen : (onceKeyL m sig).length = 32 := shaL_length _
    have hDW : D < W.heap.size := (Array.getElem?_eq_some_iff.1 hK).1
    clear hb6 HA HF H32 HT
    generalize hDD : onceKeyL m sig = DD at *
    have HDD : Hid (onceKeyL m sig = DD) := hDD
    clear hDD
    go_wp2_with (refine wpList_store_mid (by rfl) 23 (.tmp 4) (.tmp 41) (by rfl) (w.heap.size + 2) 0 (cellsB DD).toArray (by rfl) (by rfl) (by rw [cellsB_size, hlen]; exact HT6.out) (by rw [cellsB_size, hlen]; exact Tryd.sizeDg) (all_oneCell_toArray (cellsB_one _)) ?_)
    have hg7 := gr_setCells (w.heap.size + 2) (cellsB DD) 0 w6
    have hd7 : DAt (w6.setCells (w.heap.size + 2) 0 (cellsB DD)) (w.heap.size + 2) 0 DD := dat_stored HT6.out hlen
    have hB7 : Below w.heap.size w (w6.setCells (w.heap.size + 2) 0 (cellsB DD)) := below_setCells _ (by omega) _ _ _ (h4.trans (HB6.out.mono (by omega)))
    have hK7 : (w6.setCells (w.heap.size + 2) 0 (cellsB DD)).heap[D]? = some (.deferred (some [])) := (hg7.block D (Nat.lt_of_lt_of_le hDW HB6.out.size) (fun e => by have := Option.some.inj e; omega)).trans ((HB6.out.block D hDW).trans hK)
    generalize w6.setCells (w.heap.size + 2) 0 (cellsB DD) = w7 at *
    have hbl := belowK_b (n₀ := W0.heap.size) (w := W0) (Nat.le_refl _) w7 D _ (.deferred none) hD hK7 rfl rfl
    refine ⟨by simp, .inl ⟨_, _, rfl, run_takeDeferred hK7, ?_⟩⟩
    refine ⟨.tuple #[digestV DD, .nilIface], run_results_row2 (by rfl) _ _ (w.heap.size + 2) 0 (by rfl) .nilIface (by rfl) (cellsB DD) (DAt.below hd7 hbl (by omega)) _ Tryd.underlying23 (by rfl) (by rw [cellsB_length, hlen]; exact Tryd.sizeDg), by rw [HDD.out], hB7.trans (hbl.mono (by omega))⟩
  case stop =>
    rintro D c pre W _ _ h _
    exact h.elim

set_option maxRecDepth 100000 in
set_option maxHeartbeats 1000000 in
theorem wonce_short (m : List UInt8) (a : Option Addr) (n c : Nat) (w : World) (G : Env w) (hm : m.length = 32) (hn : n ≠ 512) (hn2 : n ≤ 140737488351232) :
    Calls Tryd.prog 12 #[digestV m, .slice a n c] w fun e w' => e = .returned (.tuple #[digestV zD, .iface 28 (.int .i64 3)]) ∧ Below w.heap.size w w' := by
  obtain ⟨w3, hw3⟩ : ∃ w3, ((w.alloc (.cells (cellsB m).toArray 23)).alloc (.cells #[.slice a n c] 24)).alloc (.cells (cellsB zD).toArray 23) = w3 := ⟨_, rfl⟩
  have hs2 : ((w.alloc (.cells (cellsB m).toArray 23)).alloc (.cells #[.slice a n c] 24)).heap.size = w.heap.size + 2 := by simp
  have HB3 : Hid (Below w.heap.size w w3) := by rw [← hw3]; exact (((Below.refl _ _).alloc (Nat.le_refl _) _).alloc (by simp) _).alloc (by simp; omega) _
  have hc3 : w3.cell? ⟨w.heap.size + 1, 0, none⟩ = some (.slice a n c) := by
    rw [← hw3]
    have hb := Boxed.new (w.alloc (.cells (cellsB m).toArray 23)) 24 (.slice a n c)
    have := (hb.alloc (.cells (cellsB zD).toArray 23)).cell
    rw [World.size_alloc] at this
    exact this
  have HT3 : Hid (w3.there (w.heap.size + 2) 0 32) := by rw [← hw3]; exact alloc_thereAt _ _ _ 32 _ hs2 zD_size.symm
  have lz : zD.length = 32 := rfl
  go_enter Tryd.func12, Tryd.ntmps12
  go_wp2_with (first
    | (refine wpList_allocE (by rfl) 23 (by rfl) (cellsB zD).toArray Tryd.zeroDg (w.heap.size + 2) hs2 w3 hw3 ?_)
    | (refine wpList_store_mid (by rfl) 23 (.tmp 4) (.tmp 12) (by rfl) (w.heap.size + 2) 0 (cellsB zD).toArray (by rfl) (by first | rfl | (rw [zD_lit]; rfl)) (by rw [cellsB_size, lz]; exact HT3.out) (by rw [cellsB_size, lz]; exact Tryd.sizeDg) (all_oneCell_toArray (cellsB_one _)) ?_))
  refine bodyPost_ret (v := .tuple #[digestV zD, .iface 28 (.int .i64 3)]) (run_results_row2 (by rfl) _ _ (w.heap.size + 2) 0 (by rfl) (.iface 28 (.int .i64 3)) (by rfl) (cellsB zD) (World.rangeAt_setCells_same _ _ _ _ (by rw [cellsB_length, lz]; exact HT3.out)) _ Tryd.underlying23 (by rfl) (by rw [cellsB_length, lz]; exact Tryd.sizeDg)) rfl ⟨rfl, ?_⟩
  exact below_setCells _ (by omega) _ _ _ HB3.out
end Go.Proofs.YtigdgmoiljifjaaDoor
