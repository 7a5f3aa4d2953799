/- Texts of this claim, joined: SameH, Wwsign, Wwots, Sdigests. -/
import Derived.Test.YtdplajhebapkgaaDoorJ16
import Derived.OrdersHeld
import Derived.Deep.MidRow
import Derived.Test.YtdplajhebapkgaaDoorJ15
import Derived.Test.YtdplajhebapkgaaDoorYPairs
import Derived.Test.YtdplajhebapkgaaDoorJ10
import Derived.Deep.RegionHeld3
import Derived.Test.YtdplajhebapkgaaDoorJ03
import Derived.Test.YtdplajhebapkgaaDoorJ06
/- Digests compared, in a region that draws its order. -/
namespace Go.Proofs.YtdplajhebapkgaaDoor
open Go.RowKit
set_option linter.unusedVariables false
set_option linter.unusedSimpArgs false

theorem yieldsIf_eqD {ops : Array Oper} {S : World → Prop} {o : Oper} {a : Act} (hw : Region.wanted o (yielded ops a.tmps) = true) (x y : Operand) (ho : o.op = .binOp .eql 23 x y 23) (X Y : List UInt8) (hX : X.length = 32) (hY : Y.length = 32)
    (hx : a.eval x = .agg (cellsB X).toArray) (hy : a.eval y = .agg (cellsB Y).toArray) (b : Bool) (hb : decide (X = Y) = b) : YieldsIf Tryd.prog ops S o (.bool b) a := by
  subst hb
  refine .inl ⟨hw, fun w _ => ?_⟩
  simp [execOp, ho, hx, hy, eqGuard, Tryd.eqGuardDigest, binOp, Op.equal, Op.maxDepth, run_same w X Y hX hY, Result.andThen, Sem.run_bind]
theorem yieldsIf_neqD {ops : Array Oper} {S : World → Prop} {o : Oper} {a : Act} (hw : Region.wanted o (yielded ops a.tmps) = true) (x y : Operand) (ho : o.op = .binOp .neq 23 x y 23) (X Y : List UInt8) (hX : X.length = 32) (hY : Y.length = 32)
    (hx : a.eval x = .agg (cellsB X).toArray) (hy : a.eval y = .agg (cellsB Y).toArray) (b : Bool) (hb : (!decide (X = Y)) = b) : YieldsIf Tryd.prog ops S o (.bool b) a := by
  subst hb
  refine .inl ⟨hw, fun w _ => ?_⟩
  simp [execOp, ho, hx, hy, eqGuard, Tryd.eqGuardDigest, binOp, Op.equal, Op.maxDepth, run_same w X Y hX hY, Result.andThen, Sem.run_bind, -decide_not]
/-- A load of an array, guarded or not. -/
theorem wpList_load_midG {P : Program} {ops : Array Oper} {rest : List Oper} {o : Oper} {a : Act} {w : World} {Q : Exit → Act → World → Prop} (hw : Region.wanted o (yielded ops a.tmps) = true) (ty : TypeId) (x : Operand) (ho : o.op = .load ty x)
    (b p : Nat) (hx : a.eval x = .pointer (some ⟨b, p, none⟩)) (cs : List Value) (d : TypeDesc) (hc : w.rangeAt b p cs) (hu : P.underlying ty = some d) (hd : d.isRow = true) (hi : (P.info? ty).map (·.size) = some cs.length)
    (h : wpList P ops Q rest (a.put o.dst (.agg cs.toArray)) w) : wpList P ops Q (o :: rest) a w :=
  wpList_step fun K hK => by rw [if_pos hw]; exact wp_load_mid ty x ho b p hx cs d hc hu hd hi (hK _ _ h)
end Go.Proofs.YtdplajhebapkgaaDoor
/- The contracts of wots.Public, Sign and Recover. -/
namespace Go.Proofs.YtdplajhebapkgaaDoor
open Go.RowKit
set_option linter.unusedVariables false
set_option linter.unusedSimpArgs false

theorem digs_bd (m : List UInt8) : ∀ i, i < 67 → 0 ≤ (digsL m 67).getD i 0 ∧ (digsL m 67).getD i 0 ≤ 15 := fun i hi => by
  have := digL_lt m i
  rw [digsL_at m 67 i hi]
  omega
theorem lacks_digs (m : List UInt8) : ∀ i, i < 67 → (lacksI (digsL m 67)).getD i 0 = ((15 - digL m i : Nat) : Int) ∧ 15 - digL m i ≤ 1000 := fun i hi => by
  have := digL_lt m i
  rw [lacksI_at _ i (by rw [digsL_len]; exact hi), digsL_at m 67 i hi]
  omega
theorem lacks_zero : ∀ i, i < 67 → (lacksI zI).getD i 0 = ((15 : Nat) : Int) ∧ 15 ≤ 1000 := fun i hi => by
  rw [lacksI_at zI i hi, zI_at]
  exact ⟨rfl, by omega⟩
theorem mem32 {F : Nat → List UInt8} (h : ∀ i, i < 67 → (F i).length = 32) : ∀ l ∈ (List.range 67).map F, l.length = 32 := fun l hl => by
  obtain ⟨i, hi, rfl⟩ := List.mem_map.1 hl
  exact h i (List.mem_range.1 hi)

set_option maxRecDepth 100000 in
set_option maxHeartbeats 1000000 in
theorem wwots_public (seed : List UInt8) (w : World) (G : Env w) (hs : seed.length = 32) :
    Calls Tryd.prog 12 #[digestV seed] w fun e w' => e = .returned (digestV (wotsPubL seed)) ∧ Below w.heap.size w w' := by
  obtain ⟨w2, hw2⟩ : ∃ w2, (w.alloc (.cells (cellsB seed).toArray 23)).alloc (.cells (cellsB zD).toArray 23) = w2 := ⟨_, rfl⟩
  have hs1 : (w.alloc (.cells (cellsB seed).toArray 23)).heap.size = w.heap.size + 1 := by simp
  have HS2 : Hid (w2.heap.size = w.heap.size + 1 + 1) := by unfold Hid; rw [← hw2]; simp
  have HB2 : Hid (Below w.heap.size w w2) := by rw [← hw2]; exact ((Below.refl _ _).alloc (Nat.le_refl _) _).alloc (by simp) _
  have HD2 : Hid (DAt w2 w.heap.size 0 seed) := by rw [← hw2]; exact World.rangeAt_alloc (box_dat w seed _) _
  have HT2 : Hid (w2.there (w.heap.size + 1) 0 32) := by rw [← hw2]; exact alloc_thereAt _ _ _ 32 _ hs1 zD_size.symm
  have HG : Hid (Env w2) := G.below HB2.out
  clear G
  go_enter Tryd.func12, Tryd.ntmps12
  go_wp2_with (first
    | (refine wpList_allocE (by rfl) 23 (by rfl) (cellsB zD).toArray Tryd.zeroDg (w.heap.size + 1) hs1 w2 hw2 ?_)
    | (refine wpList_load_mid (by rfl) 23 (.tmp 1) (by rfl) w.heap.size 0 (by rfl) (cellsB seed) _ HD2.out Tryd.underlying23 (by rfl) (by rw [cellsB_length, hs]; exact Tryd.sizeDg) ?_))
  clear hw2 hs1
  refine (wwots_secrets seed w2 HG.out hs).mono ?_
  rintro e w3 ⟨⟨p, rfl, hsrc⟩, hb3⟩
  have HS3 : Hid (Source 30 p (wotsSecL seed) w3) := hsrc
  have HB3 : Hid (Below w2.heap.size w2 w3) := hb3
  clear hsrc hb3
  go_wp2_with (refine wpList_buildC (by rfl) 44 _ (by rfl) (cellsI zI).toArray (by kernel_rfl) ?_)
  refine (wwots_lacks zI w3 rfl (fun i hi => by rw [zI_at]; omega)).mono ?_
  rintro e w4 ⟨rfl, hb4⟩
  have HS4 : Hid (Source 30 p (wotsSecL seed) w4) := HS3.out.below hb4
  have HB4 : Hid (Below w2.heap.size w2 w4) := HB3.out.trans (hb4.mono HB3.out.size)
  have HLL : Hid ((lacksI zI).length = 67 ∧ ∀ i, i < 67 → (lacksI zI).getD i 0 = ((15 : Nat) : Int) ∧ 15 ≤ 1000) := ⟨by rw [lacksI_len]; rfl, lacks_zero⟩
  clear hb4 HS3 HB3
  generalize lacksI zI = LL at *
  go_wp2_with fail
  refine (wwots_walk 30 p (wotsSecL seed) LL (fun _ => 15) w4 (HG.out.below HB4.out) HS4.out (fun i _ => wotsSecL_length seed i) HLL.out.1 HLL.out.2).mono ?_
  rintro e w5 ⟨rfl, hb5⟩
  have HB5 : Hid (Below w2.heap.size w2 w5) := HB4.out.trans (hb5.mono HB4.out.size)
  have HE : Hid (((List.range 67).map fun i => walkL (wotsSecL seed i) 15).length = 67 ∧ (∀ l ∈ (List.range 67).map (fun i => walkL (wotsSecL seed i) 15), l.length = 32) ∧ shaL (7 :: ((List.range 67).map fun i => walkL (wotsSecL seed i) 15).flatten) = wotsPubL seed) := ⟨by simp, mem32 (fun i _ => walkL_length (wotsSecL_length seed i) 15), rfl⟩
  clear hb5 HS4 HB4 HLL
  generalize (List.range 67).map (fun i => walkL (wotsSecL seed i) 15) = L at *
  go_wp2_with fail
  refine (wwots_knots L w5 (HG.out.below HB5.out) HE.out.1 HE.out.2.1).mono ?_
  rintro e w6 ⟨rfl, hb6⟩
  rw [HE.out.2.2]
  have HB6 : Hid (Below w2.heap.size w2 w6) := HB5.out.trans (hb6.mono HB5.out.size)
  have HT6 : Hid (w6.there (w.heap.size + 1) 0 32) := there_below HT2.out HB6.out (by have := HS2.out; omega)
  have hlen : (wotsPubL seed).length = 32 := shaL_length _
  clear hb6 HB5 HE
  generalize hD : wotsPubL seed = D at *
  have HD : Hid (wotsPubL seed = D) := hD
  clear hD
  go_wp2_with (refine wpList_store_mid (by rfl) 23 (.tmp 2) (.tmp 8) (by rfl) (w.heap.size + 1) 0 (cellsB D).toArray (by rfl) (by rfl) (by rw [cellsB_size, hlen]; exact HT6.out) (by rw [cellsB_size, hlen]; exact Tryd.sizeDg) (all_oneCell_toArray (cellsB_one _)) ?_)
  refine bodyPost_ret (v := digestV D) (run_results_row Tryd.results12 _ _ (w.heap.size + 1) 0 (by rfl) (cellsB D) (World.rangeAt_setCells_same _ _ _ _ (by rw [cellsB_length, hlen]; exact HT6.out)) _ Tryd.underlying23 (by rfl) (by rw [cellsB_length, hlen]; exact Tryd.sizeDg)) rfl ⟨by rw [HD.out], ?_⟩
  exact below_setCells _ (by omega) _ _ _ (HB2.out.trans (HB6.out.mono (by have := HS2.out; omega)))

set_option maxRecDepth 100000 in
set_option maxHeartbeats 1000000 in
theorem wwots_recover (m : List UInt8) (a : Option Addr) (c : Nat) (sig : List (List UInt8)) (w : World) (G : Env w) (hm : m.length = 32) (R : DRow w a 67 sig) :
    Calls Tryd.prog 15 #[digestV m, .slice a 67 c] w fun e w' => e = .returned (.tuple #[digestV (wotsKeyL m sig), .nilIface]) ∧ Below w.heap.size w w' := by
  obtain ⟨w2, hw2⟩ : ∃ w2, (w.alloc (.cells (cellsB m).toArray 23)).alloc (.cells (cellsB zD).toArray 23) = w2 := ⟨_, rfl⟩
  have hs1 : (w.alloc (.cells (cellsB m).toArray 23)).heap.size = w.heap.size + 1 := by simp
  have HS2 : Hid (w2.heap.size = w.heap.size + 1 + 1) := by unfold Hid; rw [← hw2]; simp
  have HB2 : Hid (Below w.heap.size w w2) := by rw [← hw2]; exact ((Below.refl _ _).alloc (Nat.le_refl _) _).alloc (by simp) _
  have HK : Hid (∀ wx, Below w2.heap.size w2 wx → wx.rangeAt w.heap.size 0 (cellsB m) ∧ wx.there (w.heap.size + 1) 0 32 ∧ Env wx ∧ DRow wx a 67 sig ∧ Below w.heap.size w wx) := fun wx hx => by
    have s2 := HS2.out
    have b : Below w.heap.size w wx := HB2.out.trans (hx.mono (by omega))
    refine ⟨?_, ?_, G.below b, R.below b, b⟩
    · refine DAt.below (l := m) ?_ hx (by omega)
      rw [← hw2]; exact World.rangeAt_alloc (box_dat w m _) _
    · refine there_below ?_ hx (by omega)
      rw [← hw2]; exact alloc_thereAt _ _ _ 32 _ hs1 zD_size.symm
  have HS32 : Hid (∀ i, i < 67 → (sig.getD i []).length = 32) := R.len
  clear G R
  go_enter Tryd.func15, Tryd.ntmps15
  go_wp2_with (refine wpList_allocE (by rfl) 23 (by rfl) (cellsB zD).toArray Tryd.zeroDg (w.heap.size + 1) hs1 w2 hw2 ?_)
  clear hw2 hs1 HB2
  refine wp_region_noPanic ?_
  refine wp_region_held_drew (S := fun w' => w'.rangeAt w.heap.size 0 (cellsB m)) (by kernel_rfl) ((HK.out _ (below_drewN w2 1)).1) (fun hHeld => ?_)
  try simp only [Act.put, List.setIfInBounds_toArray, List.set_cons_zero, List.set_cons_succ]
  have HBd : Hid (Below w2.heap.size w2 w2.drew) := below_drewN w2 1
  generalize w2.drew = wd at *
  refine wpAnyH_take (i := 0) (v := ?_) (by simp only [List.getElem?_toArray, List.getElem?_cons_zero, List.getElem?_cons_succ]; rfl) (by kernel_rfl) (by kernel_rfl) (by kernel_rfl) (fun _ _ _ h => h) (Or.inl ⟨by rfl, ?_⟩) hHeld ?_
  rotate_left
  · intro w hSw
    go_simp
    try with_reducible rfl
  try simp only [Act.put, List.setIfInBounds_toArray, List.set_cons_zero, List.set_cons_succ]
  refine wpAnyH_take (i := 2) (v := .agg (cellsB m).toArray) (by simp only [List.getElem?_toArray, List.getElem?_cons_zero, List.getElem?_cons_succ]; rfl) (by kernel_rfl) (by kernel_rfl) (by kernel_rfl) (fun _ _ _ h => h)
    (yieldsIf_load_mid (by rfl) _ _ rfl _ _ rfl _ _ (fun w hw => hw) Tryd.underlying23 rfl (by rw [cellsB_length, hm]; exact Tryd.sizeDg)) hHeld ?_
  try simp only [Act.put, List.setIfInBounds_toArray, List.set_cons_zero, List.set_cons_succ]
  refine wpAnyH_ready (rs := [1]) (by kernel_rfl) (by simp) ?_
  refine AllReadyH.cons (by simp only [List.getElem?_toArray, List.getElem?_cons_zero, List.getElem?_cons_succ]; rfl) (fun K hK => ?_) AllReadyH.nil
  rw [if_pos (by rfl)]
  go_simp
  refine (wwots_shown sig a c wd (HK.out _ HBd.out).2.2.2.1).mono ?_
  rintro e w3 ⟨⟨p, rfl, hsrc⟩, hb3⟩
  have HS3 : Hid (Source 33 p (fun i => sig.getD i []) w3) := hsrc
  have HB3 : Hid (Below w2.heap.size w2 w3) := HBd.out.trans (hb3.mono HBd.out.size)
  clear hsrc hb3 HBd
  go_wp2_with fail
  refine hK.out _ _ (HK.out _ HB3.out).1 (fun hHeld => ?_)
  clear hK K
  try simp only [Act.put, List.setIfInBounds_toArray, List.set_cons_zero, List.set_cons_succ]
  refine wpAnyH_ready (rs := [3]) (by kernel_rfl) (by simp) ?_
  refine AllReadyH.cons (by simp only [List.getElem?_toArray, List.getElem?_cons_zero, List.getElem?_cons_succ]; rfl) (fun K hK => ?_) AllReadyH.nil
  rw [if_pos (by rfl)]
  go_simp
  refine (wwots_digitsOf m w3 hm).mono ?_
  rintro e w4 ⟨rfl, hb4⟩
  have HS4 : Hid (Source 33 p (fun i => sig.getD i []) w4) := HS3.out.below hb4
  have HB4 : Hid (Below w2.heap.size w2 w4) := HB3.out.trans (hb4.mono HB3.out.size)
  have HDD : Hid ((digsL m 67).length = 67 ∧ (∀ i, i < 67 → 0 ≤ (digsL m 67).getD i 0 ∧ (digsL m 67).getD i 0 ≤ 15) ∧ ∀ i, i < 67 → (lacksI (digsL m 67)).getD i 0 = ((15 - digL m i : Nat) : Int) ∧ 15 - digL m i ≤ 1000) := ⟨digsL_len m 67, digs_bd m, lacks_digs m⟩
  clear hb4 HS3 HB3
  generalize digsL m 67 = DL at *
  go_wp2_with fail
  refine hK.out _ _ (HK.out _ HB4.out).1 (fun hHeld => ?_)
  clear hK K
  try simp only [Act.put, List.setIfInBounds_toArray, List.set_cons_zero, List.set_cons_succ]
  refine wpAnyH_ready (rs := [4]) (by kernel_rfl) (by simp) ?_
  refine AllReadyH.cons (by simp only [List.getElem?_toArray, List.getElem?_cons_zero, List.getElem?_cons_succ]; rfl) (fun K hK => ?_) AllReadyH.nil
  rw [if_pos (by rfl)]
  go_simp
  refine (wwots_lacks DL w4 HDD.out.1 HDD.out.2.1).mono ?_
  rintro e w5 ⟨rfl, hb5⟩
  have HS5 : Hid (Source 33 p (fun i => sig.getD i []) w5) := HS4.out.below hb5
  have HB5 : Hid (Below w2.heap.size w2 w5) := HB4.out.trans (hb5.mono HB4.out.size)
  have HLL : Hid ((lacksI DL).length = 67 ∧ ∀ i, i < 67 → (lacksI DL).getD i 0 = ((15 - digL m i : Nat) : Int) ∧ 15 - digL m i ≤ 1000) := ⟨by rw [lacksI_len, HDD.out.1], HDD.out.2.2⟩
  clear hb5 HS4 HB4 HDD
  generalize lacksI DL = LL at *
  go_wp2_with fail
  refine hK.out _ _ (HK.out _ HB5.out).1 (fun hHeld => ?_)
  clear hK K
  try simp only [Act.put, List.setIfInBounds_toArray, List.set_cons_zero, List.set_cons_succ]
  refine wpAnyH_ready (rs := [5]) (by kernel_rfl) (by simp) ?_
  refine AllReadyH.cons (by simp only [List.getElem?_toArray, List.getElem?_cons_zero, List.getElem?_cons_succ]; rfl) (fun K hK => ?_) AllReadyH.nil
  rw [if_pos (by rfl)]
  go_simp
  refine (wwots_walk 33 p (fun i => sig.getD i []) LL (fun i => 15 - digL m i) w5 (HK.out _ HB5.out).2.2.1 HS5.out HS32.out HLL.out.1 HLL.out.2).mono ?_
  rintro e w6 ⟨rfl, hb6⟩
  have HB6 : Hid (Below w2.heap.size w2 w6) := HB5.out.trans (hb6.mono HB5.out.size)
  have HE : Hid (((List.range 67).map fun i => walkL (sig.getD i []) (15 - digL m i)).length = 67 ∧ (∀ l ∈ (List.range 67).map (fun i => walkL (sig.getD i []) (15 - digL m i)), l.length = 32) ∧ shaL (7 :: ((List.range 67).map fun i => walkL (sig.getD i []) (15 - digL m i)).flatten) = wotsKeyL m sig) := ⟨by simp, mem32 (fun i hi => walkL_length (HS32.out i hi) _), rfl⟩
  clear hb6 HS5 HB5 HLL
  generalize (List.range 67).map (fun i => walkL (sig.getD i []) (15 - digL m i)) = L at *
  go_wp2_with fail
  refine hK.out _ _ (HK.out _ HB6.out).1 (fun hHeld => ?_)
  clear hK K
  try simp only [Act.put, List.setIfInBounds_toArray, List.set_cons_zero, List.set_cons_succ]
  refine wpAnyH_ready (rs := [6]) (by kernel_rfl) (by simp) ?_
  refine AllReadyH.cons (by simp only [List.getElem?_toArray, List.getElem?_cons_zero, List.getElem?_cons_succ]; rfl) (fun K hK => ?_) AllReadyH.nil
  rw [if_pos (by rfl)]
  go_simp
  refine (wwots_knots L w6 (HK.out _ HB6.out).2.2.1 HE.out.1 HE.out.2.1).mono ?_
  rintro e w7 ⟨rfl, hb7⟩
  rw [HE.out.2.2]
  have HB7 : Hid (Below w2.heap.size w2 w7) := HB6.out.trans (hb7.mono HB6.out.size)
  have hlen : (wotsKeyL m sig).length = 32 := shaL_length _
  clear hb7 HB6 HE
  generalize hD : wotsKeyL m sig = D at *
  have HD : Hid (wotsKeyL m sig = D) := hD
  clear hD
  go_wp2_with fail
  refine hK.out _ _ (HK.out _ HB7.out).1 (fun hHeld => ?_)
  clear hK K
  try simp only [Act.put, List.setIfInBounds_toArray, List.set_cons_zero, List.set_cons_succ]
  refine wpAnyH_ready (rs := [7]) (by kernel_rfl) (by simp) ?_
  refine AllReadyH.cons (by simp only [List.getElem?_toArray, List.getElem?_cons_zero, List.getElem?_cons_succ]; rfl) (fun K hK => ?_) AllReadyH.nil
  rw [if_pos (by rfl)]
  have HT7 : Hid (w7.there (w.heap.size + 1) 0 32) := (HK.out _ HB7.out).2.1
  have HB8 : Hid (Below w2.heap.size w2 w7 ∧ Below w.heap.size w (w7.setCells (w.heap.size + 1) 0 (cellsB D))) := ⟨HB7.out, below_setCells _ (by omega) _ _ _ (HK.out _ HB7.out).2.2.2.2⟩
  refine wp_store_mid _ _ _ rfl (w.heap.size + 1) 0 (cellsB D).toArray rfl rfl (by rw [cellsB_size, hlen]; exact HT7.out) (by rw [cellsB_size, hlen]; exact Tryd.sizeDg) (all_oneCell_toArray (cellsB_one _)) ?_
  have HX : Hid (DAt (w7.setCells (w.heap.size + 1) 0 (cellsB D)) (w.heap.size + 1) 0 D) := dat_stored HT7.out hlen
  have hr : (w7.setCells (w.heap.size + 1) 0 (cellsB D)).rangeAt w.heap.size 0 (cellsB m) := World.rangeAt_setCells_apart (HK.out _ HB7.out).1 _ _ _ (.inl (by omega))
  refine hK.out _ _ hr (fun hHeld => ?_)
  clear hr HT7 HB7
  clear hK K
  try simp only [Act.put, List.setIfInBounds_toArray, List.set_cons_zero, List.set_cons_succ]
  refine wpAnyH_take (i := 8) (v := ?_) (by simp only [List.getElem?_toArray, List.getElem?_cons_zero, List.getElem?_cons_succ]; rfl) (by kernel_rfl) (by kernel_rfl) (by kernel_rfl) (fun _ _ _ h => h) (Or.inl ⟨by rfl, ?_⟩) hHeld ?_
  rotate_left
  · intro w hSw
    go_simp
    try with_reducible rfl
  try simp only [Act.put, List.setIfInBounds_toArray, List.set_cons_zero, List.set_cons_succ]
  refine wpAnyH_done (by kernel_rfl) (NoPanic.normal ?_) _
  clear hHeld
  go_wp2_with fail
  refine bodyPost_ret (v := .tuple #[digestV D, .nilIface]) (run_results_row2 Tryd.results15 _ _ (w.heap.size + 1) 0 (by rfl) .nilIface (by rfl) (cellsB D) HX.out _ Tryd.underlying23 (by rfl) (by rw [cellsB_length, hlen]; exact Tryd.sizeDg)) rfl ⟨by rw [HD.out], ?_⟩
  exact HB8.out.2

set_option maxRecDepth 100000 in
set_option maxHeartbeats 1000000 in
theorem wwots_short (m : List UInt8) (a : Option Addr) (n c : Nat) (w : World) (G : Env w) (hm : m.length = 32) (hn : n ≠ 67) (hn2 : n ≤ 140737488351232) :
    Calls Tryd.prog 15 #[digestV m, .slice a n c] w fun e w' => e = .returned (.tuple #[digestV zD, .iface 31 (.int .i64 3)]) ∧ Below w.heap.size w w' := by
  clear G
  obtain ⟨w2, hw2⟩ : ∃ w2, (w.alloc (.cells (cellsB m).toArray 23)).alloc (.cells (cellsB zD).toArray 23) = w2 := ⟨_, rfl⟩
  have hs1 : (w.alloc (.cells (cellsB m).toArray 23)).heap.size = w.heap.size + 1 := by simp
  have HT2 : Hid (w2.there (w.heap.size + 1) 0 32) := by rw [← hw2]; exact alloc_thereAt _ _ _ 32 _ hs1 zD_size.symm
  have HB2 : Hid (Below w.heap.size w w2) := by rw [← hw2]; exact ((Below.refl _ _).alloc (Nat.le_refl _) _).alloc (by simp) _
  have h5 : ((n : Int) != 67) = true := by simp; omega
  go_enter Tryd.func15, Tryd.ntmps15
  go_wp2_with (first
    | (refine wpList_allocE (by rfl) 23 (by rfl) (cellsB zD).toArray Tryd.zeroDg (w.heap.size + 1) hs1 w2 hw2 ?_)
    | (refine wpList_buildC (by rfl) 23 _ (by rfl) (cellsB zD).toArray (by kernel_rfl) ?_)
    | (refine wpList_store_mid (by rfl) 23 (.tmp 4) (.tmp 9) (by rfl) (w.heap.size + 1) 0 (cellsB zD).toArray (by rfl) (by rfl) (by rw [cellsB_size]; exact HT2.out) (by rw [cellsB_size]; exact Tryd.sizeDg) (all_oneCell_toArray (cellsB_one _)) ?_))
  refine bodyPost_ret (v := .tuple #[digestV zD, .iface 31 (.int .i64 3)]) (run_results_row2 Tryd.results15 _ _ (w.heap.size + 1) 0 (by rfl) _ (by rfl) (cellsB zD) (World.rangeAt_setCells_same _ _ _ _ (by rw [cellsB_length]; exact HT2.out)) _ Tryd.underlying23 (by rfl) (by rw [cellsB_length]; exact Tryd.sizeDg)) rfl ⟨rfl, ?_⟩
  exact below_setCells _ (by omega) _ _ _ HB2.out

/-- Which operations of 'sig := walk(secrets(seed), digitsOf(m))' have come up. -/
def sgnL (k : Nat) (b : Bool) : Array Bool := #[true, decide (1 ≤ k), true, decide (2 ≤ k), decide (3 ≤ k), b, false]
def fromS (n : Nat) (v : Value) (k : Nat) : Value := if n ≤ k then v else undef
def ptrS : Option Nat → Value
  | none => undef
  | some g => .pointer (some ⟨g, 0, none⟩)
theorem wsig_len (seed m : List UInt8) : (wotsSigL seed m 67).length = 67 := by simp [wotsSigL]
theorem wsig_32 (seed m : List UInt8) : ∀ l ∈ wotsSigL seed m 67, l.length = 32 := mem32 fun i _ => walkL_length (wotsSecL_length seed i) _

set_option maxRecDepth 100000 in
set_option maxHeartbeats 1000000 in
theorem wwots_sign (seed m : List UInt8) (w : World) (G : Env w) (hs : seed.length = 32) (hm : m.length = 32) :
    Calls Tryd.prog 10 #[digestV seed, digestV m] w fun e w' => (∃ a c, e = .returned (.slice a 67 c) ∧ 67 ≤ c ∧ DRow w' a 67 (wotsSigL seed m 67)) ∧ Below w.heap.size w w' := by
  obtain ⟨zs, hzs, hzero⟩ := zeroKnots
  obtain ⟨w2, hw2⟩ : ∃ w2, (w.alloc (.cells (cellsB seed).toArray 23)).alloc (.cells (cellsB m).toArray 23) = w2 := ⟨_, rfl⟩
  have hs1 : (w.alloc (.cells (cellsB seed).toArray 23)).heap.size = w.heap.size + 1 := by simp
  have HS2 : Hid (w2.heap.size = w.heap.size + 1 + 1) := by unfold Hid; rw [← hw2]; simp
  have HB2 : Hid (Below w.heap.size w w2) := by rw [← hw2]; exact ((Below.refl _ _).alloc (Nat.le_refl _) _).alloc (by simp) _
  have HK : Hid (∀ wx, Below w2.heap.size w2 wx → wx.rangeAt w.heap.size 0 (cellsB seed) ∧ wx.rangeAt (w.heap.size + 1) 0 (cellsB m) ∧ Env wx ∧ Below w.heap.size w wx) := fun wx hx => by
    have s2 := HS2.out
    have b : Below w.heap.size w wx := HB2.out.trans (hx.mono (by omega))
    refine ⟨?_, ?_, G.below b, b⟩
    · refine DAt.below (l := seed) ?_ hx (by omega)
      rw [← hw2]; exact World.rangeAt_alloc (box_dat w seed _) _
    · refine DAt.below (l := m) ?_ hx (by omega)
      rw [← hw2]; exact box_rangeAt _ _ _ _ hs1
  clear G
  go_enter Tryd.func10, Tryd.ntmps10
  go_wp2_with fail
  try rw [hw2]
  clear hw2 hs1 HB2
  refine wp_region_noPanic ?_
  refine wp_region_held_drew (S := fun w' => w'.rangeAt w.heap.size 0 (cellsB seed) ∧ w'.rangeAt (w.heap.size + 1) 0 (cellsB m)) (by kernel_rfl) ⟨(HK.out _ (below_drewN w2 1)).1, (HK.out _ (below_drewN w2 1)).2.1⟩ (fun hHeld => ?_)
  try simp only [Act.put, List.setIfInBounds_toArray, List.set_cons_zero, List.set_cons_succ]
  have HBd : Hid (Below w2.heap.size w2 w2.drew) := below_drewN w2 1
  generalize w2.drew = wd at *
  refine wpAnyH_take (i := 0) (v := .agg (cellsB seed).toArray) (by simp only [List.getElem?_toArray, List.getElem?_cons_zero, List.getElem?_cons_succ]; rfl) (by kernel_rfl) (by kernel_rfl) (by kernel_rfl) (fun _ _ _ h => h)
    (yieldsIf_load_mid (by rfl) _ _ rfl _ _ rfl _ _ (fun w hw => hw.1) Tryd.underlying23 rfl (by rw [cellsB_length, hs]; exact Tryd.sizeDg)) hHeld ?_
  try simp only [Act.put, List.setIfInBounds_toArray, List.set_cons_zero, List.set_cons_succ]
  refine wpAnyH_take (i := 2) (v := .agg (cellsB m).toArray) (by simp only [List.getElem?_toArray, List.getElem?_cons_zero, List.getElem?_cons_succ]; rfl) (by kernel_rfl) (by kernel_rfl) (by kernel_rfl) (fun _ _ _ h => h)
    (yieldsIf_load_mid (by rfl) _ _ rfl _ _ rfl _ _ (fun w hw => hw.2) Tryd.underlying23 rfl (by rw [cellsB_length, hm]; exact Tryd.sizeDg)) hHeld ?_
  try simp only [Act.put, List.setIfInBounds_toArray, List.set_cons_zero, List.set_cons_succ]
  have HKS : Hid (∀ wx, Below wd.heap.size wd wx → (wx.rangeAt w.heap.size 0 (cellsB seed) ∧ wx.rangeAt (w.heap.size + 1) 0 (cellsB m)) ∧ Env wx ∧ Below w.heap.size w wx) := fun wx hx => by
    have h := HK.out _ (HBd.out.trans (hx.mono HBd.out.size))
    exact ⟨⟨h.1, h.2.1⟩, h.2.2⟩
  refine news1_any 3 1 (fun k p a wx => ∃ q, a = ({ tmps := #[digestV seed, digestV m, .pointer (some ⟨w.heap.size, 0, none⟩), .pointer (some ⟨w.heap.size + 1, 0, none⟩), .slice none 0 0, ptrS p, .agg (cellsB seed).toArray, fromS 1 (.func (.func 30) #[] #[q]) k, .agg (cellsB m).toArray, fromS 2 (.agg (cellsI (digsL m 67)).toArray) k, fromS 3 (knotsV (wotsSigL seed m 67)) k, undef], defers := [] } : Act) ∧ Below wd.heap.size wd wx ∧ (1 ≤ k → Source 30 q (wotsSecL seed) wx) ∧ (∀ g, p = some g → wd.heap.size ≤ g ∧ g < wx.heap.size ∧ wx.there g 0 2144)) sgnL ?step ?last ?fin 4 0 none _ _ rfl (by omega) ⟨undef, rfl, Below.refl _ _, (fun h => by omega), (fun g h => by cases h)⟩
  case step =>
    intro k p a wx fuel hk hSt next al
    obtain ⟨q, rfl, hb, h1, hp⟩ := hSt
    have hk3 : k = 0 ∨ k = 1 ∨ k = 2 := by omega
    rcases hk3 with rfl | rfl | rfl
    · cases p with
      | none =>
        refine wpAnyH_ready (rs := [1, 5]) (by kernel_rfl) (by simp) ?_
        refine AllReadyH.cons (by simp only [List.getElem?_toArray, List.getElem?_cons_zero, List.getElem?_cons_succ]; rfl) (fun K hK => ?_) (AllReadyH.cons (by simp only [List.getElem?_toArray, List.getElem?_cons_zero, List.getElem?_cons_succ]; rfl) (fun K hK => ?_) AllReadyH.nil)
        · simp only [fromS, Nat.reduceLeDiff, ↓reduceIte, Nat.reduceAdd, Nat.zero_add]
          rw [if_pos (by rfl)]
          go_simp
          refine (wwots_secrets seed wx (HKS.out _ hb).2.1 hs).mono ?_
          rintro e w' ⟨⟨q', rfl, hsrc⟩, hb3⟩
          have hb' : Below wd.heap.size wd w' := hb.trans (hb3.mono hb.size)
          go_wp2_with fail
          refine hK.out _ _ (HKS.out _ hb').1 (fun hHeld => ?_)
          exact next _ _ ⟨q', rfl, hb', fun _ => hsrc, fun g hg => ⟨(hp g hg).1, Nat.lt_of_lt_of_le (hp g hg).2.1 hb3.size, there_below (hp g hg).2.2 hb3 (hp g hg).2.1⟩⟩
        · rw [if_pos (by rfl)]
          refine wp_allocE 47 (by rfl) zs hzero ?_
          have hb8 : Below wx.heap.size wx (wx.alloc (.cells zs 47)) := (Below.refl _ _).alloc (Nat.le_refl _) _
          have hb' : Below wd.heap.size wd (wx.alloc (.cells zs 47)) := hb.trans (hb8.mono hb.size)
          refine hK.out _ _ (HKS.out _ hb').1 (fun hHeld => ?_)
          exact al wx.heap.size _ _ rfl ⟨q, rfl, hb', (fun h => by omega), fun g hg => by cases hg; exact ⟨hb.size, by simp, alloc_thereAt _ _ _ 2144 _ rfl hzs.symm⟩⟩
      | some g =>
        refine wpAnyH_ready (rs := [1]) (by kernel_rfl) (by simp) ?_
        refine AllReadyH.cons (by simp only [List.getElem?_toArray, List.getElem?_cons_zero, List.getElem?_cons_succ]; rfl) (fun K hK => ?_) AllReadyH.nil
        simp only [fromS, Nat.reduceLeDiff, ↓reduceIte, Nat.reduceAdd, Nat.zero_add]
        rw [if_pos (by rfl)]
        go_simp
        refine (wwots_secrets seed wx (HKS.out _ hb).2.1 hs).mono ?_
        rintro e w' ⟨⟨q', rfl, hsrc⟩, hb3⟩
        have hb' : Below wd.heap.size wd w' := hb.trans (hb3.mono hb.size)
        go_wp2_with fail
        refine hK.out _ _ (HKS.out _ hb').1 (fun hHeld => ?_)
        exact next _ _ ⟨q', rfl, hb', fun _ => hsrc, fun g hg => ⟨(hp g hg).1, Nat.lt_of_lt_of_le (hp g hg).2.1 hb3.size, there_below (hp g hg).2.2 hb3 (hp g hg).2.1⟩⟩
    · cases p with
      | none =>
        refine wpAnyH_ready (rs := [3, 5]) (by kernel_rfl) (by simp) ?_
        refine AllReadyH.cons (by simp only [List.getElem?_toArray, List.getElem?_cons_zero, List.getElem?_cons_succ]; rfl) (fun K hK => ?_) (AllReadyH.cons (by simp only [List.getElem?_toArray, List.getElem?_cons_zero, List.getElem?_cons_succ]; rfl) (fun K hK => ?_) AllReadyH.nil)
        · simp only [fromS, Nat.reduceLeDiff, ↓reduceIte, Nat.reduceAdd, Nat.zero_add]
          rw [if_pos (by rfl)]
          go_simp
          refine (wwots_digitsOf m wx hm).mono ?_
          rintro e w' ⟨rfl, hb3⟩
          have hb' : Below wd.heap.size wd w' := hb.trans (hb3.mono hb.size)
          go_wp2_with fail
          refine hK.out _ _ (HKS.out _ hb').1 (fun hHeld => ?_)
          exact next _ _ ⟨q, rfl, hb', fun _ => (h1 (by omega)).below hb3, fun g hg => ⟨(hp g hg).1, Nat.lt_of_lt_of_le (hp g hg).2.1 hb3.size, there_below (hp g hg).2.2 hb3 (hp g hg).2.1⟩⟩
        · rw [if_pos (by rfl)]
          refine wp_allocE 47 (by rfl) zs hzero ?_
          have hb8 : Below wx.heap.size wx (wx.alloc (.cells zs 47)) := (Below.refl _ _).alloc (Nat.le_refl _) _
          have hb' : Below wd.heap.size wd (wx.alloc (.cells zs 47)) := hb.trans (hb8.mono hb.size)
          refine hK.out _ _ (HKS.out _ hb').1 (fun hHeld => ?_)
          exact al wx.heap.size _ _ rfl ⟨q, rfl, hb', fun _ => (h1 (by omega)).below hb8, fun g hg => by cases hg; exact ⟨hb.size, by simp, alloc_thereAt _ _ _ 2144 _ rfl hzs.symm⟩⟩
      | some g =>
        refine wpAnyH_ready (rs := [3]) (by kernel_rfl) (by simp) ?_
        refine AllReadyH.cons (by simp only [List.getElem?_toArray, List.getElem?_cons_zero, List.getElem?_cons_succ]; rfl) (fun K hK => ?_) AllReadyH.nil
        simp only [fromS, Nat.reduceLeDiff, ↓reduceIte, Nat.reduceAdd, Nat.zero_add]
        rw [if_pos (by rfl)]
        go_simp
        refine (wwots_digitsOf m wx hm).mono ?_
        rintro e w' ⟨rfl, hb3⟩
        have hb' : Below wd.heap.size wd w' := hb.trans (hb3.mono hb.size)
        go_wp2_with fail
        refine hK.out _ _ (HKS.out _ hb').1 (fun hHeld => ?_)
        exact next _ _ ⟨q, rfl, hb', fun _ => (h1 (by omega)).below hb3, fun g hg => ⟨(hp g hg).1, Nat.lt_of_lt_of_le (hp g hg).2.1 hb3.size, there_below (hp g hg).2.2 hb3 (hp g hg).2.1⟩⟩
    · cases p with
      | none =>
        refine wpAnyH_ready (rs := [4, 5]) (by kernel_rfl) (by simp) ?_
        refine AllReadyH.cons (by simp only [List.getElem?_toArray, List.getElem?_cons_zero, List.getElem?_cons_succ]; rfl) (fun K hK => ?_) (AllReadyH.cons (by simp only [List.getElem?_toArray, List.getElem?_cons_zero, List.getElem?_cons_succ]; rfl) (fun K hK => ?_) AllReadyH.nil)
        · simp only [fromS, Nat.reduceLeDiff, ↓reduceIte, Nat.reduceAdd, Nat.zero_add]
          rw [if_pos (by rfl)]
          go_simp
          refine (wwots_walk 30 q (wotsSecL seed) (digsL m 67) (digL m) wx (HKS.out _ hb).2.1 (h1 (by omega)) (fun i _ => wotsSecL_length seed i) (digsL_len m 67) (fun i hi => ⟨digsL_at m 67 i hi, by have := digL_lt m i; omega⟩)).mono ?_
          rintro e w' ⟨rfl, hb3⟩
          have hb' : Below wd.heap.size wd w' := hb.trans (hb3.mono hb.size)
          go_wp2_with fail
          refine hK.out _ _ (HKS.out _ hb').1 (fun hHeld => ?_)
          exact next _ _ ⟨q, rfl, hb', fun _ => (h1 (by omega)).below hb3, fun g hg => ⟨(hp g hg).1, Nat.lt_of_lt_of_le (hp g hg).2.1 hb3.size, there_below (hp g hg).2.2 hb3 (hp g hg).2.1⟩⟩
        · rw [if_pos (by rfl)]
          refine wp_allocE 47 (by rfl) zs hzero ?_
          have hb8 : Below wx.heap.size wx (wx.alloc (.cells zs 47)) := (Below.refl _ _).alloc (Nat.le_refl _) _
          have hb' : Below wd.heap.size wd (wx.alloc (.cells zs 47)) := hb.trans (hb8.mono hb.size)
          refine hK.out _ _ (HKS.out _ hb').1 (fun hHeld => ?_)
          exact al wx.heap.size _ _ rfl ⟨q, rfl, hb', fun _ => (h1 (by omega)).below hb8, fun g hg => by cases hg; exact ⟨hb.size, by simp, alloc_thereAt _ _ _ 2144 _ rfl hzs.symm⟩⟩
      | some g =>
        refine wpAnyH_ready (rs := [4]) (by kernel_rfl) (by simp) ?_
        refine AllReadyH.cons (by simp only [List.getElem?_toArray, List.getElem?_cons_zero, List.getElem?_cons_succ]; rfl) (fun K hK => ?_) AllReadyH.nil
        simp only [fromS, Nat.reduceLeDiff, ↓reduceIte, Nat.reduceAdd, Nat.zero_add]
        rw [if_pos (by rfl)]
        go_simp
        refine (wwots_walk 30 q (wotsSecL seed) (digsL m 67) (digL m) wx (HKS.out _ hb).2.1 (h1 (by omega)) (fun i _ => wotsSecL_length seed i) (digsL_len m 67) (fun i hi => ⟨digsL_at m 67 i hi, by have := digL_lt m i; omega⟩)).mono ?_
        rintro e w' ⟨rfl, hb3⟩
        have hb' : Below wd.heap.size wd w' := hb.trans (hb3.mono hb.size)
        go_wp2_with fail
        refine hK.out _ _ (HKS.out _ hb').1 (fun hHeld => ?_)
        exact next _ _ ⟨q, rfl, hb', fun _ => (h1 (by omega)).below hb3, fun g hg => ⟨(hp g hg).1, Nat.lt_of_lt_of_le (hp g hg).2.1 hb3.size, there_below (hp g hg).2.2 hb3 (hp g hg).2.1⟩⟩
  case last =>
    intro a wx fuel hSt al
    obtain ⟨q, rfl, hb, h1, hp⟩ := hSt
    refine wpAnyH_ready (rs := [5]) (by kernel_rfl) (by simp) ?_
    refine AllReadyH.cons (by simp only [List.getElem?_toArray, List.getElem?_cons_zero, List.getElem?_cons_succ]; rfl) (fun K hK => ?_) AllReadyH.nil
    rw [if_pos (by rfl)]
    refine wp_allocE 47 (by rfl) zs hzero ?_
    have hb8 : Below wx.heap.size wx (wx.alloc (.cells zs 47)) := (Below.refl _ _).alloc (Nat.le_refl _) _
    have hb' : Below wd.heap.size wd (wx.alloc (.cells zs 47)) := hb.trans (hb8.mono hb.size)
    refine hK.out _ _ (HKS.out _ hb').1 (fun hHeld => ?_)
    exact al wx.heap.size _ _ ⟨q, rfl, hb', fun _ => (h1 (by omega)).below hb8, fun g hg => by cases hg; exact ⟨hb.size, by simp, alloc_thereAt _ _ _ 2144 _ rfl hzs.symm⟩⟩
  case fin =>
    intro g a wx hSt
    obtain ⟨q, rfl, hb, h1, hp⟩ := hSt
    obtain ⟨g1, g2, g3⟩ := hp g rfl
    have hSl := wsig_len seed m
    have hS32 := wsig_32 seed m
    have hL : (cellsB (wotsSigL seed m 67).flatten).length = 2144 := knots_cells hSl hS32
    clear h1 hp
    unfold knotsV
    generalize hD : wotsSigL seed m 67 = D at *
    have HD : Hid (wotsSigL seed m 67 = D) := hD
    clear hD
    have hL2 : (cellsB D.flatten).toArray.size = 2144 := hL
    refine wpAnyH_ready (rs := [6]) (by kernel_rfl) (by simp) ?_
    refine AllReadyH.cons (by simp only [List.getElem?_toArray, List.getElem?_cons_zero, List.getElem?_cons_succ]; rfl) (fun K hK => ?_) AllReadyH.nil
    rw [if_pos (by rfl)]
    refine wp_store_mid _ _ _ rfl g 0 (cellsB D.flatten).toArray rfl rfl (by rw [hL2]; exact g3) (by rw [hL2]; exact Tryd.sizeKn) (all_oneCell_toArray (cellsB_one _)) ?_
    have hb' : Below wd.heap.size wd (wx.setCells g 0 (cellsB D.flatten)) := below_setCells _ g1 _ _ _ hb
    refine hK.out _ _ (HKS.out _ hb').1 (fun hHeld => ?_)
    clear hK K
    have HX : Hid ((wx.setCells g 0 (cellsB D.flatten)).rangeAt g 0 (cellsB D.flatten)) := World.rangeAt_setCells_same _ _ _ _ (by rw [hL]; exact g3)
    have HBx : Hid (Below wd.heap.size wd (wx.setCells g 0 (cellsB D.flatten))) := hb'
    try simp only [Act.put, List.setIfInBounds_toArray, List.set_cons_zero, List.set_cons_succ]
    refine wpAnyH_done (by kernel_rfl) (NoPanic.normal ?_) _
    clear hHeld hb hb' g3
    generalize wx.setCells g 0 (cellsB D.flatten) = wy at *
    simp only [fromS, Nat.reduceLeDiff, ↓reduceIte, Nat.reduceAdd, Nat.zero_add]
    simp only [ptrS]
    go_wp2_with fail
    go_ret
    exact ⟨⟨_, _, rfl, Nat.le_refl _, by rw [HD.out]; exact knots_row hSl hS32 HX.out⟩, (HKS.out _ HBx.out).2.2⟩
end Go.Proofs.YtdplajhebapkgaaDoor
/- The contracts of package wots, together. -/
namespace Go.Proofs.YtdplajhebapkgaaDoor
open Go.RowKit
theorem wwots_digits (m : List UInt8) (w : World) (_G : Env w) (hm : m.length = 32) :
    Calls Tryd.prog 7 #[digestV m] w fun e w' => (∃ a c, e = .returned (.slice a 67 c) ∧ 67 ≤ c ∧ IRow w' a 67 (digsL m 67)) ∧ Below w.heap.size w w' := wwots_digits0 m w hm
end Go.Proofs.YtdplajhebapkgaaDoor
/- The contract of oathbooksame.Digests: it tells whether two slices of digests read as one list. -/
namespace Go.Proofs.YtdplajhebapkgaaDoor
open Go.RowKit
set_option linter.unusedVariables false
set_option linter.unusedSimpArgs false

theorem Tryd.sizeDs : (Tryd.prog.info? 23).map (·.size) = some 32 := by kernel_rfl
theorem list_eq {l1 l2 : List (List UInt8)} {n : Nat} (h1 : l1.length = n) (h2 : l2.length = n) (h : ∀ j, j < n → l1.getD j [] = l2.getD j []) : l1 = l2 := by
  apply List.ext_getElem (by omega)
  intro i h3 h4
  have := h i (by omega)
  simpa [List.getD_eq_getElem?_getD, List.getElem?_eq_getElem h3, List.getElem?_eq_getElem h4] using this

set_option maxRecDepth 100000 in
set_option maxHeartbeats 1000000 in
theorem sdigests_any (a1 a2 : Option Addr) (n1 n2 c1 c2 : Nat) (l1 l2 : List (List UInt8)) (w : World) (R1 : DRow w a1 n1 l1) (R2 : DRow w a2 n2 l2) (hm : n1 ≤ 281474976710656) :
    Calls Tryd.prog 9 #[.slice a1 n1 c1, .slice a2 n2 c2] w fun e w' => e = .returned (.bool (decide (l1 = l2))) ∧ Below w.heap.size w w' := by
  have e1 := R1.1
  have e2 := R2.1
  by_cases hn : n1 = n2
  · subst hn
    have hne : ((n1 : Int) != (n1 : Int)) = false := by simp
    have HE : Hid (l1.length = n1 ∧ l2.length = n1) := ⟨e1, e2⟩
    have HL : Hid ((∀ i, i < n1 → (l1.getD i []).length = 32) ∧ ∀ i, i < n1 → (l2.getD i []).length = 32) := ⟨R1.len, R2.len⟩
    have HR1 : Hid (n1 = 0 ∨ ∃ b o, a1 = some ⟨b, o, none⟩ ∧ ∀ i, i < n1 → DAt w b (o + 32 * i) (l1.getD i [])) := R1.2.2
    have HR2 : Hid (n1 = 0 ∨ ∃ b o, a2 = some ⟨b, o, none⟩ ∧ ∀ i, i < n1 → DAt w b (o + 32 * i) (l2.getD i [])) := R2.2.2
    clear e1 e2 R1 R2
    go_enter Tryd.func9, Tryd.ntmps9
    go_wp2
    go_loopw [5] (fun i wr => ∃ k : Nat, k ≤ n1 ∧ i = .int .i64 k ∧ Below w.heap.size w wr ∧ ∀ j, j < k → l1.getD j [] = l2.getD j []) (fun i _ => n1 - (intOf i).toNat)
    case atStart => exact ⟨0, Nat.zero_le _, rfl, Below.refl _ _, fun j hj => by omega⟩
    case round =>
      obtain ⟨k, hk, rfl, hB, hall⟩ := hrel
      have HA : Hid (∀ j, j < k → l1.getD j [] = l2.getD j []) := hall
      have HB : Hid (Below w.heap.size w wr) := hB
      clear hall hB
      by_cases hlt : k < n1
      · obtain ⟨b1, o1, rfl, k1⟩ : ∃ b o, a1 = some ⟨b, o, none⟩ ∧ ∀ i, i < n1 → DAt w b (o + 32 * i) (l1.getD i []) := by
          rcases HR1.out with h | h
          · omega
          · exact h
        obtain ⟨b2, o2, rfl, k2⟩ : ∃ b o, a2 = some ⟨b, o, none⟩ ∧ ∀ i, i < n1 → DAt w b (o + 32 * i) (l2.getD i []) := by
          rcases HR2.out with h | h
          · omega
          · exact h
        have lX := HL.out.1 k hlt
        have lY := HL.out.2 k hlt
        have hS : wr.rangeAt b1 (o1 + k * 32) (cellsB (l1.getD k [])) ∧ wr.rangeAt b2 (o2 + k * 32) (cellsB (l2.getD k [])) := by
          rw [Nat.mul_comm]
          have g1 := k1 k hlt
          have g2 := k2 k hlt
          exact ⟨g1.below HB.out (cell_block (g1.cell 0 (by omega))), g2.below HB.out (cell_block (g2.cell 0 (by omega)))⟩
        have HS : Hid (wr.rangeAt b1 (o1 + k * 32) (cellsB (l1.getD k [])) ∧ wr.rangeAt b2 (o2 + k * 32) (cellsB (l2.getD k []))) := hS
        clear hS k1 k2
        have hi : (0 : Int) ≤ (k : Int) := by omega
        have hj : (k : Int) < (n1 : Int) := by omega
        have HQ : Hid (∀ j, j < k + 1 → j ≠ k → l1.getD j [] = l2.getD j []) := fun j hj hne => HA.out j (by omega)
        generalize hX : l1.getD k [] = X at *
        generalize hY : l2.getD k [] = Y at *
        have HXY : Hid (l1.getD k [] = X ∧ l2.getD k [] = Y) := ⟨hX, hY⟩
        clear hX hY
        go_wp2_with fail
        refine wp_region_noPanic ?_
        refine wp_region_held_drew (S := fun w' => w'.rangeAt b1 (o1 + k * 32) (cellsB X) ∧ w'.rangeAt b2 (o2 + k * 32) (cellsB Y)) (by kernel_rfl) HS.out (fun hHeld => ?_)
        try simp only [Act.put, List.setIfInBounds_toArray, List.set_cons_zero, List.set_cons_succ]
        refine wpAnyH_take (i := 0) (v := ?_) (by simp only [List.getElem?_toArray, List.getElem?_cons_zero, List.getElem?_cons_succ]; rfl) (by kernel_rfl) (by kernel_rfl) (by kernel_rfl) (fun _ _ _ h => h) (Or.inl ⟨by rfl, ?_⟩) hHeld ?_
        rotate_left
        · intro w hSw
          go_simp
          try with_reducible rfl
        try simp only [Act.put, List.setIfInBounds_toArray, List.set_cons_zero, List.set_cons_succ]
        refine wpAnyH_take (i := 1) (v := ?_) (by simp only [List.getElem?_toArray, List.getElem?_cons_zero, List.getElem?_cons_succ]; rfl) (by kernel_rfl) (by kernel_rfl) (by kernel_rfl) (fun _ _ _ h => h) (Or.inl ⟨by rfl, ?_⟩) hHeld ?_
        rotate_left
        · intro w hSw
          go_simp
          try with_reducible rfl
        try simp only [Act.put, List.setIfInBounds_toArray, List.set_cons_zero, List.set_cons_succ]
        refine wpAnyH_take (i := 2) (v := ?_) (by simp only [List.getElem?_toArray, List.getElem?_cons_zero, List.getElem?_cons_succ]; rfl) (by kernel_rfl) (by kernel_rfl) (by kernel_rfl) (fun _ _ _ h => h) (Or.inl ⟨by rfl, ?_⟩) hHeld ?_
        rotate_left
        · intro w hSw
          go_simp
          try with_reducible rfl
        try simp only [Act.put, List.setIfInBounds_toArray, List.set_cons_zero, List.set_cons_succ]
        refine wpAnyH_take (i := 3) (v := .agg (cellsB X).toArray) (by simp only [List.getElem?_toArray, List.getElem?_cons_zero, List.getElem?_cons_succ]; rfl) (by kernel_rfl) (by kernel_rfl) (by kernel_rfl) (fun _ _ _ h => h)
          (yieldsIf_load_mid (by rfl) _ _ rfl _ _ rfl _ _ (fun w hw => hw.1) Tryd.underlying23 rfl (by rw [cellsB_length, lX]; exact Tryd.sizeDs)) hHeld ?_
        try simp only [Act.put, List.setIfInBounds_toArray, List.set_cons_zero, List.set_cons_succ]
        refine wpAnyH_take (i := 4) (v := ?_) (by simp only [List.getElem?_toArray, List.getElem?_cons_zero, List.getElem?_cons_succ]; rfl) (by kernel_rfl) (by kernel_rfl) (by kernel_rfl) (fun _ _ _ h => h) (Or.inl ⟨by rfl, ?_⟩) hHeld ?_
        rotate_left
        · intro w hSw
          go_simp
          try with_reducible rfl
        try simp only [Act.put, List.setIfInBounds_toArray, List.set_cons_zero, List.set_cons_succ]
        refine wpAnyH_take (i := 5) (v := ?_) (by simp only [List.getElem?_toArray, List.getElem?_cons_zero, List.getElem?_cons_succ]; rfl) (by kernel_rfl) (by kernel_rfl) (by kernel_rfl) (fun _ _ _ h => h) (Or.inl ⟨by rfl, ?_⟩) hHeld ?_
        rotate_left
        · intro w hSw
          go_simp
          try with_reducible rfl
        try simp only [Act.put, List.setIfInBounds_toArray, List.set_cons_zero, List.set_cons_succ]
        refine wpAnyH_take (i := 6) (v := ?_) (by simp only [List.getElem?_toArray, List.getElem?_cons_zero, List.getElem?_cons_succ]; rfl) (by kernel_rfl) (by kernel_rfl) (by kernel_rfl) (fun _ _ _ h => h) (Or.inl ⟨by rfl, ?_⟩) hHeld ?_
        rotate_left
        · intro w hSw
          go_simp
          try with_reducible rfl
        try simp only [Act.put, List.setIfInBounds_toArray, List.set_cons_zero, List.set_cons_succ]
        refine wpAnyH_take (i := 7) (v := .agg (cellsB Y).toArray) (by simp only [List.getElem?_toArray, List.getElem?_cons_zero, List.getElem?_cons_succ]; rfl) (by kernel_rfl) (by kernel_rfl) (by kernel_rfl) (fun _ _ _ h => h)
          (yieldsIf_load_mid (by rfl) _ _ rfl _ _ rfl _ _ (fun w hw => hw.2) Tryd.underlying23 rfl (by rw [cellsB_length, lY]; exact Tryd.sizeDs)) hHeld ?_
        try simp only [Act.put, List.setIfInBounds_toArray, List.set_cons_zero, List.set_cons_succ]
        have hb : Below w.heap.size w wr.drew := HB.out.drew
        refine wpAnyH_take (i := 8) (v := .bool (!decide (X = Y))) (by simp only [List.getElem?_toArray, List.getElem?_cons_zero, List.getElem?_cons_succ]; rfl) (by kernel_rfl) (by kernel_rfl) (by kernel_rfl) (fun _ _ _ h => h)
          (yieldsIf_neqD (by rfl) _ _ rfl X Y lX lY rfl rfl _ rfl) hHeld ?_
        try simp only [Act.put, List.setIfInBounds_toArray, List.set_cons_zero, List.set_cons_succ]
        refine wpAnyH_done (by kernel_rfl) (NoPanic.normal ?_) _
        clear hHeld HS
        generalize wr.drew = wd at *
        by_cases hq : X = Y
        · have HE2 : Hid (X = Y) := hq
          rw [show (!decide (X = Y)) = false by simp [hq]]
          clear hq
          go_wp2
          go_roundw
          case rel => exact ⟨k + 1, by omega, by go_num, hb, fun j hj => by
            by_cases hjk : j = k
            · subst hjk; rw [HXY.out.1, HXY.out.2]; exact HE2.out
            · exact HQ.out j hj hjk⟩
          case measure => simp [intOf]; omega
        · have HE2 : Hid (¬ X = Y) := hq
          rw [show (!decide (X = Y)) = true by simp [hq]]
          clear hq
          go_wp2
          go_ret
          exact ⟨ret_bool (by symm; rw [decide_eq_false_iff_not]; intro h; subst h; exact HE2.out (HXY.out.1.symm.trans HXY.out.2)), hb⟩
      · go_wp2
        go_ret
        exact ⟨ret_bool (by
          symm
          rw [decide_eq_true_iff]
          exact list_eq HE.out.1 HE.out.2 fun j hj => HA.out j (by omega)), HB.out⟩
  · have hne : ((n1 : Int) != (n2 : Int)) = true := by simp; omega
    clear R1 R2
    go_enter Tryd.func9, Tryd.ntmps9
    go_wp2
    go_ret
    exact ⟨ret_bool (by symm; rw [decide_eq_false_iff_not]; intro h; subst h; omega), Below.refl _ _⟩
end Go.Proofs.YtdplajhebapkgaaDoor
