/- Texts of this claim, joined: Same, SameH, StepD, Wwsign. -/
import Derived.Test.YtghiniaijobonaaDoorJ03
import Derived.ChangeKeysEq
import Derived.WalkKit
import Derived.OrdersHeld
import Derived.Deep.MidRow
import Derived.Test.YtghiniaijobonaaDoorJ15
import Derived.Test.YtghiniaijobonaaDoorJ24
import Derived.Test.YtghiniaijobonaaDoorYPairs
import Derived.Deep.RegionHeld3
/- Digests compared: equal or not, as the lists of their bytes are. -/
namespace Go.Proofs.YtghiniaijobonaaDoor
open Go.RowKit
set_option linter.unusedVariables false
set_option linter.unusedSimpArgs false

theorem run_eqItems_bytes {P : Program} (w : World) (d : Nat) (e : TypeId) (he : P.underlying e = some (.int .u8)) (X Y : List UInt8) (n : Nat) (hX : X.length = n) (hY : Y.length = n) :
    ∀ (is : List Nat), (∀ i ∈ is, i < n) → (Op.eqItems (d + 1) e 1 (cellsB X).toArray (cellsB Y).toArray is).run P w = .ok (is.all fun i => nth X i == nth Y i) w
  | [], _ => by simp [Op.eqItems]
  | i :: r, h => by
    have hi := h i (List.mem_cons_self ..)
    have ih := run_eqItems_bytes w d e he X Y n hX hY r (fun j hj => h j (List.mem_cons_of_mem _ hj))
    have px : (cellsB X).toArray[i]? = some (.int .u8 (nth X i)) := by simpa using cellsB_at X i (by omega)
    have py : (cellsB Y).toArray[i]? = some (.int .u8 (nth Y i)) := by simpa using cellsB_at Y i (by omega)
    have p1 : (part e (cellsB X).toArray (i * 1)).run P w = .ok (.int .u8 (nth X i)) w := by
      simp only [Nat.mul_one]
      simp [part, isAgg, run_underlying he, px, Result.andThen, Sem.run_bind]
    have p2 : (part e (cellsB Y).toArray (i * 1)).run P w = .ok (.int .u8 (nth Y i)) w := by
      simp only [Nat.mul_one]
      simp [part, isAgg, run_underlying he, py, Result.andThen, Sem.run_bind]
    have p3 : (Op.equalIn (d + 1) e (.int .u8 (nth X i)) (.int .u8 (nth Y i))).run P w = .ok (nth X i == nth Y i) w := run_equalIn_int w d e .u8 .u8 _ _ he
    simp only [Op.eqItems, Sem.run_bind, p1, p2, p3, Result.andThen_ok, List.all_cons]
    cases hb : nth X i == nth Y i
    · simp
    · simpa using ih
theorem all_nth {X Y : List UInt8} {n : Nat} (hX : X.length = n) (hY : Y.length = n) : ((List.range n).all fun i => nth X i == nth Y i) = decide (X = Y) := by
  by_cases h : X = Y
  · subst h
    simp
  · rw [decide_eq_false h]
    cases hb : (List.range n).all fun i => nth X i == nth Y i
    · rfl
    · refine absurd (nth_inj (by omega) fun j hj => ?_) h
      have := List.all_eq_true.1 hb j (List.mem_range.2 (by omega))
      simpa using this
/-- Two digests compared. -/
theorem run_same (w : World) (X Y : List UInt8) (hX : X.length = 32) (hY : Y.length = 32) :
    (Op.equalIn 10000 23 (.agg (cellsB X).toArray) (.agg (cellsB Y).toArray)).run Tryd.prog w = .ok (decide (X = Y)) w := by
  have hi : ∃ i, Tryd.prog.info? 5 = some i := info_of_underlying Tryd.underlying5
  obtain ⟨i, hi⟩ := hi
  have hc : Tryd.prog.cellsOf 5 = 1 := by kernel_rfl
  rw [run_equalIn_array w 9999 (cellsB X).toArray (cellsB Y).toArray Tryd.underlying23 hi, hc, run_eqItems_bytes w 9998 _ Tryd.underlying5 X Y 32 hX hY _ (fun i hi => List.mem_range.1 hi), all_nth hX hY]
theorem run_same_true (D : List UInt8) (h : D.length = 32) (w : World) : (Op.equalIn 10000 23 (.agg (cellsB D).toArray) (.agg (cellsB D).toArray)).run Tryd.prog w = .ok true w := by
  rw [run_same w D D h h, decide_eq_true rfl]
/-! the comparisons as steps: guarded or not (walked by simp, a guarded '!=' of digests runs the kernel out of memory) -/
theorem Tryd.eqGuardDigest : Tryd.prog.eqGuardType Tryd.prog.depth 23 = false := by kernel_rfl
theorem wpList_neqD {ops : Array Oper} {rest : List Oper} {o : Oper} {a : Act} {w : World} {Q : Exit → Act → World → Prop} (x y : Operand) (ho : o.op = .binOp .neq 23 x y 23) (hw : Region.wanted o (yielded ops a.tmps) = true) (X Y : List UInt8) (hX : X.length = 32) (hY : Y.length = 32)
    (hx : a.eval x = .agg (cellsB X).toArray) (hy : a.eval y = .agg (cellsB Y).toArray) (b : Bool) (hb : (!decide (X = Y)) = b) (h : wpList Tryd.prog ops Q rest (a.put o.dst (.bool b)) w) : wpList Tryd.prog ops Q (o :: rest) a w := by
  subst hb
  refine wpList_step fun K hK => ?_
  rw [if_pos hw]
  unfold Oper.wp
  simp [execOp, ho, hx, hy, eqGuard, Tryd.eqGuardDigest, binOp, Op.equal, Op.maxDepth, run_same _ X Y hX hY, Result.andThen, Sem.run_bind, -decide_not]
  exact hK _ _ h
theorem wpList_eqD {ops : Array Oper} {rest : List Oper} {o : Oper} {a : Act} {w : World} {Q : Exit → Act → World → Prop} (x y : Operand) (ho : o.op = .binOp .eql 23 x y 23) (hw : Region.wanted o (yielded ops a.tmps) = true) (X Y : List UInt8) (hX : X.length = 32) (hY : Y.length = 32)
    (hx : a.eval x = .agg (cellsB X).toArray) (hy : a.eval y = .agg (cellsB Y).toArray) (b : Bool) (hb : decide (X = Y) = b) (h : wpList Tryd.prog ops Q rest (a.put o.dst (.bool b)) w) : wpList Tryd.prog ops Q (o :: rest) a w := by
  subst hb
  refine wpList_step fun K hK => ?_
  rw [if_pos hw]
  unfold Oper.wp
  simp [execOp, ho, hx, hy, eqGuard, Tryd.eqGuardDigest, binOp, Op.equal, Op.maxDepth, run_same _ X Y hX hY, Result.andThen, Sem.run_bind]
  exact hK _ _ h
end Go.Proofs.YtghiniaijobonaaDoor
/- Digests compared, in a region that draws its order. -/
namespace Go.Proofs.YtghiniaijobonaaDoor
open Go.RowKit
set_option linter.unusedVariables false
set_option linter.unusedSimpArgs false

theorem yieldsIf_eqD {ops : Array Oper} {S : World → Prop} {o : Oper} {a : Act} (hw : Region.wanted o (yielded ops a.tmps) = true) (x y : Operand) (ho : o.op = .binOp .eql 23 x y 23) (X Y : List UInt8) (hX : X.length = 32) (hY : Y.length = 32)
    (hx : a.eval x = .agg (cellsB X).toArray) (hy : a.eval y = .agg (cellsB Y).toArray) (b : Bool) (hb : decide (X = Y) = b) : YieldsIf Tryd.prog ops S o (.bool b) a := by
  subst hb
  refine .inl ⟨hw, fun w _ => ?_⟩
  simp [execOp, ho, hx, hy, eqGuard, Tryd.eqGuardDigest, binOp, Op.equal, Op.maxDepth, run_same w X Y hX hY, Result.andThen, Sem.run_bind]
theorem yieldsIf_neqD {ops : Array Oper} {S : World → Prop} {o : Oper} {a : Act} (hw : Region.wanted o (yielded ops a.tmps) = true) (x y : Operand) (ho : o.op = .binOp .neq 23 x y 23) (X Y : List UInt8) (hX : X.length = 32) (hY : Y.length = 32)
    (hx : a.eval x = .agg (cellsB X).toArray) (hy : a.eval y = .agg (cellsB Y).toArray) (b : Bool) (hb : (!decide (X = Y)) = b) : YieldsIf Tryd.prog ops S o (.bool b) a := by
  subst hb
  refine .inl ⟨hw, fun w _ => ?_⟩
  simp [execOp, ho, hx, hy, eqGuard, Tryd.eqGuardDigest, binOp, Op.equal, Op.maxDepth, run_same w X Y hX hY, Result.andThen, Sem.run_bind, -decide_not]
/-- A load of an array, guarded or not. -/
theorem wpList_load_midG {P : Program} {ops : Array Oper} {rest : List Oper} {o : Oper} {a : Act} {w : World} {Q : Exit → Act → World → Prop} (hw : Region.wanted o (yielded ops a.tmps) = true) (ty : TypeId) (x : Operand) (ho : o.op = .load ty x)
    (b p : Nat) (hx : a.eval x = .pointer (some ⟨b, p, none⟩)) (cs : List Value) (d : TypeDesc) (hc : w.rangeAt b p cs) (hu : P.underlying ty = some d) (hd : d.isRow = true) (hi : (P.info? ty).map (·.size) = some cs.length)
    (h : wpList P ops Q rest (a.put o.dst (.agg cs.toArray)) w) : wpList P ops Q (o :: rest) a w :=
  wpList_step fun K hK => by rw [if_pos hw]; exact wp_load_mid ty x ho b p hx cs d hc hu hd hi (hK _ _ h)
end Go.Proofs.YtghiniaijobonaaDoor
/- A literal of a digest, and digests appended, as steps of a region that draws its order. -/
namespace Go.Proofs.YtghiniaijobonaaDoor
open Go.RowKit
set_option linter.unusedVariables false
set_option linter.unusedSimpArgs false

theorem wp_buildD1 {w : World} {o : Oper} {a : Act} {K : Act → World → Prop} {Q : Exit → Act → World → Prop} (x : Operand) (ho : o.op = .buildSlice 41 1 #[(0, x)])
    (l : List UInt8) (hl : l.length = 32) (hx : a.eval x = digestV l)
    (h : K (a.put o.dst (.slice (some ⟨w.heap.size, 0, none⟩) 1 1)) (w.alloc (.cells (cellsB l).toArray 23))) : o.wp Tryd.prog a w K Q := by
  obtain ⟨i0, hi, hz0, hz1, hz2⟩ := info_parts Tryd.infoDg
  have hrun := run_buildD (P := Tryd.prog) w 41 23 (.agg zeros32) i0 [l] (by intro q hq; rw [List.mem_singleton] at hq; rw [hq]; exact hl) (by simp) (by simp) Tryd.underlying41 hi hz0 (by rfl) hz1
  simp only [List.length_singleton, List.zipIdx_cons, List.zipIdx_nil, List.map_cons, List.map_nil, List.flatten_cons, List.flatten_nil, List.append_nil] at hrun
  unfold Oper.wp
  simp [execOp, ho, hx, hrun, Result.andThen]
  exact h
theorem wp_appendD {w : World} {o : Oper} {a : Act} {K : Act → World → Prop} {Q : Exit → Act → World → Prop} (s x : Operand)
    (ho : o.op = .call { callee := .builtin .append, args := #[s, x], argTypes := #[41, 41] })
    (base : Nat) (v : Value) (ls : List (List UInt8)) (hs : a.eval s = v) (hown : OwnD w base v ls)
    (ad : Addr) (n c : Nat) (ds : List (List UInt8)) (hx : a.eval x = .slice (some ad) n c) (hr : DRow w (some ad) n ds) (hn0 : 0 < n) (h47 : (ls.length + n) * 32 ≤ 140737488355328) (hbase : base ≤ w.heap.size)
    (h : ∀ v' w', OwnD w' base v' (ls ++ ds) → w.grownBy w' v.ownBlock → (v'.ownBlock = v.ownBlock ∨ v'.ownBlock = some w.heap.size) → K (a.put o.dst v') w') : o.wp Tryd.prog a w K Q := by
  obtain ⟨i0, hi, hz0, hz1, hz2⟩ := info_parts Tryd.infoDg
  have hlen := hr.len
  obtain ⟨hl, h32, h1 | ⟨b, off, e1, hc⟩⟩ := hr
  · omega
  cases e1
  have hf := flat_len h32
  have hnews : ∀ j u, (cellsB ds.flatten)[j]? = some u → w.cell? ((⟨b, off, none⟩ : Addr).add j) = some u := by
    intro j u hj
    have hj' : j < ds.flatten.length := by have := (List.getElem?_eq_some_iff.1 hj).1; rwa [cellsB_length] at this
    have hq : j / 32 < n := by omega
    have hm : j % 32 < 32 := Nat.mod_lt _ (by omega)
    have e : j = 32 * (j / 32) + j % 32 := by omega
    rw [Go.WideShapes.add_plain, ← hj, cellsB_at _ j hj']
    have := (hc (j / 32) hq).cell (j % 32) (by rw [hlen _ hq]; exact hm)
    rw [show off + 32 * (j / 32) + j % 32 = off + j by omega] at this
    rw [this]
    have hn := nth_flat h32 (j / 32) (j % 32) (by omega) hm
    rw [← e] at hn
    rw [hn]
  obtain ⟨v', w', hrun, h2, h3, h4, h5⟩ := run_append_own_at (P := Tryd.prog) w base 41 o.type 23 i0 (.agg zeros32) 32 32 Tryd.underlying41 hi hz0 hz1 hz2 rfl (by decide) v ls.length (cellsB ls.flatten) hown.2 ⟨b, off, none⟩ n c (cellsB ds.flatten) (by rw [cellsB_length, hf, hl]; omega) hnews (cellsB_one _) (by unfold maxLen; omega) h47 hbase
  unfold Oper.wp execOp
  simp only [ho, resolve, invoke, builtin, Sem.run_bind, Sem.run_pure, Result.andThen_ok, List.map_toArray, List.map_cons, List.map_nil, hs, hx, hrun]
  refine h v' w' ⟨?_, ?_⟩ h3 h5
  · intro l hl'
    rcases List.mem_append.1 hl' with h' | h'
    · exact hown.1 l h'
    · exact h32 l h'
  · rw [List.length_append, List.flatten_append, cellsB_append, hl]
    exact h2
end Go.Proofs.YtghiniaijobonaaDoor
/- The contracts of wots.Public, Sign and Recover. -/
namespace Go.Proofs.YtghiniaijobonaaDoor
open Go.RowKit
set_option linter.unusedVariables false
set_option linter.unusedSimpArgs false

theorem digs_bd (m : List UInt8) : ∀ i, i < 67 → 0 ≤ (digsL m 67).getD i 0 ∧ (digsL m 67).getD i 0 ≤ 15 := fun i hi => by
  have := digL_lt m i
  rw [digsL_at m 67 i hi]
  omega
theorem lacks_digs (m : List UInt8) : ∀ i, i < 67 → (lacksI (digsL m 67)).getD i 0 = ((15 - digL m i : Nat) : Int) ∧ 15 - digL m i ≤ 1000 := fun i hi => by
  have := digL_lt m i
  rw [lacksI_at _ i (by rw [digsL_len]; exact hi), digsL_at m 67 i hi]
  omega
theorem lacks_zero : ∀ i, i < 67 → (lacksI zI).getD i 0 = ((15 : Nat) : Int) ∧ 15 ≤ 1000 := fun i hi => by
  rw [lacksI_at zI i hi, zI_at]
  exact ⟨rfl, by omega⟩
theorem mem32 {F : Nat → List UInt8} (h : ∀ i, i < 67 → (F i).length = 32) : ∀ l ∈ (List.range 67).map F, l.length = 32 := fun l hl => by
  obtain ⟨i, hi, rfl⟩ := List.mem_map.1 hl
  exact h i (List.mem_range.1 hi)

set_option maxRecDepth 100000 in
set_option maxHeartbeats 1000000 in
theorem wwots_public (seed : List UInt8) (w : World) (G : Env w) (hs : seed.length = 32) :
    Calls Tryd.prog 23 #[digestV seed] w fun e w' => e = .returned (digestV (wotsPubL seed)) ∧ Below w.heap.size w w' := by
  obtain ⟨w2, hw2⟩ : ∃ w2, (w.alloc (.cells (cellsB seed).toArray 23)).alloc (.cells (cellsB zD).toArray 23) = w2 := ⟨_, rfl⟩
  have hs1 : (w.alloc (.cells (cellsB seed).toArray 23)).heap.size = w.heap.size + 1 := by simp
  have HS2 : Hid (w2.heap.size = w.heap.size + 1 + 1) := by unfold Hid; rw [← hw2]; simp
  have HB2 : Hid (Below w.heap.size w w2) := by rw [← hw2]; exact ((Below.refl _ _).alloc (Nat.le_refl _) _).alloc (by simp) _
  have HD2 : Hid (DAt w2 w.heap.size 0 seed) := by rw [← hw2]; exact World.rangeAt_alloc (box_dat w seed _) _
  have HT2 : Hid (w2.there (w.heap.size + 1) 0 32) := by rw [← hw2]; exact alloc_thereAt _ _ _ 32 _ hs1 zD_size.symm
  have HG : Hid (Env w2) := G.below HB2.out
  clear G
  go_enter Tryd.func23, Tryd.ntmps23
  go_wp2_with (first
    | (refine wpList_allocE (by rfl) 23 (by rfl) (cellsB zD).toArray Tryd.zeroDg (w.heap.size + 1) hs1 w2 hw2 ?_)
    | (refine wpList_load_mid (by rfl) 23 (.tmp 1) (by rfl) w.heap.size 0 (by rfl) (cellsB seed) _ HD2.out Tryd.underlying23 (by rfl) (by rw [cellsB_length, hs]; exact Tryd.sizeDg) ?_))
  clear hw2 hs1
  refine (wwots_secrets seed w2 HG.out hs).mono ?_
  rintro e w3 ⟨⟨p, rfl, hsrc⟩, hb3⟩
  have HS3 : Hid (Source 49 p (wotsSecL seed) w3) := hsrc
  have HB3 : Hid (Below w2.heap.size w2 w3) := hb3
  clear hsrc hb3
  go_wp2_with (refine wpList_buildC (by rfl) 79 _ (by rfl) (cellsI zI).toArray (by kernel_rfl) ?_)
  refine (wwots_lacks zI w3 rfl (fun i hi => by rw [zI_at]; omega)).mono ?_
  rintro e w4 ⟨rfl, hb4⟩
  have HS4 : Hid (Source 49 p (wotsSecL seed) w4) := HS3.out.below hb4
  have HB4 : Hid (Below w2.heap.size w2 w4) := HB3.out.trans (hb4.mono HB3.out.size)
  have HLL : Hid ((lacksI zI).length = 67 ∧ ∀ i, i < 67 → (lacksI zI).getD i 0 = ((15 : Nat) : Int) ∧ 15 ≤ 1000) := ⟨by rw [lacksI_len]; rfl, lacks_zero⟩
  clear hb4 HS3 HB3
  generalize lacksI zI = LL at *
  go_wp2_with fail
  refine (wwots_walk 49 p (wotsSecL seed) LL (fun _ => 15) w4 (HG.out.below HB4.out) HS4.out (fun i _ => wotsSecL_length seed i) HLL.out.1 HLL.out.2).mono ?_
  rintro e w5 ⟨rfl, hb5⟩
  have HB5 : Hid (Below w2.heap.size w2 w5) := HB4.out.trans (hb5.mono HB4.out.size)
  have HE : Hid (((List.range 67).map fun i => walkL (wotsSecL seed i) 15).length = 67 ∧ (∀ l ∈ (List.range 67).map (fun i => walkL (wotsSecL seed i) 15), l.length = 32) ∧ shaL (7 :: ((List.range 67).map fun i => walkL (wotsSecL seed i) 15).flatten) = wotsPubL seed) := ⟨by simp, mem32 (fun i _ => walkL_length (wotsSecL_length seed i) 15), rfl⟩
  clear hb5 HS4 HB4 HLL
  generalize (List.range 67).map (fun i => walkL (wotsSecL seed i) 15) = L at *
  go_wp2_with fail
  refine (wwots_knots L w5 (HG.out.below HB5.out) HE.out.1 HE.out.2.1).mono ?_
  rintro e w6 ⟨rfl, hb6⟩
  rw [HE.out.2.2]
  have HB6 : Hid (Below w2.heap.size w2 w6) := HB5.out.trans (hb6.mono HB5.out.size)
  have HT6 : Hid (w6.there (w.heap.size + 1) 0 32) := there_below HT2.out HB6.out (by have := HS2.out; omega)
  have hlen : (wotsPubL seed).length = 32 := shaL_length _
  clear hb6 HB5 HE
  generalize hD : wotsPubL seed = D at *
  have HD : Hid (wotsPubL seed = D) := hD
  clear hD
  go_wp2_with (refine wpList_store_mid (by rfl) 23 (.tmp 2) (.tmp 8) (by rfl) (w.heap.size + 1) 0 (cellsB D).toArray (by rfl) (by rfl) (by rw [cellsB_size, hlen]; exact HT6.out) (by rw [cellsB_size, hlen]; exact Tryd.sizeDg) (all_oneCell_toArray (cellsB_one _)) ?_)
  refine bodyPost_ret (v := digestV D) (run_results_row Tryd.results23 _ _ (w.heap.size + 1) 0 (by rfl) (cellsB D) (World.rangeAt_setCells_same _ _ _ _ (by rw [cellsB_length, hlen]; exact HT6.out)) _ Tryd.underlying23 (by rfl) (by rw [cellsB_length, hlen]; exact Tryd.sizeDg)) rfl ⟨by rw [HD.out], ?_⟩
  exact below_setCells _ (by omega) _ _ _ (HB2.out.trans (HB6.out.mono (by have := HS2.out; omega)))

set_option maxRecDepth 100000 in
set_option maxHeartbeats 1000000 in
theorem wwots_recover (m : List UInt8) (a : Option Addr) (c : Nat) (sig : List (List UInt8)) (w : World) (G : Env w) (hm : m.length = 32) (R : DRow w a 67 sig) :
    Calls Tryd.prog 21 #[digestV m, .slice a 67 c] w fun e w' => e = .returned (.tuple #[digestV (wotsKeyL m sig), .nilIface]) ∧ Below w.heap.size w w' := by
  obtain ⟨w2, hw2⟩ : ∃ w2, (w.alloc (.cells (cellsB m).toArray 23)).alloc (.cells (cellsB zD).toArray 23) = w2 := ⟨_, rfl⟩
  have hs1 : (w.alloc (.cells (cellsB m).toArray 23)).heap.size = w.heap.size + 1 := by simp
  have HS2 : Hid (w2.heap.size = w.heap.size + 1 + 1) := by unfold Hid; rw [← hw2]; simp
  have HB2 : Hid (Below w.heap.size w w2) := by rw [← hw2]; exact ((Below.refl _ _).alloc (Nat.le_refl _) _).alloc (by simp) _
  have HK : Hid (∀ wx, Below w2.heap.size w2 wx → wx.rangeAt w.heap.size 0 (cellsB m) ∧ wx.there (w.heap.size + 1) 0 32 ∧ Env wx ∧ DRow wx a 67 sig ∧ Below w.heap.size w wx) := fun wx hx => by
    have s2 := HS2.out
    have b : Below w.heap.size w wx := HB2.out.trans (hx.mono (by omega))
    refine ⟨?_, ?_, G.below b, R.below b, b⟩
    · refine DAt.below (l := m) ?_ hx (by omega)
      rw [← hw2]; exact World.rangeAt_alloc (box_dat w m _) _
    · refine there_below ?_ hx (by omega)
      rw [← hw2]; exact alloc_thereAt _ _ _ 32 _ hs1 zD_size.symm
  have HS32 : Hid (∀ i, i < 67 → (sig.getD i []).length = 32) := R.len
  clear G R
  go_enter Tryd.func21, Tryd.ntmps21
  go_wp2_with (refine wpList_allocE (by rfl) 23 (by rfl) (cellsB zD).toArray Tryd.zeroDg (w.heap.size + 1) hs1 w2 hw2 ?_)
  clear hw2 hs1 HB2
  refine wp_region_noPanic ?_
  refine wp_region_held_drew (S := fun w' => w'.rangeAt w.heap.size 0 (cellsB m)) (by kernel_rfl) ((HK.out _ (below_drewN w2 1)).1) (fun hHeld => ?_)
  try simp only [Act.put, List.setIfInBounds_toArray, List.set_cons_zero, List.set_cons_succ]
  have HBd : Hid (Below w2.heap.size w2 w2.drew) := below_drewN w2 1
  generalize w2.drew = wd at *
  refine wpAnyH_take (i := 0) (v := ?_) (by simp only [List.getElem?_toArray, List.getElem?_cons_zero, List.getElem?_cons_succ]; rfl) (by kernel_rfl) (by kernel_rfl) (by kernel_rfl) (fun _ _ _ h => h) (Or.inl ⟨by rfl, ?_⟩) hHeld ?_
  rotate_left
  · intro w hSw
    go_simp
    try with_reducible rfl
  try simp only [Act.put, List.setIfInBounds_toArray, List.set_cons_zero, List.set_cons_succ]
  refine wpAnyH_take (i := 2) (v := .agg (cellsB m).toArray) (by simp only [List.getElem?_toArray, List.getElem?_cons_zero, List.getElem?_cons_succ]; rfl) (by kernel_rfl) (by kernel_rfl) (by kernel_rfl) (fun _ _ _ h => h)
    (yieldsIf_load_mid (by rfl) _ _ rfl _ _ rfl _ _ (fun w hw => hw) Tryd.underlying23 rfl (by rw [cellsB_length, hm]; exact Tryd.sizeDg)) hHeld ?_
  try simp only [Act.put, List.setIfInBounds_toArray, List.set_cons_zero, List.set_cons_succ]
  refine wpAnyH_ready (rs := [1]) (by kernel_rfl) (by simp) ?_
  refine AllReadyH.cons (by simp only [List.getElem?_toArray, List.getElem?_cons_zero, List.getElem?_cons_succ]; rfl) (fun K hK => ?_) AllReadyH.nil
  rw [if_pos (by rfl)]
  go_simp
  refine (wwots_shown sig a c wd (HK.out _ HBd.out).2.2.2.1).mono ?_
  rintro e w3 ⟨⟨p, rfl, hsrc⟩, hb3⟩
  have HS3 : Hid (Source 52 p (fun i => sig.getD i []) w3) := hsrc
  have HB3 : Hid (Below w2.heap.size w2 w3) := HBd.out.trans (hb3.mono HBd.out.size)
  clear hsrc hb3 HBd
  go_wp2_with fail
  refine hK.out _ _ (HK.out _ HB3.out).1 (fun hHeld => ?_)
  clear hK K
  try simp only [Act.put, List.setIfInBounds_toArray, List.set_cons_zero, List.set_cons_succ]
  refine wpAnyH_ready (rs := [3]) (by kernel_rfl) (by simp) ?_
  refine AllReadyH.cons (by simp only [List.getElem?_toArray, List.getElem?_cons_zero, List.getElem?_cons_succ]; rfl) (fun K hK => ?_) AllReadyH.nil
  rw [if_pos (by rfl)]
  go_simp
  refine (wwots_digitsOf m w3 hm).mono ?_
  rintro e w4 ⟨rfl, hb4⟩
  have HS4 : Hid (Source 52 p (fun i => sig.getD i []) w4) := HS3.out.below hb4
  have HB4 : Hid (Below w2.heap.size w2 w4) := HB3.out.trans (hb4.mono HB3.out.size)
  have HDD : Hid ((digsL m 67).length = 67 ∧ (∀ i, i < 67 → 0 ≤ (digsL m 67).getD i 0 ∧ (digsL m 67).getD i 0 ≤ 15) ∧ ∀ i, i < 67 → (lacksI (digsL m 67)).getD i 0 = ((15 - digL m i : Nat) : Int) ∧ 15 - digL m i ≤ 1000) := ⟨digsL_len m 67, digs_bd m, lacks_digs m⟩
  clear hb4 HS3 HB3
  generalize digsL m 67 = DL at *
  go_wp2_with fail
  refine hK.out _ _ (HK.out _ HB4.out).1 (fun hHeld => ?_)
  clear hK K
  try simp only [Act.put, List.setIfInBounds_toArray, List.set_cons_zero, List.set_cons_succ]
  refine wpAnyH_ready (rs := [4]) (by kernel_rfl) (by simp) ?_
  refine AllReadyH.cons (by simp only [List.getElem?_toArray, List.getElem?_cons_zero, List.getElem?_cons_succ]; rfl) (fun K hK => ?_) AllReadyH.nil
  rw [if_pos (by rfl)]
  go_simp
  refine (wwots_lacks DL w4 HDD.out.1 HDD.out.2.1).mono ?_
  rintro e w5 ⟨rfl, hb5⟩
  have HS5 : Hid (Source 52 p (fun i => sig.getD i []) w5) := HS4.out.below hb5
  have HB5 : Hid (Below w2.heap.size w2 w5) := HB4.out.trans (hb5.mono HB4.out.size)
  have HLL : Hid ((lacksI DL).length = 67 ∧ ∀ i, i < 67 → (lacksI DL).getD i 0 = ((15 - digL m i : Nat) : Int) ∧ 15 - digL m i ≤ 1000) := ⟨by rw [lacksI_len, HDD.out.1], HDD.out.2.2⟩
  clear hb5 HS4 HB4 HDD
  generalize lacksI DL = LL at *
  go_wp2_with fail
  refine hK.out _ _ (HK.out _ HB5.out).1 (fun hHeld => ?_)
  clear hK K
  try simp only [Act.put, List.setIfInBounds_toArray, List.set_cons_zero, List.set_cons_succ]
  refine wpAnyH_ready (rs := [5]) (by kernel_rfl) (by simp) ?_
  refine AllReadyH.cons (by simp only [List.getElem?_toArray, List.getElem?_cons_zero, List.getElem?_cons_succ]; rfl) (fun K hK => ?_) AllReadyH.nil
  rw [if_pos (by rfl)]
  go_simp
  refine (wwots_walk 52 p (fun i => sig.getD i []) LL (fun i => 15 - digL m i) w5 (HK.out _ HB5.out).2.2.1 HS5.out HS32.out HLL.out.1 HLL.out.2).mono ?_
  rintro e w6 ⟨rfl, hb6⟩
  have HB6 : Hid (Below w2.heap.size w2 w6) := HB5.out.trans (hb6.mono HB5.out.size)
  have HE : Hid (((List.range 67).map fun i => walkL (sig.getD i []) (15 - digL m i)).length = 67 ∧ (∀ l ∈ (List.range 67).map (fun i => walkL (sig.getD i []) (15 - digL m i)), l.length = 32) ∧ shaL (7 :: ((List.range 67).map fun i => walkL (sig.getD i []) (15 - digL m i)).flatten) = wotsKeyL m sig) := ⟨by simp, mem32 (fun i hi => walkL_length (HS32.out i hi) _), rfl⟩
  clear hb6 HS5 HB5 HLL
  generalize (List.range 67).map (fun i => walkL (sig.getD i []) (15 - digL m i)) = L at *
  go_wp2_with fail
  refine hK.out _ _ (HK.out _ HB6.out).1 (fun hHeld => ?_)
  clear hK K
  try simp only [Act.put, List.setIfInBounds_toArray, List.set_cons_zero, List.set_cons_succ]
  refine wpAnyH_ready (rs := [6]) (by kernel_rfl) (by simp) ?_
  refine AllReadyH.cons (by simp only [List.getElem?_toArray, List.getElem?_cons_zero, List.getElem?_cons_succ]; rfl) (fun K hK => ?_) AllReadyH.nil
  rw [if_pos (by rfl)]
  go_simp
  refine (wwots_knots L w6 (HK.out _ HB6.out).2.2.1 HE.out.1 HE.out.2.1).mono ?_
  rintro e w7 ⟨rfl, hb7⟩
  rw [HE.out.2.2]
  have HB7 : Hid (Below w2.heap.size w2 w7) := HB6.out.trans (hb7.mono HB6.out.size)
  have hlen : (wotsKeyL m sig).length = 32 := shaL_length _
  clear hb7 HB6 HE
  generalize hD : wotsKeyL m sig = D at *
  have HD : Hid (wotsKeyL m sig = D) := hD
  clear hD
  go_wp2_with fail
  refine hK.out _ _ (HK.out _ HB7.out).1 (fun hHeld => ?_)
  clear hK K
  try simp only [Act.put, List.setIfInBounds_toArray, List.set_cons_zero, List.set_cons_succ]
  refine wpAnyH_ready (rs := [7]) (by kernel_rfl) (by simp) ?_
  refine AllReadyH.cons (by simp only [List.getElem?_toArray, List.getElem?_cons_zero, List.getElem?_cons_succ]; rfl) (fun K hK => ?_) AllReadyH.nil
  rw [if_pos (by rfl)]
  have HT7 : Hid (w7.there (w.heap.size + 1) 0 32) := (HK.out _ HB7.out).2.1
  have HB8 : Hid (Below w2.heap.size w2 w7 ∧ Below w.heap.size w (w7.setCells (w.heap.size + 1) 0 (cellsB D))) := ⟨HB7.out, below_setCells _ (by omega) _ _ _ (HK.out _ HB7.out).2.2.2.2⟩
  refine wp_store_mid _ _ _ rfl (w.heap.size + 1) 0 (cellsB D).toArray rfl rfl (by rw [cellsB_size, hlen]; exact HT7.out) (by rw [cellsB_size, hlen]; exact Tryd.sizeDg) (all_oneCell_toArray (cellsB_one _)) ?_
  have HX : Hid (DAt (w7.setCells (w.heap.size + 1) 0 (cellsB D)) (w.heap.size + 1) 0 D) := dat_stored HT7.out hlen
  have hr : (w7.setCells (w.heap.size + 1) 0 (cellsB D)).rangeAt w.heap.size 0 (cellsB m) := World.rangeAt_setCells_apart (HK.out _ HB7.out).1 _ _ _ (.inl (by omega))
  refine hK.out _ _ hr (fun hHeld => ?_)
  clear hr HT7 HB7
  clear hK K
  try simp only [Act.put, List.setIfInBounds_toArray, List.set_cons_zero, List.set_cons_succ]
  refine wpAnyH_take (i := 8) (v := ?_) (by simp only [List.getElem?_toArray, List.getElem?_cons_zero, List.getElem?_cons_succ]; rfl) (by kernel_rfl) (by kernel_rfl) (by kernel_rfl) (fun _ _ _ h => h) (Or.inl ⟨by rfl, ?_⟩) hHeld ?_
  rotate_left
  · intro w hSw
    go_simp
    try with_reducible rfl
  try simp only [Act.put, List.setIfInBounds_toArray, List.set_cons_zero, List.set_cons_succ]
  refine wpAnyH_done (by kernel_rfl) (NoPanic.normal ?_) _
  clear hHeld
  go_wp2_with fail
  refine bodyPost_ret (v := .tuple #[digestV D, .nilIface]) (run_results_row2 Tryd.results21 _ _ (w.heap.size + 1) 0 (by rfl) .nilIface (by rfl) (cellsB D) HX.out _ Tryd.underlying23 (by rfl) (by rw [cellsB_length, hlen]; exact Tryd.sizeDg)) rfl ⟨by rw [HD.out], ?_⟩
  exact HB8.out.2

set_option maxRecDepth 100000 in
set_option maxHeartbeats 1000000 in
theorem wwots_short (m : List UInt8) (a : Option Addr) (n c : Nat) (w : World) (G : Env w) (hm : m.length = 32) (hn : n ≠ 67) (hn2 : n ≤ 140737488351232) :
    Calls Tryd.prog 21 #[digestV m, .slice a n c] w fun e w' => e = .returned (.tuple #[digestV zD, .iface 51 (.int .i64 3)]) ∧ Below w.heap.size w w' := by
  clear G
  obtain ⟨w2, hw2⟩ : ∃ w2, (w.alloc (.cells (cellsB m).toArray 23)).alloc (.cells (cellsB zD).toArray 23) = w2 := ⟨_, rfl⟩
  have hs1 : (w.alloc (.cells (cellsB m).toArray 23)).heap.size = w.heap.size + 1 := by simp
  have HT2 : Hid (w2.there (w.heap.size + 1) 0 32) := by rw [← hw2]; exact alloc_thereAt _ _ _ 32 _ hs1 zD_size.symm
  have HB2 : Hid (Below w.heap.size w w2) := by rw [← hw2]; exact ((Below.refl _ _).alloc (Nat.le_refl _) _).alloc (by simp) _
  have h5 : ((n : Int) != 67) = true := by simp; omega
  go_enter Tryd.func21, Tryd.ntmps21
  go_wp2_with (first
    | (refine wpList_allocE (by rfl) 23 (by rfl) (cellsB zD).toArray Tryd.zeroDg (w.heap.size + 1) hs1 w2 hw2 ?_)
    | (refine wpList_buildC (by rfl) 23 _ (by rfl) (cellsB zD).toArray (by kernel_rfl) ?_)
    | (refine wpList_store_mid (by rfl) 23 (.tmp 4) (.tmp 9) (by rfl) (w.heap.size + 1) 0 (cellsB zD).toArray (by rfl) (by rfl) (by rw [cellsB_size]; exact HT2.out) (by rw [cellsB_size]; exact Tryd.sizeDg) (all_oneCell_toArray (cellsB_one _)) ?_))
  refine bodyPost_ret (v := .tuple #[digestV zD, .iface 51 (.int .i64 3)]) (run_results_row2 Tryd.results21 _ _ (w.heap.size + 1) 0 (by rfl) _ (by rfl) (cellsB zD) (World.rangeAt_setCells_same _ _ _ _ (by rw [cellsB_length]; exact HT2.out)) _ Tryd.underlying23 (by rfl) (by rw [cellsB_length]; exact Tryd.sizeDg)) rfl ⟨rfl, ?_⟩
  exact below_setCells _ (by omega) _ _ _ HB2.out

/-- Which operations of 'sig := walk(secrets(seed), digitsOf(m))' have come up. -/
def sgnL (k : Nat) (b : Bool) : Array Bool := #[true, decide (1 ≤ k), true, decide (2 ≤ k), decide (3 ≤ k), b, false]
def fromS (n : Nat) (v : Value) (k : Nat) : Value := if n ≤ k then v else undef
def ptrS : Option Nat → Value
  | none => undef
  | some g => .pointer (some ⟨g, 0, none⟩)
theorem wsig_len (seed m : List UInt8) : (wotsSigL seed m 67).length = 67 := by simp [wotsSigL]
theorem wsig_32 (seed m : List UInt8) : ∀ l ∈ wotsSigL seed m 67, l.length = 32 := mem32 fun i _ => walkL_length (wotsSecL_length seed i) _

set_option maxRecDepth 100000 in
set_option maxHeartbeats 1000000 in
theorem wwots_sign_new (seed m : List UInt8) (w : World) (G : Env w) (hs : seed.length = 32) (hm : m.length = 32) :
    Calls Tryd.prog 18 #[digestV seed, digestV m] w fun e w' => (∃ g c, e = .returned (.slice (some ⟨g, 0, none⟩) 67 c) ∧ 67 ≤ c ∧ w.heap.size ≤ g ∧ DRow w' (some ⟨g, 0, none⟩) 67 (wotsSigL seed m 67)) ∧ Below w.heap.size w w' := by
  obtain ⟨zs, hzs, hzero⟩ := zeroKnots
  obtain ⟨w2, hw2⟩ : ∃ w2, (w.alloc (.cells (cellsB seed).toArray 23)).alloc (.cells (cellsB m).toArray 23) = w2 := ⟨_, rfl⟩
  have hs1 : (w.alloc (.cells (cellsB seed).toArray 23)).heap.size = w.heap.size + 1 := by simp
  have HS2 : Hid (w2.heap.size = w.heap.size + 1 + 1) := by unfold Hid; rw [← hw2]; simp
  have HB2 : Hid (Below w.heap.size w w2) := by rw [← hw2]; exact ((Below.refl _ _).alloc (Nat.le_refl _) _).alloc (by simp) _
  have HK : Hid (∀ wx, Below w2.heap.size w2 wx → wx.rangeAt w.heap.size 0 (cellsB seed) ∧ wx.rangeAt (w.heap.size + 1) 0 (cellsB m) ∧ Env wx ∧ Below w.heap.size w wx) := fun wx hx => by
    have s2 := HS2.out
    have b : Below w.heap.size w wx := HB2.out.trans (hx.mono (by omega))
    refine ⟨?_, ?_, G.below b, b⟩
    · refine DAt.below (l := seed) ?_ hx (by omega)
      rw [← hw2]; exact World.rangeAt_alloc (box_dat w seed _) _
    · refine DAt.below (l := m) ?_ hx (by omega)
      rw [← hw2]; exact box_rangeAt _ _ _ _ hs1
  clear G
  go_enter Tryd.func18, Tryd.ntmps18
  go_wp2_with fail
  try rw [hw2]
  clear hw2 hs1 HB2
  refine wp_region_noPanic ?_
  refine wp_region_held_drew (S := fun w' => w'.rangeAt w.heap.size 0 (cellsB seed) ∧ w'.rangeAt (w.heap.size + 1) 0 (cellsB m)) (by kernel_rfl) ⟨(HK.out _ (below_drewN w2 1)).1, (HK.out _ (below_drewN w2 1)).2.1⟩ (fun hHeld => ?_)
  try simp only [Act.put, List.setIfInBounds_toArray, List.set_cons_zero, List.set_cons_succ]
  have HBd : Hid (Below w2.heap.size w2 w2.drew) := below_drewN w2 1
  generalize w2.drew = wd at *
  refine wpAnyH_take (i := 0) (v := .agg (cellsB seed).toArray) (by simp only [List.getElem?_toArray, List.getElem?_cons_zero, List.getElem?_cons_succ]; rfl) (by kernel_rfl) (by kernel_rfl) (by kernel_rfl) (fun _ _ _ h => h)
    (yieldsIf_load_mid (by rfl) _ _ rfl _ _ rfl _ _ (fun w hw => hw.1) Tryd.underlying23 rfl (by rw [cellsB_length, hs]; exact Tryd.sizeDg)) hHeld ?_
  try simp only [Act.put, List.setIfInBounds_toArray, List.set_cons_zero, List.set_cons_succ]
  refine wpAnyH_take (i := 2) (v := .agg (cellsB m).toArray) (by simp only [List.getElem?_toArray, List.getElem?_cons_zero, List.getElem?_cons_succ]; rfl) (by kernel_rfl) (by kernel_rfl) (by kernel_rfl) (fun _ _ _ h => h)
    (yieldsIf_load_mid (by rfl) _ _ rfl _ _ rfl _ _ (fun w hw => hw.2) Tryd.underlying23 rfl (by rw [cellsB_length, hm]; exact Tryd.sizeDg)) hHeld ?_
  try simp only [Act.put, List.setIfInBounds_toArray, List.set_cons_zero, List.set_cons_succ]
  have HKS : Hid (∀ wx, Below wd.heap.size wd wx → (wx.rangeAt w.heap.size 0 (cellsB seed) ∧ wx.rangeAt (w.heap.size + 1) 0 (cellsB m)) ∧ Env wx ∧ Below w.heap.size w wx) := fun wx hx => by
    have h := HK.out _ (HBd.out.trans (hx.mono HBd.out.size))
    exact ⟨⟨h.1, h.2.1⟩, h.2.2⟩
  refine news1_any 3 1 (fun k p a wx => ∃ q, a = ({ tmps := #[digestV seed, digestV m, .pointer (some ⟨w.heap.size, 0, none⟩), .pointer (some ⟨w.heap.size + 1, 0, none⟩), .slice none 0 0, ptrS p, .agg (cellsB seed).toArray, fromS 1 (.func (.func 49) #[] #[q]) k, .agg (cellsB m).toArray, fromS 2 (.agg (cellsI (digsL m 67)).toArray) k, fromS 3 (knotsV (wotsSigL seed m 67)) k, undef], defers := [] } : Act) ∧ Below wd.heap.size wd wx ∧ (1 ≤ k → Source 49 q (wotsSecL seed) wx) ∧ (∀ g, p = some g → wd.heap.size ≤ g ∧ g < wx.heap.size ∧ wx.there g 0 2144)) sgnL ?step ?last ?fin 4 0 none _ _ rfl (by omega) ⟨undef, rfl, Below.refl _ _, (fun h => by omega), (fun g h => by cases h)⟩
  case step =>
    intro k p a wx fuel hk hSt next al
    obtain ⟨q, rfl, hb, h1, hp⟩ := hSt
    have hk3 : k = 0 ∨ k = 1 ∨ k = 2 := by omega
    rcases hk3 with rfl | rfl | rfl
    · cases p with
      | none =>
        refine wpAnyH_ready (rs := [1, 5]) (by kernel_rfl) (by simp) ?_
        refine AllReadyH.cons (by simp only [List.getElem?_toArray, List.getElem?_cons_zero, List.getElem?_cons_succ]; rfl) (fun K hK => ?_) (AllReadyH.cons (by simp only [List.getElem?_toArray, List.getElem?_cons_zero, List.getElem?_cons_succ]; rfl) (fun K hK => ?_) AllReadyH.nil)
        · simp only [fromS, Nat.reduceLeDiff, ↓reduceIte, Nat.reduceAdd, Nat.zero_add]
          rw [if_pos (by rfl)]
          go_simp
          refine (wwots_secrets seed wx (HKS.out _ hb).2.1 hs).mono ?_
          rintro e w' ⟨⟨q', rfl, hsrc⟩, hb3⟩
          have hb' : Below wd.heap.size wd w' := hb.trans (hb3.mono hb.size)
          go_wp2_with fail
          refine hK.out _ _ (HKS.out _ hb').1 (fun hHeld => ?_)
          exact next _ _ ⟨q', rfl, hb', fun _ => hsrc, fun g hg => ⟨(hp g hg).1, Nat.lt_of_lt_of_le (hp g hg).2.1 hb3.size, there_below (hp g hg).2.2 hb3 (hp g hg).2.1⟩⟩
        · rw [if_pos (by rfl)]
          refine wp_allocE 73 (by rfl) zs hzero ?_
          have hb8 : Below wx.heap.size wx (wx.alloc (.cells zs 73)) := (Below.refl _ _).alloc (Nat.le_refl _) _
          have hb' : Below wd.heap.size wd (wx.alloc (.cells zs 73)) := hb.trans (hb8.mono hb.size)
          refine hK.out _ _ (HKS.out _ hb').1 (fun hHeld => ?_)
          exact al wx.heap.size _ _ rfl ⟨q, rfl, hb', (fun h => by omega), fun g hg => by cases hg; exact ⟨hb.size, by simp, alloc_thereAt _ _ _ 2144 _ rfl hzs.symm⟩⟩
      | some g =>
        refine wpAnyH_ready (rs := [1]) (by kernel_rfl) (by simp) ?_
        refine AllReadyH.cons (by simp only [List.getElem?_toArray, List.getElem?_cons_zero, List.getElem?_cons_succ]; rfl) (fun K hK => ?_) AllReadyH.nil
        simp only [fromS, Nat.reduceLeDiff, ↓reduceIte, Nat.reduceAdd, Nat.zero_add]
        rw [if_pos (by rfl)]
        go_simp
        refine (wwots_secrets seed wx (HKS.out _ hb).2.1 hs).mono ?_
        rintro e w' ⟨⟨q', rfl, hsrc⟩, hb3⟩
        have hb' : Below wd.heap.size wd w' := hb.trans (hb3.mono hb.size)
        go_wp2_with fail
        refine hK.out _ _ (HKS.out _ hb').1 (fun hHeld => ?_)
        exact next _ _ ⟨q', rfl, hb', fun _ => hsrc, fun g hg => ⟨(hp g hg).1, Nat.lt_of_lt_of_le (hp g hg).2.1 hb3.size, there_below (hp g hg).2.2 hb3 (hp g hg).2.1⟩⟩
    · cases p with
      | none =>
        refine wpAnyH_ready (rs := [3, 5]) (by kernel_rfl) (by simp) ?_
        refine AllReadyH.cons (by simp only [List.getElem?_toArray, List.getElem?_cons_zero, List.getElem?_cons_succ]; rfl) (fun K hK => ?_) (AllReadyH.cons (by simp only [List.getElem?_toArray, List.getElem?_cons_zero, List.getElem?_cons_succ]; rfl) (fun K hK => ?_) AllReadyH.nil)
        · simp only [fromS, Nat.reduceLeDiff, ↓reduceIte, Nat.reduceAdd, Nat.zero_add]
          rw [if_pos (by rfl)]
          go_simp
          refine (wwots_digitsOf m wx hm).mono ?_
          rintro e w' ⟨rfl, hb3⟩
          have hb' : Below wd.heap.size wd w' := hb.trans (hb3.mono hb.size)
          go_wp2_with fail
          refine hK.out _ _ (HKS.out _ hb').1 (fun hHeld => ?_)
          exact next _ _ ⟨q, rfl, hb', fun _ => (h1 (by omega)).below hb3, fun g hg => ⟨(hp g hg).1, Nat.lt_of_lt_of_le (hp g hg).2.1 hb3.size, there_below (hp g hg).2.2 hb3 (hp g hg).2.1⟩⟩
        · rw [if_pos (by rfl)]
          refine wp_allocE 73 (by rfl) zs hzero ?_
          have hb8 : Below wx.heap.size wx (wx.alloc (.cells zs 73)) := (Below.refl _ _).alloc (Nat.le_refl _) _
          have hb' : Below wd.heap.size wd (wx.alloc (.cells zs 73)) := hb.trans (hb8.mono hb.size)
          refine hK.out _ _ (HKS.out _ hb').1 (fun hHeld => ?_)
          exact al wx.heap.size _ _ rfl ⟨q, rfl, hb', fun _ => (h1 (by omega)).below hb8, fun g hg => by cases hg; exact ⟨hb.size, by simp, alloc_thereAt _ _ _ 2144 _ rfl hzs.symm⟩⟩
      | some g =>
        refine wpAnyH_ready (rs := [3]) (by kernel_rfl) (by simp) ?_
        refine AllReadyH.cons (by simp only [List.getElem?_toArray, List.getElem?_cons_zero, List.getElem?_cons_succ]; rfl) (fun K hK => ?_) AllReadyH.nil
        simp only [fromS, Nat.reduceLeDiff, ↓reduceIte, Nat.reduceAdd, Nat.zero_add]
        rw [if_pos (by rfl)]
        go_simp
        refine (wwots_digitsOf m wx hm).mono ?_
        rintro e w' ⟨rfl, hb3⟩
        have hb' : Below wd.heap.size wd w' := hb.trans (hb3.mono hb.size)
        go_wp2_with fail
        refine hK.out _ _ (HKS.out _ hb').1 (fun hHeld => ?_)
        exact next _ _ ⟨q, rfl, hb', fun _ => (h1 (by omega)).below hb3, fun g hg => ⟨(hp g hg).1, Nat.lt_of_lt_of_le (hp g hg).2.1 hb3.size, there_below (hp g hg).2.2 hb3 (hp g hg).2.1⟩⟩
    · cases p with
      | none =>
        refine wpAnyH_ready (rs := [4, 5]) (by kernel_rfl) (by simp) ?_
        refine AllReadyH.cons (by simp only [List.getElem?_toArray, List.getElem?_cons_zero, List.getElem?_cons_succ]; rfl) (fun K hK => ?_) (AllReadyH.cons (by simp only [List.getElem?_toArray, List.getElem?_cons_zero, List.getElem?_cons_succ]; rfl) (fun K hK => ?_) AllReadyH.nil)
        · simp only [fromS, Nat.reduceLeDiff, ↓reduceIte, Nat.reduceAdd, Nat.zero_add]
          rw [if_pos (by rfl)]
          go_simp
          refine (wwots_walk 49 q (wotsSecL seed) (digsL m 67) (digL m) wx (HKS.out _ hb).2.1 (h1 (by omega)) (fun i _ => wotsSecL_length seed i) (digsL_len m 67) (fun i hi => ⟨digsL_at m 67 i hi, by have := digL_lt m i; omega⟩)).mono ?_
          rintro e w' ⟨rfl, hb3⟩
          have hb' : Below wd.heap.size wd w' := hb.trans (hb3.mono hb.size)
          go_wp2_with fail
          refine hK.out _ _ (HKS.out _ hb').1 (fun hHeld => ?_)
          exact next _ _ ⟨q, rfl, hb', fun _ => (h1 (by omega)).below hb3, fun g hg => ⟨(hp g hg).1, Nat.lt_of_lt_of_le (hp g hg).2.1 hb3.size, there_below (hp g hg).2.2 hb3 (hp g hg).2.1⟩⟩
        · rw [if_pos (by rfl)]
          refine wp_allocE 73 (by rfl) zs hzero ?_
          have hb8 : Below wx.heap.size wx (wx.alloc (.cells zs 73)) := (Below.refl _ _).alloc (Nat.le_refl _) _
          have hb' : Below wd.heap.size wd (wx.alloc (.cells zs 73)) := hb.trans (hb8.mono hb.size)
          refine hK.out _ _ (HKS.out _ hb').1 (fun hHeld => ?_)
          exact al wx.heap.size _ _ rfl ⟨q, rfl, hb', fun _ => (h1 (by omega)).below hb8, fun g hg => by cases hg; exact ⟨hb.size, by simp, alloc_thereAt _ _ _ 2144 _ rfl hzs.symm⟩⟩
      | some g =>
        refine wpAnyH_ready (rs := [4]) (by kernel_rfl) (by simp) ?_
        refine AllReadyH.cons (by simp only [List.getElem?_toArray, List.getElem?_cons_zero, List.getElem?_cons_succ]; rfl) (fun K hK => ?_) AllReadyH.nil
        simp only [fromS, Nat.reduceLeDiff, ↓reduceIte, Nat.reduceAdd, Nat.zero_add]
        rw [if_pos (by rfl)]
        go_simp
        refine (wwots_walk 49 q (wotsSecL seed) (digsL m 67) (digL m) wx (HKS.out _ hb).2.1 (h1 (by omega)) (fun i _ => wotsSecL_length seed i) (digsL_len m 67) (fun i hi => ⟨digsL_at m 67 i hi, by have := digL_lt m i; omega⟩)).mono ?_
        rintro e w' ⟨rfl, hb3⟩
        have hb' : Below wd.heap.size wd w' := hb.trans (hb3.mono hb.size)
        go_wp2_with fail
        refine hK.out _ _ (HKS.out _ hb').1 (fun hHeld => ?_)
        exact next _ _ ⟨q, rfl, hb', fun _ => (h1 (by omega)).below hb3, fun g hg => ⟨(hp g hg).1, Nat.lt_of_lt_of_le (hp g hg).2.1 hb3.size, there_below (hp g hg).2.2 hb3 (hp g hg).2.1⟩⟩
  case last =>
    intro a wx fuel hSt al
    obtain ⟨q, rfl, hb, h1, hp⟩ := hSt
    refine wpAnyH_ready (rs := [5]) (by kernel_rfl) (by simp) ?_
    refine AllReadyH.cons (by simp only [List.getElem?_toArray, List.getElem?_cons_zero, List.getElem?_cons_succ]; rfl) (fun K hK => ?_) AllReadyH.nil
    rw [if_pos (by rfl)]
    refine wp_allocE 73 (by rfl) zs hzero ?_
    have hb8 : Below wx.heap.size wx (wx.alloc (.cells zs 73)) := (Below.refl _ _).alloc (Nat.le_refl _) _
    have hb' : Below wd.heap.size wd (wx.alloc (.cells zs 73)) := hb.trans (hb8.mono hb.size)
    refine hK.out _ _ (HKS.out _ hb').1 (fun hHeld => ?_)
    exact al wx.heap.size _ _ ⟨q, rfl, hb', fun _ => (h1 (by omega)).below hb8, fun g hg => by cases hg; exact ⟨hb.size, by simp, alloc_thereAt _ _ _ 2144 _ rfl hzs.symm⟩⟩
  case fin =>
    intro g a wx hSt
    obtain ⟨q, rfl, hb, h1, hp⟩ := hSt
    obtain ⟨g1, g2, g3⟩ := hp g rfl
    have hSl := wsig_len seed m
    have hS32 := wsig_32 seed m
    have hL : (cellsB (wotsSigL seed m 67).flatten).length = 2144 := knots_cells hSl hS32
    clear h1 hp
    unfold knotsV
    generalize hD : wotsSigL seed m 67 = D at *
    have HD : Hid (wotsSigL seed m 67 = D) := hD
    clear hD
    have hL2 : (cellsB D.flatten).toArray.size = 2144 := hL
    refine wpAnyH_ready (rs := [6]) (by kernel_rfl) (by simp) ?_
    refine AllReadyH.cons (by simp only [List.getElem?_toArray, List.getElem?_cons_zero, List.getElem?_cons_succ]; rfl) (fun K hK => ?_) AllReadyH.nil
    rw [if_pos (by rfl)]
    refine wp_store_mid _ _ _ rfl g 0 (cellsB D.flatten).toArray rfl rfl (by rw [hL2]; exact g3) (by rw [hL2]; exact Tryd.sizeKn) (all_oneCell_toArray (cellsB_one _)) ?_
    have hb' : Below wd.heap.size wd (wx.setCells g 0 (cellsB D.flatten)) := below_setCells _ g1 _ _ _ hb
    refine hK.out _ _ (HKS.out _ hb').1 (fun hHeld => ?_)
    clear hK K
    have HX : Hid ((wx.setCells g 0 (cellsB D.flatten)).rangeAt g 0 (cellsB D.flatten)) := World.rangeAt_setCells_same _ _ _ _ (by rw [hL]; exact g3)
    have HBx : Hid (Below wd.heap.size wd (wx.setCells g 0 (cellsB D.flatten))) := hb'
    try simp only [Act.put, List.setIfInBounds_toArray, List.set_cons_zero, List.set_cons_succ]
    refine wpAnyH_done (by kernel_rfl) (NoPanic.normal ?_) _
    clear hHeld hb hb' g3
    generalize wx.setCells g 0 (cellsB D.flatten) = wy at *
    simp only [fromS, Nat.reduceLeDiff, ↓reduceIte, Nat.reduceAdd, Nat.zero_add]
    simp only [ptrS]
    go_wp2_with fail
    go_ret
    exact ⟨⟨_, _, rfl, Nat.le_refl _, by have := HS2.out; have := HBd.out.size; omega, by rw [HD.out]; exact knots_row hSl hS32 HX.out⟩, (HKS.out _ HBx.out).2.2⟩
theorem wwots_sign (seed m : List UInt8) (w : World) (G : Env w) (hs : seed.length = 32) (hm : m.length = 32) :
    Calls Tryd.prog 18 #[digestV seed, digestV m] w fun e w' => (∃ a c, e = .returned (.slice a 67 c) ∧ 67 ≤ c ∧ DRow w' a 67 (wotsSigL seed m 67)) ∧ Below w.heap.size w w' := by
  refine (wwots_sign_new seed m w G hs hm).mono ?_
  rintro e w' ⟨⟨g, c, h1, h2, _, h3⟩, hb⟩
  exact ⟨⟨_, c, h1, h2, h3⟩, hb⟩
end Go.Proofs.YtghiniaijobonaaDoor
