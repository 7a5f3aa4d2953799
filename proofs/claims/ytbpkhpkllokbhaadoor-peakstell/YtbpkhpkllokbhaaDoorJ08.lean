/- Texts of this claim, joined: Same, SameH, Wleaf, OpenD. -/
import Derived.Test.YtbpkhpkllokbhaaDoorJ04
import Derived.ChangeKeysEq
import Derived.WalkKit
import Derived.OrdersHeld
import Derived.Deep.MidRow
import Derived.Test.YtbpkhpkllokbhaaDoorJ07
import Derived.Test.YtbpkhpkllokbhaaDoorJ02
import Derived.Deep.RegionHeld3
import Derived.Test.YtbpkhpkllokbhaaDoorJ06
import Derived.Deep.Slices
/- Digests compared: equal or not, as the lists of their bytes are. -/
namespace Go.Proofs.YtbpkhpkllokbhaaDoor
open Go.RowKit
set_option linter.unusedVariables false
set_option linter.unusedSimpArgs false

theorem run_eqItems_bytes {P : Program} (w : World) (d : Nat) (e : TypeId) (he : P.underlying e = some (.int .u8)) (X Y : List UInt8) (n : Nat) (hX : X.length = n) (hY : Y.length = n) :
    ∀ (is : List Nat), (∀ i ∈ is, i < n) → (Op.eqItems (d + 1) e 1 (cellsB X).toArray (cellsB Y).toArray is).run P w = .ok (is.all fun i => nth X i == nth Y i) w
  | [], _ => by simp [Op.eqItems]
  | i :: r, h => by
    have hi := h i (List.mem_cons_self ..)
    have ih := run_eqItems_bytes w d e he X Y n hX hY r (fun j hj => h j (List.mem_cons_of_mem _ hj))
    have px : (cellsB X).toArray[i]? = some (.int .u8 (nth X i)) := by simpa using cellsB_at X i (by omega)
    have py : (cellsB Y).toArray[i]? = some (.int .u8 (nth Y i)) := by simpa using cellsB_at Y i (by omega)
    have p1 : (part e (cellsB X).toArray (i * 1)).run P w = .ok (.int .u8 (nth X i)) w := by
      simp only [Nat.mul_one]
      simp [part, isAgg, run_underlying he, px, Result.andThen, Sem.run_bind]
    have p2 : (part e (cellsB Y).toArray (i * 1)).run P w = .ok (.int .u8 (nth Y i)) w := by
      simp only [Nat.mul_one]
      simp [part, isAgg, run_underlying he, py, Result.andThen, Sem.run_bind]
    have p3 : (Op.equalIn (d + 1) e (.int .u8 (nth X i)) (.int .u8 (nth Y i))).run P w = .ok (nth X i == nth Y i) w := run_equalIn_int w d e .u8 .u8 _ _ he
    simp only [Op.eqItems, Sem.run_bind, p1, p2, p3, Result.andThen_ok, List.all_cons]
    cases hb : nth X i == nth Y i
    · simp
    · simpa using ih
theorem all_nth {X Y : List UInt8} {n : Nat} (hX : X.length = n) (hY : Y.length = n) : ((List.range n).all fun i => nth X i == nth Y i) = decide (X = Y) := by
  by_cases h : X = Y
  · subst h
    simp
  · rw [decide_eq_false h]
    cases hb : (List.range n).all fun i => nth X i == nth Y i
    · rfl
    · refine absurd (nth_inj (by omega) fun j hj => ?_) h
      have := List.all_eq_true.1 hb j (List.mem_range.2 (by omega))
      simpa using this
/-- Two digests compared. -/
theorem run_same (w : World) (X Y : List UInt8) (hX : X.length = 32) (hY : Y.length = 32) :
    (Op.equalIn 10000 24 (.agg (cellsB X).toArray) (.agg (cellsB Y).toArray)).run Tryd.prog w = .ok (decide (X = Y)) w := by
  have hi : ∃ i, Tryd.prog.info? 5 = some i := info_of_underlying Tryd.underlying5
  obtain ⟨i, hi⟩ := hi
  have hc : Tryd.prog.cellsOf 5 = 1 := by kernel_rfl
  rw [run_equalIn_array w 9999 (cellsB X).toArray (cellsB Y).toArray Tryd.underlying24 hi, hc, run_eqItems_bytes w 9998 _ Tryd.underlying5 X Y 32 hX hY _ (fun i hi => List.mem_range.1 hi), all_nth hX hY]
theorem run_same_true (D : List UInt8) (h : D.length = 32) (w : World) : (Op.equalIn 10000 24 (.agg (cellsB D).toArray) (.agg (cellsB D).toArray)).run Tryd.prog w = .ok true w := by
  rw [run_same w D D h h, decide_eq_true rfl]
/-! the comparisons as steps: guarded or not (walked by simp, a guarded '!=' of digests runs the kernel out of memory) -/
theorem Tryd.eqGuardDigest : Tryd.prog.eqGuardType Tryd.prog.depth 24 = false := by kernel_rfl
theorem wpList_neqD {ops : Array Oper} {rest : List Oper} {o : Oper} {a : Act} {w : World} {Q : Exit → Act → World → Prop} (x y : Operand) (ho : o.op = .binOp .neq 24 x y 24) (hw : Region.wanted o (yielded ops a.tmps) = true) (X Y : List UInt8) (hX : X.length = 32) (hY : Y.length = 32)
    (hx : a.eval x = .agg (cellsB X).toArray) (hy : a.eval y = .agg (cellsB Y).toArray) (b : Bool) (hb : (!decide (X = Y)) = b) (h : wpList Tryd.prog ops Q rest (a.put o.dst (.bool b)) w) : wpList Tryd.prog ops Q (o :: rest) a w := by
  subst hb
  refine wpList_step fun K hK => ?_
  rw [if_pos hw]
  unfold Oper.wp
  simp [execOp, ho, hx, hy, eqGuard, Tryd.eqGuardDigest, binOp, Op.equal, Op.maxDepth, run_same _ X Y hX hY, Result.andThen, Sem.run_bind, -decide_not]
  exact hK _ _ h
theorem wpList_eqD {ops : Array Oper} {rest : List Oper} {o : Oper} {a : Act} {w : World} {Q : Exit → Act → World → Prop} (x y : Operand) (ho : o.op = .binOp .eql 24 x y 24) (hw : Region.wanted o (yielded ops a.tmps) = true) (X Y : List UInt8) (hX : X.length = 32) (hY : Y.length = 32)
    (hx : a.eval x = .agg (cellsB X).toArray) (hy : a.eval y = .agg (cellsB Y).toArray) (b : Bool) (hb : decide (X = Y) = b) (h : wpList Tryd.prog ops Q rest (a.put o.dst (.bool b)) w) : wpList Tryd.prog ops Q (o :: rest) a w := by
  subst hb
  refine wpList_step fun K hK => ?_
  rw [if_pos hw]
  unfold Oper.wp
  simp [execOp, ho, hx, hy, eqGuard, Tryd.eqGuardDigest, binOp, Op.equal, Op.maxDepth, run_same _ X Y hX hY, Result.andThen, Sem.run_bind]
  exact hK _ _ h
end Go.Proofs.YtbpkhpkllokbhaaDoor
/- Digests compared, in a region that draws its order. -/
namespace Go.Proofs.YtbpkhpkllokbhaaDoor
open Go.RowKit
set_option linter.unusedVariables false
set_option linter.unusedSimpArgs false

theorem yieldsIf_eqD {ops : Array Oper} {S : World → Prop} {o : Oper} {a : Act} (hw : Region.wanted o (yielded ops a.tmps) = true) (x y : Operand) (ho : o.op = .binOp .eql 24 x y 24) (X Y : List UInt8) (hX : X.length = 32) (hY : Y.length = 32)
    (hx : a.eval x = .agg (cellsB X).toArray) (hy : a.eval y = .agg (cellsB Y).toArray) (b : Bool) (hb : decide (X = Y) = b) : YieldsIf Tryd.prog ops S o (.bool b) a := by
  subst hb
  refine .inl ⟨hw, fun w _ => ?_⟩
  simp [execOp, ho, hx, hy, eqGuard, Tryd.eqGuardDigest, binOp, Op.equal, Op.maxDepth, run_same w X Y hX hY, Result.andThen, Sem.run_bind]
theorem yieldsIf_neqD {ops : Array Oper} {S : World → Prop} {o : Oper} {a : Act} (hw : Region.wanted o (yielded ops a.tmps) = true) (x y : Operand) (ho : o.op = .binOp .neq 24 x y 24) (X Y : List UInt8) (hX : X.length = 32) (hY : Y.length = 32)
    (hx : a.eval x = .agg (cellsB X).toArray) (hy : a.eval y = .agg (cellsB Y).toArray) (b : Bool) (hb : (!decide (X = Y)) = b) : YieldsIf Tryd.prog ops S o (.bool b) a := by
  subst hb
  refine .inl ⟨hw, fun w _ => ?_⟩
  simp [execOp, ho, hx, hy, eqGuard, Tryd.eqGuardDigest, binOp, Op.equal, Op.maxDepth, run_same w X Y hX hY, Result.andThen, Sem.run_bind, -decide_not]
/-- A load of an array, guarded or not. -/
theorem wpList_load_midG {P : Program} {ops : Array Oper} {rest : List Oper} {o : Oper} {a : Act} {w : World} {Q : Exit → Act → World → Prop} (hw : Region.wanted o (yielded ops a.tmps) = true) (ty : TypeId) (x : Operand) (ho : o.op = .load ty x)
    (b p : Nat) (hx : a.eval x = .pointer (some ⟨b, p, none⟩)) (cs : List Value) (d : TypeDesc) (hc : w.rangeAt b p cs) (hu : P.underlying ty = some d) (hd : d.isRow = true) (hi : (P.info? ty).map (·.size) = some cs.length)
    (h : wpList P ops Q rest (a.put o.dst (.agg cs.toArray)) w) : wpList P ops Q (o :: rest) a w :=
  wpList_step fun K hK => by rw [if_pos hw]; exact wp_load_mid ty x ho b p hx cs d hc hu hd hi (hK _ _ h)
end Go.Proofs.YtbpkhpkllokbhaaDoor
/- The contracts of tree.Leaf and tree.Node. -/
namespace Go.Proofs.YtbpkhpkllokbhaaDoor
open Go.RowKit
set_option linter.unusedVariables false
set_option linter.unusedSimpArgs false

set_option maxRecDepth 100000 in
set_option maxHeartbeats 1000000 in
theorem wtree_node (l r : List UInt8) (w : World) (G : Env w) (hl : l.length = 32) (hr : r.length = 32) :
    Calls Tryd.prog 17 #[digestV l, digestV r] w fun e w' => e = .returned (digestV (nodeT l r)) ∧ Below w.heap.size w w' := by
  obtain ⟨w2, hw2⟩ : ∃ w2, ((w.alloc (.cells (cellsB l).toArray 24)).alloc (.cells (cellsB r).toArray 24)).alloc (.cells (cellsB zD).toArray 24) = w2 := ⟨_, rfl⟩
  have hs0 : (w.alloc (.cells (cellsB l).toArray 24)).heap.size = w.heap.size + 1 := by simp
  have hs1 : ((w.alloc (.cells (cellsB l).toArray 24)).alloc (.cells (cellsB r).toArray 24)).heap.size = w.heap.size + 1 + 1 := by simp
  have HS2 : Hid (w2.heap.size = w.heap.size + 1 + 1 + 1) := by unfold Hid; rw [← hw2]; simp
  have HD2 : Hid (DAt w2 w.heap.size 0 l ∧ DAt w2 (w.heap.size + 1) 0 r) := by rw [← hw2]; exact ⟨World.rangeAt_alloc (World.rangeAt_alloc (box_dat w l _) _) _, World.rangeAt_alloc (box_rangeAt _ _ _ _ hs0) _⟩
  have HT2 : Hid (w2.there (w.heap.size + 1 + 1) 0 32) := by rw [← hw2]; exact alloc_thereAt _ _ _ 32 _ hs1 zD_size.symm
  have HB2 : Hid (Below w.heap.size w w2) := by rw [← hw2]; exact (((Below.refl _ _).alloc (Nat.le_refl _) _).alloc (by simp) _).alloc (by simp; omega) _
  have HKT : Hid (∀ wx, Below w2.heap.size w2 wx → Row wx (some ⟨w.heap.size, 0, none⟩) 32 l ∧ Row wx (some ⟨w.heap.size + 1, 0, none⟩) 32 r ∧ wx.there (w.heap.size + 1 + 1) 0 32 ∧ Below w.heap.size w wx ∧ Tab wx) := fun wx hx => by
    have s := HS2.out
    have b : Below w.heap.size w wx := HB2.out.trans (hx.mono (by omega))
    exact ⟨(HD2.out.1.below hx (by omega)).row hl, (HD2.out.2.below hx (by omega)).row hr, there_below HT2.out hx (by omega), b, Env.below G b⟩
  clear G HD2 HT2 HB2 HS2
  go_enter Tryd.func17, Tryd.ntmps17
  go_wp2_with (refine wpList_allocE (by rfl) 24 (by rfl) (cellsB zD).toArray Tryd.zeroDg (w.heap.size + 1 + 1) hs1 w2 hw2 ?_)
  clear hw2 hs0 hs1
  refine wp_region_noPanic ?_
  refine wp_region_held_drew (S := fun _ => True) (by kernel_rfl) True.intro (fun hHeld => ?_)
  try simp only [Act.put, List.setIfInBounds_toArray, List.set_cons_zero, List.set_cons_succ]
  have HBd : Hid (Below w2.heap.size w2 w2.drew) := below_drewN w2 1
  generalize w2.drew = wd at *
  refine wpAnyH_take (i := 1) (v := .slice (some ⟨w.heap.size, 0, none⟩) 32 32) (by simp only [List.getElem?_toArray, List.getElem?_cons_zero, List.getElem?_cons_succ]; rfl) (by kernel_rfl) (by kernel_rfl) (by kernel_rfl) (fun _ _ _ h => h) (Or.inl ⟨by rfl, ?_⟩) hHeld ?_
  · intro w hSw
    go_simp
  try simp only [Act.put, List.setIfInBounds_toArray, List.set_cons_zero, List.set_cons_succ]
  refine wpAnyH_take (i := 2) (v := .slice (some ⟨w.heap.size + 1, 0, none⟩) 32 32) (by simp only [List.getElem?_toArray, List.getElem?_cons_zero, List.getElem?_cons_succ]; rfl) (by kernel_rfl) (by kernel_rfl) (by kernel_rfl) (fun _ _ _ h => h) (Or.inl ⟨by rfl, ?_⟩) hHeld ?_
  · intro w hSw
    go_simp
  try simp only [Act.put, List.setIfInBounds_toArray, List.set_cons_zero, List.set_cons_succ]
  refine wpAnyH_ready (rs := [0]) (by kernel_rfl) (by simp) ?_
  refine AllReadyH.cons (by simp only [List.getElem?_toArray, List.getElem?_cons_zero, List.getElem?_cons_succ]; rfl) (fun K hK => ?_) AllReadyH.nil
  rw [if_pos (by rfl)]
  go_simp
  have hb3 : Below wd.heap.size wd (wd.alloc (.cells #[.int .u8 1] 5)) := (Below.refl _ _).alloc (Nat.le_refl _) _
  have HB3 : Hid (Below w2.heap.size w2 (wd.alloc (.cells #[.int .u8 1] 5))) := HBd.out.trans (hb3.mono HBd.out.size)
  have HR3 : Hid (Row (wd.alloc (.cells #[.int .u8 1] 5)) (some ⟨wd.heap.size, 0, none⟩) 1 [1]) := Row.lit1v wd 1 5 1 rfl
  clear hb3
  refine hK.out _ _ True.intro (fun hHeld => ?_)
  generalize wd.alloc (.cells #[.int .u8 1] 5) = w3 at *
  generalize wd.heap.size = g at *
  clear hK K
  try simp only [Act.put, List.setIfInBounds_toArray, List.set_cons_zero, List.set_cons_succ]
  refine wpAnyH_ready (rs := [3]) (by kernel_rfl) (by simp) ?_
  refine AllReadyH.cons (by simp only [List.getElem?_toArray, List.getElem?_cons_zero, List.getElem?_cons_succ]; rfl) (fun K hK => ?_) AllReadyH.nil
  rw [if_pos (by rfl)]
  go_simp
  have HB4 : Hid (Below w2.heap.size w2 (w3.alloc (.cells #[.slice (some ⟨g, 0, none⟩) 1 1, .slice (some ⟨w.heap.size, 0, none⟩) 32 32, .slice (some ⟨w.heap.size + 1, 0, none⟩) 32 32] 45))) := Below.alloc HB3.out HB3.out.size _
  have HR4 : Hid (BRows (w3.alloc (.cells #[.slice (some ⟨g, 0, none⟩) 1 1, .slice (some ⟨w.heap.size, 0, none⟩) 32 32, .slice (some ⟨w.heap.size + 1, 0, none⟩) 32 32] 45)) (some ⟨w3.heap.size, 0, none⟩) 3 [[1], l, r]) := BRows.lit3 (Nat.le_refl 1) HR3.out (Nat.le_refl 32) (HKT.out _ HB3.out).1 (Nat.le_refl 32) (HKT.out _ HB3.out).2.1
  refine hK.out _ _ True.intro (fun hHeld => ?_)
  generalize w3.alloc (.cells #[.slice (some ⟨g, 0, none⟩) 1 1, .slice (some ⟨w.heap.size, 0, none⟩) 32 32, .slice (some ⟨w.heap.size + 1, 0, none⟩) 32 32] 45) = w4 at *
  generalize w3.heap.size = g' at *
  clear HB3 HR3
  clear hK K
  try simp only [Act.put, List.setIfInBounds_toArray, List.set_cons_zero, List.set_cons_succ]
  refine wpAnyH_ready (rs := [4]) (by kernel_rfl) (by simp) ?_
  refine AllReadyH.cons (by simp only [List.getElem?_toArray, List.getElem?_cons_zero, List.getElem?_cons_succ]; rfl) (fun K hK => ?_) AllReadyH.nil
  rw [if_pos (by rfl)]
  go_simp
  refine (wsumof_any _ 3 3 [[1], l, r] w4 (HKT.out _ HB4.out).2.2.2.2 HR4.out (by simp; omega) (by omega)).mono ?_
  rintro e w5 ⟨rfl, hb5⟩
  have hE : shaL [[1], l, r].flatten = nodeT l r := by simp [nodeT]
  rw [hE]
  have HB5 : Hid (Below w2.heap.size w2 w5) := HB4.out.trans (hb5.mono HB4.out.size)
  have hlen := nodeT_length l r
  clear hb5 HB4 HR4 hE
  generalize hD : nodeT l r = D at *
  have HD : Hid (nodeT l r = D) := hD
  clear hD
  go_wp2_with fail
  refine hK.out _ _ True.intro (fun hHeld => ?_)
  clear hK K
  try simp only [Act.put, List.setIfInBounds_toArray, List.set_cons_zero, List.set_cons_succ]
  refine wpAnyH_ready (rs := [5]) (by kernel_rfl) (by simp) ?_
  refine AllReadyH.cons (by simp only [List.getElem?_toArray, List.getElem?_cons_zero, List.getElem?_cons_succ]; rfl) (fun K hK => ?_) AllReadyH.nil
  rw [if_pos (by rfl)]
  have HT5 : Hid (w5.there (w.heap.size + 1 + 1) 0 32) := (HKT.out _ HB5.out).2.2.1
  refine wp_store_mid _ _ _ rfl (w.heap.size + 1 + 1) 0 (cellsB D).toArray rfl rfl (by rw [cellsB_size, hlen]; exact HT5.out) (by rw [cellsB_size, hlen]; exact Tryd.sizeDg) (all_oneCell_toArray (cellsB_one _)) ?_
  refine hK.out _ _ True.intro (fun hHeld => ?_)
  clear hK K
  try simp only [Act.put, List.setIfInBounds_toArray, List.set_cons_zero, List.set_cons_succ]
  refine wpAnyH_done (by kernel_rfl) (NoPanic.normal ?_) _
  clear hHeld
  go_wp2_with fail
  refine bodyPost_ret (v := digestV D) (run_results_row Tryd.results17 _ _ (w.heap.size + 1 + 1) 0 (by rfl) (cellsB D) (World.rangeAt_setCells_same _ _ _ _ (by rw [cellsB_length, hlen]; exact HT5.out)) _ Tryd.underlying24 (by rfl) (by rw [cellsB_length, hlen]; exact Tryd.sizeDg)) rfl ⟨by rw [HD.out], ?_⟩
  exact below_setCells _ (by omega) _ _ _ (HKT.out _ HB5.out).2.2.2.1
end Go.Proofs.YtbpkhpkllokbhaaDoor
/- How an argument that is a digest, or a slice of digests, is opened. -/
namespace Go.Proofs.YtbpkhpkllokbhaaDoor
open Go.ChangeShapes Go.WideShapes Go.ChangeAt Go.RowKit
set_option linter.unusedVariables false
set_option linter.unusedSimpArgs false

/-- The byte that a value holds. -/
def byteOf : Value → UInt8
  | .int _ n => UInt8.ofNat n.toNat
  | _ => 0

section
variable {H : Type} {enc : TypeId × Value → H} {P : Program} {w : World} {base : Nat} {spare : Nat → Bool} {held : Bool} {t e : TypeId} {fuel : Nat}
theorem bytes_of_trod {cs : List Value} {x : DataW H × List MemPlace} (ht : P.underlying t = some (.array 32 e)) (he : P.underlying e = some (.int .u8)) (hce : P.cellsOf e = 1) (hct : P.cellsOf t = 32)
    (h : DataW.trod enc P w base spare held fuel t cs = some x) : ∃ l : List UInt8, l.length = 32 ∧ cs = cellsB l := by
  obtain ⟨xs, m, _, _, hl, hxs, hi⟩ := DataW.trod_array ht h
  rw [hct] at hl
  refine ⟨cs.map byteOf, by simp [hl], ?_⟩
  apply List.ext_getElem
  · simp [cellsB]
  · intro i h1 h2
    have hi' := hi i (by omega)
    rw [hce, Nat.mul_one, List.getElem?_eq_getElem (by omega)] at hi'
    obtain ⟨n, hn, _, hwf⟩ := DataW.trod_int he hi'
    have hb := wf_u8 hwf
    have hc : cs[i] = .int .u8 n := by
      have := congrArg List.head? hn
      simpa [List.head?_take, List.getElem?_eq_getElem h1] using this
    simp only [cellsB, List.getElem_map, hc, byteOf, UInt8.toNat_ofNat']
    congr 1
    omega
theorem open_digest {r : Reach} {b0 : Nat} {v : Value} {d : DataW H} {p : List MemPlace} (ht : P.underlying t = some (.array 32 e)) (he : P.underlying e = some (.int .u8)) (hce : P.cellsOf e = 1) (hct : P.cellsOf t = 32)
    (hv : Value.okWide P w r b0 t v) (h : DataW.Trod enc P w base spare held t v d p) : ∃ l : List UInt8, l.length = 32 ∧ v = digestV l := by
  obtain ⟨cs, rfl⟩ : ∃ cs, v = .agg cs := by
    simp only [Value.okWide, ht] at hv
    obtain ⟨cs, h1, _⟩ := hv
    exact ⟨cs, h1⟩
  obtain ⟨fuel, hf⟩ := h
  obtain ⟨l, hl, hc⟩ := bytes_of_trod ht he hce hct hf
  refine ⟨l, hl, ?_⟩
  have : cs.toList = cellsB l := hc
  show Value.agg cs = Value.agg (cellsB l).toArray
  rw [← this]
end

/-- A slice of n digests at a reads as the list ls. -/
def DRow (w : World) (a : Option Addr) (n : Nat) (ls : List (List UInt8)) : Prop :=
  ls.length = n ∧ (∀ l ∈ ls, l.length = 32) ∧ (n = 0 ∨ ∃ b o, a = some ⟨b, o, none⟩ ∧ ∀ i, i < n → DAt w b (o + 32 * i) (ls.getD i []))
theorem DRow.nil (w : World) : DRow w none 0 [] := ⟨rfl, (fun l hl => by cases hl), .inl rfl⟩
theorem DRow.len {w : World} {a : Option Addr} {n : Nat} {ls : List (List UInt8)} (h : DRow w a n ls) (i : Nat) (hi : i < n) : (ls.getD i []).length = 32 := by
  rw [List.getD_eq_getElem?_getD, List.getElem?_eq_getElem (by rw [h.1]; exact hi)]
  exact h.2.1 _ (List.getElem_mem _)
theorem DRow.below {w w' : World} {a : Option Addr} {n : Nat} {ls : List (List UInt8)} (h : DRow w a n ls) (hb : Below w.heap.size w w') : DRow w' a n ls := by
  have hlen := h.len
  obtain ⟨h1, h2, h3⟩ := h
  refine ⟨h1, h2, ?_⟩
  rcases h3 with h3 | ⟨b, o, ha, hc⟩
  · exact .inl h3
  · exact .inr ⟨b, o, ha, fun i hi => (hc i hi).below hb (cell_block ((hc i hi).cell 0 (by rw [hlen i hi]; omega)))⟩

theorem open_digests {H : Type} {enc : TypeId × Value → H} {P : Program} {w : World} {base : Nat} {held : Bool} {t e f : TypeId} {fuel : Nat} {a : Option Addr} {len cap : Nat} {d : DataW H} {p : List MemPlace}
    (ht : P.underlying t = some (.slice e)) (he : P.underlying e = some (.array 32 f)) (hf : P.underlying f = some (.int .u8)) (hcf : P.cellsOf f = 1) (hce : P.cellsOf e = 32)
    (h : DataW.trod enc P w base (fun _ => true) held fuel t [.slice a len cap] = some (d, p)) :
    ∃ ls, DRow w a len ls ∧ (len = 0 ∨ ∃ elems spare, d = .slice elems spare ∧ elems.length = len) := by
  rcases Go.Deep.open_slice ht h with ⟨hcs, _⟩ | ⟨x, l, c, m, n, D, Pl, hcs, _, hlc, hm, hmm, hx, hel⟩
  · simp at hcs
    obtain ⟨rfl, rfl, rfl⟩ := hcs
    exact ⟨[], DRow.nil w, .inl rfl⟩
  · simp at hcs
    obtain ⟨rfl, rfl, rfl⟩ := hcs
    simp only [if_true] at hmm
    subst hmm
    simp only [Prod.mk.injEq] at hx
    have each : ∀ i, i < len → ∃ q : List UInt8, q.length = 32 ∧ ∀ j, j < 32 → w.cell? ((x.add (i * 32)).add j) = some (.int .u8 (nth q j)) := by
      intro i hi
      obtain ⟨cs', hc, htr⟩ := hel i (by omega)
      obtain ⟨q, hq, rfl⟩ := bytes_of_trod he hf hcf hce htr
      refine ⟨q, hq, fun j hj => ?_⟩
      rw [hce] at hc
      have hs := World.cells?_some hc
      rw [hs.2.2 j hj, ← cellsB_at q j (by omega)]
    let ls := (List.range len).map fun i => if h : i < len then (each i h).choose else []
    have hls : ∀ i, i < len → ∃ h : i < len, ls.getD i [] = (each i h).choose := fun i hi => ⟨hi, by simp [ls, List.getD_eq_getElem?_getD, hi]⟩
    refine ⟨ls, ⟨by simp [ls], ?_, ?_⟩, .inr ⟨_, _, hx.1, by simp⟩⟩
    · intro l hl
      obtain ⟨i, hi, rfl⟩ := List.mem_map.1 hl
      have hi' := List.mem_range.1 hi
      rw [dif_pos hi']
      exact (each i hi').choose_spec.1
    · by_cases h0 : len = 0
      · exact .inl h0
      · obtain ⟨b, off, spot⟩ := x
        have hspot : spot = none := by
          obtain ⟨q, hq, hc⟩ := each 0 (by omega)
          simpa [Addr.add] using World.cell?_spot (hc 0 (by omega))
        subst hspot
        refine .inr ⟨b, off, rfl, fun i hi => ?_⟩
        obtain ⟨hi', e1⟩ := hls i hi
        rw [e1]
        have sp := (each i hi').choose_spec
        refine DAt.mk fun j hj => ?_
        have := sp.2 j (by omega)
        refine Eq.trans (congrArg w.cell? ?_) this
        rw [add_plain, add_plain, show off + 32 * i + j = off + i * 32 + j from by omega]
end Go.Proofs.YtbpkhpkllokbhaaDoor
