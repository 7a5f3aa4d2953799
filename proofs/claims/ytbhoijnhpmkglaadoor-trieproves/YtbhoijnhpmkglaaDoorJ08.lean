/- Texts of this claim, joined: Build, Wtnode, Layer, OwnE. -/
import Derived.Test.YtbhoijnhpmkglaaDoorJ07
import Derived.Test.YtbhoijnhpmkglaaDoorJ05
import Derived.Test.YtbhoijnhpmkglaaDoorJ06
import Derived.Deep.RegionHeld3
import Derived.Deep.Onto
import Derived.Deep.DeepCutAuto
import Derived.Maps.RangeWalk
import Derived.Test.YtbhoijnhpmkglaaDoorJ02
/- Slices of digests that a literal lays. -/
namespace Go.Proofs.YtbhoijnhpmkglaaDoor
open Go.RowKit
set_option linter.unusedVariables false
set_option linter.unusedSimpArgs false

theorem fold_set (off : Nat) : ∀ (l : List Value) (j : Nat) (b : Array Value), off + j + l.length ≤ b.size →
    ((l.zipIdx j).foldl (fun cs (x : Value × Nat) => cs.setIfInBounds (off + x.2) x.1) b).toList = b.toList.take (off + j) ++ l ++ b.toList.drop (off + j + l.length)
  | [], j, b, h => by simp
  | c :: r, j, b, h => by
    rw [List.zipIdx_cons, List.foldl_cons, fold_set off r (j + 1) _ (by simp; simp at h; omega)]
    simp only [Array.toList_setIfInBounds]
    have hlt : off + j < b.toList.length := by simp at h ⊢; omega
    have e1 : (b.toList.set (off + j) c).take (off + (j + 1)) = b.toList.take (off + j) ++ [c] := by
      rw [show off + (j + 1) = off + j + 1 from by omega, List.take_succ_eq_append_getElem (by simpa using hlt)]
      rw [List.take_set_of_le (Nat.le_refl _)]
      simp
    have e2 : (b.toList.set (off + j) c).drop (off + (j + 1) + r.length) = b.toList.drop (off + j + (c :: r).length) := by
      rw [List.drop_set_of_lt (by omega)]
      congr 1
      simp; omega
    rw [e1, e2]
    simp
theorem fill_digests : ∀ (ls : List (List UInt8)) (k : Nat) (b : Array Value), (∀ l ∈ ls, l.length = 32) → b.size = 32 * (k + ls.length) →
    ∃ r : Array Value, Instr.fill (fun i => some (i * 32, 32)) b ((ls.zipIdx k).map fun x => (x.2, digestV x.1)) = some r ∧ r.toList = b.toList.take (32 * k) ++ cellsB ls.flatten
  | [], k, b, _, hb => ⟨b, rfl, by simp at hb; rw [List.take_of_length_le (by simp; omega)]; simp [cellsB]⟩
  | l :: ls, k, b, hl, hb => by
    have h32 : l.length = 32 := hl l (List.mem_cons_self ..)
    have hsz : (digestV l).cells.size = 32 := by
      show (cellsB l).toArray.size = 32
      exact cells32 h32
    have hlen : (cellsB l).length = 32 := by rw [cellsB_length, h32]
    let b' := (digestV l).cells.zipIdx.foldl (fun cs (x : Value × Nat) => cs.setIfInBounds (k * 32 + x.2) x.1) b
    have hb' : b'.toList = b.toList.take (k * 32) ++ cellsB l ++ b.toList.drop (k * 32 + 32) := by
      have := fold_set (k * 32) (cellsB l) 0 b (by simp at hb; omega)
      rw [Nat.add_zero, hlen] at this
      rw [← this]
      show ((cellsB l).toArray.zipIdx.foldl _ b).toList = _
      rw [← Array.foldl_toList, Array.toList_zipIdx]
    have hbs : b'.size = b.size := by
      rw [← Array.length_toList, hb']
      simp [hlen]
      simp at hb
      omega
    obtain ⟨r, hr, hrl⟩ := fill_digests ls (k + 1) b' (fun x hx => hl x (List.mem_cons_of_mem _ hx)) (by rw [hbs, hb]; simp; omega)
    refine ⟨r, ?_, ?_⟩
    · rw [List.zipIdx_cons, List.map_cons]
      unfold Instr.fill
      simp only
      rw [if_neg (by simp only [hsz]; simp; simp at hb; omega)]
      exact hr
    · rw [hrl, hb', List.flatten_cons, cellsB_append]
      have e : 32 * (k + 1) = (b.toList.take (k * 32) ++ cellsB l).length := by simp [hlen]; simp at hb; omega
      rw [e, List.take_left, List.append_assoc, Nat.mul_comm k 32]

section
variable {P : Program}
/-- 'a literal of digests': a new row that reads as they do. -/
theorem run_buildD (w : World) (t e : TypeId) (z : Value) (i : TypeInfo) (ls : List (List UInt8)) (hls : ∀ l ∈ ls, l.length = 32) (h0 : 0 < ls.length) (hn : ls.length ≤ 10000) (ht : P.underlying t = some (.slice e)) (hi : P.info? e = some i) (hz : i.zero = some z) (hzs : z.cells.size = 32) (hsize : i.size = 32) :
    (Instr.buildSlice t ls.length ((ls.zipIdx 0).map fun x => (x.2, digestV x.1)).toArray).run P w = .ok (.slice (some ⟨w.heap.size, 0, none⟩) ls.length ls.length) (w.alloc (.cells (cellsB ls.flatten).toArray e)) := by
  obtain ⟨r, hr, hrl⟩ := fill_digests ls 0 ((Array.range (ls.length * 32)).map (z.cells[· % z.cells.size]!)) hls (by simp; omega)
  have hr' : r = (cellsB ls.flatten).toArray := by
    rw [← Array.toArray_toList (xs := r), hrl]
    simp
  subst hr'
  rw [hzs] at hr
  have hne : ¬ ls.length * 32 = 0 := by omega
  simp [Instr.buildSlice, run_underlying ht, sizeOf, typeInfo, hi, hsize, zeroValue, hz, hr, newRow, hzs, show ¬ (16777216 < ls.length * 32) by omega, hne]
/-- .. as a step of a walk, of one digest. -/
theorem wpList_build1 {w : World} {ops : Array Oper} {rest : List Oper} {o : Oper} {a : Act} {Q : Exit → Act → World → Prop} (hgd : o.guard = none) (x : Operand) (t : TypeId) (ho : o.op = .buildSlice t 1 #[(0, x)])
    (e : TypeId) (z : Value) (i : TypeInfo) (l : List UInt8) (hl : l.length = 32) (hx : a.eval x = digestV l) (ht : P.underlying t = some (.slice e)) (hi : P.info? e = some i) (hz : i.zero = some z) (hzs : z.cells.size = 32) (hsize : i.size = 32)
    (h : wpList P ops Q rest (a.put o.dst (.slice (some ⟨w.heap.size, 0, none⟩) 1 1)) (w.alloc (.cells (cellsB l).toArray e))) : wpList P ops Q (o :: rest) a w := by
  have hrun := run_buildD (P := P) w t e z i [l] (by intro q hq; rw [List.mem_singleton] at hq; rw [hq]; exact hl) (by simp) (by simp) ht hi hz hzs hsize
  simp only [List.length_singleton, List.zipIdx_cons, List.zipIdx_nil, List.map_cons, List.map_nil, List.flatten_cons, List.flatten_nil, List.append_nil] at hrun
  refine wpList_plain hgd fun K hK' => ?_
  unfold Oper.wp
  simp [execOp, ho, hx, hrun, Result.andThen]
  exact hK' _ _ h
/-- .. of two. -/
theorem wpList_build2 {w : World} {ops : Array Oper} {rest : List Oper} {o : Oper} {a : Act} {Q : Exit → Act → World → Prop} (hgd : o.guard = none) (x y : Operand) (t : TypeId) (ho : o.op = .buildSlice t 2 #[(0, x), (1, y)])
    (e : TypeId) (z : Value) (i : TypeInfo) (l r : List UInt8) (hl : l.length = 32) (hr : r.length = 32) (hx : a.eval x = digestV l) (hy : a.eval y = digestV r) (ht : P.underlying t = some (.slice e)) (hi : P.info? e = some i) (hz : i.zero = some z) (hzs : z.cells.size = 32) (hsize : i.size = 32)
    (h : wpList P ops Q rest (a.put o.dst (.slice (some ⟨w.heap.size, 0, none⟩) 2 2)) (w.alloc (.cells (cellsB (l ++ r)).toArray e))) : wpList P ops Q (o :: rest) a w := by
  have hrun := run_buildD (P := P) w t e z i [l, r] (by intro q hq; simp only [List.mem_cons, List.not_mem_nil, or_false] at hq; rcases hq with rfl | rfl <;> assumption) (by simp) (by simp) ht hi hz hzs hsize
  simp only [List.length_cons, List.length_nil, List.zipIdx_cons, List.zipIdx_nil, List.map_cons, List.map_nil, List.flatten_cons, List.flatten_nil, List.append_nil, Nat.zero_add, Nat.reduceAdd] at hrun
  refine wpList_plain hgd fun K hK' => ?_
  unfold Oper.wp
  simp [execOp, ho, hx, hy, hrun, Result.andThen]
  exact hK' _ _ h
end
theorem cells_new (w : World) (cs : List Value) (t : TypeId) (j : Nat) : (w.alloc (.cells cs.toArray t)).cell? ⟨w.heap.size, j, none⟩ = cs[j]? := by
  have h : (w.alloc (.cells cs.toArray t)).heap[w.heap.size]? = some (.cells cs.toArray t) := by
    show (w.heap.push _)[w.heap.size]? = _
    simp
  unfold World.cell?
  rw [h]
  simp
theorem DRow.lit1 (w : World) (l : List UInt8) (t : TypeId) (hl : l.length = 32) : DRow (w.alloc (.cells (cellsB l).toArray t)) (some ⟨w.heap.size, 0, none⟩) 1 [l] := by
  refine ⟨rfl, by intro q hq; rw [List.mem_singleton] at hq; rw [hq]; exact hl, .inr ⟨w.heap.size, 0, rfl, fun i hi => ?_⟩⟩
  obtain rfl : i = 0 := by omega
  exact box_dat w l t
theorem DRow.lit2 (w : World) (l r : List UInt8) (t : TypeId) (hl : l.length = 32) (hr : r.length = 32) : DRow (w.alloc (.cells (cellsB (l ++ r)).toArray t)) (some ⟨w.heap.size, 0, none⟩) 2 [l, r] := by
  refine ⟨rfl, by intro q hq; simp only [List.mem_cons, List.not_mem_nil, or_false] at hq; rcases hq with rfl | rfl <;> assumption, .inr ⟨w.heap.size, 0, rfl, fun i hi => ?_⟩⟩
  have : i = 0 ∨ i = 1 := by omega
  rcases this with rfl | rfl
  · refine DAt.mk fun j hj => ?_
    have hj' : j < l.length := hj
    rw [show 0 + 32 * 0 + j = j from by omega, cells_new, cellsB_append, List.getElem?_append_left (by rw [cellsB_length]; exact hj'), cellsB_at l j hj']
    rfl
  · refine DAt.mk fun j hj => ?_
    have hj' : j < r.length := hj
    rw [show 0 + 32 * 1 + j = 32 + j from by omega, cells_new, cellsB_append, List.getElem?_append_right (by rw [cellsB_length]; omega), cellsB_length, hl, show 32 + j - 32 = j from by omega, cellsB_at r j hj']
    rfl
end Go.Proofs.YtbhoijnhpmkglaaDoor
/- The contracts of trie.isKey, Node and Leaf (written by gwtrie.py). -/
namespace Go.Proofs.YtbhoijnhpmkglaaDoor
open Go.RowKit
set_option linter.unusedVariables false
set_option linter.unusedSimpArgs false

set_option maxRecDepth 100000 in
set_option maxHeartbeats 1000000 in
theorem wiskey_any (k : Int) (w : World) (h1 : -9223372036854775808 ≤ k) (h2 : k ≤ 9223372036854775807) :
    Calls Tryd.prog 31 #[.int .i64 k] w fun e w' => e = .returned (.bool (isKey k)) ∧ w' = w := by
  by_cases c : 0 ≤ k
  · by_cases d : k < 4294967296
    · have HE : Hid (isKey k = true) := decide_eq_true ⟨c, by omega⟩
      go_enter Tryd.func31, Tryd.ntmps31
      go_wp2_with fail
      go_ret
      exact ⟨by rw [HE.out]; rfl, rfl⟩
    · have HE : Hid (isKey k = false) := decide_eq_false (fun q => d (by have := q.2; omega))
      go_enter Tryd.func31, Tryd.ntmps31
      go_wp2_with fail
      go_ret
      exact ⟨by rw [HE.out]; rfl, rfl⟩
  · have HE : Hid (isKey k = false) := decide_eq_false (fun q => c q.1)
    go_enter Tryd.func31, Tryd.ntmps31
    go_wp2_with fail
    go_ret
    exact ⟨by rw [HE.out]; rfl, rfl⟩
set_option maxRecDepth 100000 in
set_option maxHeartbeats 1000000 in
theorem wtrie_node (l r : List UInt8) (w : World) (G : Env w) (hl : l.length = 32) (hr : r.length = 32) :
    Calls Tryd.prog 19 #[digestV l, digestV r] w fun q w' => q = .returned (digestV (mnode l r)) ∧ Below w.heap.size w w' := by
  obtain ⟨w2, hw2⟩ : ∃ w2, ((w.alloc (.cells (cellsB l).toArray 24)).alloc (.cells (cellsB r).toArray 24)).alloc (.cells (cellsB zD).toArray 24) = w2 := ⟨_, rfl⟩
  have hs0 : (w.alloc (.cells (cellsB l).toArray 24)).heap.size = w.heap.size + 1 := by simp
  have hs1 : ((w.alloc (.cells (cellsB l).toArray 24)).alloc (.cells (cellsB r).toArray 24)).heap.size = w.heap.size + 1 + 1 := by simp
  have hs2 : w2.heap.size = w.heap.size + 1 + 1 + 1 := by rw [← hw2]; simp
  obtain ⟨w3, hw3⟩ : ∃ w3, w2.alloc (.cells (cellsB zD).toArray 24) = w3 := ⟨_, rfl⟩
  have hn3 := new_var hs2 hw3
  have HS3 : Hid (w3.heap.size = w.heap.size + 1 + 1 + 1 + 1) := by unfold Hid; rw [← hw3]; simp [hs2]
  have hd2 : DAt w2 w.heap.size 0 l ∧ DAt w2 (w.heap.size + 1) 0 r := by rw [← hw2]; exact ⟨World.rangeAt_alloc (World.rangeAt_alloc (box_dat w l _) _) _, World.rangeAt_alloc (box_rangeAt _ _ _ _ hs0) _⟩
  have ht2 : w2.there (w.heap.size + 1 + 1) 0 32 := by rw [← hw2]; exact alloc_thereAt _ _ _ 32 _ hs1 zD_size.symm
  have hb2 : Below w.heap.size w w2 := by rw [← hw2]; exact (((Below.refl _ _).alloc (Nat.le_refl _) _).alloc (by simp) _).alloc (by simp; omega) _
  have HKT : Hid (∀ wx, Below w3.heap.size w3 wx → DAt wx w.heap.size 0 l ∧ DAt wx (w.heap.size + 1) 0 r ∧ DAt wx (w.heap.size + 1 + 1 + 1) 0 zD ∧ wx.there (w.heap.size + 1 + 1) 0 32 ∧ Below w.heap.size w wx ∧ Tab wx) := fun wx hx => by
    have s := HS3.out
    have b23 : Below w2.heap.size w2 wx := hn3.2.2.trans (hx.mono (by omega))
    have b : Below w.heap.size w wx := hb2.trans (b23.mono (by omega))
    exact ⟨hd2.1.below b23 (by omega), hd2.2.below b23 (by omega), hn3.2.1.below hx (by omega), there_below ht2 b23 (by omega), b, Env.below G b⟩
  have HD3 : Hid (DAt w3 w.heap.size 0 l ∧ DAt w3 (w.heap.size + 1) 0 r ∧ DAt w3 (w.heap.size + 1 + 1 + 1) 0 zD) := by have := HKT.out w3 (Below.refl _ _); exact ⟨this.1, this.2.1, this.2.2.1⟩
  have HT3 : Hid (w3.there (w.heap.size + 1 + 1) 0 32) := (HKT.out w3 (Below.refl _ _)).2.2.2.1
  clear G hd2 ht2 hb2 HS3 hn3
  have lZ : zD.length = 32 := rfl
  have hbu : Tryd.prog.built 24 [] = some (cellsB zD).toArray := by kernel_rfl
  obtain ⟨Z, hZ⟩ : ∃ Z, zD = Z := ⟨_, rfl⟩
  have HZ : Hid (zT = Z) := hZ
  clear hbu
  go_enter Tryd.func19, Tryd.ntmps19
  go_upto_region 2 with (first
    | (refine wpList_allocD (by rfl) (by rfl) (w.heap.size + 1 + 1) hs1 w2 hw2 ?_)
    | (refine wpList_allocD (by rfl) (by rfl) (w.heap.size + 1 + 1 + 1) hs2 w3 hw3 ?_))
  clear hw2 hs0 hs1 hw3 hs2
  rw [hZ] at lZ
  rw [hZ] at HD3 HKT
  clear hZ
  try simp only [Act.put, List.setIfInBounds_toArray, List.set_cons_zero, List.set_cons_succ]
  by_cases cl : l = Z
  · have HL : Hid (decide (l = Z) = true) := decide_eq_true cl
    by_cases cr : r = Z
    · have HR : Hid (decide (r = Z) = true) := decide_eq_true cr
      have HM : Hid (mnode l r = Z) := by unfold Hid; rw [mnode, if_pos ⟨by rw [cl, ← HZ.out], by rw [cr, ← HZ.out]⟩]; exact HZ.out
      clear cl cr
      go_wp2_with (first
        | (refine wpList_loadD (by rfl) (.tmp 2) (by rfl) (w.heap.size) l (by rfl) hl HD3.out.1 ?_)
        | (refine wpList_loadD (by rfl) (.tmp 5) (by rfl) (w.heap.size + 1 + 1 + 1) Z (by rfl) lZ HD3.out.2.2 ?_)
        | (refine wpList_loadDG (by rfl) (.tmp 3) (by rfl) (w.heap.size + 1) r (by rfl) hr HD3.out.2.1 ?_)
        | (refine wpList_loadDG (by rfl) (.tmp 5) (by rfl) (w.heap.size + 1 + 1 + 1) Z (by rfl) lZ HD3.out.2.2 ?_)
        | (refine wpList_eqD (.tmp 6) (.tmp 7) (by rfl) (by rfl) l Z hl lZ (by rfl) (by rfl) true HL.out ?_)
        | (refine wpList_eqD (.tmp 10) (.tmp 11) (by rfl) (by rfl) r Z hr lZ (by rfl) (by rfl) true HR.out ?_)
        | (refine wpList_store_mid (by rfl) 24 (.tmp 4) (.tmp 14) (by rfl) (w.heap.size + 1 + 1) 0 (cellsB Z).toArray (by rfl) (by rfl) (by rw [cellsB_size, lZ]; exact HT3.out) (by rw [cellsB_size, lZ]; exact Tryd.sizeDg) (all_oneCell_toArray (cellsB_one _)) ?_))
      refine bodyPost_ret (v := digestV Z) (run_results_row Tryd.results19 _ _ (w.heap.size + 1 + 1) 0 (by rfl) (cellsB Z) (World.rangeAt_setCells_same _ _ _ _ (by rw [cellsB_length, lZ]; exact HT3.out)) _ Tryd.underlying24 (by rfl) (by rw [cellsB_length, lZ]; exact Tryd.sizeDg)) rfl ⟨by rw [HM.out], ?_⟩
      exact below_setCells _ (by omega) _ _ _ (HKT.out _ (Below.refl _ _)).2.2.2.2.1
    · have HR : Hid (decide (r = Z) = false) := decide_eq_false cr
      obtain ⟨D, hD⟩ : ∃ D, mnode l r = D := ⟨_, rfl⟩
      have HD : Hid (mnode l r = D) := hD
      have hlen : D.length = 32 := by rw [← hD]; exact mnode_length l r
      have HE : Hid (shaL [[10], l, r].flatten = D) := by unfold Hid; rw [← hD, mnode, if_neg (fun q => cr (by rw [← HZ.out]; exact q.2))]; simp
      clear cl cr
      go_upto_region 4 with (first
        | (refine wpList_loadD (by rfl) (.tmp 2) (by rfl) (w.heap.size) l (by rfl) hl HD3.out.1 ?_)
        | (refine wpList_loadD (by rfl) (.tmp 5) (by rfl) (w.heap.size + 1 + 1 + 1) Z (by rfl) lZ HD3.out.2.2 ?_)
        | (refine wpList_loadDG (by rfl) (.tmp 3) (by rfl) (w.heap.size + 1) r (by rfl) hr HD3.out.2.1 ?_)
        | (refine wpList_loadDG (by rfl) (.tmp 5) (by rfl) (w.heap.size + 1 + 1 + 1) Z (by rfl) lZ HD3.out.2.2 ?_)
        | (refine wpList_eqD (.tmp 6) (.tmp 7) (by rfl) (by rfl) l Z hl lZ (by rfl) (by rfl) true HL.out ?_)
        | (refine wpList_eqD (.tmp 10) (.tmp 11) (by rfl) (by rfl) r Z hr lZ (by rfl) (by rfl) false HR.out ?_))
      try simp only [Act.put, List.setIfInBounds_toArray, List.set_cons_zero, List.set_cons_succ]
      clear HD3 HT3 HL HR
      refine wp_region_noPanic ?_
      refine wp_region_held_drew (S := fun _ => True) (by kernel_rfl) True.intro (fun hHeld => ?_)
      try simp only [Act.put, List.setIfInBounds_toArray, List.set_cons_zero, List.set_cons_succ]
      have HBd : Hid (Below w3.heap.size w3 w3.drew) := below_drewN w3 1
      generalize w3.drew = wd at *
      refine wpAnyH_take (i := 1) (v := .slice (some ⟨w.heap.size, 0, none⟩) 32 32) (by simp only [List.getElem?_toArray, List.getElem?_cons_zero, List.getElem?_cons_succ]; rfl) (by kernel_rfl) (by kernel_rfl) (by kernel_rfl) (fun _ _ _ h => h) (Or.inl ⟨by rfl, ?_⟩) hHeld ?_
      · intro w hSw
        go_simp
      try simp only [Act.put, List.setIfInBounds_toArray, List.set_cons_zero, List.set_cons_succ]
      refine wpAnyH_take (i := 2) (v := .slice (some ⟨w.heap.size + 1, 0, none⟩) 32 32) (by simp only [List.getElem?_toArray, List.getElem?_cons_zero, List.getElem?_cons_succ]; rfl) (by kernel_rfl) (by kernel_rfl) (by kernel_rfl) (fun _ _ _ h => h) (Or.inl ⟨by rfl, ?_⟩) hHeld ?_
      · intro w hSw
        go_simp
      try simp only [Act.put, List.setIfInBounds_toArray, List.set_cons_zero, List.set_cons_succ]
      refine wpAnyH_ready (rs := [0]) (by kernel_rfl) (by simp) ?_
      refine AllReadyH.cons (by simp only [List.getElem?_toArray, List.getElem?_cons_zero, List.getElem?_cons_succ]; rfl) (fun K hK => ?_) AllReadyH.nil
      rw [if_pos (by rfl)]
      go_simp
      have hb3 : Below wd.heap.size wd (wd.alloc (.cells #[.int .u8 10] 5)) := (Below.refl _ _).alloc (Nat.le_refl _) _
      have HB3 : Hid (Below w3.heap.size w3 (wd.alloc (.cells #[.int .u8 10] 5))) := HBd.out.trans (hb3.mono HBd.out.size)
      have HR3 : Hid (Row (wd.alloc (.cells #[.int .u8 10] 5)) (some ⟨wd.heap.size, 0, none⟩) 1 [10]) := Row.lit1v wd 10 5 10 rfl
      clear hb3
      refine hK.out _ _ True.intro (fun hHeld => ?_)
      generalize wd.alloc (.cells #[.int .u8 10] 5) = w4 at *
      generalize wd.heap.size = g at *
      clear hK K
      try simp only [Act.put, List.setIfInBounds_toArray, List.set_cons_zero, List.set_cons_succ]
      refine wpAnyH_ready (rs := [3]) (by kernel_rfl) (by simp) ?_
      refine AllReadyH.cons (by simp only [List.getElem?_toArray, List.getElem?_cons_zero, List.getElem?_cons_succ]; rfl) (fun K hK => ?_) AllReadyH.nil
      rw [if_pos (by rfl)]
      go_simp
      have HB4 : Hid (Below w3.heap.size w3 (w4.alloc (.cells #[.slice (some ⟨g, 0, none⟩) 1 1, .slice (some ⟨w.heap.size, 0, none⟩) 32 32, .slice (some ⟨w.heap.size + 1, 0, none⟩) 32 32] 65))) := Below.alloc HB3.out HB3.out.size _
      have HR4 : Hid (BRows (w4.alloc (.cells #[.slice (some ⟨g, 0, none⟩) 1 1, .slice (some ⟨w.heap.size, 0, none⟩) 32 32, .slice (some ⟨w.heap.size + 1, 0, none⟩) 32 32] 65)) (some ⟨w4.heap.size, 0, none⟩) 3 [[10], l, r]) := BRows.lit3 (Nat.le_refl 1) HR3.out (Nat.le_refl 32) ((HKT.out _ HB3.out).1.row hl) (Nat.le_refl 32) ((HKT.out _ HB3.out).2.1.row hr)
      refine hK.out _ _ True.intro (fun hHeld => ?_)
      generalize w4.alloc (.cells #[.slice (some ⟨g, 0, none⟩) 1 1, .slice (some ⟨w.heap.size, 0, none⟩) 32 32, .slice (some ⟨w.heap.size + 1, 0, none⟩) 32 32] 65) = w5 at *
      generalize w4.heap.size = g' at *
      clear HB3 HR3
      clear hK K
      try simp only [Act.put, List.setIfInBounds_toArray, List.set_cons_zero, List.set_cons_succ]
      refine wpAnyH_ready (rs := [4]) (by kernel_rfl) (by simp) ?_
      refine AllReadyH.cons (by simp only [List.getElem?_toArray, List.getElem?_cons_zero, List.getElem?_cons_succ]; rfl) (fun K hK => ?_) AllReadyH.nil
      rw [if_pos (by rfl)]
      go_simp
      refine (wsumof_any _ 3 3 [[10], l, r] w5 (HKT.out _ HB4.out).2.2.2.2.2 HR4.out (by simp; omega) (by omega)).mono ?_
      rintro e w6 ⟨rfl, hb5⟩
      rw [HE.out]
      have HB5 : Hid (Below w3.heap.size w3 w6) := HB4.out.trans (hb5.mono HB4.out.size)
      clear hb5 HB4 HR4
      go_wp2_with fail
      refine hK.out _ _ True.intro (fun hHeld => ?_)
      clear hK K
      try simp only [Act.put, List.setIfInBounds_toArray, List.set_cons_zero, List.set_cons_succ]
      refine wpAnyH_ready (rs := [5]) (by kernel_rfl) (by simp) ?_
      refine AllReadyH.cons (by simp only [List.getElem?_toArray, List.getElem?_cons_zero, List.getElem?_cons_succ]; rfl) (fun K hK => ?_) AllReadyH.nil
      rw [if_pos (by rfl)]
      have HT5 : Hid (w6.there (w.heap.size + 1 + 1) 0 32) := (HKT.out _ HB5.out).2.2.2.1
      refine wp_store_mid _ _ _ rfl (w.heap.size + 1 + 1) 0 (cellsB D).toArray rfl rfl (by rw [cellsB_size, hlen]; exact HT5.out) (by rw [cellsB_size, hlen]; exact Tryd.sizeDg) (all_oneCell_toArray (cellsB_one _)) ?_
      refine hK.out _ _ True.intro (fun hHeld => ?_)
      clear hK K
      try simp only [Act.put, List.setIfInBounds_toArray, List.set_cons_zero, List.set_cons_succ]
      refine wpAnyH_done (by kernel_rfl) (NoPanic.normal ?_) _
      clear hHeld
      go_wp2_with fail
      refine bodyPost_ret (v := digestV D) (run_results_row Tryd.results19 _ _ (w.heap.size + 1 + 1) 0 (by rfl) (cellsB D) (World.rangeAt_setCells_same _ _ _ _ (by rw [cellsB_length, hlen]; exact HT5.out)) _ Tryd.underlying24 (by rfl) (by rw [cellsB_length, hlen]; exact Tryd.sizeDg)) rfl ⟨by rw [HD.out], ?_⟩
      exact below_setCells _ (by omega) _ _ _ (HKT.out _ HB5.out).2.2.2.2.1
  · have HL : Hid (decide (l = Z) = false) := decide_eq_false cl
    obtain ⟨D, hD⟩ : ∃ D, mnode l r = D := ⟨_, rfl⟩
    have HD : Hid (mnode l r = D) := hD
    have hlen : D.length = 32 := by rw [← hD]; exact mnode_length l r
    have HE : Hid (shaL [[10], l, r].flatten = D) := by unfold Hid; rw [← hD, mnode, if_neg (fun q => cl (by rw [← HZ.out]; exact q.1))]; simp
    clear cl
    go_upto_region 4 with (first
      | (refine wpList_loadD (by rfl) (.tmp 2) (by rfl) (w.heap.size) l (by rfl) hl HD3.out.1 ?_)
      | (refine wpList_loadD (by rfl) (.tmp 5) (by rfl) (w.heap.size + 1 + 1 + 1) Z (by rfl) lZ HD3.out.2.2 ?_)
      | (refine wpList_loadDG (by rfl) (.tmp 3) (by rfl) (w.heap.size + 1) r (by rfl) hr HD3.out.2.1 ?_)
      | (refine wpList_loadDG (by rfl) (.tmp 5) (by rfl) (w.heap.size + 1 + 1 + 1) Z (by rfl) lZ HD3.out.2.2 ?_)
      | (refine wpList_eqD (.tmp 6) (.tmp 7) (by rfl) (by rfl) l Z hl lZ (by rfl) (by rfl) false HL.out ?_))
    try simp only [Act.put, List.setIfInBounds_toArray, List.set_cons_zero, List.set_cons_succ]
    clear HD3 HT3 HL
    refine wp_region_noPanic ?_
    refine wp_region_held_drew (S := fun _ => True) (by kernel_rfl) True.intro (fun hHeld => ?_)
    try simp only [Act.put, List.setIfInBounds_toArray, List.set_cons_zero, List.set_cons_succ]
    have HBd : Hid (Below w3.heap.size w3 w3.drew) := below_drewN w3 1
    generalize w3.drew = wd at *
    refine wpAnyH_take (i := 1) (v := .slice (some ⟨w.heap.size, 0, none⟩) 32 32) (by simp only [List.getElem?_toArray, List.getElem?_cons_zero, List.getElem?_cons_succ]; rfl) (by kernel_rfl) (by kernel_rfl) (by kernel_rfl) (fun _ _ _ h => h) (Or.inl ⟨by rfl, ?_⟩) hHeld ?_
    · intro w hSw
      go_simp
    try simp only [Act.put, List.setIfInBounds_toArray, List.set_cons_zero, List.set_cons_succ]
    refine wpAnyH_take (i := 2) (v := .slice (some ⟨w.heap.size + 1, 0, none⟩) 32 32) (by simp only [List.getElem?_toArray, List.getElem?_cons_zero, List.getElem?_cons_succ]; rfl) (by kernel_rfl) (by kernel_rfl) (by kernel_rfl) (fun _ _ _ h => h) (Or.inl ⟨by rfl, ?_⟩) hHeld ?_
    · intro w hSw
      go_simp
    try simp only [Act.put, List.setIfInBounds_toArray, List.set_cons_zero, List.set_cons_succ]
    refine wpAnyH_ready (rs := [0]) (by kernel_rfl) (by simp) ?_
    refine AllReadyH.cons (by simp only [List.getElem?_toArray, List.getElem?_cons_zero, List.getElem?_cons_succ]; rfl) (fun K hK => ?_) AllReadyH.nil
    rw [if_pos (by rfl)]
    go_simp
    have hb3 : Below wd.heap.size wd (wd.alloc (.cells #[.int .u8 10] 5)) := (Below.refl _ _).alloc (Nat.le_refl _) _
    have HB3 : Hid (Below w3.heap.size w3 (wd.alloc (.cells #[.int .u8 10] 5))) := HBd.out.trans (hb3.mono HBd.out.size)
    have HR3 : Hid (Row (wd.alloc (.cells #[.int .u8 10] 5)) (some ⟨wd.heap.size, 0, none⟩) 1 [10]) := Row.lit1v wd 10 5 10 rfl
    clear hb3
    refine hK.out _ _ True.intro (fun hHeld => ?_)
    generalize wd.alloc (.cells #[.int .u8 10] 5) = w4 at *
    generalize wd.heap.size = g at *
    clear hK K
    try simp only [Act.put, List.setIfInBounds_toArray, List.set_cons_zero, List.set_cons_succ]
    refine wpAnyH_ready (rs := [3]) (by kernel_rfl) (by simp) ?_
    refine AllReadyH.cons (by simp only [List.getElem?_toArray, List.getElem?_cons_zero, List.getElem?_cons_succ]; rfl) (fun K hK => ?_) AllReadyH.nil
    rw [if_pos (by rfl)]
    go_simp
    have HB4 : Hid (Below w3.heap.size w3 (w4.alloc (.cells #[.slice (some ⟨g, 0, none⟩) 1 1, .slice (some ⟨w.heap.size, 0, none⟩) 32 32, .slice (some ⟨w.heap.size + 1, 0, none⟩) 32 32] 65))) := Below.alloc HB3.out HB3.out.size _
    have HR4 : Hid (BRows (w4.alloc (.cells #[.slice (some ⟨g, 0, none⟩) 1 1, .slice (some ⟨w.heap.size, 0, none⟩) 32 32, .slice (some ⟨w.heap.size + 1, 0, none⟩) 32 32] 65)) (some ⟨w4.heap.size, 0, none⟩) 3 [[10], l, r]) := BRows.lit3 (Nat.le_refl 1) HR3.out (Nat.le_refl 32) ((HKT.out _ HB3.out).1.row hl) (Nat.le_refl 32) ((HKT.out _ HB3.out).2.1.row hr)
    refine hK.out _ _ True.intro (fun hHeld => ?_)
    generalize w4.alloc (.cells #[.slice (some ⟨g, 0, none⟩) 1 1, .slice (some ⟨w.heap.size, 0, none⟩) 32 32, .slice (some ⟨w.heap.size + 1, 0, none⟩) 32 32] 65) = w5 at *
    generalize w4.heap.size = g' at *
    clear HB3 HR3
    clear hK K
    try simp only [Act.put, List.setIfInBounds_toArray, List.set_cons_zero, List.set_cons_succ]
    refine wpAnyH_ready (rs := [4]) (by kernel_rfl) (by simp) ?_
    refine AllReadyH.cons (by simp only [List.getElem?_toArray, List.getElem?_cons_zero, List.getElem?_cons_succ]; rfl) (fun K hK => ?_) AllReadyH.nil
    rw [if_pos (by rfl)]
    go_simp
    refine (wsumof_any _ 3 3 [[10], l, r] w5 (HKT.out _ HB4.out).2.2.2.2.2 HR4.out (by simp; omega) (by omega)).mono ?_
    rintro e w6 ⟨rfl, hb5⟩
    rw [HE.out]
    have HB5 : Hid (Below w3.heap.size w3 w6) := HB4.out.trans (hb5.mono HB4.out.size)
    clear hb5 HB4 HR4
    go_wp2_with fail
    refine hK.out _ _ True.intro (fun hHeld => ?_)
    clear hK K
    try simp only [Act.put, List.setIfInBounds_toArray, List.set_cons_zero, List.set_cons_succ]
    refine wpAnyH_ready (rs := [5]) (by kernel_rfl) (by simp) ?_
    refine AllReadyH.cons (by simp only [List.getElem?_toArray, List.getElem?_cons_zero, List.getElem?_cons_succ]; rfl) (fun K hK => ?_) AllReadyH.nil
    rw [if_pos (by rfl)]
    have HT5 : Hid (w6.there (w.heap.size + 1 + 1) 0 32) := (HKT.out _ HB5.out).2.2.2.1
    refine wp_store_mid _ _ _ rfl (w.heap.size + 1 + 1) 0 (cellsB D).toArray rfl rfl (by rw [cellsB_size, hlen]; exact HT5.out) (by rw [cellsB_size, hlen]; exact Tryd.sizeDg) (all_oneCell_toArray (cellsB_one _)) ?_
    refine hK.out _ _ True.intro (fun hHeld => ?_)
    clear hK K
    try simp only [Act.put, List.setIfInBounds_toArray, List.set_cons_zero, List.set_cons_succ]
    refine wpAnyH_done (by kernel_rfl) (NoPanic.normal ?_) _
    clear hHeld
    go_wp2_with fail
    refine bodyPost_ret (v := digestV D) (run_results_row Tryd.results19 _ _ (w.heap.size + 1 + 1) 0 (by rfl) (cellsB D) (World.rangeAt_setCells_same _ _ _ _ (by rw [cellsB_length, hlen]; exact HT5.out)) _ Tryd.underlying24 (by rfl) (by rw [cellsB_length, hlen]; exact Tryd.sizeDg)) rfl ⟨by rw [HD.out], ?_⟩
    exact below_setCells _ (by omega) _ _ _ (HKT.out _ HB5.out).2.2.2.2.1
theorem DAt.of_ent {w : World} {b o : Nat} {e : Ent} (h : w.rangeAt b o (entC e)) : DAt w b (o + 1) e.2 := fun j v hj => by
  have := h (j + 1) v (by unfold entC; rw [List.getElem?_cons_succ]; exact hj)
  rwa [show o + (j + 1) = o + 1 + j by omega] at this
set_option maxRecDepth 100000 in
set_option maxHeartbeats 1000000 in
theorem wtrie_leaf (e : Ent) (w : World) (G : Env w) (he : okE e) (hk : isKey e.1 = true) :
    Calls Tryd.prog 18 #[entV e] w fun r w' => r = .returned (.tuple #[digestV (leafE e), .nilIface]) ∧ Below w.heap.size w w' := by
  obtain ⟨w2, hw2⟩ : ∃ w2, (w.alloc (.cells (entC e).toArray 26)).alloc (.cells (cellsB zD).toArray 24) = w2 := ⟨_, rfl⟩
  have hs1 : (w.alloc (.cells (entC e).toArray 26)).heap.size = w.heap.size + 1 := by simp
  have HS2 : Hid (w2.heap.size = w.heap.size + 1 + 1) := by unfold Hid; rw [← hw2]; simp
  have hr2 : w2.rangeAt w.heap.size 0 (entC e) := by
    rw [← hw2]
    refine World.rangeAt_alloc (fun j v hj => ?_) _
    rw [Nat.zero_add, cells_new]
    exact hj
  have ht2 : w2.there (w.heap.size + 1) 0 32 := by rw [← hw2]; exact alloc_thereAt _ _ _ 32 _ hs1 zD_size.symm
  have hb2 : Below w.heap.size w w2 := by rw [← hw2]; exact ((Below.refl _ _).alloc (Nat.le_refl _) _).alloc (by simp) _
  have HK : Hid (∀ wx, Below w2.heap.size w2 wx → DAt wx w.heap.size 1 e.2 ∧ wx.there (w.heap.size + 1) 0 32 ∧ Below w.heap.size w wx ∧ Tab wx) := fun wx hx => by
    have s := HS2.out
    have b : Below w.heap.size w wx := hb2.trans (hx.mono (by omega))
    exact ⟨DAt.of_ent (range_below hr2 hx (by omega)), there_below ht2 hx (by omega), b, Env.below G b⟩
  have k0 : w2.cell? ⟨w.heap.size, 0, none⟩ = some (.int .i64 e.1) := hr2 0 _ rfl
  have lV := he.1
  have k1 := he.2.1
  have k2 := he.2.2
  clear hr2 ht2 hb2 he G
  have hkk := of_decide_eq_true hk
  have HPK : Hid (putOk e.1 (4 : Nat) = true) := decide_eq_true ⟨by omega, by omega, hkk.1, by show e.1 < 4294967296; have := hkk.2; omega⟩
  have HLP : Hid ((putL e.1 4).length = 4) := putL_length _ _
  have HE : Hid (leafE e = shaL (9 :: (putL e.1 4 ++ e.2))) := rfl
  clear hk hkk
  obtain ⟨k, V⟩ := e
  generalize hPL : putL k 4 = PL at *
  have HPL : Hid (putL k 4 = PL) := hPL
  clear hPL
  simp only at lV k0 k1 k2 
  go_enter Tryd.func18, Tryd.ntmps18
  go_wp2_with (refine wpList_allocD (by rfl) (by rfl) (w.heap.size + 1) hs1 w2 hw2 ?_)
  refine (put_some k 4 w2 k2 HPK.out).mono ?_
  rintro r w3 ⟨⟨g3, rfl, hg3, r3⟩, hb3⟩
  have HB3 : Hid (Below w2.heap.size w2 w3) := hb3
  have HR3 : Hid (Row w3 (some ⟨g3, 0, none⟩) 4 PL) := by rw [← HPL.out]; exact r3
  clear hw2 hs1 k0 hb3 r3 hg3
  obtain ⟨w4, hw4⟩ : ∃ w4, w3.alloc (.cells #[.int .u8 9] 5) = w4 := ⟨_, rfl⟩
  obtain ⟨w5, hw5⟩ : ∃ w5, w4.alloc (.cells #[.slice (some ⟨w3.heap.size, 0, none⟩) 1 1, .slice (some ⟨g3, 0, none⟩) 4 4, .slice (some ⟨w.heap.size, 1, none⟩) 32 32] 65) = w5 := ⟨_, rfl⟩
  have hb34 : Below w3.heap.size w3 w4 := by rw [← hw4]; exact (Below.refl _ _).alloc (Nat.le_refl _) _
  have HB4 : Hid (Below w2.heap.size w2 w4) := HB3.out.trans (hb34.mono HB3.out.size)
  have hb45 : Below w4.heap.size w4 w5 := by rw [← hw5]; exact (Below.refl _ _).alloc (Nat.le_refl _) _
  have HB5 : Hid (Below w2.heap.size w2 w5) := HB4.out.trans (hb45.mono HB4.out.size)
  have hrow : Row w4 (some ⟨w3.heap.size, 0, none⟩) 1 [9] := by rw [← hw4]; exact Row.lit1v w3 9 5 9 rfl
  have HS4 : Hid (w4.heap.size = w3.heap.size + 1) := by unfold Hid; rw [← hw4]; simp
  have HR5 : Hid (BRows w5 (some ⟨w3.heap.size + 1, 0, none⟩) 3 [[9], PL, V]) := by
    rw [← hw5, ← HS4.out]
    exact BRows.lit3 (Nat.le_refl 1) hrow (Nat.le_refl 4) (HR3.out.below hb34) (Nat.le_refl 32) ((HK.out _ HB4.out).1.row lV)
  have HW5 : Hid ((w3.alloc (.cells #[.int .u8 9] 5)).alloc (.cells #[.slice (some ⟨w3.heap.size, 0, none⟩) 1 1, .slice (some ⟨g3, 0, none⟩) 4 4, .slice (some ⟨w.heap.size, 1, none⟩) 32 32] 65) = w5) := by unfold Hid; rw [hw4]; exact hw5
  clear hb34 hb45 hrow HS4 hw4 hw5 HR3 HB4
  go_wp2_with fail
  rw [HW5.out]
  refine (wsumof_any _ 3 3 [[9], PL, V] w5 (HK.out _ HB5.out).2.2.2 HR5.out (by simp [lV, HLP.out]) (by omega)).mono ?_
  rintro e w6 ⟨rfl, hb6⟩
  have HB6 : Hid (Below w2.heap.size w2 w6) := HB5.out.trans (hb6.mono HB5.out.size)
  have hE : shaL [[9], PL, V].flatten = leafE (k, V) := by rw [HE.out]; simp
  rw [hE]
  obtain ⟨D, hD⟩ : ∃ D, leafE (k, V) = D := ⟨_, rfl⟩
  have HD : Hid (leafE (k, V) = D) := hD
  have hlen : D.length = 32 := by rw [← hD]; exact leafE_length _
  rw [hD]
  have HT6 : Hid (w6.there (w.heap.size + 1) 0 32) := (HK.out _ HB6.out).2.1
  clear hb6 hE hD HB5 HR5 HW5 HE
  go_wp2_with (refine wpList_store_mid (by rfl) 24 (.tmp 2) (.tmp 21) (by rfl) (w.heap.size + 1) 0 (cellsB D).toArray (by rfl) (by rfl) (by rw [cellsB_size, hlen]; exact HT6.out) (by rw [cellsB_size, hlen]; exact Tryd.sizeDg) (all_oneCell_toArray (cellsB_one _)) ?_)
  refine bodyPost_ret (v := .tuple #[digestV D, .nilIface]) (run_results_row2 Tryd.results18 _ _ (w.heap.size + 1) 0 (by rfl) _ (by rfl) (cellsB D) (World.rangeAt_setCells_same _ _ _ _ (by rw [cellsB_length, hlen]; exact HT6.out)) _ Tryd.underlying24 (by rfl) (by rw [cellsB_length, hlen]; exact Tryd.sizeDg)) rfl ⟨by rw [HD.out], ?_⟩
  exact below_setCells _ (by omega) _ _ _ (HK.out _ HB6.out).2.2.1
set_option maxRecDepth 100000 in
set_option maxHeartbeats 1000000 in
theorem wtrie_leafout (e : Ent) (w : World) (G : Env w) (he : okE e) (hk : isKey e.1 = false) :
    Calls Tryd.prog 18 #[entV e] w fun r w' => r = .returned (.tuple #[digestV zT, .iface 27 (.int .i64 2)]) ∧ Below w.heap.size w w' := by
  obtain ⟨w2, hw2⟩ : ∃ w2, (w.alloc (.cells (entC e).toArray 26)).alloc (.cells (cellsB zD).toArray 24) = w2 := ⟨_, rfl⟩
  have hs1 : (w.alloc (.cells (entC e).toArray 26)).heap.size = w.heap.size + 1 := by simp
  have HS2 : Hid (w2.heap.size = w.heap.size + 1 + 1) := by unfold Hid; rw [← hw2]; simp
  have hr2 : w2.rangeAt w.heap.size 0 (entC e) := by
    rw [← hw2]
    refine World.rangeAt_alloc (fun j v hj => ?_) _
    rw [Nat.zero_add, cells_new]
    exact hj
  have ht2 : w2.there (w.heap.size + 1) 0 32 := by rw [← hw2]; exact alloc_thereAt _ _ _ 32 _ hs1 zD_size.symm
  have hb2 : Below w.heap.size w w2 := by rw [← hw2]; exact ((Below.refl _ _).alloc (Nat.le_refl _) _).alloc (by simp) _
  have HK : Hid (∀ wx, Below w2.heap.size w2 wx → DAt wx w.heap.size 1 e.2 ∧ wx.there (w.heap.size + 1) 0 32 ∧ Below w.heap.size w wx ∧ Tab wx) := fun wx hx => by
    have s := HS2.out
    have b : Below w.heap.size w wx := hb2.trans (hx.mono (by omega))
    exact ⟨DAt.of_ent (range_below hr2 hx (by omega)), there_below ht2 hx (by omega), b, Env.below G b⟩
  have k0 : w2.cell? ⟨w.heap.size, 0, none⟩ = some (.int .i64 e.1) := hr2 0 _ rfl
  have lV := he.1
  have k1 := he.2.1
  have k2 := he.2.2
  clear hr2 ht2 hb2 he G
  have HPK : Hid (putOk e.1 (4 : Int) = false) := by
    refine decide_eq_false (fun q => of_decide_eq_false hk ⟨q.2.2.1, ?_⟩)
    have : e.1 < 4294967296 := q.2.2.2
    omega
  clear hk
  obtain ⟨k, V⟩ := e
  simp only at lV k0 k1 k2 
  have lZ : zD.length = 32 := rfl
  have hbu : Tryd.prog.built 24 [] = some (cellsB zD).toArray := by kernel_rfl
  obtain ⟨Z, hZ⟩ : ∃ Z, zD = Z := ⟨_, rfl⟩
  have HZ : Hid (zT = Z) := hZ
  rw [hZ] at lZ hbu
  have HBU : Hid (Tryd.prog.built 24 [] = some (cellsB Z).toArray) := hbu
  clear hbu
  go_enter Tryd.func18, Tryd.ntmps18
  go_wp2_with (refine wpList_allocD (by rfl) (by rfl) (w.heap.size + 1) hs1 w2 hw2 ?_)
  refine (put_none k 4 w2 k2 k1 (by decide) (by decide) HPK.out).mono ?_
  rintro r w3 ⟨rfl, hb3⟩
  have HB3 : Hid (Below w2.heap.size w2 w3) := hb3
  have HT3 : Hid (w3.there (w.heap.size + 1) 0 32) := (HK.out _ HB3.out).2.1
  clear hw2 hs1 k0 hb3 hZ
  go_wp2_with (first
    | (refine wpList_buildC (by rfl) 24 #[] (by rfl) (cellsB Z).toArray (by simpa using HBU.out) ?_)
    | (refine wpList_store_mid (by rfl) 24 (.tmp 2) (.tmp 14) (by rfl) (w.heap.size + 1) 0 (cellsB Z).toArray (by rfl) (by rfl) (by rw [cellsB_size, lZ]; exact HT3.out) (by rw [cellsB_size, lZ]; exact Tryd.sizeDg) (all_oneCell_toArray (cellsB_one _)) ?_))
  refine bodyPost_ret (v := .tuple #[digestV Z, .iface 27 (.int .i64 2)]) (run_results_row2 Tryd.results18 _ _ (w.heap.size + 1) 0 (by rfl) _ (by rfl) (cellsB Z) (World.rangeAt_setCells_same _ _ _ _ (by rw [cellsB_length, lZ]; exact HT3.out)) _ Tryd.underlying24 (by rfl) (by rw [cellsB_length, lZ]; exact Tryd.sizeDg)) rfl ⟨by rw [HZ.out], ?_⟩
  exact below_setCells _ (by omega) _ _ _ (HK.out _ HB3.out).2.2.1
end Go.Proofs.YtbhoijnhpmkglaaDoor
/- A layer: a map of Go from keys to digests, as what stands at each key. -/
namespace Go.Proofs.YtbhoijnhpmkglaaDoor
open Go.RowKit Go.Maps
set_option linter.unusedVariables false
set_option linter.unusedSimpArgs false

theorem cellsB_inj : ∀ {l m : List UInt8}, cellsB l = cellsB m → l = m
  | [], [], _ => rfl
  | [], y :: m, h => by simp [cellsB] at h
  | x :: l, [], h => by simp [cellsB] at h
  | x :: l, y :: m, h => by
    have h' : Value.int .u8 (x.toNat : Int) = Value.int .u8 (y.toNat : Int) ∧ cellsB l = cellsB m := by
      have e1 : cellsB (x :: l) = .int .u8 (x.toNat : Int) :: cellsB l := by simp [cellsB]
      have e2 : cellsB (y :: m) = .int .u8 (y.toNat : Int) :: cellsB m := by simp [cellsB]
      rw [e1, e2] at h
      exact List.cons_eq_cons.1 h
    have hx : x = y := by
      have := h'.1
      injection this with _ h2
      exact UInt8.toNat_inj.1 (Int.ofNat_inj.1 h2)
    rw [hx, cellsB_inj h'.2]
theorem digestV_inj {l m : List UInt8} (h : digestV l = digestV m) : l = m := by
  injection h with h
  exact cellsB_inj (by simpa using congrArg Array.toList h)
/-- The bytes of cells. -/
def unB : List Value → Option (List UInt8)
  | [] => some []
  | v :: r => match v with
    | .int .u8 n => if 0 ≤ n ∧ n < 256 then (unB r).map (UInt8.ofNat n.toNat :: ·) else none
    | _ => none
theorem unB_cells : ∀ l : List UInt8, unB (cellsB l) = some l
  | [] => rfl
  | x :: l => by
    have e : cellsB (x :: l) = .int .u8 (x.toNat : Int) :: cellsB l := by simp [cellsB]
    have hx := x.toNat_lt
    have h1 : (0 : Int) ≤ (x.toNat : Int) ∧ (x.toNat : Int) < 256 := by omega
    rw [e]
    show (if (0 : Int) ≤ (x.toNat : Int) ∧ (x.toNat : Int) < 256 then (unB (cellsB l)).map (UInt8.ofNat (x.toNat : Int).toNat :: ·) else none) = _
    rw [if_pos h1, unB_cells l]
    simp
theorem unB_inv : ∀ {cs : List Value} {l : List UInt8}, unB cs = some l → cs = cellsB l
  | [], l, h => by
    have : [] = l := by simpa [unB] using h
    subst this
    rfl
  | v :: r, l, h => by
    unfold unB at h
    split at h
    · rename_i n
      split at h
      · rename_i hn
        obtain ⟨m, hm, rfl⟩ := Option.map_eq_some_iff.1 h
        have e : cellsB (UInt8.ofNat n.toNat :: m) = .int .u8 ((UInt8.ofNat n.toNat).toNat : Int) :: cellsB m := by simp [cellsB]
        have h2 : ((UInt8.ofNat n.toNat).toNat : Int) = n := by
          have h3 : n.toNat < UInt8.size := by show n.toNat < 256; omega
          rw [UInt8.toNat_ofNat_of_lt' h3]
          omega
        rw [e, h2, unB_inv hm]
      · cases h
    · cases h
/-- How a digest reads, as an element. -/
def digR (v : Value) : Option (DataW (List UInt8) × List MemPlace) :=
  match v with
  | .agg cs => match unB cs.toList with
    | some l => if l.length = 32 then some (.held l, []) else none
    | none => none
  | _ => none
theorem digR_mk {l : List UInt8} (h : l.length = 32) : digR (digestV l) = some (.held l, []) := by
  have e : unB (cellsB l).toArray.toList = some l := unB_cells l
  simp only [digR, e, h, if_true]
theorem digR_inv {v : Value} {y : DataW (List UInt8) × List MemPlace} (h : digR v = some y) : ∃ l : List UInt8, l.length = 32 ∧ v = digestV l ∧ y = (.held l, []) := by
  unfold digR at h
  split at h
  · rename_i cs
    split at h
    · rename_i l hl
      split at h
      · rename_i hn
        cases h
        refine ⟨l, hn, ?_, rfl⟩
        have e := unB_inv hl
        show Value.agg cs = Value.agg (cellsB l).toArray
        rw [← e]
      · cases h
    · cases h
  · cases h

theorem Tryd.keyed : Keyed Tryd.prog 3 := int_keyed Tryd.underlying3
theorem zeroL (w : World) : (zeroValue 24).run Tryd.prog w = .ok (digestV zT) w := by kernel_rfl
abbrev kI (k : Int) : Lit := .int .i64 k
theorem kI_wf {k : Int} (h1 : -9223372036854775808 ≤ k) (h2 : k ≤ 9223372036854775807) : (Lit.int .i64 k).wf = true := WalkArith.wf_i64 (by omega)
theorem keyOfI {k : Int} (h1 : -9223372036854775808 ≤ k) (h2 : k ≤ 9223372036854775807) : keyOf Tryd.prog 3 (.int .i64 k) = some (kI k) := keyOf_int_mk Tryd.underlying3 (kI_wf h1 h2)
theorem kI_key {k : Int} (h1 : -9223372036854775808 ≤ k) (h2 : k ≤ 9223372036854775807) : WideAt.IsKeyLit (kI k) := Tryd.keyed.key (keyOfI h1 h2)
theorem kI_inj {a b : Int} (h : kI a = kI b) : a = b := by injection h

/-- Block b is a map of at most n entries; at each key stands what f has of it (nothing where there is no entry); its keys are numbers below 2^32. -/
def LMap (w : World) (b n : Nat) (f : Nat → List UInt8) : Prop :=
  ∃ D : DataW (List UInt8), w.ownsMap Tryd.prog 3 digR b n D ∧ (∀ k : Nat, D.atKey (kI k) (.held zT) = .held (f k)) ∧ (∀ kl, Maps.has D kl = true → ∃ k : Nat, k < 4294967296 ∧ kl = kI k)
theorem owns_below {w w' : World} {b n B : Nat} {D : DataW (List UInt8)} (h : w.ownsMap Tryd.prog 3 digR b n D) (hb : Below B w w') (hlt : b < B) : w'.ownsMap Tryd.prog 3 digR b n D := by
  obtain ⟨es, clock, hh, r⟩ := h
  exact ⟨es, clock, (hb.block b hlt).trans hh, r⟩
theorem LMap.below {w w' : World} {b n : Nat} {f : Nat → List UInt8} (h : LMap w b n f) (hb : Below w.heap.size w w') : LMap w' b n f := by
  obtain ⟨D, ho, r⟩ := h
  exact ⟨D, owns_below ho hb ho.lt, r⟩
theorem ranges_below {w w' : World} {b r n : Nat} {D : DataW (List UInt8)} {left : Lit → Bool} {cnt : Nat} (h : w.ranges Tryd.prog 3 digR b r n D left cnt) (hb : Below w.heap.size w w') : w'.ranges Tryd.prog 3 digR b r n D left cnt := by
  have h1 := h.owns.lt
  have h2 := h.lt
  obtain ⟨es, clock, since, seen, c0, hh, F, hs, hD, hr, rest⟩ := h
  exact ⟨es, clock, since, seen, c0, (hb.block b h1).trans hh, F, hs, hD, (hb.block r h2).trans hr, rest⟩
theorem owns_ne {w : World} {b n g m : Nat} {D : DataW (List UInt8)} (h : w.ownsMap Tryd.prog 3 digR b n D) (ht : w.there g 0 (32 * (m + 1))) : b ≠ g := by
  obtain ⟨es, clock, hh, _⟩ := h
  intro e
  subst e
  have h1 := (ht 0 (by omega)).1
  simp [World.cell?, hh] at h1
/-- A look-up of a digest, without 'ok'. -/
theorem wpList_lookD (w : World) {ops : Array Oper} {rest : List Oper} {o : Oper} {a : Act} {Q : Exit → Act → World → Prop}
    (hg : o.guard = none) (m x : Operand) (hop : o.op = Op.lookup 59 m x false) (b n : Nat) (D : DataW (List UInt8))
    (hm : a.eval m = .map (some b)) (hown : w.ownsMap Tryd.prog 3 digR b n D) (k : Int) (hx : a.eval x = .int .i64 k) (hw : (Lit.int .i64 k).wf = true) (l : List UInt8) (hl : D.atKey (kI k) (.held zT) = .held l)
    (hK : wpList Tryd.prog ops Q rest (a.put o.dst (digestV l)) w) :
    wpList Tryd.prog ops Q (o :: rest) a w := by
  refine wpList_plain hg fun K' hK' => ?_
  obtain ⟨v, ps, hrun, hv⟩ := hown.lookup Tryd.keyed Tryd.underlying59 (zeroL w) (digR_mk zT_length) (keyOf_int_mk Tryd.underlying3 hw)
  obtain ⟨l', hl', rfl, e⟩ := digR_inv hv
  have e1 := (Prod.mk.inj e).1
  rw [hl] at e1
  injection e1 with e1
  subst e1
  unfold Oper.wp
  simp [execOp, hop, hm, hx, hrun, Result.andThen]
  exact hK' _ _ hK
/-- A look-up with 'ok'. -/
theorem wpList_lookOk (w : World) {ops : Array Oper} {rest : List Oper} {o : Oper} {a : Act} {Q : Exit → Act → World → Prop}
    (hg : o.guard = none) (m x : Operand) (hop : o.op = Op.lookup 59 m x true) (b n : Nat) (D : DataW (List UInt8))
    (hm : a.eval m = .map (some b)) (hown : w.ownsMap Tryd.prog 3 digR b n D) (k : Int) (hx : a.eval x = .int .i64 k) (hw : (Lit.int .i64 k).wf = true) (l : List UInt8) (hl : D.atKey (kI k) (.held zT) = .held l) (h : Bool) (hh : Maps.has D (kI k) = h)
    (hK : wpList Tryd.prog ops Q rest (a.put o.dst (.tuple #[digestV l, .bool h])) w) :
    wpList Tryd.prog ops Q (o :: rest) a w := by
  refine wpList_plain hg fun K' hK' => ?_
  obtain ⟨v, ps, hrun, hv⟩ := hown.look_ok Tryd.keyed Tryd.underlying59 (zeroL w) (digR_mk zT_length) (keyOf_int_mk Tryd.underlying3 hw)
  obtain ⟨l', hl', rfl, e⟩ := digR_inv hv
  have e1 := (Prod.mk.inj e).1
  rw [hl] at e1
  injection e1 with e1
  subst e1
  subst hh
  unfold Oper.wp
  simp [execOp, hop, hm, hx, hrun, Result.andThen]
  exact hK' _ _ hK
/-- A store. -/
theorem wpList_putD (w : World) {ops : Array Oper} {rest : List Oper} {o : Oper} {a : Act} {Q : Exit → Act → World → Prop}
    (hg : o.guard = none) (m x v : Operand) (hop : o.op = Op.mapUpdate 59 m x v) (b n : Nat) (D : DataW (List UInt8))
    (hm : a.eval m = .map (some b)) (hown : w.ownsMap Tryd.prog 3 digR b n D) (hn : n < maxLen) (k : Int) (hx : a.eval x = .int .i64 k) (hw : (Lit.int .i64 k).wf = true) (l : List UInt8) (hv : a.eval v = digestV l) (hl : l.length = 32)
    (hK : ∀ w', w'.ownsMap Tryd.prog 3 digR b (n + 1) (D.put (kI k) (.held l)) → w.grownBy w' (some b) → wpList Tryd.prog ops Q rest (a.put o.dst undef) w') :
    wpList Tryd.prog ops Q (o :: rest) a w :=
  wpList_mapUpdate_own w hg m x v 59 hop 3 24 Tryd.keyed Tryd.underlying59 digR b n D hm hown hn _ _ (kI k) hx hv (keyOf_int_mk Tryd.underlying3 hw) (.held l) [] (digR_mk hl) hK
/-- The step of a range over a layer. -/
theorem wpList_nextD (w : World) {ops : Array Oper} {rest : List Oper} {o : Oper} {a : Act} {Q : Exit → Act → World → Prop} (hg : o.guard = none) (it : Operand) (hop : o.op = Op.next it false)
    (b r n : Nat) (D : DataW (List UInt8)) (left : Lit → Bool) (cnt : Nat) (hit : a.eval it = .pointer (some ⟨r, 0, none⟩)) (h : w.ranges Tryd.prog 3 digR b r n D left cnt)
    (hDone : cnt = 0 → (∀ kl, left kl = false) → wpList Tryd.prog ops Q rest (a.put o.dst (.tuple #[.bool false])) w)
    (hMore : ∀ (x : Int) (c : List UInt8) (w' : World) (cnt' : Nat), (Lit.int .i64 x).wf = true → c.length = 32 → left (kI x) = true → (∀ zd, D.atKey (kI x) zd = .held c) → w'.ranges Tryd.prog 3 digR b r n D (fun z => left z && !z.sameKey (kI x)) cnt' → cnt' < cnt →
      w.grownBy w' (some r) → w'.heap.size = w.heap.size → (Instr.entry (.pointer (some ⟨r, 0, none⟩))).run Tryd.prog w' = .ok (.tuple #[.int .i64 x, digestV c]) w' → wpList Tryd.prog ops Q rest (a.put o.dst (.tuple #[.bool true, .int .i64 x, digestV c])) w') :
    wpList Tryd.prog ops Q (o :: rest) a w :=
  wpList_next_ranges w hg it hop 3 Tryd.keyed digR (Value.int .i64) digestV (fun key kl hkey => by obtain ⟨x, rfl, _⟩ := Maps.keyOf_int_inv Tryd.underlying3 hkey; exact ⟨x, rfl⟩) (fun v y hv => by obtain ⟨c, _, rfl, _⟩ := digR_inv hv; exact ⟨c, rfl⟩)
    b r n D left cnt hit h hDone (fun x c kl y w' cnt' hkey hlk hv hat hrg hlt hgr hsz hen => by
      obtain ⟨x', ex, rfl, hwx⟩ := Maps.keyOf_int_inv Tryd.underlying3 hkey
      cases ex
      obtain ⟨c', hc', ec, rfl⟩ := digR_inv hv
      cases digestV_inj ec
      exact hMore x c w' cnt' hwx hc' hlk hat hrg hlt hgr hsz hen)
end Go.Proofs.YtbhoijnhpmkglaaDoor
/- Rows of entries that a call itself made: a literal of one, append of one; a digest of nothing compared. -/
namespace Go.Proofs.YtbhoijnhpmkglaaDoor
open Go.RowKit
set_option linter.unusedVariables false
set_option linter.unusedSimpArgs false

def flatE (es : List Ent) : List Value := (es.map entC).flatten
theorem flatE_append (es fs : List Ent) : flatE (es ++ fs) = flatE es ++ flatE fs := by simp [flatE]
theorem flatE_one (e : Ent) : flatE [e] = entC e := by simp [flatE]
theorem flatE_len {es : List Ent} (h : ∀ e ∈ es, okE e) : (flatE es).length = 33 * es.length := by
  induction es with
  | nil => rfl
  | cons e r ih =>
    have := ih (fun x hx => h x (List.mem_cons_of_mem _ hx))
    unfold flatE at *
    rw [List.map_cons, List.flatten_cons, List.length_append, this, entC_length (h e (by simp)), List.length_cons]
    omega
theorem flatE_at : ∀ {es : List Ent}, (∀ e ∈ es, okE e) → ∀ (i j : Nat), i < es.length → j < 33 → (flatE es)[33 * i + j]? = (entC (es.getD i noE))[j]?
  | [], _, i, j, hi, _ => by simp at hi
  | e :: r, h, 0, j, hi, hj => by
    unfold flatE
    rw [List.map_cons, List.flatten_cons, Nat.mul_zero, Nat.zero_add, List.getElem?_append_left (by rw [entC_length (h e (by simp))]; exact hj)]
    rfl
  | e :: r, h, i + 1, j, hi, hj => by
    have ih := flatE_at (es := r) (fun x hx => h x (List.mem_cons_of_mem _ hx)) i j (by simpa using hi) hj
    have he := entC_length (h e (by simp))
    unfold flatE at *
    rw [List.map_cons, List.flatten_cons, List.getElem?_append_right (by omega), he, show 33 * (i + 1) + j - 33 = 33 * i + j by omega, ih]
    rfl
theorem flatE_cells (es : List Ent) : ∀ u ∈ flatE es, u.oneCell' = true := fun u hu => by
  unfold flatE at hu
  obtain ⟨l, hl, hu⟩ := List.mem_flatten.1 hu
  obtain ⟨e, _, rfl⟩ := List.mem_map.1 hl
  exact entC_one e u hu
/-- The call's own slice of entries v reads as es. -/
def OwnE (w : World) (B : Nat) (v : Value) (es : List Ent) : Prop := (∀ e ∈ es, okE e) ∧ w.ownsRow B 26 33 v es.length (flatE es)
theorem OwnE.nil (w : World) (B : Nat) : OwnE w B (.slice none 0 0) [] := ⟨(fun l hl => by cases hl), World.ownsRow_nil _ _ _ _⟩
theorem OwnE.form {w : World} {B : Nat} {v : Value} {es : List Ent} (h : OwnE w B v es) : ∃ a cap, v = .slice a es.length cap ∧ ERow w a es.length es ∧ es.length ≤ cap := by
  obtain ⟨h33, h⟩ := h
  rcases h.2 with ⟨rfl, h0⟩ | ⟨g, cap, cur, rfl, h1, h2, h3, _⟩
  · exact ⟨none, 0, by rw [h0], ⟨rfl, h33, .inl h0⟩, by omega⟩
  · refine ⟨_, cap, rfl, ⟨rfl, h33, .inr ⟨g, 0, rfl, fun i hi j v hj => ?_⟩⟩, h3⟩
    have hok : okE (es.getD i noE) := by
      rw [List.getD_eq_getElem?_getD, List.getElem?_eq_getElem hi]
      exact h33 _ (List.getElem_mem _)
    have hlt := (List.getElem?_eq_some_iff.1 hj).1
    rw [entC_length hok] at hlt
    rw [Nat.zero_add, World.ownsRow.cellAt h (33 * i + j) (by omega), flatE_at h33 i j hi hlt, hj]
theorem OwnE.below {w w' : World} {B : Nat} {v : Value} {es : List Ent} (h : OwnE w B v es) (hb : Below w.heap.size w w') : OwnE w' B v es := by
  refine ⟨h.1, ?_⟩
  have h := h.2
  rcases h.2 with ⟨h1, h0⟩ | ⟨g, cap, cur, e1, e2, e3, e4⟩
  · exact ⟨h.1, .inl ⟨h1, h0⟩⟩
  · have hg : g < w.heap.size := (World.ownsRow.lt h g (by rw [e1]; rfl)).2
    exact ⟨h.1, .inr ⟨g, cap, cur, e1, e2, (hb.block g hg).trans e3, e4⟩⟩
theorem OwnE.grown {w w0 w' : World} {B B0 : Nat} {v : Value} {es : List Ent} (h : OwnE w B v es) (hb : Below B0 w0 w) (hg : w.grownBy w' v.ownBlock) (h0 : B0 ≤ B) (hs : B0 ≤ w.heap.size) : Below B0 w0 w' :=
  hb.grown hg hs (fun k hk => Nat.le_trans h0 (World.ownsRow.lt h.2 k hk).1)
theorem OwnE.alloc {w : World} {B : Nat} {v : Value} {es : List Ent} (h : OwnE w B v es) (o : Obj) : OwnE (w.alloc o) B v es := h.below ((Below.refl _ _).alloc (Nat.le_refl _) _)
def zerosE : Array Value := #[.int .i64 0] ++ zeros32
theorem Tryd.infoEn : (Tryd.prog.info? 26).map (fun i => (i.zero, i.size, i.bytes)) = some (some (.agg zerosE), 33, 40) := by kernel_rfl
theorem Tryd.sizeEn : (Tryd.prog.info? 26).map (·.size) = some 33 := by kernel_rfl
theorem ERow.new (w : World) (e : Ent) (t : TypeId) (h : okE e) : ERow (w.alloc (.cells (entC e).toArray t)) (some ⟨w.heap.size, 0, none⟩) 1 [e] :=
  ⟨rfl, (fun x hx => by rw [List.mem_singleton.1 hx]; exact h), .inr ⟨_, 0, rfl, fun i hi => by
    have : i = 0 := by omega
    subst this
    intro j v hj
    rw [Nat.mul_zero, Nat.add_zero, Nat.zero_add, cells_new]
    exact hj⟩⟩
/-- 'append(v, fs...)', v the call's own row of entries. -/
theorem wpList_append_entries {w : World} {ops : Array Oper} {rest : List Oper} {o : Oper} {a : Act} {Q : Exit → Act → World → Prop} (hgd : o.guard = none) (s x : Operand)
    (ho : o.op = .call { callee := .builtin .append, args := #[s, x], argTypes := #[22, 22] })
    (base : Nat) (v : Value) (es : List Ent) (hs : a.eval s = v) (hown : OwnE w base v es)
    (ad : Addr) (n c : Nat) (fs : List Ent) (hx : a.eval x = .slice (some ad) n c) (hr : ERow w (some ad) n fs) (hn0 : 0 < n) (h47 : (es.length + n) * 40 ≤ 140737488355328) (hbase : base ≤ w.heap.size)
    (h : ∀ v' w', OwnE w' base v' (es ++ fs) → w.grownBy w' v.ownBlock → (v'.ownBlock = v.ownBlock ∨ v'.ownBlock = some w.heap.size) → wpList Tryd.prog ops Q rest (a.put o.dst v') w') : wpList Tryd.prog ops Q (o :: rest) a w := by
  obtain ⟨i0, hi, hz0, hz1, hz2⟩ := info_parts Tryd.infoEn
  have hok := hr.ok
  obtain ⟨hl, h33, h1 | ⟨b, off, e1, hc⟩⟩ := hr
  · omega
  cases e1
  have hf := flatE_len h33
  refine wpList_append_own_at w hgd s x 22 ho base 26 i0 (.agg zerosE) 33 40 Tryd.underlying22 hi hz0 hz1 hz2 rfl (by decide) v es.length (flatE es) hs hown.2 ⟨b, off, none⟩ n c (flatE fs) hx (by rw [hf, hl]; omega) ?_ (flatE_cells _) (by unfold maxLen; omega) h47 hbase ?_
  · intro j u hj
    have hj' : j < (flatE fs).length := (List.getElem?_eq_some_iff.1 hj).1
    have hq : j / 33 < n := by omega
    have hm : j % 33 < 33 := Nat.mod_lt _ (by omega)
    have e : j = 33 * (j / 33) + j % 33 := by omega
    have ha := flatE_at h33 (j / 33) (j % 33) (by omega) hm
    rw [← e, hj] at ha
    rw [Go.WideShapes.add_plain]
    have := hc (j / 33) hq (j % 33) u ha.symm
    rwa [show off + 33 * (j / 33) + j % 33 = off + j by omega] at this
  · intro v' w' hown' hgrow _ hat
    refine h v' w' ⟨?_, ?_⟩ hgrow hat
    · intro l hl'
      rcases List.mem_append.1 hl' with h' | h'
      · exact hown.1 l h'
      · exact h33 l h'
    · rw [List.length_append, flatE_append, hl]
      exact hown'
theorem fill_one (cs : List Value) (b : Array Value) (n : Nat) (hb : b.size = n) (hc : cs.length = n) : Instr.fill (fun i => some (i * n, n)) b [(0, .agg cs.toArray)] = some cs.toArray := by
  have h1 : (Value.agg cs.toArray).cells.size = n := hc
  have hb' : (Value.agg cs.toArray).cells.zipIdx.foldl (fun cs (x : Value × Nat) => cs.setIfInBounds (0 * n + x.2) x.1) b = cs.toArray := by
    apply Array.ext'
    have := fold_set (0 * n) cs 0 b (by omega)
    rw [Nat.add_zero, Nat.zero_mul, List.take_zero, List.nil_append, Nat.zero_add, List.drop_of_length_le (by rw [Array.length_toList]; omega), List.append_nil] at this
    show (cs.toArray.zipIdx.foldl _ b).toList = cs
    rw [← Array.foldl_toList, Array.toList_zipIdx, Nat.zero_mul]
    exact this
  unfold Instr.fill
  simp only
  rw [if_neg (by simp only [h1]; simp; omega)]
  unfold Instr.fill
  exact congrArg some hb'
/-- A literal of one entry. -/
theorem wpList_buildEn {w : World} {ops : Array Oper} {rest : List Oper} {o : Oper} {a : Act} {Q : Exit → Act → World → Prop} (hgd : o.guard = none) (x : Operand) (ho : o.op = .buildSlice 22 1 #[(0, x)])
    (e : Ent) (he : okE e) (hx : a.eval x = entV e)
    (h : wpList Tryd.prog ops Q rest (a.put o.dst (.slice (some ⟨w.heap.size, 0, none⟩) 1 1)) (w.alloc (.cells (entC e).toArray 26))) : wpList Tryd.prog ops Q (o :: rest) a w := by
  obtain ⟨i, hi, hz, hsize, hz2⟩ := info_parts Tryd.infoEn
  have hr := fill_one (entC e) ((Array.range (1 * 33)).map ((Value.agg zerosE).cells[· % (Value.agg zerosE).cells.size]!)) 33 (by simp) (entC_length he)
  have hrun : (Instr.buildSlice 22 1 #[(0, entV e)]).run Tryd.prog w = .ok (.slice (some ⟨w.heap.size, 0, none⟩) 1 1) (w.alloc (.cells (entC e).toArray 26)) := by
    simp [Instr.buildSlice, run_underlying Tryd.underlying22, sizeOf, typeInfo, hi, hsize, zeroValue, hz, newRow]
    unfold entV
    rw [hr]
    simp
  refine wpList_plain hgd fun K hK' => ?_
  unfold Oper.wp
  simp [execOp, ho, hx, hrun, Result.andThen]
  exact hK' _ _ h
end Go.Proofs.YtbhoijnhpmkglaaDoor
