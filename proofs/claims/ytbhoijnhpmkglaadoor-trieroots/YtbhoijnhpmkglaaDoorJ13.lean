/- Texts of this claim, joined: OwnD2, Copyd, Wtrie, Wround. -/
import Derived.Test.YtbhoijnhpmkglaaDoorJ10
import Derived.Test.YtbhoijnhpmkglaaDoorJ12
import Derived.Test.YtbhoijnhpmkglaaDoorJ02
import Derived.Test.YtbhoijnhpmkglaaDoorJ06
import Derived.Laws.IdiomCopy
import Derived.Laws.CopyOwn
import Derived.RangeFuncNested
import Derived.RangeFuncBound
import Derived.RangeFuncCalls
import Derived.RangeFuncLeaves
import Derived.Shelf.Abstract
import Derived.Shelf.RegionOpen
import Derived.WalkKit
import Derived.OwnWalkIn
import Derived.TacticsInMore
import Derived.LoopNIn
import Derived.LoopIn
import Derived.OrdersHeld
import Derived.Test.YtbhoijnhpmkglaaDoorJ01
/- Rows of digests that a call itself made: any slice of digests appended, the first ones taken. -/
namespace Go.Proofs.YtbhoijnhpmkglaaDoor
open Go.RowKit
set_option linter.unusedVariables false
set_option linter.unusedSimpArgs false

theorem gro_setCell (w : World) (g j : Nat) (v : Value) : w.grownBy (w.setCell ⟨g, j, none⟩ v) (some g) :=
  ⟨rfl, rfl, rfl, by simp [World.setCell], fun k hk hne => Below.heap_setCell w _ v k (fun e => hne (by rw [e]))⟩
theorem gro_setCells (g : Nat) : ∀ (vs : List Value) (o : Nat) (w : World), w.grownBy (w.setCells g o vs) (some g)
  | [], _, w => World.grownBy.refl w _
  | v :: r, o, w => by
    rw [World.setCells]
    have h := gro_setCell w g o v
    have k := gro_setCells g r (o + 1) (w.setCell ⟨g, o, none⟩ v)
    exact ⟨k.os.trans h.os, k.tape.trans h.tape, k.output.trans h.output, Nat.le_trans h.size k.size, fun i hi hne => (k.block i (Nat.lt_of_lt_of_le hi h.size) hne).trans (h.block i hi hne)⟩
theorem OwnD.lit0 (w : World) (B : Nat) (hB : B ≤ w.heap.size) : OwnD (w.alloc (.cells #[] 24)) B (.slice (some ⟨w.heap.size, 0, none⟩) 0 0) [] :=
  ⟨(fun l hl => by cases hl), World.ownsRow_lit (e := 24) (size := 32) w #[] 0 hB (by unfold maxLen; omega) (by simp)⟩
theorem OwnD.formSome {w : World} {B : Nat} {v : Value} {ls : List (List UInt8)} (h : OwnD w B v ls) (hl : 0 < ls.length) : ∃ g cap, v = .slice (some ⟨g, 0, none⟩) ls.length cap ∧ DRow w (some ⟨g, 0, none⟩) ls.length ls ∧ ls.length ≤ cap ∧ B ≤ g ∧ g < w.heap.size ∧ cap ≤ maxLen := by
  obtain ⟨a, cap, hv, R, hc⟩ := h.form
  rcases h.2.2 with ⟨_, h0⟩ | ⟨g, cap', cur, hv', h1, h2, h3, h4, _⟩
  · omega
  · have hlt := (World.ownsRow.lt h.2 g (by rw [hv']; rfl)).2
    rw [hv'] at hv
    cases hv
    exact ⟨g, cap, hv', R, hc, h1, hlt, h4⟩
theorem OwnD.setCells {w : World} {B : Nat} {v : Value} {ls : List (List UInt8)} (h : OwnD w B v ls) (g o : Nat) (vs : List Value) (hg : g < B) : OwnD (w.setCells g o vs) B v ls := by
  refine ⟨h.1, World.ownsRow.kept h.2 (gro_setCells g vs o w) ?_⟩
  by_cases hv : v.ownBlock = none
  · exact .inl hv
  · refine .inr fun e => ?_
    have := (World.ownsRow.lt h.2 g e).1
    omega
/-- The first k of one's own row. -/
theorem OwnD.take {w : World} {B g n cap k : Nat} {ls : List (List UInt8)} (h : OwnD w B (.slice (some ⟨g, 0, none⟩) n cap) ls) (hn : n = ls.length) (hk : k ≤ ls.length) : OwnD w B (.slice (some ⟨g, 0, none⟩) k cap) (ls.take k) := by
  subst hn
  obtain ⟨h32, h0, h⟩ := h
  have hf := flat_len h32
  have h32' : ∀ l ∈ ls.take k, l.length = 32 := fun l hl => h32 l (List.mem_of_mem_take hl)
  have hf' := flat_len h32'
  have hlt : (ls.take k).length = k := by rw [List.length_take]; omega
  refine ⟨h32', by rw [cellsB_length, hf', Nat.mul_comm], ?_⟩
  rcases h with ⟨h1, _⟩ | ⟨g', cap', cur, hv, h1, h2, h3, h4, h5, h6⟩
  · cases h1
  · cases hv
    refine .inr ⟨g, cap, cur, by rw [hlt], h1, h2, by omega, h4, h5, ?_⟩
    have : cur.toList.take (k * 32) = (cur.toList.take (ls.length * 32)).take (k * 32) := by rw [List.take_take, Nat.min_eq_left (by omega)]
    rw [hlt, this, h6]
    have e : ls.flatten = (ls.take k).flatten ++ (ls.drop k).flatten := by rw [← List.flatten_append, List.take_append_drop]
    rw [e, cellsB_append, List.take_left' (by rw [cellsB_length, hf', hlt, Nat.mul_comm])]
/-- 'append(v, ds...)', v the call's own row of digests, ds any slice of digests. -/
theorem wpList_append_digests_any {w : World} {ops : Array Oper} {rest : List Oper} {o : Oper} {a : Act} {Q : Exit → Act → World → Prop} (hgd : o.guard = none) (s x : Operand)
    (ho : o.op = .call { callee := .builtin .append, args := #[s, x], argTypes := #[36, 36] })
    (base : Nat) (v : Value) (ls : List (List UInt8)) (hs : a.eval s = v) (hown : OwnD w base v ls)
    (ad : Option Addr) (n c : Nat) (ds : List (List UInt8)) (hx : a.eval x = .slice ad n c) (hr : DRow w ad n ds) (h47 : (ls.length + n) * 32 ≤ 140737488355328) (hbase : base ≤ w.heap.size)
    (h : ∀ v' w', OwnD w' base v' (ls ++ ds) → w.grownBy w' v.ownBlock → (v'.ownBlock = v.ownBlock ∨ v'.ownBlock = some w.heap.size) → wpList Tryd.prog ops Q rest (a.put o.dst v') w') : wpList Tryd.prog ops Q (o :: rest) a w := by
  obtain ⟨i0, hi, hz0, hz1, hz2⟩ := info_parts Tryd.infoDg
  by_cases hn : 0 < n
  · obtain ⟨b, off, rfl⟩ := hr.addr hn
    exact wpList_append_digests hgd s x ho base v ls hs hown ⟨b, off, none⟩ n c ds hx hr hn h47 hbase h
  · have h0 : n = 0 := by omega
    subst h0
    have hd : ds = [] := List.eq_nil_of_length_eq_zero hr.1
    subst hd
    cases ad with
    | none =>
      have hrun := run_append_nothing (P := Tryd.prog) w base 36 o.type 24 i0 32 Tryd.underlying36 hi v ls.length c (cellsB ls.flatten) hown.2
      refine wpList_plain hgd fun K hK' => ?_
      unfold Oper.wp
      simp [execOp, ho, resolve, invoke, builtin, hs, hx, hrun, Result.andThen]
      exact hK' _ _ (h v w (by rw [List.append_nil]; exact hown) (World.grownBy.refl _ _) (.inl rfl))
    | some ad =>
      refine wpList_append_own_at w hgd s x 36 ho base 24 i0 (.agg zeros32) 32 32 Tryd.underlying36 hi hz0 hz1 hz2 rfl (by decide) v ls.length (cellsB ls.flatten) hs hown.2 ad 0 c [] hx (by simp) (fun j u hj => by simp at hj) (fun u hu => by cases hu) (by unfold maxLen; omega) h47 hbase ?_
      intro v' w' hown' hgrow _ hat
      refine h v' w' ⟨?_, ?_⟩ hgrow hat
      · rw [List.append_nil]; exact hown.1
      · rw [List.append_nil]
        simpa using hown'
end Go.Proofs.YtbhoijnhpmkglaaDoor
/- copy of digests into cells that are there; a new slice of digests. -/
namespace Go.Proofs.YtbhoijnhpmkglaaDoor
open Go.RowKit
set_option linter.unusedVariables false
set_option linter.unusedSimpArgs false

theorem own_there {w : World} {B g n cap size : Nat} {e : TypeId} {xs : List Value} (h : w.ownsRow B e size (.slice (some ⟨g, 0, none⟩) n cap) n xs) : w.there g 0 (n * size) := by
  intro j hj
  have hl := h.1
  rw [Nat.zero_add, World.ownsRow.cellAt h j hj, World.ownsRow.frozenAt h j, List.getElem?_eq_getElem (by omega)]
  exact ⟨rfl, rfl⟩
theorem DRow.flat {w : World} {b o n : Nat} {ls : List (List UInt8)} (h : DRow w (some ⟨b, o, none⟩) n ls) : DAt w b o ls.flatten := by
  refine DAt.mk fun j hj => ?_
  rw [flat_len h.2.1, h.1] at hj
  have hi : j / 32 < n := by omega
  have hd := h.at (j / 32) hi
  have hl := h.len (j / 32) hi
  have := hd.cell (j % 32) (by omega)
  rw [show o + j / 32 * 32 + j % 32 = o + j by omega] at this
  rw [this, ← nth_flat h.2.1 (j / 32) (j % 32) (by rw [h.1]; exact hi) (by omega), show 32 * (j / 32) + j % 32 = j by omega]
theorem DRow.ofFlat {w : World} {b o : Nat} {ls : List (List UInt8)} (h32 : ∀ l ∈ ls, l.length = 32) (h : DAt w b o ls.flatten) : DRow w (some ⟨b, o, none⟩) ls.length ls := by
  refine ⟨rfl, h32, .inr ⟨b, o, rfl, fun i hi => DAt.mk fun j hj => ?_⟩⟩
  have hlen : (ls.getD i []).length = 32 := by
    rw [List.getD_eq_getElem?_getD, List.getElem?_eq_getElem hi]
    exact h32 _ (List.getElem_mem _)
  rw [hlen] at hj
  have := h.cell (32 * i + j) (by rw [flat_len h32]; omega)
  rw [show o + (32 * i + j) = o + 32 * i + j by omega, nth_flat h32 i j hi hj] at this
  exact this
/-- Two writes, one behind the other, into one block. -/
theorem dat_two {w : World} {b o : Nat} {x y : List UInt8} (ht : w.there b o (x.length + y.length)) : DAt ((w.setCells b o (cellsB x)).setCells b (o + x.length) (cellsB y)) b o (x ++ y) := by
  refine DAt.mk fun i hi => ?_
  rw [List.length_append] at hi
  have h1 : ∀ j, j < (cellsB x).length → (w.cell? ⟨b, o + j, none⟩).isSome = true := fun j hj => (ht j (by rw [cellsB_length] at hj; omega)).1
  have h2 : ∀ j, j < (cellsB y).length → ((w.setCells b o (cellsB x)).cell? ⟨b, o + x.length + j, none⟩).isSome = true := fun j hj => by
    rw [cellsB_length] at hj
    rw [World.cell?_setCells_out _ _ _ _ _ (fun _ _ => Or.inr (by show o + (cellsB x).length ≤ o + x.length + j; rw [cellsB_length]; omega))]
    have := (ht (x.length + j) (by omega)).1
    rwa [show o + (x.length + j) = o + x.length + j by omega] at this
  by_cases c : i < x.length
  · rw [World.cell?_setCells_out _ _ _ _ _ (fun _ _ => Or.inl (by show o + i < o + x.length; omega)), World.cell?_setCells_in b (cellsB x) o w h1 i (by rw [cellsB_length]; exact c)]
    have e := cellsB_at x i c
    rw [List.getElem?_eq_getElem (by rw [cellsB_length]; exact c)] at e
    rw [e]
    unfold nth
    simp only [List.getD_eq_getElem?_getD, List.getElem?_append_left c]
  · have hj : i - x.length < y.length := by omega
    have := World.cell?_setCells_in b (cellsB y) (o + x.length) _ h2 (i - x.length) (by rw [cellsB_length]; exact hj)
    rw [show o + x.length + (i - x.length) = o + i by omega] at this
    rw [this]
    have e := cellsB_at y (i - x.length) hj
    rw [List.getElem?_eq_getElem (by rw [cellsB_length]; exact hj)] at e
    rw [e]
    unfold nth
    simp only [List.getD_eq_getElem?_getD, List.getElem?_append_right (show x.length ≤ i by omega)]
theorem run_copy_wide {P : Program} (w : World) (dT sT ty elem : TypeId) (size b o dLen dCap : Nat) (a : Addr) (n sCap : Nat) (cs : List Value)
    (hu : P.underlying dT = some (.slice elem)) (hs : (P.info? elem).map (·.size) = some size) (hn : n ≤ dLen) (hl : cs.length = n * size)
    (hsrc : ∀ j v, cs[j]? = some v → w.cell? (a.add j) = some v) (hc : w.there b o cs.length) (h1 : ∀ v ∈ cs, v.oneCell' = true) :
    (Builtin.copy_ #[dT, sT] ty #[.slice (some ⟨b, o, none⟩) dLen dCap, .slice (some a) n sCap]).run P w = .ok (goInt n) (w.setCells b o cs) := by
  have hld := run_loadCells_list (P := P) w a cs hsrc
  have hst := run_storeCells_cells (P := P) b o cs 0 w (fun j hj => (hc j hj).1) (fun j hj => (hc j hj).2) h1
  have hm : Nat.min n dLen = n := Nat.min_eq_left hn
  cases hq : P.info? elem with
  | none => simp [hq] at hs
  | some i =>
    have hi : i.size = size := by simpa [hq] using hs
    simp [Builtin.copy_, run_underlying hu, Builtin.lenOf, Builtin.firstCells, sizeOf, typeInfo, hq, hi, hm, ← hl, hld, hst]
theorem run_copy_zero {P : Program} (w : World) (dT sT ty elem : TypeId) (size : Nat) (d : Addr) (a : Option Addr) (dLen dCap sCap : Nat) (hu : P.underlying dT = some (.slice elem)) (hs : (P.info? elem).map (·.size) = some size) :
    (Builtin.copy_ #[dT, sT] ty #[.slice (some d) dLen dCap, .slice a 0 sCap]).run P w = .ok (goInt 0) w := by
  have hm : Nat.min 0 dLen = 0 := Nat.min_eq_left (Nat.zero_le _)
  cases hq : P.info? elem with
  | none => simp [hq] at hs
  | some i =>
    have hl : ∀ (x : Addr), (loadCells x 0).run P w = .ok #[] w := fun x => by simpa using run_loadCells_list (P := P) w x [] (by simp)
    cases a <;> simp [Builtin.copy_, run_underlying hu, Builtin.lenOf, Builtin.firstCells, sizeOf, typeInfo, hq, hm, storeCells, hl]
/-- 'copy(d, s)', s any slice of digests, d longer. -/
theorem wpList_copy_digests {w : World} {ops : Array Oper} {rest : List Oper} {o : Oper} {a : Act} {Q : Exit → Act → World → Prop} (hgd : o.guard = none) (d s : Operand)
    (ho : o.op = .call { callee := .builtin .copy, args := #[d, s], argTypes := #[36, 36] })
    (b off dLen dCap : Nat) (hd : a.eval d = .slice (some ⟨b, off, none⟩) dLen dCap) (ad : Option Addr) (n c : Nat) (ls : List (List UInt8)) (hs : a.eval s = .slice ad n c) (R : DRow w ad n ls) (hm : n ≤ dLen) (ht : w.there b off (n * 32))
    (h : wpList Tryd.prog ops Q rest (a.put o.dst (.int .i64 (n : Int))) (w.setCells b off (cellsB ls.flatten))) : wpList Tryd.prog ops Q (o :: rest) a w := by
  have hlen : (cellsB ls.flatten).length = n * 32 := by rw [cellsB_length, flat_len R.2.1, R.1]; omega
  refine wpList_plain hgd fun K hK => ?_
  by_cases h0 : n = 0
  · subst h0
    have hz : ls = [] := List.eq_nil_of_length_eq_zero R.1
    subst hz
    have hrun := run_copy_zero (P := Tryd.prog) w 36 36 o.type 24 32 ⟨b, off, none⟩ ad dLen dCap c Tryd.underlying36 Tryd.sizeDg
    unfold Oper.wp
    simp [execOp, ho, resolve, invoke, builtin, hd, hs, hrun, Result.andThen]
    exact hK _ _ h
  · obtain ⟨sb, so, rfl⟩ := R.addr (by omega)
    have hf := R.flat
    have hrun := run_copy_wide (P := Tryd.prog) w 36 36 o.type 24 32 b off dLen dCap ⟨sb, so, none⟩ n c (cellsB ls.flatten) Tryd.underlying36 Tryd.sizeDg hm hlen (fun j v hj => by
      rw [Addr.add_mid]
      exact hf j v hj) (by rw [hlen]; exact ht) (cellsB_one _)
    unfold Oper.wp
    simp [execOp, ho, resolve, invoke, builtin, hd, hs, hrun, Result.andThen]
    exact hK _ _ h
end Go.Proofs.YtbhoijnhpmkglaaDoor
/- The contracts of package trie (written by gwtrie.py). -/
namespace Go.Proofs.YtbhoijnhpmkglaaDoor
open Go.RowKit Go.Maps
set_option linter.unusedVariables false
set_option linter.unusedSimpArgs false

/-- What is wrong with entries and a key. -/
def pathE (es : List Ent) (k : Int) : Int := if faultE es ≠ 0 then faultE es else if isKey k = false then 2 else 0
theorem path_put {w : World} {g n : Nat} {ls : List (List UInt8)} {y : List UInt8} (h32 : ∀ l ∈ ls, l.length = 32) (hD : DAt w g 0 ls.flatten) (ht : w.there g 0 (n * 32)) (hj : ls.length < n) (hy : y.length = 32) : DAt (w.setCells g (ls.length * 32) (cellsB y)) g 0 (ls ++ [y]).flatten := by
  have hfl := flat_len h32
  have e : (ls ++ [y]).flatten = ls.flatten ++ y := by simp
  rw [e]
  refine DAt.mk fun i hi => ?_
  rw [List.length_append, hfl, hy] at hi
  by_cases c : i < ls.flatten.length
  · rw [World.cell?_setCells_out _ _ _ _ _ (fun _ _ => Or.inl (by show 0 + i < ls.length * 32; omega)), hD.cell i c]
    unfold nth
    simp only [List.getD_eq_getElem?_getD, List.getElem?_append_left c]
  · have h2 : ∀ j, j < (cellsB y).length → (w.cell? ⟨g, ls.length * 32 + j, none⟩).isSome = true := fun j hj' => by
      rw [cellsB_length, hy] at hj'
      have := (ht (ls.length * 32 + j) (by omega)).1
      rwa [Nat.zero_add] at this
    have hj2 : i - ls.length * 32 < y.length := by omega
    have := World.cell?_setCells_in g (cellsB y) (ls.length * 32) w h2 (i - ls.length * 32) (by rw [cellsB_length]; exact hj2)
    rw [show ls.length * 32 + (i - ls.length * 32) = 0 + i by omega] at this
    rw [this]
    have e2 := cellsB_at y (i - ls.length * 32) hj2
    rw [List.getElem?_eq_getElem (by rw [cellsB_length]; exact hj2)] at e2
    rw [e2]
    unfold nth
    simp only [List.getD_eq_getElem?_getD, List.getElem?_append_right (show ls.flatten.length ≤ i by omega)]
    rw [hfl, Nat.mul_comm 32]
theorem fL_length (es : List Ent) (i k : Nat) : (fL (gE es) i k).length = 32 := mapL_length (gE_length es) _ _
set_option maxRecDepth 100000 in
set_option maxHeartbeats 1000000 in
theorem wtrie_root (a : Option Addr) (n c : Nat) (es : List Ent) (w : World) (G : Env w) (R : ERow w a n es) (hc : n ≤ c) (hn : 40 * n ≤ 140737488351232) (hf : faultE es = 0) :
    Calls Tryd.prog 11 #[.slice a n c] w fun r w' => r = .returned (.tuple #[digestV (mapL (gE es) 0 32), .nilIface]) ∧ Below w.heap.size w w' := by
  obtain ⟨w2, hw2⟩ : ∃ w2, w.alloc (.cells (cellsB zD).toArray 24) = w2 := ⟨_, rfl⟩
  obtain ⟨g, hg⟩ : ∃ g, w.heap.size = g := ⟨_, rfl⟩
  have q2 := new_var hg hw2
  have HB2 : Hid (Below w.heap.size w w2) := q2.2.2
  have HT2 : Hid (w2.there g 0 32) := q2.1
  have HGS : Hid (w.heap.size = g) := hg
  have HR2 : Hid (ERow w2 a n es) := R.below HB2.out
  have HG2 : Hid (Env w2) := G.below HB2.out
  have HGG : Hid (∀ wx, Below w.heap.size w wx → Env wx) := fun wx hx => G.below hx
  clear q2 R G
  go_enter Tryd.func11, Tryd.ntmps11
  go_wp2_with (refine wpList_allocD (by rfl) (by rfl) (g) hg w2 hw2 ?_)
  clear hg hw2
  refine (wleaves_any a n c es w2 HG2.out HR2.out hc hn).mono ?_
  rintro r w3 ⟨hr, hb3⟩
  rcases hr with ⟨_, b, rfl, hL⟩ | ⟨h0, _⟩
  rotate_left
  · exact absurd hf h0
  have HB3 : Hid (Below w.heap.size w w3) := HB2.out.trans (hb3.mono HB2.out.size)
  have HL : Hid (LMap w3 b 64 (fL (gE es) 0)) := by rw [fL_zero]; exact hL
  have HT3 : Hid (w3.there g 0 32) := there_b HT2.out hb3
  clear hb3 hL hf HR2 HG2 HB2 HT2
  go_wp2_with fail
  go_loopw [4, 15] (fun mv iv wr => ∃ i b : Nat, i ≤ 32 ∧ iv = .int .i64 (i : Int) ∧ mv = .map (some b) ∧ Hid (LMap wr b 64 (fL (gE es) i)) ∧ Hid (Below w.heap.size w wr) ∧ Hid (wr.there g 0 32)) (fun _ iv _ => 32 - (intOf iv).toNat)
  case atStart => exact ⟨0, b, Nat.zero_le _, rfl, rfl, HL.out, HB3.out, HT3.out⟩
  case round =>
    clear HL HB3 HT3
    obtain ⟨i, b, hi, rfl, rfl, HL, HB, HT⟩ := hrel
    by_cases hlt : i < 32
    · have i0 : (0 : Int) ≤ (i : Int) := by omega
      have i1 : (i : Int) < (32 : Int) := by omega
      go_wp2_with fail
      refine (wabove_any b (fL (gE es) i) wr (HGG.out _ HB.out) (fL_length es i) HL.out).mono ?_
      rintro r w4 ⟨⟨b', rfl, hL'⟩, hb4⟩
      have HB4 : Hid (Below w.heap.size w w4) := HB.out.trans (hb4.mono HB.out.size)
      have HL4 : Hid (LMap w4 b' 64 (fL (gE es) (i + 1))) := by rw [← fL_succ]; exact hL'
      have HT4 : Hid (w4.there g 0 32) := there_b HT.out hb4
      clear hb4 hL'
      go_wp2_with fail
      go_roundw
      case rel => exact ⟨i + 1, b', by omega, by go_num, rfl, HL4.out, HB4.out, HT4.out⟩
      case measure => simp [intOf]; omega
    · have hin : i = 32 := by omega
      subst hin
      have g2 : ¬ ((32 : Nat) : Int) < (32 : Int) := by omega
      obtain ⟨D, hown, hF, _⟩ := HL.out
      have HZ : Hid (D.atKey (kI 0) (.held zT) = .held (mapL (gE es) 0 32)) := by
        have := hF 0
        rw [fL_root] at this
        exact this
      have HW : Hid ((Lit.int .i64 0).wf = true) := kI_wf (by omega) (by omega)
      have lX : (mapL (gE es) 0 32).length = 32 := mapL_length (gE_length es) _ _
      clear hlt hF HL
      obtain ⟨X, hX⟩ : ∃ X, mapL (gE es) 0 32 = X := ⟨_, rfl⟩
      have HX : Hid (mapL (gE es) 0 32 = X) := hX
      rw [hX] at lX HZ
      clear hX
      go_wp2_with (first
        | (at_lookup; refine wpList_lookD _ rfl _ _ rfl b 64 D rfl hown 0 rfl HW.out X HZ.out ?_)
        | (refine wpList_store_mid (by rfl) 24 (.tmp 2) (.tmp 21) (by rfl) g 0 (cellsB X).toArray (by rfl) (by rfl) (by rw [cellsB_size, lX]; exact HT.out) (by rw [cellsB_size, lX]; exact Tryd.sizeDg) (all_oneCell_toArray (cellsB_one _)) ?_))
      refine bodyPost_ret (v := .tuple #[digestV X, .nilIface]) (run_results_row2 Tryd.results11 _ _ g 0 (by rfl) _ (by rfl) (cellsB X) (World.rangeAt_setCells_same _ _ _ _ (by rw [cellsB_length, lX]; exact HT.out)) _ Tryd.underlying24 (by rfl) (by rw [cellsB_length, lX]; exact Tryd.sizeDg)) rfl ⟨by rw [HX.out], ?_⟩
      exact below_setCells _ (by have := HGS.out; omega) _ _ _ HB.out
set_option maxRecDepth 100000 in
set_option maxHeartbeats 1000000 in
theorem wtrie_rootout (a : Option Addr) (n c : Nat) (es : List Ent) (k : Int) (w : World) (G : Env w) (R : ERow w a n es) (hc : n ≤ c) (hn : 40 * n ≤ 140737488351232) (hf : faultE es = k) (hk : k ≠ 0) :
    Calls Tryd.prog 11 #[.slice a n c] w fun r w' => r = .returned (.tuple #[digestV zT, .iface 27 (.int .i64 k)]) ∧ Below w.heap.size w w' := by
  obtain ⟨w2, hw2⟩ : ∃ w2, w.alloc (.cells (cellsB zD).toArray 24) = w2 := ⟨_, rfl⟩
  obtain ⟨g, hg⟩ : ∃ g, w.heap.size = g := ⟨_, rfl⟩
  have q2 := new_var hg hw2
  have HB2 : Hid (Below w.heap.size w w2) := q2.2.2
  have HT2 : Hid (w2.there g 0 32) := q2.1
  have HGS : Hid (w.heap.size = g) := hg
  have HR2 : Hid (ERow w2 a n es) := R.below HB2.out
  have HG2 : Hid (Env w2) := G.below HB2.out
  have HGG : Hid (∀ wx, Below w.heap.size w wx → Env wx) := fun wx hx => G.below hx
  clear q2 R G
  have lZ : zD.length = 32 := rfl
  have hbu : Tryd.prog.built 24 [] = some (cellsB zD).toArray := by kernel_rfl
  obtain ⟨Z, hZ⟩ : ∃ Z, zD = Z := ⟨_, rfl⟩
  have HZ : Hid (zT = Z) := hZ
  rw [hZ] at hbu lZ
  have HBU : Hid (Tryd.prog.built 24 [] = some (cellsB Z).toArray) := hbu
  clear hbu hZ
  go_enter Tryd.func11, Tryd.ntmps11
  go_wp2_with (refine wpList_allocD (by rfl) (by rfl) (g) hg w2 hw2 ?_)
  clear hg hw2
  refine (wleaves_any a n c es w2 HG2.out HR2.out hc hn).mono ?_
  rintro r w3 ⟨hr, hb3⟩
  rcases hr with ⟨h0, _⟩ | ⟨_, hr⟩
  · exact absurd (hf.symm.trans h0) hk
  rw [hf] at hr
  subst hr
  have HB3 : Hid (Below w.heap.size w w3) := HB2.out.trans (hb3.mono HB2.out.size)
  have HT3 : Hid (w3.there g 0 32) := there_b HT2.out hb3
  clear hb3 hf hk HR2 HG2 HB2 HT2
  go_wp2_with (first
    | (refine wpList_buildC (by rfl) 24 #[] (by rfl) (cellsB Z).toArray (by simpa using HBU.out) ?_)
    | (refine wpList_store_mid (by rfl) 24 (.tmp 2) (.tmp 13) (by rfl) g 0 (cellsB Z).toArray (by rfl) (by rfl) (by rw [cellsB_size, lZ]; exact HT3.out) (by rw [cellsB_size, lZ]; exact Tryd.sizeDg) (all_oneCell_toArray (cellsB_one _)) ?_))
  refine bodyPost_ret (v := .tuple #[digestV Z, .iface 27 (.int .i64 k)]) (run_results_row2 Tryd.results11 _ _ g 0 (by rfl) _ (by rfl) (cellsB Z) (World.rangeAt_setCells_same _ _ _ _ (by rw [cellsB_length, lZ]; exact HT3.out)) _ Tryd.underlying24 (by rfl) (by rw [cellsB_length, lZ]; exact Tryd.sizeDg)) rfl ⟨by rw [HZ.out], ?_⟩
  exact below_setCells _ (by have := HGS.out; omega) _ _ _ HB3.out
set_option maxRecDepth 100000 in
set_option maxHeartbeats 1000000 in
theorem wtrie_path (a : Option Addr) (n c : Nat) (es : List Ent) (k : Nat) (w : World) (G : Env w) (R : ERow w a n es) (hc : n ≤ c) (hn : 40 * n ≤ 140737488351232) (hf : faultE es = 0) (hk : k < 4294967296) :
    Calls Tryd.prog 15 #[.slice a n c, .int .i64 (k : Int)] w fun r w' => (∃ a' c', r = .returned (.tuple #[.slice a' 32 c', .nilIface]) ∧ 32 ≤ c' ∧ DRow w' a' 32 (pathM (gE es) k 32)) ∧ Below w.heap.size w w' := by
  obtain ⟨iD, hiD, hzD0, hzD1, hzD2⟩ := info_parts Tryd.infoDg
  have HGG : Hid (∀ wx, Below w.heap.size w wx → Env wx) := fun wx hx => G.below hx
  have hik : isKey (k : Int) = true := decide_eq_true ⟨by omega, by omega⟩
  go_enter Tryd.func15, Tryd.ntmps15
  go_wp2_with fail
  refine (wleaves_any a n c es w G R hc hn).mono ?_
  rintro r w2 ⟨hr, hb2⟩
  rcases hr with ⟨_, b, rfl, hL⟩ | ⟨h0, _⟩
  rotate_left
  · exact absurd hf h0
  have HB2 : Hid (Below w.heap.size w w2) := hb2
  have HL : Hid (LMap w2 b 64 (fL (gE es) 0)) := by rw [fL_zero]; exact hL
  clear hb2 hL hf G R
  go_wp2_with fail
  refine (wiskey_any (k : Int) w2 (by omega) (by omega)).mono ?_
  rintro r wq ⟨rfl, hq⟩
  have hq' : w2 = wq := hq.symm
  subst hq'
  rw [hik]
  clear hik
  go_wp2_with (first
    | (at_make; (refine wpList_make_full _ rfl _ _ 36 rfl w2.heap.size 24 iD (.agg zeros32) 32 Tryd.underlying36 hiD hzD0 hzD1 _ _ _ _ 32 rfl rfl rfl rfl (by rw [hzD2]; omega) (by unfold maxLen; omega) (Nat.le_refl _) ?_); intro w4 hown hgrow; have HB4 : Hid (Below w2.heap.size w2 w4) := (Below.refl _ _).grown hgrow (Nat.le_refl _) (fun _ h => by cases h); have HT4 : Hid (w4.there w2.heap.size 0 (32 * 32)) := own_there hown; clear hown hgrow))
  obtain ⟨g, hg⟩ : ∃ g, w2.heap.size = g := ⟨_, rfl⟩
  have HGL : Hid (w.heap.size ≤ g) := by have := HB2.out.size; unfold Hid; omega
  have HB4w : Hid (Below w.heap.size w w4) := HB2.out.trans (HB4.out.mono HB2.out.size)
  have HL4 : Hid (LMap w4 b 64 (fL (gE es) 0)) := HL.out.below HB4.out
  rw [hg] at HT4
  simp only [hg]
  clear HB4 HB2 HL hg hiD hzD0 hzD1 hzD2
  go_loopw [1, 6, 25] (fun kv mv iv wr => ∃ i b : Nat, i ≤ 32 ∧ iv = .int .i64 (i : Int) ∧ mv = .map (some b) ∧ kv = .int .i64 ((k / 2 ^ i : Nat) : Int) ∧ Hid (LMap wr b 64 (fL (gE es) i)) ∧ Hid (Below w.heap.size w wr) ∧ Hid (wr.there g 0 (32 * 32) ∧ DAt wr g 0 (pathM (gE es) k i).flatten)) (fun _ _ iv _ => 32 - (intOf iv).toNat)
  case atStart => exact ⟨0, b, Nat.zero_le _, rfl, rfl, by rw [Nat.pow_zero, Nat.div_one], HL4.out, HB4w.out, HT4.out, DAt.mk fun i hi => absurd hi (by simp [pathM])⟩
  case round =>
    clear HL4 HB4w HT4
    obtain ⟨i, b, hi, rfl, rfl, rfl, HL, HB, HP⟩ := hrel
    by_cases hlt : i < 32
    · have i0 : (0 : Int) ≤ (i : Int) := by omega
      have i1 : (i : Int) < (32 : Int) := by omega
      obtain ⟨D, hown, hF, hKs⟩ := HL.out
      have hkd : k / 2 ^ i ≤ k := Nat.div_le_self _ _
      have HKS : Hid (k / 2 ^ i / 2 = k / 2 ^ (i + 1)) := by unfold Hid; rw [Nat.pow_succ, Nat.div_div_eq_div_mul]
      have HSB : Hid (fL (gE es) i (k / 2 ^ i ^^^ 1) = mapL (gE es) (sibM k i) i) := fL_sib (gE es) k i
      generalize k / 2 ^ i = q at *
      obtain ⟨q2, hq2⟩ : ∃ q2, q / 2 = q2 := ⟨_, rfl⟩
      have E2 : (q : Int) / 2 = (q2 : Int) := by omega
      obtain ⟨s, hs⟩ : ∃ s : Nat, q ^^^ 1 = s := ⟨_, rfl⟩
      have E1 : bits .xor .i64 (q : Int) 1 = (s : Int) := by rw [i64_xor_one q (by omega), hs]
      have hs2 : s < 2 ^ 63 := by rw [← hs]; exact Nat.xor_lt_two_pow (by omega) (by omega)
      obtain ⟨X, hX⟩ : ∃ X, mapL (gE es) (sibM k i) i = X := ⟨_, rfl⟩
      have lX : X.length = 32 := by rw [← hX]; exact mapL_length (gE_length es) _ _
      have HAT : Hid (D.atKey (kI s) (.held zT) = .held X) := by unfold Hid; rw [hF s, ← hs, HSB.out, hX]
      have HW : Hid ((Lit.int .i64 (s : Int)).wf = true) := kI_wf (by omega) (by omega)
      have HPS : Hid (pathM (gE es) k i ++ [X] = pathM (gE es) k (i + 1)) := by unfold Hid; rw [pathM_succ, hX]
      have HQ : Hid (q2 = k / 2 ^ (i + 1)) := by have := HKS.out; unfold Hid; omega
      have HTI : Hid (wr.there g (i * 32) 32) := fun x hx => by
        have := HP.out.1 (i * 32 + x) (by omega)
        rwa [Nat.zero_add] at this
      obtain ⟨w5, hw5⟩ : ∃ w5, wr.setCells g (i * 32) (cellsB X) = w5 := ⟨_, rfl⟩
      have hgr : wr.grownBy w5 (some g) := by rw [← hw5]; exact gro_setCells g (cellsB X) (i * 32) wr
      have HW5 : Hid (wr.setCells g (i * 32) (cellsB X) = w5) := hw5
      have HP5 : Hid (w5.there g 0 (32 * 32) ∧ DAt w5 g 0 (pathM (gE es) k (i + 1)).flatten) := by
        rw [← HPS.out, ← hw5]
        have h2 := path_put (w := wr) (g := g) (n := 32) (ls := pathM (gE es) k i) (y := X) (pathM_32 (gE_length es) k i) HP.out.2 HP.out.1 (by rw [pathM_length]; exact hlt) lX
        rw [pathM_length] at h2
        exact ⟨World.there_setCells HP.out.1 _ _ _, h2⟩
      have HB5 : Hid (Below w.heap.size w w5) := by rw [← hw5]; exact below_setCells _ HGL.out _ _ _ HB.out
      have HSZ5 : Hid (g < w5.heap.size) := there_block HP5.out.1 (by omega)
      have HL5 : Hid (LMap w5 b 64 (fL (gE es) i)) := ⟨D, hown.kept hgr (fun e => owns_ne hown HP.out.1 (Option.some.inj e)), hF, hKs⟩
      clear hq2 hs hX hKs hF HSB hw5 hkd hs2 HPS HKS hgr
      go_wp2_with (first
        | (at_lookup; refine wpList_lookD _ rfl _ _ rfl b 64 D rfl hown (s : Int) rfl HW.out X HAT.out ?_)
        | (refine wpList_store_mid (by rfl) 24 (.tmp 34) (.tmp 33) (by rfl) g (i * 32) (cellsB X).toArray (by rfl) (by rfl) (by rw [cellsB_size, lX]; exact HTI.out) (by rw [cellsB_size, lX]; exact Tryd.sizeDg) (all_oneCell_toArray (cellsB_one _)) ?_))
      rw [HW5.out]
      clear hown HP HB HTI HAT
      refine (wabove_any b (fL (gE es) i) w5 (HGG.out _ HB5.out) (fL_length es i) HL5.out).mono ?_
      rintro r w6 ⟨⟨b', rfl, hL'⟩, hb6⟩
      have HB6 : Hid (Below w.heap.size w w6) := HB5.out.trans (hb6.mono HB5.out.size)
      have HL6 : Hid (LMap w6 b' 64 (fL (gE es) (i + 1))) := by rw [← fL_succ]; exact hL'
      have HP6 : Hid (w6.there g 0 (32 * 32) ∧ DAt w6 g 0 (pathM (gE es) k (i + 1)).flatten) := ⟨there_below HP5.out.1 hb6 HSZ5.out, HP5.out.2.below hb6 HSZ5.out⟩
      clear hb6 hL' HP5 HL5 HB5
      go_wp2_with fail
      go_roundw
      case rel => exact ⟨i + 1, b', by omega, by go_num, rfl, by rw [HQ.out], HL6.out, HB6.out, HP6.out⟩
      case measure => simp [intOf]; omega
    · have hin : i = 32 := by omega
      subst hin
      have g2 : ¬ ((32 : Nat) : Int) < (32 : Int) := by omega
      have HR : Hid (DRow wr (some ⟨g, 0, none⟩) 32 (pathM (gE es) k 32) ∧ Below w.heap.size w wr) := by
        have r := DRow.ofFlat (pathM_32 (gE_length es) k 32) HP.out.2
        rw [pathM_length] at r
        exact ⟨r, HB.out⟩
      clear hlt HP HL HB
      generalize k / 2 ^ 32 = q at *
      go_wp2_with fail
      go_ret2
      exact ⟨⟨_, _, rfl, Nat.le_refl _, HR.out.1⟩, HR.out.2⟩
set_option maxRecDepth 100000 in
set_option maxHeartbeats 1000000 in
theorem wtrie_pathout (a : Option Addr) (n c : Nat) (es : List Ent) (k q : Int) (w : World) (G : Env w) (R : ERow w a n es) (hc : n ≤ c) (hn : 40 * n ≤ 140737488351232) (k1 : -9223372036854775808 ≤ k) (k2 : k ≤ 9223372036854775807) (hf : pathE es k = q) (hq : q ≠ 0) :
    Calls Tryd.prog 15 #[.slice a n c, .int .i64 k] w fun r w' => (∃ a' c', r = .returned (.tuple #[.slice a' 0 c', .iface 27 (.int .i64 q)])) ∧ Below w.heap.size w w' := by
  go_enter Tryd.func15, Tryd.ntmps15
  go_wp2_with fail
  refine (wleaves_any a n c es w G R hc hn).mono ?_
  rintro r w2 ⟨hr, hb2⟩
  have HB2 : Hid (Below w.heap.size w w2) := hb2
  clear hb2 G R
  rcases hr with ⟨h0, b, rfl, _⟩ | ⟨h0, rfl⟩
  · have hik : isKey k = false := by
      cases h : isKey k
      · rfl
      · exact absurd (by rw [← hf]; unfold pathE; rw [if_neg (by simp [h0]), if_neg (by simp [h])]) hq
    have HQ : Hid (q = 2) := by unfold pathE at hf; rw [if_neg (by simp [h0]), if_pos hik] at hf; exact hf.symm
    clear hf hq h0
    go_wp2_with fail
    refine (wiskey_any k w2 k1 k2).mono ?_
    rintro r wq ⟨rfl, hq⟩
    have hq' : w2 = wq := hq.symm
    subst hq'
    rw [hik]
    clear hik
    go_wp2_with fail
    go_ret2
    exact ⟨⟨none, 0, by rw [HQ.out]; rfl⟩, HB2.out⟩
  · have HQ : Hid (faultE es = q) := by unfold pathE at hf; rw [if_pos h0] at hf; exact hf
    clear hf hq h0
    go_wp2_with fail
    go_ret2
    exact ⟨⟨none, 0, by rw [HQ.out]; rfl⟩, HB2.out⟩
end Go.Proofs.YtbhoijnhpmkglaaDoor
/- A region in a round of a range over a function: as anywhere, under the wide fence. -/
namespace Go.Proofs.YtbhoijnhpmkglaaDoor
open Go.RowKit
set_option linter.unusedVariables false
set_option linter.unusedSimpArgs false

theorem rows_wide {P : Program} {row : String} {args : Array Value} {w : World} {R : Value → World → Prop} (l n : Nat) (h : Rows P row args w R) : RowsIn (Fence.wide.inRound l) n P row args w R :=
  fun c cs _ => let ⟨v, w', r, s⟩ := h c cs; ⟨v, w', r, stepsIn_wide.2 s⟩
theorem uponIn_round_wide {P : Program} {o : Oper} {a : Act} {K K' : Act → World → Prop} {Q : Exit → Act → World → Prop} (l n : Nat) (hK : ∀ a w, K a w → K' a w) (r : Result Next) (h : o.upon P a K Q r) :
    o.uponIn (Fence.wide.inRound l) n P a K' Q r := by
  unfold Oper.upon at h
  unfold Oper.uponIn
  split at h
  · exact hK _ _ h
  · exact hK _ _ h
  · exact hK _ _ h
  · refine ⟨fun hd => (by cases hd), CallsIn.inRound l (callsIn_wide.2 (h.mono ?_))⟩
    intro e w' he
    cases e with
    | returned v => exact hK _ _ he
    | panicked c => exact he
    | outgrown => exact he
  · exact ⟨fun hd => (by cases hd), rows_wide l _ (h.mono fun v w' hv => hK _ _ hv)⟩
  · exact h
  · exact h.elim
/-- No statement in it is a 'defer'. -/
def noDefer (ops : Array Oper) : Bool := ops.toList.all fun o => match o.op with | .defer _ => false | _ => true
theorem noDefer_spec {ops : Array Oper} (h : noDefer ops = true) {i : Nat} {o : Oper} (ho : ops[i]? = some o) : ∀ c, o.op ≠ .defer c := by
  intro c hc
  have hm : o ∈ ops.toList := by
    have := (Array.getElem?_eq_some_iff.1 ho).2
    have hi := (Array.getElem?_eq_some_iff.1 ho).1
    rw [← this]
    exact Array.mem_toList_iff.2 (Array.getElem_mem hi)
  have := List.all_eq_true.1 h o hm
  rw [hc] at this
  cases this
theorem wpOps_round {P : Program} {ops : Array Oper} {Q : Exit → Act → World → Prop} (l n : Nat) (hd : noDefer ops = true) (hQ : ¬ LetsOut Q) :
    ∀ (js : List Nat) (a : Act) (w : World), wpOps P ops Q js a w → wpOpsIn (Fence.wide.inRound l) n P ops Q js a w
  | [], _, _, h => h
  | i :: rest, a, w, h => by
    have ih := wpOps_round (P := P) l n hd hQ rest
    unfold wpOps at h
    unfold wpOpsIn
    cases ho : ops[i]? with
    | none =>
      rw [ho] at h
      exact ih a w h
    | some o =>
      rw [ho] at h
      simp only at h ⊢
      by_cases hw : Region.wanted o (yielded ops a.tmps) = true
      · rw [if_pos hw] at h ⊢
        rcases h with h | ⟨_, h⟩
        · refine ⟨fun _ _ => trivial, ?_⟩
          rw [Oper.semAt_eq _ _ _ (noDefer_spec hd ho)]
          exact uponIn_round_wide l n ih _ h
        · exact absurd h hQ
      · rw [if_neg hw] at h ⊢
        exact ⟨fun _ _ => trivial, ih _ _ h⟩
theorem wpIn_round_list {P : Program} {ops : Array Oper} {Q : Exit → Act → World → Prop} {id : Nat} {a : Act} {w : World} (l n : Nat) (hd : noDefer ops = true) (hQ : ¬ LetsOut Q) (h : wpList P ops Q ops.toList a w) :
    (Code.region id ops false).wpIn (Fence.wide.inRound l) n P Q a w := by
  refine wpIn_region (wpOps_round l n hd hQ _ _ _ ?_)
  rw [List.range_eq_range', show ops.size = ops.toList.length from rfl, wpOps_eq_wpList ops.toList 0 (by simp)]
  exact h
theorem wpIn_round_held {P : Program} {ops : Array Oper} {Q : Exit → Act → World → Prop} {S : World → Prop} {id : Nat} {a : Act} {w : World} (l n : Nat) (hm : P.follows .mixedOrders = true) (hd : noDefer ops = true) (hQ : ¬ LetsOut Q)
    (h : wpAnyH P .any ops Q S ops.size (Array.replicate ops.size false) a { w with drawn := w.drawn + 1 }) : (Code.region id ops true).wpIn (Fence.wide.inRound l) n P Q a w :=
  wpIn_region_draw fun t => by
    refine wpOps_round l n hd hQ _ _ _ ?_
    simp only [Region.schedule, hm, Bool.true_or, if_true]
    exact wpAny_sound ops.size t _ a _ (wpAny_of_held _ _ _ _ h)
end Go.Proofs.YtbhoijnhpmkglaaDoor
