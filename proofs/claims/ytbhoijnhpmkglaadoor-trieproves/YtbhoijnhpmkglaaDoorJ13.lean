/- Texts of this claim, joined: OwnD2, Copyd, Wtrie, Fast. -/
import Derived.Test.YtbhoijnhpmkglaaDoorJ10
import Derived.Test.YtbhoijnhpmkglaaDoorJ12
import Derived.Test.YtbhoijnhpmkglaaDoorJ02
import Derived.Test.YtbhoijnhpmkglaaDoorJ06
import Derived.Laws.IdiomCopy
import Derived.Laws.CopyOwn
import Derived.Test.YtbhoijnhpmkglaaDoorJ01
/- Rows of digests that a call itself made: any slice of digests appended, the first ones taken. -/
namespace Go.Proofs.YtbhoijnhpmkglaaDoor
open Go.RowKit
set_option linter.unusedVariables false
set_option linter.unusedSimpArgs false

theorem gro_setCell (w : World) (g j : Nat) (v : Value) : w.grownBy (w.setCell ⟨g, j, none⟩ v) (some g) :=
  ⟨rfl, rfl, rfl, by simp [World.setCell], fun k hk hne => Below.heap_setCell w _ v k (fun e => hne (by rw [e]))⟩
theorem gro_setCells (g : Nat) : ∀ (vs : List Value) (o : Nat) (w : World), w.grownBy (w.setCells g o vs) (some g)
  | [], _, w => World.grownBy.refl w _
  | v :: r, o, w => by
    rw [World.setCells]
    have h := gro_setCell w g o v
    have k := gro_setCells g r (o + 1) (w.setCell ⟨g, o, none⟩ v)
    exact ⟨k.os.trans h.os, k.tape.trans h.tape, k.output.trans h.output, Nat.le_trans h.size k.size, fun i hi hne => (k.block i (Nat.lt_of_lt_of_le hi h.size) hne).trans (h.block i hi hne)⟩
theorem OwnD.lit0 (w : World) (B : Nat) (hB : B ≤ w.heap.size) : OwnD (w.alloc (.cells #[] 24)) B (.slice (some ⟨w.heap.size, 0, none⟩) 0 0) [] :=
  ⟨(fun l hl => by cases hl), World.ownsRow_lit (e := 24) (size := 32) w #[] 0 hB (by unfold maxLen; omega) (by simp)⟩
theorem OwnD.formSome {w : World} {B : Nat} {v : Value} {ls : List (List UInt8)} (h : OwnD w B v ls) (hl : 0 < ls.length) : ∃ g cap, v = .slice (some ⟨g, 0, none⟩) ls.length cap ∧ DRow w (some ⟨g, 0, none⟩) ls.length ls ∧ ls.length ≤ cap ∧ B ≤ g ∧ g < w.heap.size ∧ cap ≤ maxLen := by
  obtain ⟨a, cap, hv, R, hc⟩ := h.form
  rcases h.2.2 with ⟨_, h0⟩ | ⟨g, cap', cur, hv', h1, h2, h3, h4, _⟩
  · omega
  · have hlt := (World.ownsRow.lt h.2 g (by rw [hv']; rfl)).2
    rw [hv'] at hv
    cases hv
    exact ⟨g, cap, hv', R, hc, h1, hlt, h4⟩
theorem OwnD.setCells {w : World} {B : Nat} {v : Value} {ls : List (List UInt8)} (h : OwnD w B v ls) (g o : Nat) (vs : List Value) (hg : g < B) : OwnD (w.setCells g o vs) B v ls := by
  refine ⟨h.1, World.ownsRow.kept h.2 (gro_setCells g vs o w) ?_⟩
  by_cases hv : v.ownBlock = none
  · exact .inl hv
  · refine .inr fun e => ?_
    have := (World.ownsRow.lt h.2 g e).1
    omega
/-- The first k of one's own row. -/
theorem OwnD.take {w : World} {B g n cap k : Nat} {ls : List (List UInt8)} (h : OwnD w B (.slice (some ⟨g, 0, none⟩) n cap) ls) (hn : n = ls.length) (hk : k ≤ ls.length) : OwnD w B (.slice (some ⟨g, 0, none⟩) k cap) (ls.take k) := by
  subst hn
  obtain ⟨h32, h0, h⟩ := h
  have hf := flat_len h32
  have h32' : ∀ l ∈ ls.take k, l.length = 32 := fun l hl => h32 l (List.mem_of_mem_take hl)
  have hf' := flat_len h32'
  have hlt : (ls.take k).length = k := by rw [List.length_take]; omega
  refine ⟨h32', by rw [cellsB_length, hf', Nat.mul_comm], ?_⟩
  rcases h with ⟨h1, _⟩ | ⟨g', cap', cur, hv, h1, h2, h3, h4, h5, h6⟩
  · cases h1
  · cases hv
    refine .inr ⟨g, cap, cur, by rw [hlt], h1, h2, by omega, h4, h5, ?_⟩
    have : cur.toList.take (k * 32) = (cur.toList.take (ls.length * 32)).take (k * 32) := by rw [List.take_take, Nat.min_eq_left (by omega)]
    rw [hlt, this, h6]
    have e : ls.flatten = (ls.take k).flatten ++ (ls.drop k).flatten := by rw [← List.flatten_append, List.take_append_drop]
    rw [e, cellsB_append, List.take_left' (by rw [cellsB_length, hf', hlt, Nat.mul_comm])]
/-- 'append(v, ds...)', v the call's own row of digests, ds any slice of digests. -/
theorem wpList_append_digests_any {w : World} {ops : Array Oper} {rest : List Oper} {o : Oper} {a : Act} {Q : Exit → Act → World → Prop} (hgd : o.guard = none) (s x : Operand)
    (ho : o.op = .call { callee := .builtin .append, args := #[s, x], argTypes := #[36, 36] })
    (base : Nat) (v : Value) (ls : List (List UInt8)) (hs : a.eval s = v) (hown : OwnD w base v ls)
    (ad : Option Addr) (n c : Nat) (ds : List (List UInt8)) (hx : a.eval x = .slice ad n c) (hr : DRow w ad n ds) (h47 : (ls.length + n) * 32 ≤ 140737488355328) (hbase : base ≤ w.heap.size)
    (h : ∀ v' w', OwnD w' base v' (ls ++ ds) → w.grownBy w' v.ownBlock → (v'.ownBlock = v.ownBlock ∨ v'.ownBlock = some w.heap.size) → wpList Tryd.prog ops Q rest (a.put o.dst v') w') : wpList Tryd.prog ops Q (o :: rest) a w := by
  obtain ⟨i0, hi, hz0, hz1, hz2⟩ := info_parts Tryd.infoDg
  by_cases hn : 0 < n
  · obtain ⟨b, off, rfl⟩ := hr.addr hn
    exact wpList_append_digests hgd s x ho base v ls hs hown ⟨b, off, none⟩ n c ds hx hr hn h47 hbase h
  · have h0 : n = 0 := by omega
    subst h0
    have hd : ds = [] := List.eq_nil_of_length_eq_zero hr.1
    subst hd
    cases ad with
    | none =>
      have hrun := run_append_nothing (P := Tryd.prog) w base 36 o.type 24 i0 32 Tryd.underlying36 hi v ls.length c (cellsB ls.flatten) hown.2
      refine wpList_plain hgd fun K hK' => ?_
      unfold Oper.wp
      simp [execOp, ho, resolve, invoke, builtin, hs, hx, hrun, Result.andThen]
      exact hK' _ _ (h v w (by rw [List.append_nil]; exact hown) (World.grownBy.refl _ _) (.inl rfl))
    | some ad =>
      refine wpList_append_own_at w hgd s x 36 ho base 24 i0 (.agg zeros32) 32 32 Tryd.underlying36 hi hz0 hz1 hz2 rfl (by decide) v ls.length (cellsB ls.flatten) hs hown.2 ad 0 c [] hx (by simp) (fun j u hj => by simp at hj) (fun u hu => by cases hu) (by unfold maxLen; omega) h47 hbase ?_
      intro v' w' hown' hgrow _ hat
      refine h v' w' ⟨?_, ?_⟩ hgrow hat
      · rw [List.append_nil]; exact hown.1
      · rw [List.append_nil]
        simpa using hown'
end Go.Proofs.YtbhoijnhpmkglaaDoor
/- copy of digests into cells that are there; a new slice of digests. -/
namespace Go.Proofs.YtbhoijnhpmkglaaDoor
open Go.RowKit
set_option linter.unusedVariables false
set_option linter.unusedSimpArgs false

theorem own_there {w : World} {B g n cap size : Nat} {e : TypeId} {xs : List Value} (h : w.ownsRow B e size (.slice (some ⟨g, 0, none⟩) n cap) n xs) : w.there g 0 (n * size) := by
  intro j hj
  have hl := h.1
  rw [Nat.zero_add, World.ownsRow.cellAt h j hj, World.ownsRow.frozenAt h j, List.getElem?_eq_getElem (by omega)]
  exact ⟨rfl, rfl⟩
theorem DRow.flat {w : World} {b o n : Nat} {ls : List (List UInt8)} (h : DRow w (some ⟨b, o, none⟩) n ls) : DAt w b o ls.flatten := by
  refine DAt.mk fun j hj => ?_
  rw [flat_len h.2.1, h.1] at hj
  have hi : j / 32 < n := by omega
  have hd := h.at (j / 32) hi
  have hl := h.len (j / 32) hi
  have := hd.cell (j % 32) (by omega)
  rw [show o + j / 32 * 32 + j % 32 = o + j by omega] at this
  rw [this, ← nth_flat h.2.1 (j / 32) (j % 32) (by rw [h.1]; exact hi) (by omega), show 32 * (j / 32) + j % 32 = j by omega]
theorem DRow.ofFlat {w : World} {b o : Nat} {ls : List (List UInt8)} (h32 : ∀ l ∈ ls, l.length = 32) (h : DAt w b o ls.flatten) : DRow w (some ⟨b, o, none⟩) ls.length ls := by
  refine ⟨rfl, h32, .inr ⟨b, o, rfl, fun i hi => DAt.mk fun j hj => ?_⟩⟩
  have hlen : (ls.getD i []).length = 32 := by
    rw [List.getD_eq_getElem?_getD, List.getElem?_eq_getElem hi]
    exact h32 _ (List.getElem_mem _)
  rw [hlen] at hj
  have := h.cell (32 * i + j) (by rw [flat_len h32]; omega)
  rw [show o + (32 * i + j) = o + 32 * i + j by omega, nth_flat h32 i j hi hj] at this
  exact this
/-- Two writes, one behind the other, into one block. -/
theorem dat_two {w : World} {b o : Nat} {x y : List UInt8} (ht : w.there b o (x.length + y.length)) : DAt ((w.setCells b o (cellsB x)).setCells b (o + x.length) (cellsB y)) b o (x ++ y) := by
  refine DAt.mk fun i hi => ?_
  rw [List.length_append] at hi
  have h1 : ∀ j, j < (cellsB x).length → (w.cell? ⟨b, o + j, none⟩).isSome = true := fun j hj => (ht j (by rw [cellsB_length] at hj; omega)).1
  have h2 : ∀ j, j < (cellsB y).length → ((w.setCells b o (cellsB x)).cell? ⟨b, o + x.length + j, none⟩).isSome = true := fun j hj => by
    rw [cellsB_length] at hj
    rw [World.cell?_setCells_out _ _ _ _ _ (fun _ _ => Or.inr (by show o + (cellsB x).length ≤ o + x.length + j; rw [cellsB_length]; omega))]
    have := (ht (x.length + j) (by omega)).1
    rwa [show o + (x.length + j) = o + x.length + j by omega] at this
  by_cases c : i < x.length
  · rw [World.cell?_setCells_out _ _ _ _ _ (fun _ _ => Or.inl (by show o + i < o + x.length; omega)), World.cell?_setCells_in b (cellsB x) o w h1 i (by rw [cellsB_length]; exact c)]
    have e := cellsB_at x i c
    rw [List.getElem?_eq_getElem (by rw [cellsB_length]; exact c)] at e
    rw [e]
    unfold nth
    simp only [List.getD_eq_getElem?_getD, List.getElem?_append_left c]
  · have hj : i - x.length < y.length := by omega
    have := World.cell?_setCells_in b (cellsB y) (o + x.length) _ h2 (i - x.length) (by rw [cellsB_length]; exact hj)
    rw [show o + x.length + (i - x.length) = o + i by omega] at this
    rw [this]
    have e := cellsB_at y (i - x.length) hj
    rw [List.getElem?_eq_getElem (by rw [cellsB_length]; exact hj)] at e
    rw [e]
    unfold nth
    simp only [List.getD_eq_getElem?_getD, List.getElem?_append_right (show x.length ≤ i by omega)]
theorem run_copy_wide {P : Program} (w : World) (dT sT ty elem : TypeId) (size b o dLen dCap : Nat) (a : Addr) (n sCap : Nat) (cs : List Value)
    (hu : P.underlying dT = some (.slice elem)) (hs : (P.info? elem).map (·.size) = some size) (hn : n ≤ dLen) (hl : cs.length = n * size)
    (hsrc : ∀ j v, cs[j]? = some v → w.cell? (a.add j) = some v) (hc : w.there b o cs.length) (h1 : ∀ v ∈ cs, v.oneCell' = true) :
    (Builtin.copy_ #[dT, sT] ty #[.slice (some ⟨b, o, none⟩) dLen dCap, .slice (some a) n sCap]).run P w = .ok (goInt n) (w.setCells b o cs) := by
  have hld := run_loadCells_list (P := P) w a cs hsrc
  have hst := run_storeCells_cells (P := P) b o cs 0 w (fun j hj => (hc j hj).1) (fun j hj => (hc j hj).2) h1
  have hm : Nat.min n dLen = n := Nat.min_eq_left hn
  cases hq : P.info? elem with
  | none => simp [hq] at hs
  | some i =>
    have hi : i.size = size := by simpa [hq] using hs
    simp [Builtin.copy_, run_underlying hu, Builtin.lenOf, Builtin.firstCells, sizeOf, typeInfo, hq, hi, hm, ← hl, hld, hst]
theorem run_copy_zero {P : Program} (w : World) (dT sT ty elem : TypeId) (size : Nat) (d : Addr) (a : Option Addr) (dLen dCap sCap : Nat) (hu : P.underlying dT = some (.slice elem)) (hs : (P.info? elem).map (·.size) = some size) :
    (Builtin.copy_ #[dT, sT] ty #[.slice (some d) dLen dCap, .slice a 0 sCap]).run P w = .ok (goInt 0) w := by
  have hm : Nat.min 0 dLen = 0 := Nat.min_eq_left (Nat.zero_le _)
  cases hq : P.info? elem with
  | none => simp [hq] at hs
  | some i =>
    have hl : ∀ (x : Addr), (loadCells x 0).run P w = .ok #[] w := fun x => by simpa using run_loadCells_list (P := P) w x [] (by simp)
    cases a <;> simp [Builtin.copy_, run_underlying hu, Builtin.lenOf, Builtin.firstCells, sizeOf, typeInfo, hq, hm, storeCells, hl]
/-- 'copy(d, s)', s any slice of digests, d longer. -/
theorem wpList_copy_digests {w : World} {ops : Array Oper} {rest : List Oper} {o : Oper} {a : Act} {Q : Exit → Act → World → Prop} (hgd : o.guard = none) (d s : Operand)
    (ho : o.op = .call { callee := .builtin .copy, args := #[d, s], argTypes := #[36, 36] })
    (b off dLen dCap : Nat) (hd : a.eval d = .slice (some ⟨b, off, none⟩) dLen dCap) (ad : Option Addr) (n c : Nat) (ls : List (List UInt8)) (hs : a.eval s = .slice ad n c) (R : DRow w ad n ls) (hm : n ≤ dLen) (ht : w.there b off (n * 32))
    (h : wpList Tryd.prog ops Q rest (a.put o.dst (.int .i64 (n : Int))) (w.setCells b off (cellsB ls.flatten))) : wpList Tryd.prog ops Q (o :: rest) a w := by
  have hlen : (cellsB ls.flatten).length = n * 32 := by rw [cellsB_length, flat_len R.2.1, R.1]; omega
  refine wpList_plain hgd fun K hK => ?_
  by_cases h0 : n = 0
  · subst h0
    have hz : ls = [] := List.eq_nil_of_length_eq_zero R.1
    subst hz
    have hrun := run_copy_zero (P := Tryd.prog) w 36 36 o.type 24 32 ⟨b, off, none⟩ ad dLen dCap c Tryd.underlying36 Tryd.sizeDg
    unfold Oper.wp
    simp [execOp, ho, resolve, invoke, builtin, hd, hs, hrun, Result.andThen]
    exact hK _ _ h
  · obtain ⟨sb, so, rfl⟩ := R.addr (by omega)
    have hf := R.flat
    have hrun := run_copy_wide (P := Tryd.prog) w 36 36 o.type 24 32 b off dLen dCap ⟨sb, so, none⟩ n c (cellsB ls.flatten) Tryd.underlying36 Tryd.sizeDg hm hlen (fun j v hj => by
      rw [Addr.add_mid]
      exact hf j v hj) (by rw [hlen]; exact ht) (cellsB_one _)
    unfold Oper.wp
    simp [execOp, ho, resolve, invoke, builtin, hd, hs, hrun, Result.andThen]
    exact hK _ _ h
end Go.Proofs.YtbhoijnhpmkglaaDoor
/- The contracts of package trie (written by gwtrie.py). -/
namespace Go.Proofs.YtbhoijnhpmkglaaDoor
open Go.RowKit Go.Maps
set_option linter.unusedVariables false
set_option linter.unusedSimpArgs false

/-- What is wrong with entries and a key. -/
def pathE (es : List Ent) (k : Int) : Int := if faultE es ≠ 0 then faultE es else if isKey k = false then 2 else 0
theorem path_put {w : World} {g n : Nat} {ls : List (List UInt8)} {y : List UInt8} (h32 : ∀ l ∈ ls, l.length = 32) (hD : DAt w g 0 ls.flatten) (ht : w.there g 0 (n * 32)) (hj : ls.length < n) (hy : y.length = 32) : DAt (w.setCells g (ls.length * 32) (cellsB y)) g 0 (ls ++ [y]).flatten := by
  have hfl := flat_len h32
  have e : (ls ++ [y]).flatten = ls.flatten ++ y := by simp
  rw [e]
  refine DAt.mk fun i hi => ?_
  rw [List.length_append, hfl, hy] at hi
  by_cases c : i < ls.flatten.length
  · rw [World.cell?_setCells_out _ _ _ _ _ (fun _ _ => Or.inl (by show 0 + i < ls.length * 32; omega)), hD.cell i c]
    unfold nth
    simp only [List.getD_eq_getElem?_getD, List.getElem?_append_left c]
  · have h2 : ∀ j, j < (cellsB y).length → (w.cell? ⟨g, ls.length * 32 + j, none⟩).isSome = true := fun j hj' => by
      rw [cellsB_length, hy] at hj'
      have := (ht (ls.length * 32 + j) (by omega)).1
      rwa [Nat.zero_add] at this
    have hj2 : i - ls.length * 32 < y.length := by omega
    have := World.cell?_setCells_in g (cellsB y) (ls.length * 32) w h2 (i - ls.length * 32) (by rw [cellsB_length]; exact hj2)
    rw [show ls.length * 32 + (i - ls.length * 32) = 0 + i by omega] at this
    rw [this]
    have e2 := cellsB_at y (i - ls.length * 32) hj2
    rw [List.getElem?_eq_getElem (by rw [cellsB_length]; exact hj2)] at e2
    rw [e2]
    unfold nth
    simp only [List.getD_eq_getElem?_getD, List.getElem?_append_right (show ls.flatten.length ≤ i by omega)]
    rw [hfl, Nat.mul_comm 32]
theorem fL_length (es : List Ent) (i k : Nat) : (fL (gE es) i k).length = 32 := mapL_length (gE_length es) _ _
set_option maxRecDepth 100000 in
set_option maxHeartbeats 1000000 in
theorem wtrie_root (a : Option Addr) (n c : Nat) (es : List Ent) (w : World) (G : Env w) (R : ERow w a n es) (hc : n ≤ c) (hn : 40 * n ≤ 140737488351232) (hf : faultE es = 0) :
    Calls Tryd.prog 11 #[.slice a n c] w fun r w' => r = .returned (.tuple #[digestV (mapL (gE es) 0 32), .nilIface]) ∧ Below w.heap.size w w' := by
  obtain ⟨w2, hw2⟩ : ∃ w2, w.alloc (.cells (cellsB zD).toArray 24) = w2 := ⟨_, rfl⟩
  obtain ⟨g, hg⟩ : ∃ g, w.heap.size = g := ⟨_, rfl⟩
  have q2 := new_var hg hw2
  have HB2 : Hid (Below w.heap.size w w2) := q2.2.2
  have HT2 : Hid (w2.there g 0 32) := q2.1
  have HGS : Hid (w.heap.size = g) := hg
  have HR2 : Hid (ERow w2 a n es) := R.below HB2.out
  have HG2 : Hid (Env w2) := G.below HB2.out
  have HGG : Hid (∀ wx, Below w.heap.size w wx → Env wx) := fun wx hx => G.below hx
  clear q2 R G
  go_enter Tryd.func11, Tryd.ntmps11
  go_wp2_with (refine wpList_allocD (by rfl) (by rfl) (g) hg w2 hw2 ?_)
  clear hg hw2
  refine (wleaves_any a n c es w2 HG2.out HR2.out hc hn).mono ?_
  rintro r w3 ⟨hr, hb3⟩
  rcases hr with ⟨_, b, rfl, hL⟩ | ⟨h0, _⟩
  rotate_left
  · exact absurd hf h0
  have HB3 : Hid (Below w.heap.size w w3) := HB2.out.trans (hb3.mono HB2.out.size)
  have HL : Hid (LMap w3 b 64 (fL (gE es) 0)) := by rw [fL_zero]; exact hL
  have HT3 : Hid (w3.there g 0 32) := there_b HT2.out hb3
  clear hb3 hL hf HR2 HG2 HB2 HT2
  go_wp2_with fail
  go_loopw [4, 15] (fun mv iv wr => ∃ i b : Nat, i ≤ 32 ∧ iv = .int .i64 (i : Int) ∧ mv = .map (some b) ∧ Hid (LMap wr b 64 (fL (gE es) i)) ∧ Hid (Below w.heap.size w wr) ∧ Hid (wr.there g 0 32)) (fun _ iv _ => 32 - (intOf iv).toNat)
  case atStart => exact ⟨0, b, Nat.zero_le _, rfl, rfl, HL.out, HB3.out, HT3.out⟩
  case round =>
    clear HL HB3 HT3
    obtain ⟨i, b, hi, rfl, rfl, HL, HB, HT⟩ := hrel
    by_cases hlt : i < 32
    · have i0 : (0 : Int) ≤ (i : Int) := by omega
      have i1 : (i : Int) < (32 : Int) := by omega
      go_wp2_with fail
      refine (wabove_any b (fL (gE es) i) wr (HGG.out _ HB.out) (fL_length es i) HL.out).mono ?_
      rintro r w4 ⟨⟨b', rfl, hL'⟩, hb4⟩
      have HB4 : Hid (Below w.heap.size w w4) := HB.out.trans (hb4.mono HB.out.size)
      have HL4 : Hid (LMap w4 b' 64 (fL (gE es) (i + 1))) := by rw [← fL_succ]; exact hL'
      have HT4 : Hid (w4.there g 0 32) := there_b HT.out hb4
      clear hb4 hL'
      go_wp2_with fail
      go_roundw
      case rel => exact ⟨i + 1, b', by omega, by go_num, rfl, HL4.out, HB4.out, HT4.out⟩
      case measure => simp [intOf]; omega
    · have hin : i = 32 := by omega
      subst hin
      have g2 : ¬ ((32 : Nat) : Int) < (32 : Int) := by omega
      obtain ⟨D, hown, hF, _⟩ := HL.out
      have HZ : Hid (D.atKey (kI 0) (.held zT) = .held (mapL (gE es) 0 32)) := by
        have := hF 0
        rw [fL_root] at this
        exact this
      have HW : Hid ((Lit.int .i64 0).wf = true) := kI_wf (by omega) (by omega)
      have lX : (mapL (gE es) 0 32).length = 32 := mapL_length (gE_length es) _ _
      clear hlt hF HL
      obtain ⟨X, hX⟩ : ∃ X, mapL (gE es) 0 32 = X := ⟨_, rfl⟩
      have HX : Hid (mapL (gE es) 0 32 = X) := hX
      rw [hX] at lX HZ
      clear hX
      go_wp2_with (first
        | (at_lookup; refine wpList_lookD _ rfl _ _ rfl b 64 D rfl hown 0 rfl HW.out X HZ.out ?_)
        | (refine wpList_store_mid (by rfl) 24 (.tmp 2) (.tmp 21) (by rfl) g 0 (cellsB X).toArray (by rfl) (by rfl) (by rw [cellsB_size, lX]; exact HT.out) (by rw [cellsB_size, lX]; exact Tryd.sizeDg) (all_oneCell_toArray (cellsB_one _)) ?_))
      refine bodyPost_ret (v := .tuple #[digestV X, .nilIface]) (run_results_row2 Tryd.results11 _ _ g 0 (by rfl) _ (by rfl) (cellsB X) (World.rangeAt_setCells_same _ _ _ _ (by rw [cellsB_length, lX]; exact HT.out)) _ Tryd.underlying24 (by rfl) (by rw [cellsB_length, lX]; exact Tryd.sizeDg)) rfl ⟨by rw [HX.out], ?_⟩
      exact below_setCells _ (by have := HGS.out; omega) _ _ _ HB.out
set_option maxRecDepth 100000 in
set_option maxHeartbeats 1000000 in
theorem wtrie_rootout (a : Option Addr) (n c : Nat) (es : List Ent) (k : Int) (w : World) (G : Env w) (R : ERow w a n es) (hc : n ≤ c) (hn : 40 * n ≤ 140737488351232) (hf : faultE es = k) (hk : k ≠ 0) :
    Calls Tryd.prog 11 #[.slice a n c] w fun r w' => r = .returned (.tuple #[digestV zT, .iface 27 (.int .i64 k)]) ∧ Below w.heap.size w w' := by
  obtain ⟨w2, hw2⟩ : ∃ w2, w.alloc (.cells (cellsB zD).toArray 24) = w2 := ⟨_, rfl⟩
  obtain ⟨g, hg⟩ : ∃ g, w.heap.size = g := ⟨_, rfl⟩
  have q2 := new_var hg hw2
  have HB2 : Hid (Below w.heap.size w w2) := q2.2.2
  have HT2 : Hid (w2.there g 0 32) := q2.1
  have HGS : Hid (w.heap.size = g) := hg
  have HR2 : Hid (ERow w2 a n es) := R.below HB2.out
  have HG2 : Hid (Env w2) := G.below HB2.out
  have HGG : Hid (∀ wx, Below w.heap.size w wx → Env wx) := fun wx hx => G.below hx
  clear q2 R G
  have lZ : zD.length = 32 := rfl
  have hbu : Tryd.prog.built 24 [] = some (cellsB zD).toArray := by kernel_rfl
  obtain ⟨Z, hZ⟩ : ∃ Z, zD = Z := ⟨_, rfl⟩
  have HZ : Hid (zT = Z) := hZ
  rw [hZ] at hbu lZ
  have HBU : Hid (Tryd.prog.built 24 [] = some (cellsB Z).toArray) := hbu
  clear hbu hZ
  go_enter Tryd.func11, Tryd.ntmps11
  go_wp2_with (refine wpList_allocD (by rfl) (by rfl) (g) hg w2 hw2 ?_)
  clear hg hw2
  refine (wleaves_any a n c es w2 HG2.out HR2.out hc hn).mono ?_
  rintro r w3 ⟨hr, hb3⟩
  rcases hr with ⟨h0, _⟩ | ⟨_, hr⟩
  · exact absurd (hf.symm.trans h0) hk
  rw [hf] at hr
  subst hr
  have HB3 : Hid (Below w.heap.size w w3) := HB2.out.trans (hb3.mono HB2.out.size)
  have HT3 : Hid (w3.there g 0 32) := there_b HT2.out hb3
  clear hb3 hf hk HR2 HG2 HB2 HT2
  go_wp2_with (first
    | (refine wpList_buildC (by rfl) 24 #[] (by rfl) (cellsB Z).toArray (by simpa using HBU.out) ?_)
    | (refine wpList_store_mid (by rfl) 24 (.tmp 2) (.tmp 13) (by rfl) g 0 (cellsB Z).toArray (by rfl) (by rfl) (by rw [cellsB_size, lZ]; exact HT3.out) (by rw [cellsB_size, lZ]; exact Tryd.sizeDg) (all_oneCell_toArray (cellsB_one _)) ?_))
  refine bodyPost_ret (v := .tuple #[digestV Z, .iface 27 (.int .i64 k)]) (run_results_row2 Tryd.results11 _ _ g 0 (by rfl) _ (by rfl) (cellsB Z) (World.rangeAt_setCells_same _ _ _ _ (by rw [cellsB_length, lZ]; exact HT3.out)) _ Tryd.underlying24 (by rfl) (by rw [cellsB_length, lZ]; exact Tryd.sizeDg)) rfl ⟨by rw [HZ.out], ?_⟩
  exact below_setCells _ (by have := HGS.out; omega) _ _ _ HB3.out
set_option maxRecDepth 100000 in
set_option maxHeartbeats 1000000 in
theorem wtrie_path (a : Option Addr) (n c : Nat) (es : List Ent) (k : Nat) (w : World) (G : Env w) (R : ERow w a n es) (hc : n ≤ c) (hn : 40 * n ≤ 140737488351232) (hf : faultE es = 0) (hk : k < 4294967296) :
    Calls Tryd.prog 15 #[.slice a n c, .int .i64 (k : Int)] w fun r w' => (∃ a' c', r = .returned (.tuple #[.slice a' 32 c', .nilIface]) ∧ 32 ≤ c' ∧ DRow w' a' 32 (pathM (gE es) k 32)) ∧ Below w.heap.size w w' := by
  obtain ⟨iD, hiD, hzD0, hzD1, hzD2⟩ := info_parts Tryd.infoDg
  have HGG : Hid (∀ wx, Below w.heap.size w wx → Env wx) := fun wx hx => G.below hx
  have hik : isKey (k : Int) = true := decide_eq_true ⟨by omega, by omega⟩
  go_enter Tryd.func15, Tryd.ntmps15
  go_wp2_with fail
  refine (wleaves_any a n c es w G R hc hn).mono ?_
  rintro r w2 ⟨hr, hb2⟩
  rcases hr with ⟨_, b, rfl, hL⟩ | ⟨h0, _⟩
  rotate_left
  · exact absurd hf h0
  have HB2 : Hid (Below w.heap.size w w2) := hb2
  have HL : Hid (LMap w2 b 64 (fL (gE es) 0)) := by rw [fL_zero]; exact hL
  clear hb2 hL hf G R
  go_wp2_with fail
  refine (wiskey_any (k : Int) w2 (by omega) (by omega)).mono ?_
  rintro r wq ⟨rfl, hq⟩
  have hq' : w2 = wq := hq.symm
  subst hq'
  rw [hik]
  clear hik
  go_wp2_with (first
    | (at_make; (refine wpList_make_full _ rfl _ _ 36 rfl w2.heap.size 24 iD (.agg zeros32) 32 Tryd.underlying36 hiD hzD0 hzD1 _ _ _ _ 32 rfl rfl rfl rfl (by rw [hzD2]; omega) (by unfold maxLen; omega) (Nat.le_refl _) ?_); intro w4 hown hgrow; have HB4 : Hid (Below w2.heap.size w2 w4) := (Below.refl _ _).grown hgrow (Nat.le_refl _) (fun _ h => by cases h); have HT4 : Hid (w4.there w2.heap.size 0 (32 * 32)) := own_there hown; clear hown hgrow))
  obtain ⟨g, hg⟩ : ∃ g, w2.heap.size = g := ⟨_, rfl⟩
  have HGL : Hid (w.heap.size ≤ g) := by have := HB2.out.size; unfold Hid; omega
  have HB4w : Hid (Below w.heap.size w w4) := HB2.out.trans (HB4.out.mono HB2.out.size)
  have HL4 : Hid (LMap w4 b 64 (fL (gE es) 0)) := HL.out.below HB4.out
  rw [hg] at HT4
  simp only [hg]
  clear HB4 HB2 HL hg hiD hzD0 hzD1 hzD2
  go_loopw [1, 6, 25] (fun kv mv iv wr => ∃ i b : Nat, i ≤ 32 ∧ iv = .int .i64 (i : Int) ∧ mv = .map (some b) ∧ kv = .int .i64 ((k / 2 ^ i : Nat) : Int) ∧ Hid (LMap wr b 64 (fL (gE es) i)) ∧ Hid (Below w.heap.size w wr) ∧ Hid (wr.there g 0 (32 * 32) ∧ DAt wr g 0 (pathM (gE es) k i).flatten)) (fun _ _ iv _ => 32 - (intOf iv).toNat)
  case atStart => exact ⟨0, b, Nat.zero_le _, rfl, rfl, by rw [Nat.pow_zero, Nat.div_one], HL4.out, HB4w.out, HT4.out, DAt.mk fun i hi => absurd hi (by simp [pathM])⟩
  case round =>
    clear HL4 HB4w HT4
    obtain ⟨i, b, hi, rfl, rfl, rfl, HL, HB, HP⟩ := hrel
    by_cases hlt : i < 32
    · have i0 : (0 : Int) ≤ (i : Int) := by omega
      have i1 : (i : Int) < (32 : Int) := by omega
      obtain ⟨D, hown, hF, hKs⟩ := HL.out
      have hkd : k / 2 ^ i ≤ k := Nat.div_le_self _ _
      have HKS : Hid (k / 2 ^ i / 2 = k / 2 ^ (i + 1)) := by unfold Hid; rw [Nat.pow_succ, Nat.div_div_eq_div_mul]
      have HSB : Hid (fL (gE es) i (k / 2 ^ i ^^^ 1) = mapL (gE es) (sibM k i) i) := fL_sib (gE es) k i
      generalize k / 2 ^ i = q at *
      obtain ⟨q2, hq2⟩ : ∃ q2, q / 2 = q2 := ⟨_, rfl⟩
      have E2 : (q : Int) / 2 = (q2 : Int) := by omega
      obtain ⟨s, hs⟩ : ∃ s : Nat, q ^^^ 1 = s := ⟨_, rfl⟩
      have E1 : bits .xor .i64 (q : Int) 1 = (s : Int) := by rw [i64_xor_one q (by omega), hs]
      have hs2 : s < 2 ^ 63 := by rw [← hs]; exact Nat.xor_lt_two_pow (by omega) (by omega)
      obtain ⟨X, hX⟩ : ∃ X, mapL (gE es) (sibM k i) i = X := ⟨_, rfl⟩
      have lX : X.length = 32 := by rw [← hX]; exact mapL_length (gE_length es) _ _
      have HAT : Hid (D.atKey (kI s) (.held zT) = .held X) := by unfold Hid; rw [hF s, ← hs, HSB.out, hX]
      have HW : Hid ((Lit.int .i64 (s : Int)).wf = true) := kI_wf (by omega) (by omega)
      have HPS : Hid (pathM (gE es) k i ++ [X] = pathM (gE es) k (i + 1)) := by unfold Hid; rw [pathM_succ, hX]
      have HQ : Hid (q2 = k / 2 ^ (i + 1)) := by have := HKS.out; unfold Hid; omega
      have HTI : Hid (wr.there g (i * 32) 32) := fun x hx => by
        have := HP.out.1 (i * 32 + x) (by omega)
        rwa [Nat.zero_add] at this
      obtain ⟨w5, hw5⟩ : ∃ w5, wr.setCells g (i * 32) (cellsB X) = w5 := ⟨_, rfl⟩
      have hgr : wr.grownBy w5 (some g) := by rw [← hw5]; exact gro_setCells g (cellsB X) (i * 32) wr
      have HW5 : Hid (wr.setCells g (i * 32) (cellsB X) = w5) := hw5
      have HP5 : Hid (w5.there g 0 (32 * 32) ∧ DAt w5 g 0 (pathM (gE es) k (i + 1)).flatten) := by
        rw [← HPS.out, ← hw5]
        have h2 := path_put (w := wr) (g := g) (n := 32) (ls := pathM (gE es) k i) (y := X) (pathM_32 (gE_length es) k i) HP.out.2 HP.out.1 (by rw [pathM_length]; exact hlt) lX
        rw [pathM_length] at h2
        exact ⟨World.there_setCells HP.out.1 _ _ _, h2⟩
      have HB5 : Hid (Below w.heap.size w w5) := by rw [← hw5]; exact below_setCells _ HGL.out _ _ _ HB.out
      have HSZ5 : Hid (g < w5.heap.size) := there_block HP5.out.1 (by omega)
      have HL5 : Hid (LMap w5 b 64 (fL (gE es) i)) := ⟨D, hown.kept hgr (fun e => owns_ne hown HP.out.1 (Option.some.inj e)), hF, hKs⟩
      clear hq2 hs hX hKs hF HSB hw5 hkd hs2 HPS HKS hgr
      go_wp2_with (first
        | (at_lookup; refine wpList_lookD _ rfl _ _ rfl b 64 D rfl hown (s : Int) rfl HW.out X HAT.out ?_)
        | (refine wpList_store_mid (by rfl) 24 (.tmp 34) (.tmp 33) (by rfl) g (i * 32) (cellsB X).toArray (by rfl) (by rfl) (by rw [cellsB_size, lX]; exact HTI.out) (by rw [cellsB_size, lX]; exact Tryd.sizeDg) (all_oneCell_toArray (cellsB_one _)) ?_))
      rw [HW5.out]
      clear hown HP HB HTI HAT
      refine (wabove_any b (fL (gE es) i) w5 (HGG.out _ HB5.out) (fL_length es i) HL5.out).mono ?_
      rintro r w6 ⟨⟨b', rfl, hL'⟩, hb6⟩
      have HB6 : Hid (Below w.heap.size w w6) := HB5.out.trans (hb6.mono HB5.out.size)
      have HL6 : Hid (LMap w6 b' 64 (fL (gE es) (i + 1))) := by rw [← fL_succ]; exact hL'
      have HP6 : Hid (w6.there g 0 (32 * 32) ∧ DAt w6 g 0 (pathM (gE es) k (i + 1)).flatten) := ⟨there_below HP5.out.1 hb6 HSZ5.out, HP5.out.2.below hb6 HSZ5.out⟩
      clear hb6 hL' HP5 HL5 HB5
      go_wp2_with fail
      go_roundw
      case rel => exact ⟨i + 1, b', by omega, by go_num, rfl, by rw [HQ.out], HL6.out, HB6.out, HP6.out⟩
      case measure => simp [intOf]; omega
    · have hin : i = 32 := by omega
      subst hin
      have g2 : ¬ ((32 : Nat) : Int) < (32 : Int) := by omega
      have HR : Hid (DRow wr (some ⟨g, 0, none⟩) 32 (pathM (gE es) k 32) ∧ Below w.heap.size w wr) := by
        have r := DRow.ofFlat (pathM_32 (gE_length es) k 32) HP.out.2
        rw [pathM_length] at r
        exact ⟨r, HB.out⟩
      clear hlt HP HL HB
      generalize k / 2 ^ 32 = q at *
      go_wp2_with fail
      go_ret2
      exact ⟨⟨_, _, rfl, Nat.le_refl _, HR.out.1⟩, HR.out.2⟩
set_option maxRecDepth 100000 in
set_option maxHeartbeats 1000000 in
theorem wtrie_pathout (a : Option Addr) (n c : Nat) (es : List Ent) (k q : Int) (w : World) (G : Env w) (R : ERow w a n es) (hc : n ≤ c) (hn : 40 * n ≤ 140737488351232) (k1 : -9223372036854775808 ≤ k) (k2 : k ≤ 9223372036854775807) (hf : pathE es k = q) (hq : q ≠ 0) :
    Calls Tryd.prog 15 #[.slice a n c, .int .i64 k] w fun r w' => (∃ a' c', r = .returned (.tuple #[.slice a' 0 c', .iface 27 (.int .i64 q)])) ∧ Below w.heap.size w w' := by
  go_enter Tryd.func15, Tryd.ntmps15
  go_wp2_with fail
  refine (wleaves_any a n c es w G R hc hn).mono ?_
  rintro r w2 ⟨hr, hb2⟩
  have HB2 : Hid (Below w.heap.size w w2) := hb2
  clear hb2 G R
  rcases hr with ⟨h0, b, rfl, _⟩ | ⟨h0, rfl⟩
  · have hik : isKey k = false := by
      cases h : isKey k
      · rfl
      · exact absurd (by rw [← hf]; unfold pathE; rw [if_neg (by simp [h0]), if_neg (by simp [h])]) hq
    have HQ : Hid (q = 2) := by unfold pathE at hf; rw [if_neg (by simp [h0]), if_pos hik] at hf; exact hf.symm
    clear hf hq h0
    go_wp2_with fail
    refine (wiskey_any k w2 k1 k2).mono ?_
    rintro r wq ⟨rfl, hq⟩
    have hq' : w2 = wq := hq.symm
    subst hq'
    rw [hik]
    clear hik
    go_wp2_with fail
    go_ret2
    exact ⟨⟨none, 0, by rw [HQ.out]; rfl⟩, HB2.out⟩
  · have HQ : Hid (faultE es = q) := by unfold pathE at hf; rw [if_pos h0] at hf; exact hf
    clear hf hq h0
    go_wp2_with fail
    go_ret2
    exact ⟨⟨none, 0, by rw [HQ.out]; rfl⟩, HB2.out⟩
end Go.Proofs.YtbhoijnhpmkglaaDoor
/- The digest again, in a form that the kernel reckons fast: every number is forced before it goes on. -/
namespace Go.Proofs.YtbhoijnhpmkglaaDoor
open Go.RowKit
set_option linter.unusedVariables false
set_option linter.unusedSimpArgs false

/-- f of x, x reckoned first. -/
def frc {α : Type} (x : Nat) (f : Nat → α) : α := Nat.rec (motive := fun _ => α) (f 0) (fun n _ => f (Nat.succ n)) x
theorem frc_eq {α : Type} (x : Nat) (f : Nat → α) : frc x f = f x := by cases x <;> rfl
/-- The rounds, with the words in a window of sixteen. -/
def goR {α : Type} (fin : Nat → Nat → Nat → Nat → Nat → Nat → Nat → Nat → α) : List Nat → Nat → Nat → Nat → Nat → Nat → Nat → Nat → Nat → Nat → Nat → Nat → Nat → Nat → Nat → Nat → Nat → Nat → Nat → Nat → Nat → Nat → Nat → Nat → Nat → α
  | [], w0, w1, w2, w3, w4, w5, w6, w7, w8, w9, w10, w11, w12, w13, w14, w15, a, b, c, d, e, f, g, h => fin a b c d e f g h
  | k :: ks, w0, w1, w2, w3, w4, w5, w6, w7, w8, w9, w10, w11, w12, w13, w14, w15, a, b, c, d, e, f, g, h =>
    frc (h + bs1 e + chW e f g + k + w0) fun p =>
    frc ((p + (bs0 a + mjW a b c)) % 4294967296) fun a' =>
    frc ((d + p) % 4294967296) fun e' =>
    frc ((ss1 w14 + w9 + ss0 w1 + w0) % 4294967296) fun wn =>
    goR fin ks w1 w2 w3 w4 w5 w6 w7 w8 w9 w10 w11 w12 w13 w14 w15 wn a' a b c e' e f g
/-- The words that 64 bytes are spread to, on and on. -/
def seqW (m : List UInt8) (t : Nat) : Nat := at' (wTo m (t + 1)) t
theorem seqW_lo (m : List UInt8) (t : Nat) (h : t < 16) : seqW m t = wordB m t := by
  unfold seqW
  rw [wTo]
  have := at_snoc (l := wTo m t) (x := if t < 16 then wordB m t else (ss1 (at' (wTo m t) (t - 2)) + at' (wTo m t) (t - 7) + ss0 (at' (wTo m t) (t - 15)) + at' (wTo m t) (t - 16)) % 4294967296)
  rw [wTo_length] at this
  rw [this, if_pos h]
theorem seqW_hi (m : List UInt8) (t : Nat) : seqW m (t + 16) = (ss1 (seqW m (t + 14)) + seqW m (t + 9) + ss0 (seqW m (t + 1)) + seqW m t) % 4294967296 := by
  have := at_snoc (l := wTo m (t + 16)) (x := if t + 16 < 16 then wordB m (t + 16) else (ss1 (at' (wTo m (t + 16)) (t + 16 - 2)) + at' (wTo m (t + 16)) (t + 16 - 7) + ss0 (at' (wTo m (t + 16)) (t + 16 - 15)) + at' (wTo m (t + 16)) (t + 16 - 16)) % 4294967296)
  rw [wTo_length] at this
  have e : seqW m (t + 16) = (ss1 (at' (wTo m (t + 16)) (t + 16 - 2)) + at' (wTo m (t + 16)) (t + 16 - 7) + ss0 (at' (wTo m (t + 16)) (t + 16 - 15)) + at' (wTo m (t + 16)) (t + 16 - 16)) % 4294967296 := by
    unfold seqW
    rw [wTo, this, if_neg (by omega)]
  rw [e, wTo_at m (t + 16 - 2) (t + 16) (by omega), wTo_at m (t + 16 - 7) (t + 16) (by omega), wTo_at m (t + 16 - 15) (t + 16) (by omega), wTo_at m (t + 16 - 16) (t + 16) (by omega)]
  rw [show t + 16 - 2 = t + 14 by omega, show t + 16 - 7 = t + 9 by omega, show t + 16 - 15 = t + 1 by omega, show t + 16 - 16 = t by omega]
  rfl
theorem seqW_64 (m : List UInt8) (t : Nat) (h : t < 64) : at' (wTo m 64) t = seqW m t := wTo_at m t 64 h
theorem kW_drop (t : Nat) (h : t < 64) : kW.drop t = at' kW t :: kW.drop (t + 1) := by
  have hl : t < kW.length := h
  rw [List.drop_eq_getElem_cons hl]
  congr 1
  unfold at'
  simp [List.getD_eq_getElem?_getD, List.getElem?_eq_getElem hl]
theorem goR_eq {α : Type} (fin : Nat → Nat → Nat → Nat → Nat → Nat → Nat → Nat → α) (m : List UInt8) (h : List Nat) : ∀ n t, t + n = 64 →
    goR fin (kW.drop t) (seqW m t) (seqW m (t + 1)) (seqW m (t + 2)) (seqW m (t + 3)) (seqW m (t + 4)) (seqW m (t + 5)) (seqW m (t + 6)) (seqW m (t + 7)) (seqW m (t + 8)) (seqW m (t + 9)) (seqW m (t + 10)) (seqW m (t + 11)) (seqW m (t + 12)) (seqW m (t + 13)) (seqW m (t + 14)) (seqW m (t + 15))
      (at' (rTo h (wTo m 64) t) 0) (at' (rTo h (wTo m 64) t) 1) (at' (rTo h (wTo m 64) t) 2) (at' (rTo h (wTo m 64) t) 3) (at' (rTo h (wTo m 64) t) 4) (at' (rTo h (wTo m 64) t) 5) (at' (rTo h (wTo m 64) t) 6) (at' (rTo h (wTo m 64) t) 7)
    = fin (at' (rTo h (wTo m 64) 64) 0) (at' (rTo h (wTo m 64) 64) 1) (at' (rTo h (wTo m 64) 64) 2) (at' (rTo h (wTo m 64) 64) 3) (at' (rTo h (wTo m 64) 64) 4) (at' (rTo h (wTo m 64) 64) 5) (at' (rTo h (wTo m 64) 64) 6) (at' (rTo h (wTo m 64) 64) 7)
  | 0, t, ht => by
    obtain rfl : t = 64 := by omega
    have : kW.drop 64 = [] := List.drop_eq_nil_of_le (Nat.le_refl _)
    rw [this]
    rfl
  | n + 1, t, ht => by
    have ih := goR_eq fin m h n (t + 1) (by omega)
    rw [kW_drop t (by omega)]
    unfold goR
    simp only [frc_eq]
    rw [← seqW_hi m t]
    have e : rTo h (wTo m 64) (t + 1) = stepW (rTo h (wTo m 64) t) (at' kW t) (at' (wTo m 64) t) := rfl
    rw [seqW_64 m t (by omega)] at e
    rw [e] at ih
    have s0 : ∀ v k w, at' (stepW v k w) 0 = (pW v k w + qW v) % 4294967296 := fun _ _ _ => rfl
    have s1 : ∀ v k w, at' (stepW v k w) 1 = at' v 0 := fun _ _ _ => rfl
    have s2 : ∀ v k w, at' (stepW v k w) 2 = at' v 1 := fun _ _ _ => rfl
    have s3 : ∀ v k w, at' (stepW v k w) 3 = at' v 2 := fun _ _ _ => rfl
    have s4 : ∀ v k w, at' (stepW v k w) 4 = (at' v 3 + pW v k w) % 4294967296 := fun _ _ _ => rfl
    have s5 : ∀ v k w, at' (stepW v k w) 5 = at' v 4 := fun _ _ _ => rfl
    have s6 : ∀ v k w, at' (stepW v k w) 6 = at' v 5 := fun _ _ _ => rfl
    have s7 : ∀ v k w, at' (stepW v k w) 7 = at' v 6 := fun _ _ _ => rfl
    rw [s0, s1, s2, s3, s4, s5, s6, s7] at ih
    rw [← ih]
    unfold pW qW
    simp only [Nat.add_assoc, Nat.reduceAdd]
/-- 64 bytes, as sixteen words, taken to eight words. -/
def goT {α : Type} (k : Nat → Nat → Nat → Nat → Nat → Nat → Nat → Nat → α) (w0 w1 w2 w3 w4 w5 w6 w7 w8 w9 w10 w11 w12 w13 w14 w15 a b c d e f g h : Nat) : α :=
  goR (fun a' b' c' d' e' f' g' h' => frc ((a' + a) % 4294967296) fun a => frc ((b' + b) % 4294967296) fun b => frc ((c' + c) % 4294967296) fun c => frc ((d' + d) % 4294967296) fun d => frc ((e' + e) % 4294967296) fun e => frc ((f' + f) % 4294967296) fun f => frc ((g' + g) % 4294967296) fun g => frc ((h' + h) % 4294967296) fun h => k a b c d e f g h) kW w0 w1 w2 w3 w4 w5 w6 w7 w8 w9 w10 w11 w12 w13 w14 w15 a b c d e f g h
/-- All eight words of a list. -/
def app8 {α : Type} (k : Nat → Nat → Nat → Nat → Nat → Nat → Nat → Nat → α) (l : List Nat) : α := k (at' l 0) (at' l 1) (at' l 2) (at' l 3) (at' l 4) (at' l 5) (at' l 6) (at' l 7)
theorem goT_eq {α : Type} (k : Nat → Nat → Nat → Nat → Nat → Nat → Nat → Nat → α) (m : List UInt8) (h : List Nat) :
    goT k (wordB m 0) (wordB m 1) (wordB m 2) (wordB m 3) (wordB m 4) (wordB m 5) (wordB m 6) (wordB m 7) (wordB m 8) (wordB m 9) (wordB m 10) (wordB m 11) (wordB m 12) (wordB m 13) (wordB m 14) (wordB m 15)
      (at' h 0) (at' h 1) (at' h 2) (at' h 3) (at' h 4) (at' h 5) (at' h 6) (at' h 7) = app8 k (blockW h m) := by
  have H := goR_eq (fun a' b' c' d' e' f' g' h' => frc ((a' + at' h 0) % 4294967296) fun a => frc ((b' + at' h 1) % 4294967296) fun b => frc ((c' + at' h 2) % 4294967296) fun c => frc ((d' + at' h 3) % 4294967296) fun d => frc ((e' + at' h 4) % 4294967296) fun e => frc ((f' + at' h 5) % 4294967296) fun f => frc ((g' + at' h 6) % 4294967296) fun g => frc ((h' + at' h 7) % 4294967296) fun h => k a b c d e f g h) m h 64 0 rfl
  rw [List.drop_zero] at H
  simp only [Nat.zero_add] at H
  rw [seqW_lo m 0 (by omega), seqW_lo m 1 (by omega), seqW_lo m 2 (by omega), seqW_lo m 3 (by omega), seqW_lo m 4 (by omega), seqW_lo m 5 (by omega), seqW_lo m 6 (by omega), seqW_lo m 7 (by omega), seqW_lo m 8 (by omega), seqW_lo m 9 (by omega), seqW_lo m 10 (by omega), seqW_lo m 11 (by omega), seqW_lo m 12 (by omega), seqW_lo m 13 (by omega), seqW_lo m 14 (by omega), seqW_lo m 15 (by omega)] at H
  unfold goT
  refine Eq.trans H ?_
  have ha : ∀ (u v : List Nat) (i : Nat), i < 8 → at' (addW u v) i = (at' u i + at' v i) % 4294967296 := fun u v i hi => at_map_range _ 8 i hi
  unfold app8 blockW
  generalize rTo h (wTo m 64) 64 = R
  rw [ha R h 0 (by omega), ha R h 1 (by omega), ha R h 2 (by omega), ha R h 3 (by omega), ha R h 4 (by omega), ha R h 5 (by omega), ha R h 6 (by omega), ha R h 7 (by omega)]
  simp only [frc_eq]
/-! bytes, as numbers -/
def nums (l : List UInt8) : List Nat := l.map (·.toNat)
theorem nums_append (l r : List UInt8) : nums (l ++ r) = nums l ++ nums r := by simp [nums]
theorem nums_length (l : List UInt8) : (nums l).length = l.length := by simp [nums]
/-- A word of four bytes, and what is left. -/
def wd4 {α : Type} (f : Nat → List Nat → α) : List Nat → α
  | b0 :: b1 :: b2 :: b3 :: r => frc (((b0 * 256 + b1) * 256 + b2) * 256 + b3) fun w => f w r
  | _ => f 0 []
theorem wd4_eq {α : Type} (f : Nat → List Nat → α) (l : List UInt8) (h : 4 ≤ l.length) : wd4 f (nums l) = f (wordB l 0) (nums (l.drop 4)) := by
  match l, h with
  | b0 :: b1 :: b2 :: b3 :: r, _ => unfold nums; simp only [List.map_cons]; rw [wd4, frc_eq]; rfl
theorem wordB_drop (l : List UInt8) (n t : Nat) : wordB (l.drop (4 * n)) t = wordB l (n + t) := by
  unfold wordB
  simp only [List.getD_eq_getElem?_getD, List.getElem?_drop]
  rw [show 4 * n + 4 * t = 4 * (n + t) by omega, show 4 * n + (4 * t + 1) = 4 * (n + t) + 1 by omega, show 4 * n + (4 * t + 2) = 4 * (n + t) + 2 by omega, show 4 * n + (4 * t + 3) = 4 * (n + t) + 3 by omega]
theorem wordB_take (l : List UInt8) (t : Nat) (h : t < 16) : wordB (l.take 64) t = wordB l t := by
  unfold wordB
  simp only [List.getD_eq_getElem?_getD, List.getElem?_take]
  rw [if_pos (by omega), if_pos (by omega), if_pos (by omega), if_pos (by omega)]
def blk16 {α : Type} (f : Nat → Nat → Nat → Nat → Nat → Nat → Nat → Nat → Nat → Nat → Nat → Nat → Nat → Nat → Nat → Nat → List Nat → α) (l : List Nat) : α :=
  wd4 (fun w0 l => wd4 (fun w1 l => wd4 (fun w2 l => wd4 (fun w3 l => wd4 (fun w4 l => wd4 (fun w5 l => wd4 (fun w6 l => wd4 (fun w7 l => wd4 (fun w8 l => wd4 (fun w9 l => wd4 (fun w10 l => wd4 (fun w11 l => wd4 (fun w12 l => wd4 (fun w13 l => wd4 (fun w14 l => wd4 (fun w15 l => f w0 w1 w2 w3 w4 w5 w6 w7 w8 w9 w10 w11 w12 w13 w14 w15 l) l) l) l) l) l) l) l) l) l) l) l) l) l) l) l) l
theorem blk16_eq {α : Type} (f : Nat → Nat → Nat → Nat → Nat → Nat → Nat → Nat → Nat → Nat → Nat → Nat → Nat → Nat → Nat → Nat → List Nat → α) (l : List UInt8) (h : 64 ≤ l.length) :
    blk16 f (nums l) = f (wordB (l.take 64) 0) (wordB (l.take 64) 1) (wordB (l.take 64) 2) (wordB (l.take 64) 3) (wordB (l.take 64) 4) (wordB (l.take 64) 5) (wordB (l.take 64) 6) (wordB (l.take 64) 7) (wordB (l.take 64) 8) (wordB (l.take 64) 9) (wordB (l.take 64) 10) (wordB (l.take 64) 11) (wordB (l.take 64) 12) (wordB (l.take 64) 13) (wordB (l.take 64) 14) (wordB (l.take 64) 15) (nums (l.drop 64)) := by
  unfold blk16
  rw [wd4_eq _ _ (by first | omega | (simp only [List.length_drop]; omega))]
  rw [wd4_eq _ _ (by first | omega | (simp only [List.length_drop]; omega))]
  rw [wd4_eq _ _ (by first | omega | (simp only [List.length_drop]; omega))]
  rw [wd4_eq _ _ (by first | omega | (simp only [List.length_drop]; omega))]
  rw [wd4_eq _ _ (by first | omega | (simp only [List.length_drop]; omega))]
  rw [wd4_eq _ _ (by first | omega | (simp only [List.length_drop]; omega))]
  rw [wd4_eq _ _ (by first | omega | (simp only [List.length_drop]; omega))]
  rw [wd4_eq _ _ (by first | omega | (simp only [List.length_drop]; omega))]
  rw [wd4_eq _ _ (by first | omega | (simp only [List.length_drop]; omega))]
  rw [wd4_eq _ _ (by first | omega | (simp only [List.length_drop]; omega))]
  rw [wd4_eq _ _ (by first | omega | (simp only [List.length_drop]; omega))]
  rw [wd4_eq _ _ (by first | omega | (simp only [List.length_drop]; omega))]
  rw [wd4_eq _ _ (by first | omega | (simp only [List.length_drop]; omega))]
  rw [wd4_eq _ _ (by first | omega | (simp only [List.length_drop]; omega))]
  rw [wd4_eq _ _ (by first | omega | (simp only [List.length_drop]; omega))]
  rw [wd4_eq _ _ (by first | omega | (simp only [List.length_drop]; omega))]
  simp only [List.drop_drop, Nat.reduceAdd]
  rw [wordB_take l 0 (by omega), wordB_take l 1 (by omega), wordB_take l 2 (by omega), wordB_take l 3 (by omega), wordB_take l 4 (by omega), wordB_take l 5 (by omega), wordB_take l 6 (by omega), wordB_take l 7 (by omega), wordB_take l 8 (by omega), wordB_take l 9 (by omega), wordB_take l 10 (by omega), wordB_take l 11 (by omega), wordB_take l 12 (by omega), wordB_take l 13 (by omega), wordB_take l 14 (by omega), wordB_take l 15 (by omega)]
  rw [show wordB (l.drop 4) 0 = wordB l 1 from wordB_drop l 1 0]
  rw [show wordB (l.drop 8) 0 = wordB l 2 from wordB_drop l 2 0]
  rw [show wordB (l.drop 12) 0 = wordB l 3 from wordB_drop l 3 0]
  rw [show wordB (l.drop 16) 0 = wordB l 4 from wordB_drop l 4 0]
  rw [show wordB (l.drop 20) 0 = wordB l 5 from wordB_drop l 5 0]
  rw [show wordB (l.drop 24) 0 = wordB l 6 from wordB_drop l 6 0]
  rw [show wordB (l.drop 28) 0 = wordB l 7 from wordB_drop l 7 0]
  rw [show wordB (l.drop 32) 0 = wordB l 8 from wordB_drop l 8 0]
  rw [show wordB (l.drop 36) 0 = wordB l 9 from wordB_drop l 9 0]
  rw [show wordB (l.drop 40) 0 = wordB l 10 from wordB_drop l 10 0]
  rw [show wordB (l.drop 44) 0 = wordB l 11 from wordB_drop l 11 0]
  rw [show wordB (l.drop 48) 0 = wordB l 12 from wordB_drop l 12 0]
  rw [show wordB (l.drop 52) 0 = wordB l 13 from wordB_drop l 13 0]
  rw [show wordB (l.drop 56) 0 = wordB l 14 from wordB_drop l 14 0]
  rw [show wordB (l.drop 60) 0 = wordB l 15 from wordB_drop l 15 0]
/-- So many blocks. -/
def blocksF {α : Type} (k : Nat → Nat → Nat → Nat → Nat → Nat → Nat → Nat → α) : Nat → List Nat → Nat → Nat → Nat → Nat → Nat → Nat → Nat → Nat → α
  | 0, _, a, b, c, d, e, f, g, h => k a b c d e f g h
  | n + 1, l, a, b, c, d, e, f, g, h => blk16 (fun w0 w1 w2 w3 w4 w5 w6 w7 w8 w9 w10 w11 w12 w13 w14 w15 r => goT (fun a b c d e f g h => blocksF k n r a b c d e f g h) w0 w1 w2 w3 w4 w5 w6 w7 w8 w9 w10 w11 w12 w13 w14 w15 a b c d e f g h) l
theorem blocksF_eq {α : Type} (k : Nat → Nat → Nat → Nat → Nat → Nat → Nat → Nat → α) (p : List UInt8) : ∀ n b, 64 * (b + n) ≤ p.length →
    blocksF k n (nums (p.drop (64 * b))) (at' (hTo p b) 0) (at' (hTo p b) 1) (at' (hTo p b) 2) (at' (hTo p b) 3) (at' (hTo p b) 4) (at' (hTo p b) 5) (at' (hTo p b) 6) (at' (hTo p b) 7) = app8 k (hTo p (b + n))
  | 0, b, _ => rfl
  | n + 1, b, h => by
    have ih := blocksF_eq k p n (b + 1) (by omega)
    rw [blocksF, blk16_eq _ _ (by rw [List.length_drop]; omega), goT_eq, List.drop_drop]
    have e : hTo p (b + 1) = blockW (hTo p b) ((p.drop (64 * b)).take 64) := rfl
    rw [← e, show 64 * b + 64 = 64 * (b + 1) by omega, show b + (n + 1) = b + 1 + n by omega]
    exact ih
/-- The words of the digest of bytes. -/
def shaW (l : List UInt8) : List Nat := hTo (padL l) ((padL l).length / 64)
theorem shaL_words (l : List UInt8) : shaL l = outL (shaW l) := rfl
theorem hTo_len (p : List UInt8) : ∀ b, (hTo p b).length = 8
  | 0 => rfl
  | b + 1 => by rw [hTo]; unfold blockW addW; simp
/-- What stands behind so many bytes. -/
def endN (n : Nat) : List Nat := 128 :: (List.replicate ((119 - n % 64) % 64) 0 ++ nums (putL (8 * n) 8))
theorem padL_nums (l : List UInt8) : nums (padL l) = nums l ++ endN l.length := by
  unfold padL endN
  rw [nums_append, nums_append, nums_append, List.append_assoc, List.append_assoc]
  congr 1
  have e : nums (List.replicate ((119 - l.length % 64) % 64) (0 : UInt8)) = List.replicate ((119 - l.length % 64) % 64) 0 := by simp [nums]
  rw [e]
  rfl
/-- The digest of n bytes: k of its words. -/
def shaK {α : Type} (k : List Nat → α) (n : Nat) (l : List Nat) : α :=
  blocksF (fun a b c d e f g h => k [a, b, c, d, e, f, g, h]) ((n + 1 + (119 - n % 64) % 64 + 8) / 64) (l ++ endN n) (at' hW 0) (at' hW 1) (at' hW 2) (at' hW 3) (at' hW 4) (at' hW 5) (at' hW 6) (at' hW 7)
theorem list8 {l : List Nat} (h : l.length = 8) : [at' l 0, at' l 1, at' l 2, at' l 3, at' l 4, at' l 5, at' l 6, at' l 7] = l := by
  match l, h with
  | [a, b, c, d, e, f, g, i], _ => rfl
theorem shaK_eq {α : Type} (k : List Nat → α) (l : List UInt8) (n : Nat) (hn : l.length = n) : shaK k n (nums l) = k (shaW l) := by
  subst hn
  have hlen : (padL l).length = l.length + 1 + (119 - l.length % 64) % 64 + 8 := by
    unfold padL
    rw [List.length_append, List.length_append, List.length_append, putL_length, List.length_replicate]
    rfl
  have H := blocksF_eq (fun a b c d e f g h => k [a, b, c, d, e, f, g, h]) (padL l) ((padL l).length / 64) 0 (by omega)
  rw [Nat.mul_zero, List.drop_zero, Nat.zero_add, padL_nums] at H
  have e : hTo (padL l) 0 = hW := rfl
  rw [e] at H
  unfold shaK
  rw [← hlen, H]
  exact congrArg k (list8 (hTo_len _ _))
/-- The bytes of a word, ahead of others; of eight words. -/
def out4 (a : Nat) (r : List Nat) : List Nat := frc (a >>> 24 % 256) fun x => x :: frc (a >>> 16 % 256) fun x => x :: frc (a >>> 8 % 256) fun x => x :: frc (a % 256) fun x => x :: r
def outN : List Nat → List Nat → List Nat
  | [a, b, c, d, e, f, g, h], r => out4 a (out4 b (out4 c (out4 d (out4 e (out4 f (out4 g (out4 h r)))))))
  | _, r => r
theorem outN_eq (h : List Nat) (hl : h.length = 8) (r : List Nat) : outN h r = nums (outL h) ++ r := by
  match h, hl with
  | [a, b, c, d, e, f, g, i], _ =>
    unfold outN out4
    simp only [frc_eq]
    unfold nums outL
    simp [List.range, List.range.loop, at']
theorem fast_abc : shaK (fun h => at' h 0) 3 [97, 98, 99] = 3128432319 := by decide +kernel
end Go.Proofs.YtbhoijnhpmkglaaDoor
