/- Rows of digests that a call itself made: any slice of digests appended, the first ones taken. -/
import Derived.Test.YtbpkhpkllokbhaaDoorOwnD
import Derived.Test.YtbpkhpkllokbhaaDoorDsub
import Derived.Test.YtbpkhpkllokbhaaDoorBytes
namespace Go.Proofs.YtbpkhpkllokbhaaDoor
open Go.RowKit
set_option linter.unusedVariables false
set_option linter.unusedSimpArgs false

theorem gro_setCell (w : World) (g j : Nat) (v : Value) : w.grownBy (w.setCell ⟨g, j, none⟩ v) (some g) :=
  ⟨rfl, rfl, rfl, by simp [World.setCell], fun k hk hne => Below.heap_setCell w _ v k (fun e => hne (by rw [e]))⟩
theorem gro_setCells (g : Nat) : ∀ (vs : List Value) (o : Nat) (w : World), w.grownBy (w.setCells g o vs) (some g)
  | [], _, w => World.grownBy.refl w _
  | v :: r, o, w => by
    rw [World.setCells]
    have h := gro_setCell w g o v
    have k := gro_setCells g r (o + 1) (w.setCell ⟨g, o, none⟩ v)
    exact ⟨k.os.trans h.os, k.tape.trans h.tape, k.output.trans h.output, Nat.le_trans h.size k.size, fun i hi hne => (k.block i (Nat.lt_of_lt_of_le hi h.size) hne).trans (h.block i hi hne)⟩
theorem OwnD.lit0 (w : World) (B : Nat) (hB : B ≤ w.heap.size) : OwnD (w.alloc (.cells #[] 24)) B (.slice (some ⟨w.heap.size, 0, none⟩) 0 0) [] :=
  ⟨(fun l hl => by cases hl), World.ownsRow_lit (e := 24) (size := 32) w #[] 0 hB (by unfold maxLen; omega) (by simp)⟩
theorem OwnD.formSome {w : World} {B : Nat} {v : Value} {ls : List (List UInt8)} (h : OwnD w B v ls) (hl : 0 < ls.length) : ∃ g cap, v = .slice (some ⟨g, 0, none⟩) ls.length cap ∧ DRow w (some ⟨g, 0, none⟩) ls.length ls ∧ ls.length ≤ cap ∧ B ≤ g ∧ g < w.heap.size ∧ cap ≤ maxLen := by
  obtain ⟨a, cap, hv, R, hc⟩ := h.form
  rcases h.2.2 with ⟨_, h0⟩ | ⟨g, cap', cur, hv', h1, h2, h3, h4, _⟩
  · omega
  · have hlt := (World.ownsRow.lt h.2 g (by rw [hv']; rfl)).2
    rw [hv'] at hv
    cases hv
    exact ⟨g, cap, hv', R, hc, h1, hlt, h4⟩
theorem OwnD.setCells {w : World} {B : Nat} {v : Value} {ls : List (List UInt8)} (h : OwnD w B v ls) (g o : Nat) (vs : List Value) (hg : g < B) : OwnD (w.setCells g o vs) B v ls := by
  refine ⟨h.1, World.ownsRow.kept h.2 (gro_setCells g vs o w) ?_⟩
  by_cases hv : v.ownBlock = none
  · exact .inl hv
  · refine .inr fun e => ?_
    have := (World.ownsRow.lt h.2 g e).1
    omega
/-- The first k of one's own row. -/
theorem OwnD.take {w : World} {B g n cap k : Nat} {ls : List (List UInt8)} (h : OwnD w B (.slice (some ⟨g, 0, none⟩) n cap) ls) (hn : n = ls.length) (hk : k ≤ ls.length) : OwnD w B (.slice (some ⟨g, 0, none⟩) k cap) (ls.take k) := by
  subst hn
  obtain ⟨h32, h0, h⟩ := h
  have hf := flat_len h32
  have h32' : ∀ l ∈ ls.take k, l.length = 32 := fun l hl => h32 l (List.mem_of_mem_take hl)
  have hf' := flat_len h32'
  have hlt : (ls.take k).length = k := by rw [List.length_take]; omega
  refine ⟨h32', by rw [cellsB_length, hf', Nat.mul_comm], ?_⟩
  rcases h with ⟨h1, _⟩ | ⟨g', cap', cur, hv, h1, h2, h3, h4, h5, h6⟩
  · cases h1
  · cases hv
    refine .inr ⟨g, cap, cur, by rw [hlt], h1, h2, by omega, h4, h5, ?_⟩
    have : cur.toList.take (k * 32) = (cur.toList.take (ls.length * 32)).take (k * 32) := by rw [List.take_take, Nat.min_eq_left (by omega)]
    rw [hlt, this, h6]
    have e : ls.flatten = (ls.take k).flatten ++ (ls.drop k).flatten := by rw [← List.flatten_append, List.take_append_drop]
    rw [e, cellsB_append, List.take_left' (by rw [cellsB_length, hf', hlt, Nat.mul_comm])]
/-- 'append(v, ds...)', v the call's own row of digests, ds any slice of digests. -/
theorem wpList_append_digests_any {w : World} {ops : Array Oper} {rest : List Oper} {o : Oper} {a : Act} {Q : Exit → Act → World → Prop} (hgd : o.guard = none) (s x : Operand)
    (ho : o.op = .call { callee := .builtin .append, args := #[s, x], argTypes := #[22, 22] })
    (base : Nat) (v : Value) (ls : List (List UInt8)) (hs : a.eval s = v) (hown : OwnD w base v ls)
    (ad : Option Addr) (n c : Nat) (ds : List (List UInt8)) (hx : a.eval x = .slice ad n c) (hr : DRow w ad n ds) (h47 : (ls.length + n) * 32 ≤ 140737488355328) (hbase : base ≤ w.heap.size)
    (h : ∀ v' w', OwnD w' base v' (ls ++ ds) → w.grownBy w' v.ownBlock → (v'.ownBlock = v.ownBlock ∨ v'.ownBlock = some w.heap.size) → wpList Tryd.prog ops Q rest (a.put o.dst v') w') : wpList Tryd.prog ops Q (o :: rest) a w := by
  obtain ⟨i0, hi, hz0, hz1, hz2⟩ := info_parts Tryd.infoDg
  by_cases hn : 0 < n
  · obtain ⟨b, off, rfl⟩ := hr.addr hn
    exact wpList_append_digests hgd s x ho base v ls hs hown ⟨b, off, none⟩ n c ds hx hr hn h47 hbase h
  · have h0 : n = 0 := by omega
    subst h0
    have hd : ds = [] := List.eq_nil_of_length_eq_zero hr.1
    subst hd
    cases ad with
    | none =>
      have hrun := run_append_nothing (P := Tryd.prog) w base 22 o.type 24 i0 32 Tryd.underlying22 hi v ls.length c (cellsB ls.flatten) hown.2
      refine wpList_plain hgd fun K hK' => ?_
      unfold Oper.wp
      simp [execOp, ho, resolve, invoke, builtin, hs, hx, hrun, Result.andThen]
      exact hK' _ _ (h v w (by rw [List.append_nil]; exact hown) (World.grownBy.refl _ _) (.inl rfl))
    | some ad =>
      refine wpList_append_own_at w hgd s x 22 ho base 24 i0 (.agg zeros32) 32 32 Tryd.underlying22 hi hz0 hz1 hz2 rfl (by decide) v ls.length (cellsB ls.flatten) hs hown.2 ad 0 c [] hx (by simp) (fun j u hj => by simp at hj) (fun u hu => by cases hu) (by unfold maxLen; omega) h47 hbase ?_
      intro v' w' hown' hgrow _ hat
      refine h v' w' ⟨?_, ?_⟩ hgrow hat
      · rw [List.append_nil]; exact hown.1
      · rw [List.append_nil]
        simpa using hown'
end Go.Proofs.YtbpkhpkllokbhaaDoor
