/- Texts of this claim, joined: Till, StepD, Sigi, Same. -/
import Derived.Test.YtigdgmoiljifjaaDoorJ10
import Derived.Deep.RegionHeld
import Derived.Test.YtigdgmoiljifjaaDoorJ04
import Derived.Test.YtigdgmoiljifjaaDoorJ03
import Derived.OwnWalk
import Derived.Test.YtigdgmoiljifjaaDoorJ02
import Derived.ChangeKeysEq
import Derived.WalkKit
/- A region that draws its order, and whose last operation (it waits for all others) writes what was loaded: a condition on the world that holds behind each operation but the last. No theorem of the program. -/
namespace Go.Proofs.YtigdgmoiljifjaaDoor
open Go.RowKit
set_option linter.unusedVariables false
set_option linter.unusedSimpArgs false
section
variable {P : Program} {ops : Array Oper} {Q : Exit → Act → World → Prop} {md : Region.Mode} {S : World → Prop} {last : Nat}

def wpAnyT (P : Program) (md : Region.Mode) (ops : Array Oper) (Q : Exit → Act → World → Prop) (S : World → Prop) (last : Nat) : Nat → Array Bool → Act → World → Prop
  | 0, listed, a, w => Region.ready md ops listed = [] ∧ Q .normal a w
  | fuel + 1, listed, a, w =>
    (Region.ready md ops listed = [] → Q .normal a w) ∧
    ∀ i ∈ Region.ready md ops listed, wpOp P ops Q i (fun a' w' => (i ≠ last → S w') ∧ wpAnyT P md ops Q S last fuel (listed.setIfInBounds i true) a' w') a w
theorem wpAny_of_till : ∀ (fuel : Nat) (listed : Array Bool) (a : Act) (w : World), wpAnyT P md ops Q S last fuel listed a w → wpAny P md ops Q fuel listed a w
  | 0, _, _, _, h => h
  | fuel + 1, _, _, _, h => ⟨h.1, fun i hi => wpOp_mono (fun a' w' h' => wpAny_of_till fuel _ a' w' h'.2) (h.2 i hi)⟩
/-- The last one waits for i. -/
def lastWaits (md : Region.Mode) (ops : Array Oper) (last i : Nat) : Bool := match ops[last]? with
  | none => false
  | some o => o.after.toList.any fun e => Region.binds md e && e.on == i
theorem lastWaits_spec {i : Nat} {listed : Array Bool} (h : lastWaits md ops last i = true) (hi : listed.getD i true = false) : last ∉ Region.ready md ops listed := by
  intro hl
  obtain ⟨_, o, ho, hall⟩ := mem_ready.1 hl
  unfold lastWaits at h
  rw [ho] at h
  obtain ⟨e, he, hb⟩ := List.any_eq_true.1 h
  simp only [Bool.and_eq_true, beq_iff_eq] at hb
  have := hall e (Array.mem_toList_iff.1 he) hb.1
  rw [hb.2] at this
  rcases Nat.lt_or_ge i listed.size with h' | h'
  · simp [h'] at hi this; rw [hi] at this; cases this
  · simp [Array.getElem?_eq_none h'] at this
theorem wpAnyT_first {i : Nat} {oi : Oper} {v : Value} (hi : ops[i]? = some oi) (hsel : ∀ (j : Nat) (o : Oper) cs b, ops[j]? = some o → o.op ≠ .select cs b)
    (hQ : ∀ c a w, Q (.panic c) (a.put oi.dst v) w → Q (.panic c) a w) (hw8 : lastWaits md ops last i = true) :
    ∀ (fuel : Nat) (listed : Array Bool) (a : Act) (w : World),
      (∀ j oj, ops[j]? = some oj → j ≠ i → listed.getD j true = false → (∀ e ∈ oj.after, Region.binds md e = true → e.on ≠ i) → oi.apart ops oj = true) →
      i ∈ Region.ready md ops listed → YieldsIf P ops S oi v a → S w →
      wpAnyT P md ops Q S last fuel (listed.setIfInBounds i true) (a.put oi.dst v) w → wpAnyT P md ops Q S last (fuel + 1) listed a w := by
  intro fuel
  induction fuel with
  | zero =>
    intro listed a w _ hr hy hS H
    refine ⟨fun h => (by rw [h] at hr; cases hr), fun j hj => ?_⟩
    by_cases hji : j = i
    · subst hji; exact hy.wpOp hi hS ⟨fun _ => hS, H⟩
    · have := ready_mono hj hji
      rw [H.1] at this
      cases this
  | succ fuel ih =>
    intro listed a w hfree hr hy hS H
    refine ⟨fun h => (by rw [h] at hr; cases hr), fun j hj => ?_⟩
    by_cases hji : j = i
    · subst hji; exact hy.wpOp hi hS ⟨fun _ => hS, H⟩
    · have hjl : j ≠ last := fun e => lastWaits_spec hw8 (mem_ready.1 hr).1 (e ▸ hj)
      have h1 := H.2 j (ready_mono hj hji)
      obtain ⟨hjun, oj, hoj, hall⟩ := mem_ready.1 hj
      have hnot : ∀ e ∈ oj.after, Region.binds md e = true → e.on ≠ i := fun e he hb heq => by
        have h1 := hall e he hb
        have h0 := (mem_ready.1 hr).1
        rw [heq] at h1
        rcases Nat.lt_or_ge i listed.size with h' | h'
        · simp [h'] at h0 h1; rw [h0] at h1; cases h1
        · simp [Array.getElem?_eq_none h'] at h1
      have h2 := wpOp_putIf hoj (hfree j oj hoj hji hjun hnot) (fun cs b => hsel i oi cs b hi) (fun cs b => hsel j oj cs b hoj) hQ hy h1
      have hfree' : ∀ k ok, ops[k]? = some ok → k ≠ i → (listed.setIfInBounds j true).getD k true = false →
          (∀ e ∈ ok.after, Region.binds md e = true → e.on ≠ i) → oi.apart ops ok = true := fun k ok hk hki hun hno => by
        refine hfree k ok hk hki ?_ hno
        by_cases hjk : j = k
        · subst hjk; exact hjun
        · rw [getD_set_ne true hjk] at hun; exact hun
      refine wpOp_mono (fun a' w' h3 => ⟨h3.2.1, ih (listed.setIfInBounds j true) a' w' hfree' (ready_mono hr (Ne.symm hji)) h3.1 (h3.2.1 hjl) ?_⟩) h2
      rw [Array.setIfInBounds_comm _ _ hji]
      exact h3.2.2
theorem wpAnyT_take {i : Nat} {oi : Oper} {v : Value} {fuel : Nat} {listed : Array Bool} {a : Act} {w : World} (hi : ops[i]? = some oi)
    (hs : Region.noSelect ops = true) (hf : Region.free md ops listed i = true) (hr : (Region.ready md ops listed).contains i = true) (hw8 : lastWaits md ops last i = true)
    (hQ : ∀ c a w, Q (.panic c) (a.put oi.dst v) w → Q (.panic c) a w) (hy : YieldsIf P ops S oi v a) (hS : S w)
    (h : wpAnyT P md ops Q S last fuel (listed.setIfInBounds i true) (a.put oi.dst v) w) : wpAnyT P md ops Q S last (fuel + 1) listed a w :=
  wpAnyT_first hi (Region.noSelect_spec hs) hQ hw8 fuel listed a w (Region.free_spec hi hf) (by simpa using hr) hy hS h
def AllReadyT (P : Program) (md : Region.Mode) (ops : Array Oper) (Q : Exit → Act → World → Prop) (S : World → Prop) (last : Nat) (fuel : Nat) (listed : Array Bool) (a : Act) (w : World) (rs : List Nat) : Prop :=
  ∀ i ∈ rs, wpOp P ops Q i (fun a' w' => (i ≠ last → S w') ∧ wpAnyT P md ops Q S last fuel (listed.setIfInBounds i true) a' w') a w
theorem AllReadyT.nil {fuel : Nat} {listed : Array Bool} {a : Act} {w : World} : AllReadyT P md ops Q S last fuel listed a w [] := fun _ h => by cases h
theorem AllReadyT.cons {fuel : Nat} {listed : Array Bool} {a : Act} {w : World} {i : Nat} {o : Oper} {rs : List Nat} (ho : ops[i]? = some o)
    (h : ∀ K' : Act → World → Prop, Shut (∀ a w, S w → (S w → wpAnyT P md ops Q S last fuel (listed.setIfInBounds i true) a w) → K' a w) → if Region.wanted o (yielded ops a.tmps) = true then Oper.wp P o a w K' Q else K' (a.put o.dst undef) w)
    (hs : AllReadyT P md ops Q S last fuel listed a w rs) : AllReadyT P md ops Q S last fuel listed a w (i :: rs) := fun j hj => by
  rcases List.mem_cons.1 hj with rfl | hj
  · exact wpOp_step ho (fun K' hK => h K' (fun a w hS hW => hK a w ⟨fun _ => hS, hW hS⟩))
  · exact hs j hj
/-- The last one: behind it nothing is asked of the world. -/
theorem AllReadyT.lastly {fuel : Nat} {listed : Array Bool} {a : Act} {w : World} {i : Nat} {o : Oper} {rs : List Nat} (ho : ops[i]? = some o) (hl : last = i)
    (h : ∀ K' : Act → World → Prop, Shut (∀ a w, wpAnyT P md ops Q S last fuel (listed.setIfInBounds i true) a w → K' a w) → if Region.wanted o (yielded ops a.tmps) = true then Oper.wp P o a w K' Q else K' (a.put o.dst undef) w)
    (hs : AllReadyT P md ops Q S last fuel listed a w rs) : AllReadyT P md ops Q S last fuel listed a w (i :: rs) := fun j hj => by
  rcases List.mem_cons.1 hj with rfl | hj
  · exact wpOp_step ho (fun K' hK => h K' (fun a w hW => hK a w ⟨fun hn => absurd hl.symm hn, hW⟩))
  · exact hs j hj
theorem wpAnyT_ready {rs : List Nat} {fuel : Nat} {listed : Array Bool} {a : Act} {w : World} (hr : Region.ready md ops listed = rs) (hne : rs ≠ [])
    (h : AllReadyT P md ops Q S last fuel listed a w rs) : wpAnyT P md ops Q S last (fuel + 1) listed a w := ⟨fun h0 => absurd (hr ▸ h0) hne, hr ▸ h⟩
theorem wpAnyT_done {listed : Array Bool} {a : Act} {w : World} (hr : Region.ready md ops listed = []) (h : Q .normal a w) :
    ∀ fuel, wpAnyT P md ops Q S last fuel listed a w
  | 0 => ⟨hr, h⟩
  | _ + 1 => ⟨fun _ => h, by rw [hr]; simp⟩
theorem wp_region_till {id : Nat} {a : Act} {w : World} (last : Nat) (hm : P.follows .mixedOrders = true) (hS : S w.drew)
    (h : S w.drew → wpAnyT P .any ops Q S last ops.size (Array.replicate ops.size false) a w.drew) : (Code.region id ops true).wp P Q a w :=
  wp_region_any hm (wpAny_of_till _ _ _ _ (h hS))
theorem wpIn_round_till {id : Nat} {a : Act} {w : World} (last : Nat) (l n : Nat) (hm : P.follows .mixedOrders = true) (hd : noDefer ops = true) (hQ : ¬ LetsOut Q) (hS : S w.drew)
    (h : S w.drew → wpAnyT P .any ops Q S last ops.size (Array.replicate ops.size false) a w.drew) : (Code.region id ops true).wpIn (Fence.wide.inRound l) n P Q a w :=
  wpIn_region_draw fun t => by
    refine wpOps_round l n hd hQ _ _ _ ?_
    simp only [Region.schedule, hm, Bool.true_or, if_true]
    exact wpAny_sound ops.size t _ a _ (wpAny_of_till _ _ _ _ (h hS))
end
end Go.Proofs.YtigdgmoiljifjaaDoor
/- A literal of a digest, and digests appended, as steps of a region that draws its order. -/
namespace Go.Proofs.YtigdgmoiljifjaaDoor
open Go.RowKit
set_option linter.unusedVariables false
set_option linter.unusedSimpArgs false

theorem wp_buildD1 {w : World} {o : Oper} {a : Act} {K : Act → World → Prop} {Q : Exit → Act → World → Prop} (x : Operand) (ho : o.op = .buildSlice 24 1 #[(0, x)])
    (l : List UInt8) (hl : l.length = 32) (hx : a.eval x = digestV l)
    (h : K (a.put o.dst (.slice (some ⟨w.heap.size, 0, none⟩) 1 1)) (w.alloc (.cells (cellsB l).toArray 23))) : o.wp Tryd.prog a w K Q := by
  obtain ⟨i0, hi, hz0, hz1, hz2⟩ := info_parts Tryd.infoDg
  have hrun := run_buildD (P := Tryd.prog) w 24 23 (.agg zeros32) i0 [l] (by intro q hq; rw [List.mem_singleton] at hq; rw [hq]; exact hl) (by simp) (by simp) Tryd.underlying24 hi hz0 (by rfl) hz1
  simp only [List.length_singleton, List.zipIdx_cons, List.zipIdx_nil, List.map_cons, List.map_nil, List.flatten_cons, List.flatten_nil, List.append_nil] at hrun
  unfold Oper.wp
  simp [execOp, ho, hx, hrun, Result.andThen]
  exact h
theorem wp_appendD {w : World} {o : Oper} {a : Act} {K : Act → World → Prop} {Q : Exit → Act → World → Prop} (s x : Operand)
    (ho : o.op = .call { callee := .builtin .append, args := #[s, x], argTypes := #[24, 24] })
    (base : Nat) (v : Value) (ls : List (List UInt8)) (hs : a.eval s = v) (hown : OwnD w base v ls)
    (ad : Addr) (n c : Nat) (ds : List (List UInt8)) (hx : a.eval x = .slice (some ad) n c) (hr : DRow w (some ad) n ds) (hn0 : 0 < n) (h47 : (ls.length + n) * 32 ≤ 140737488355328) (hbase : base ≤ w.heap.size)
    (h : ∀ v' w', OwnD w' base v' (ls ++ ds) → w.grownBy w' v.ownBlock → (v'.ownBlock = v.ownBlock ∨ v'.ownBlock = some w.heap.size) → K (a.put o.dst v') w') : o.wp Tryd.prog a w K Q := by
  obtain ⟨i0, hi, hz0, hz1, hz2⟩ := info_parts Tryd.infoDg
  have hlen := hr.len
  obtain ⟨hl, h32, h1 | ⟨b, off, e1, hc⟩⟩ := hr
  · omega
  cases e1
  have hf := flat_len h32
  have hnews : ∀ j u, (cellsB ds.flatten)[j]? = some u → w.cell? ((⟨b, off, none⟩ : Addr).add j) = some u := by
    intro j u hj
    have hj' : j < ds.flatten.length := by have := (List.getElem?_eq_some_iff.1 hj).1; rwa [cellsB_length] at this
    have hq : j / 32 < n := by omega
    have hm : j % 32 < 32 := Nat.mod_lt _ (by omega)
    have e : j = 32 * (j / 32) + j % 32 := by omega
    rw [Go.WideShapes.add_plain, ← hj, cellsB_at _ j hj']
    have := (hc (j / 32) hq).cell (j % 32) (by rw [hlen _ hq]; exact hm)
    rw [show off + 32 * (j / 32) + j % 32 = off + j by omega] at this
    rw [this]
    have hn := nth_flat h32 (j / 32) (j % 32) (by omega) hm
    rw [← e] at hn
    rw [hn]
  obtain ⟨v', w', hrun, h2, h3, h4, h5⟩ := run_append_own_at (P := Tryd.prog) w base 24 o.type 23 i0 (.agg zeros32) 32 32 Tryd.underlying24 hi hz0 hz1 hz2 rfl (by decide) v ls.length (cellsB ls.flatten) hown.2 ⟨b, off, none⟩ n c (cellsB ds.flatten) (by rw [cellsB_length, hf, hl]; omega) hnews (cellsB_one _) (by unfold maxLen; omega) h47 hbase
  unfold Oper.wp execOp
  simp only [ho, resolve, invoke, builtin, Sem.run_bind, Sem.run_pure, Result.andThen_ok, List.map_toArray, List.map_cons, List.map_nil, hs, hx, hrun]
  refine h v' w' ⟨?_, ?_⟩ h3 h5
  · intro l hl'
    rcases List.mem_append.1 hl' with h' | h'
    · exact hown.1 l h'
    · exact h32 l h'
  · rw [List.length_append, List.flatten_append, cellsB_append, hl]
    exact h2
end Go.Proofs.YtigdgmoiljifjaaDoor
/- What once.Sign holds between two rounds; steps of its drawn region. -/
namespace Go.Proofs.YtigdgmoiljifjaaDoor
open Go.RowKit
set_option linter.unusedVariables false
set_option linter.unusedSimpArgs false

theorem wrap_small (n : Nat) (h : n < 9223372036854775808) : IntKind.i64.wrap (n : Int) = n := by
  simp only [IntKind.wrap, IntKind.bits, IntKind.signed, Bool.true_and]
  rw [if_neg (by simp; omega)]
  omega
def sigP (seed m : List UInt8) (pre : List (Fin 256)) : List (List UInt8) := (pre.map fun x => [onceSecL seed x.1 (bitL m x.1), onceLeafL (onceSecL seed x.1 (1 - bitL m x.1))]).flatten
theorem sigP_snoc (seed m : List UInt8) (pre : List (Fin 256)) (x : Fin 256) : sigP seed m (pre ++ [x]) = sigP seed m pre ++ [onceSecL seed x.1 (bitL m x.1), onceLeafL (onceSecL seed x.1 (1 - bitL m x.1))] := by
  simp [sigP]
theorem sigP_len (seed m : List UInt8) : ∀ pre : List (Fin 256), (sigP seed m pre).length = 2 * pre.length := by
  intro pre
  induction pre with
  | nil => rfl
  | cons x r ih =>
    have : sigP seed m (x :: r) = [onceSecL seed x.1 (bitL m x.1), onceLeafL (onceSecL seed x.1 (1 - bitL m x.1))] ++ sigP seed m r := by simp [sigP]
    rw [this, List.length_append, ih, List.length_cons]
    simp
    omega
theorem sigP_all (seed m : List UInt8) : ∀ k, k ≤ 256 → sigP seed m (places k) = onceSigL seed m k
  | 0, _ => rfl
  | k + 1, h => by
    have hof : (Fin.ofNat 256 k).1 = k := by show k % 256 = k; omega
    rw [places_succ, sigP_snoc, sigP_all seed m k (by omega), hof, onceSigL, List.append_assoc]
    rfl
/-- Blocks: b the seed, b + 2 the signature's digests, B the variable sig. -/
def SigI (w : World) (B : Nat) (seed m : List UInt8) (pre : List (Fin 256)) (W : World) : Prop :=
  DAt W w.heap.size 0 seed ∧ OwnD W (w.heap.size + 2) (.slice (some ⟨w.heap.size + 2, 0, none⟩) (2 * pre.length) 512) (sigP seed m pre) ∧
  W.cell? ⟨B, 0, none⟩ = some (.slice (some ⟨w.heap.size + 2, 0, none⟩) (2 * pre.length) 512) ∧ W.frozen? ⟨B, 0, none⟩ = false ∧ Below w.heap.size w W ∧ w.heap.size + 2 < B ∧ B + 2 ≤ W.heap.size
theorem OwnD.keep {w w' : World} {B g n cap C : Nat} {ls : List (List UInt8)} (h : OwnD w B (.slice (some ⟨g, 0, none⟩) n cap) ls) (hb : Below C w w') (hg : g < C) : OwnD w' B (.slice (some ⟨g, 0, none⟩) n cap) ls := by
  refine ⟨h.1, ?_⟩
  have h := h.2
  rcases h.2 with ⟨h1, h0⟩ | ⟨g', cap', cur, e1, e2, e3, e4⟩
  · exact ⟨h.1, .inl ⟨h1, h0⟩⟩
  · have hgg : g = g' := by cases e1; rfl
    subst hgg
    exact ⟨h.1, .inr ⟨g, cap', cur, e1, e2, (hb.block g hg).trans e3, e4⟩⟩
theorem OwnD.same {w w' : World} {B g n cap : Nat} {ls : List (List UInt8)} (h : OwnD w B (.slice (some ⟨g, 0, none⟩) n cap) ls) (hk : w'.heap[g]? = w.heap[g]?) : OwnD w' B (.slice (some ⟨g, 0, none⟩) n cap) ls := by
  refine ⟨h.1, ?_⟩
  have h := h.2
  rcases h.2 with ⟨h1, h0⟩ | ⟨g', cap', cur, e1, e2, e3, e4⟩
  · exact ⟨h.1, .inl ⟨h1, h0⟩⟩
  · have hgg : g = g' := by cases e1; rfl
    subst hgg
    exact ⟨h.1, .inr ⟨g, cap', cur, e1, e2, hk.trans e3, e4⟩⟩
theorem SigI.keep {w : World} {B : Nat} {seed m : List UInt8} {pre : List (Fin 256)} {W W' : World} (h : SigI w B seed m pre W) (hb : Below (B + 2) W W') : SigI w B seed m pre W' := by
  obtain ⟨h1, h2, h3, h4, h5, h6, h7⟩ := h
  exact ⟨h1.below hb (by omega), h2.keep hb (by omega), (hb.cell (p := ⟨B, 0, none⟩) (by show B < B + 2; omega)).trans h3, (hb.frozen (p := ⟨B, 0, none⟩) (by show B < B + 2; omega)).trans h4, h5.trans (hb.mono (by omega)), h6, Nat.le_trans h7 hb.size⟩
/-- What the law of a range over a function asks: what is no cells, at or beyond B, stays. -/
theorem keepsFrom_of {B : Nat} {W W' : World} (hs : W.heap.size ≤ W'.heap.size) (h : ∀ k, B ≤ k → k < W.heap.size → W'.heap[k]? = W.heap[k]?) : KeepsFrom B W W' :=
  ⟨hs, fun k o hk ho _ => (h k hk (Array.getElem?_eq_some_iff.1 ho).1).trans ho⟩
theorem ownFrom_keep {β : Type} {B : Nat} {I : β → World → Prop} (hs : ∀ s W, I s W → B ≤ W.heap.size) (h : ∀ s W W', I s W → Below B W W' → I s W') : OwnFrom B I := fun s W W' row hi hg hr =>
  h s W W' hi ((Below.refl B W).grown hg (hs s W hi) fun k e => (hr k e).1)

theorem wp_buildD2 {w : World} {o : Oper} {a : Act} {K : Act → World → Prop} {Q : Exit → Act → World → Prop} (x y : Operand) (ho : o.op = .buildSlice 24 2 #[(0, x), (1, y)])
    (l r : List UInt8) (hl : l.length = 32) (hr : r.length = 32) (hx : a.eval x = digestV l) (hy : a.eval y = digestV r)
    (h : K (a.put o.dst (.slice (some ⟨w.heap.size, 0, none⟩) 2 2)) (w.alloc (.cells (cellsB (l ++ r)).toArray 23))) : o.wp Tryd.prog a w K Q := by
  obtain ⟨i0, hi, hz0, hz1, hz2⟩ := info_parts Tryd.infoDg
  have hrun := run_buildD (P := Tryd.prog) w 24 23 (.agg zeros32) i0 [l, r] (by intro q hq; simp only [List.mem_cons, List.not_mem_nil, or_false] at hq; rcases hq with rfl | rfl <;> assumption) (by simp) (by simp) Tryd.underlying24 hi hz0 (by rfl) hz1
  simp only [List.length_cons, List.length_nil, List.zipIdx_cons, List.zipIdx_nil, List.map_cons, List.map_nil, List.flatten_cons, List.flatten_nil, List.append_nil, Nat.zero_add, Nat.reduceAdd] at hrun
  unfold Oper.wp
  simp [execOp, ho, hx, hy, hrun, Result.andThen]
  exact h
/-- 'append(v, ds...)', v the call's own row of digests, with room. -/
theorem wp_appendDF {w : World} {o : Oper} {a : Act} {K : Act → World → Prop} {Q : Exit → Act → World → Prop} (s x : Operand)
    (ho : o.op = .call { callee := .builtin .append, args := #[s, x], argTypes := #[24, 24] })
    (base g k cap : Nat) (ls : List (List UInt8)) (hk : ls.length = k) (hs : a.eval s = .slice (some ⟨g, 0, none⟩) k cap) (hown : OwnD w base (.slice (some ⟨g, 0, none⟩) k cap) ls)
    (ad : Addr) (n c : Nat) (ds : List (List UInt8)) (hx : a.eval x = .slice (some ad) n c) (hr : DRow w (some ad) n ds) (hn0 : 0 < n) (hroom : k + n ≤ cap)
    (h : ∀ w', OwnD w' base (.slice (some ⟨g, 0, none⟩) (k + n) cap) (ls ++ ds) → w.grownBy w' (some g) → K (a.put o.dst (.slice (some ⟨g, 0, none⟩) (k + n) cap)) w') : o.wp Tryd.prog a w K Q := by
  obtain ⟨i0, hi, hz0, hz1, hz2⟩ := info_parts Tryd.infoDg
  subst hk
  have hlen := hr.len
  obtain ⟨hl, h32, h1 | ⟨b, off, e1, hc⟩⟩ := hr
  · omega
  cases e1
  have hf := flat_len h32
  have hnews : ∀ j u, (cellsB ds.flatten)[j]? = some u → w.cell? ((⟨b, off, none⟩ : Addr).add j) = some u := by
    intro j u hj
    have hj' : j < ds.flatten.length := by have := (List.getElem?_eq_some_iff.1 hj).1; rwa [cellsB_length] at this
    have hq : j / 32 < n := by omega
    have hm : j % 32 < 32 := Nat.mod_lt _ (by omega)
    have e : j = 32 * (j / 32) + j % 32 := by omega
    rw [Go.WideShapes.add_plain, ← hj, cellsB_at _ j hj']
    have := (hc (j / 32) hq).cell (j % 32) (by rw [hlen _ hq]; exact hm)
    rw [show off + 32 * (j / 32) + j % 32 = off + j by omega] at this
    rw [this]
    have hn := nth_flat h32 (j / 32) (j % 32) (by omega) hm
    rw [← e] at hn
    rw [hn]
  obtain ⟨w', hrun, r1, r2⟩ := run_append_fits (P := Tryd.prog) w base 24 o.type 23 i0 32 Tryd.underlying24 hi hz1 g ls.length cap (cellsB ls.flatten) hown.2 ⟨b, off, none⟩ n c (cellsB ds.flatten) (by rw [cellsB_length, hf, hl]; omega) hnews (cellsB_one _) hroom
  unfold Oper.wp execOp
  simp only [ho, resolve, invoke, builtin, Sem.run_bind, Sem.run_pure, Result.andThen_ok, List.map_toArray, List.map_cons, List.map_nil, hs, hx, hrun]
  refine h w' ⟨?_, ?_⟩ r2
  · intro l hl'
    rcases List.mem_append.1 hl' with h' | h'
    · exact hown.1 l h'
    · exact h32 l h'
  · rw [List.length_append, List.flatten_append, cellsB_append, hl]
    exact r1
end Go.Proofs.YtigdgmoiljifjaaDoor
/- Digests compared: equal or not, as the lists of their bytes are. -/
namespace Go.Proofs.YtigdgmoiljifjaaDoor
open Go.RowKit
set_option linter.unusedVariables false
set_option linter.unusedSimpArgs false

theorem run_eqItems_bytes {P : Program} (w : World) (d : Nat) (e : TypeId) (he : P.underlying e = some (.int .u8)) (X Y : List UInt8) (n : Nat) (hX : X.length = n) (hY : Y.length = n) :
    ∀ (is : List Nat), (∀ i ∈ is, i < n) → (Op.eqItems (d + 1) e 1 (cellsB X).toArray (cellsB Y).toArray is).run P w = .ok (is.all fun i => nth X i == nth Y i) w
  | [], _ => by simp [Op.eqItems]
  | i :: r, h => by
    have hi := h i (List.mem_cons_self ..)
    have ih := run_eqItems_bytes w d e he X Y n hX hY r (fun j hj => h j (List.mem_cons_of_mem _ hj))
    have px : (cellsB X).toArray[i]? = some (.int .u8 (nth X i)) := by simpa using cellsB_at X i (by omega)
    have py : (cellsB Y).toArray[i]? = some (.int .u8 (nth Y i)) := by simpa using cellsB_at Y i (by omega)
    have p1 : (part e (cellsB X).toArray (i * 1)).run P w = .ok (.int .u8 (nth X i)) w := by
      simp only [Nat.mul_one]
      simp [part, isAgg, run_underlying he, px, Result.andThen, Sem.run_bind]
    have p2 : (part e (cellsB Y).toArray (i * 1)).run P w = .ok (.int .u8 (nth Y i)) w := by
      simp only [Nat.mul_one]
      simp [part, isAgg, run_underlying he, py, Result.andThen, Sem.run_bind]
    have p3 : (Op.equalIn (d + 1) e (.int .u8 (nth X i)) (.int .u8 (nth Y i))).run P w = .ok (nth X i == nth Y i) w := run_equalIn_int w d e .u8 .u8 _ _ he
    simp only [Op.eqItems, Sem.run_bind, p1, p2, p3, Result.andThen_ok, List.all_cons]
    cases hb : nth X i == nth Y i
    · simp
    · simpa using ih
theorem all_nth {X Y : List UInt8} {n : Nat} (hX : X.length = n) (hY : Y.length = n) : ((List.range n).all fun i => nth X i == nth Y i) = decide (X = Y) := by
  by_cases h : X = Y
  · subst h
    simp
  · rw [decide_eq_false h]
    cases hb : (List.range n).all fun i => nth X i == nth Y i
    · rfl
    · refine absurd (nth_inj (by omega) fun j hj => ?_) h
      have := List.all_eq_true.1 hb j (List.mem_range.2 (by omega))
      simpa using this
/-- Two digests compared. -/
theorem run_same (w : World) (X Y : List UInt8) (hX : X.length = 32) (hY : Y.length = 32) :
    (Op.equalIn 10000 23 (.agg (cellsB X).toArray) (.agg (cellsB Y).toArray)).run Tryd.prog w = .ok (decide (X = Y)) w := by
  have hi : ∃ i, Tryd.prog.info? 5 = some i := info_of_underlying Tryd.underlying5
  obtain ⟨i, hi⟩ := hi
  have hc : Tryd.prog.cellsOf 5 = 1 := by kernel_rfl
  rw [run_equalIn_array w 9999 (cellsB X).toArray (cellsB Y).toArray Tryd.underlying23 hi, hc, run_eqItems_bytes w 9998 _ Tryd.underlying5 X Y 32 hX hY _ (fun i hi => List.mem_range.1 hi), all_nth hX hY]
theorem run_same_true (D : List UInt8) (h : D.length = 32) (w : World) : (Op.equalIn 10000 23 (.agg (cellsB D).toArray) (.agg (cellsB D).toArray)).run Tryd.prog w = .ok true w := by
  rw [run_same w D D h h, decide_eq_true rfl]
/-! the comparisons as steps: guarded or not (walked by simp, a guarded '!=' of digests runs the kernel out of memory) -/
theorem Tryd.eqGuardDigest : Tryd.prog.eqGuardType Tryd.prog.depth 23 = false := by kernel_rfl
theorem wpList_neqD {ops : Array Oper} {rest : List Oper} {o : Oper} {a : Act} {w : World} {Q : Exit → Act → World → Prop} (x y : Operand) (ho : o.op = .binOp .neq 23 x y 23) (hw : Region.wanted o (yielded ops a.tmps) = true) (X Y : List UInt8) (hX : X.length = 32) (hY : Y.length = 32)
    (hx : a.eval x = .agg (cellsB X).toArray) (hy : a.eval y = .agg (cellsB Y).toArray) (b : Bool) (hb : (!decide (X = Y)) = b) (h : wpList Tryd.prog ops Q rest (a.put o.dst (.bool b)) w) : wpList Tryd.prog ops Q (o :: rest) a w := by
  subst hb
  refine wpList_step fun K hK => ?_
  rw [if_pos hw]
  unfold Oper.wp
  simp [execOp, ho, hx, hy, eqGuard, Tryd.eqGuardDigest, binOp, Op.equal, Op.maxDepth, run_same _ X Y hX hY, Result.andThen, Sem.run_bind, -decide_not]
  exact hK _ _ h
theorem wpList_eqD {ops : Array Oper} {rest : List Oper} {o : Oper} {a : Act} {w : World} {Q : Exit → Act → World → Prop} (x y : Operand) (ho : o.op = .binOp .eql 23 x y 23) (hw : Region.wanted o (yielded ops a.tmps) = true) (X Y : List UInt8) (hX : X.length = 32) (hY : Y.length = 32)
    (hx : a.eval x = .agg (cellsB X).toArray) (hy : a.eval y = .agg (cellsB Y).toArray) (b : Bool) (hb : decide (X = Y) = b) (h : wpList Tryd.prog ops Q rest (a.put o.dst (.bool b)) w) : wpList Tryd.prog ops Q (o :: rest) a w := by
  subst hb
  refine wpList_step fun K hK => ?_
  rw [if_pos hw]
  unfold Oper.wp
  simp [execOp, ho, hx, hy, eqGuard, Tryd.eqGuardDigest, binOp, Op.equal, Op.maxDepth, run_same _ X Y hX hY, Result.andThen, Sem.run_bind]
  exact hK _ _ h
end Go.Proofs.YtigdgmoiljifjaaDoor
