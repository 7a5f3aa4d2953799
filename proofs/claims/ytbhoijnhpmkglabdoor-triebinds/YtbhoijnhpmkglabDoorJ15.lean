/- Texts of this claim, joined: Wround, Till, Lmapclash, Wtrieall. -/
import Derived.RangeFuncNested
import Derived.RangeFuncBound
import Derived.RangeFuncCalls
import Derived.RangeFuncLeaves
import Derived.Shelf.Abstract
import Derived.Shelf.RegionOpen
import Derived.WalkKit
import Derived.OwnWalkIn
import Derived.TacticsInMore
import Derived.LoopNIn
import Derived.LoopIn
import Derived.OrdersHeld
import Derived.Test.YtbhoijnhpmkglabDoorJ01
import Derived.Deep.RegionHeld
import Derived.Test.YtbhoijnhpmkglabDoorJ11
import Derived.Test.YtbhoijnhpmkglabDoorJ14
import Derived.Test.YtbhoijnhpmkglabDoorJ13
import Derived.Deep.DeepCutAuto
/- A region in a round of a range over a function: as anywhere, under the wide fence. -/
namespace Go.Proofs.YtbhoijnhpmkglabDoor
open Go.RowKit
set_option linter.unusedVariables false
set_option linter.unusedSimpArgs false

theorem rows_wide {P : Program} {row : String} {args : Array Value} {w : World} {R : Value → World → Prop} (l n : Nat) (h : Rows P row args w R) : RowsIn (Fence.wide.inRound l) n P row args w R :=
  fun c cs _ => let ⟨v, w', r, s⟩ := h c cs; ⟨v, w', r, stepsIn_wide.2 s⟩
theorem uponIn_round_wide {P : Program} {o : Oper} {a : Act} {K K' : Act → World → Prop} {Q : Exit → Act → World → Prop} (l n : Nat) (hK : ∀ a w, K a w → K' a w) (r : Result Next) (h : o.upon P a K Q r) :
    o.uponIn (Fence.wide.inRound l) n P a K' Q r := by
  unfold Oper.upon at h
  unfold Oper.uponIn
  split at h
  · exact hK _ _ h
  · exact hK _ _ h
  · exact hK _ _ h
  · refine ⟨fun hd => (by cases hd), CallsIn.inRound l (callsIn_wide.2 (h.mono ?_))⟩
    intro e w' he
    cases e with
    | returned v => exact hK _ _ he
    | panicked c => exact he
    | outgrown => exact he
  · exact ⟨fun hd => (by cases hd), rows_wide l _ (h.mono fun v w' hv => hK _ _ hv)⟩
  · exact h
  · exact h.elim
/-- No statement in it is a 'defer'. -/
def noDefer (ops : Array Oper) : Bool := ops.toList.all fun o => match o.op with | .defer _ => false | _ => true
theorem noDefer_spec {ops : Array Oper} (h : noDefer ops = true) {i : Nat} {o : Oper} (ho : ops[i]? = some o) : ∀ c, o.op ≠ .defer c := by
  intro c hc
  have hm : o ∈ ops.toList := by
    have := (Array.getElem?_eq_some_iff.1 ho).2
    have hi := (Array.getElem?_eq_some_iff.1 ho).1
    rw [← this]
    exact Array.mem_toList_iff.2 (Array.getElem_mem hi)
  have := List.all_eq_true.1 h o hm
  rw [hc] at this
  cases this
theorem wpOps_round {P : Program} {ops : Array Oper} {Q : Exit → Act → World → Prop} (l n : Nat) (hd : noDefer ops = true) (hQ : ¬ LetsOut Q) :
    ∀ (js : List Nat) (a : Act) (w : World), wpOps P ops Q js a w → wpOpsIn (Fence.wide.inRound l) n P ops Q js a w
  | [], _, _, h => h
  | i :: rest, a, w, h => by
    have ih := wpOps_round (P := P) l n hd hQ rest
    unfold wpOps at h
    unfold wpOpsIn
    cases ho : ops[i]? with
    | none =>
      rw [ho] at h
      exact ih a w h
    | some o =>
      rw [ho] at h
      simp only at h ⊢
      by_cases hw : Region.wanted o (yielded ops a.tmps) = true
      · rw [if_pos hw] at h ⊢
        rcases h with h | ⟨_, h⟩
        · refine ⟨fun _ _ => trivial, ?_⟩
          rw [Oper.semAt_eq _ _ _ (noDefer_spec hd ho)]
          exact uponIn_round_wide l n ih _ h
        · exact absurd h hQ
      · rw [if_neg hw] at h ⊢
        exact ⟨fun _ _ => trivial, ih _ _ h⟩
theorem wpIn_round_list {P : Program} {ops : Array Oper} {Q : Exit → Act → World → Prop} {id : Nat} {a : Act} {w : World} (l n : Nat) (hd : noDefer ops = true) (hQ : ¬ LetsOut Q) (h : wpList P ops Q ops.toList a w) :
    (Code.region id ops false).wpIn (Fence.wide.inRound l) n P Q a w := by
  refine wpIn_region (wpOps_round l n hd hQ _ _ _ ?_)
  rw [List.range_eq_range', show ops.size = ops.toList.length from rfl, wpOps_eq_wpList ops.toList 0 (by simp)]
  exact h
theorem wpIn_round_held {P : Program} {ops : Array Oper} {Q : Exit → Act → World → Prop} {S : World → Prop} {id : Nat} {a : Act} {w : World} (l n : Nat) (hm : P.follows .mixedOrders = true) (hd : noDefer ops = true) (hQ : ¬ LetsOut Q)
    (h : wpAnyH P .any ops Q S ops.size (Array.replicate ops.size false) a { w with drawn := w.drawn + 1 }) : (Code.region id ops true).wpIn (Fence.wide.inRound l) n P Q a w :=
  wpIn_region_draw fun t => by
    refine wpOps_round l n hd hQ _ _ _ ?_
    simp only [Region.schedule, hm, Bool.true_or, if_true]
    exact wpAny_sound ops.size t _ a _ (wpAny_of_held _ _ _ _ h)
end Go.Proofs.YtbhoijnhpmkglabDoor
/- A region that draws its order, and whose last operation (it waits for all others) writes what was loaded: a condition on the world that holds behind each operation but the last. No theorem of the program. -/
namespace Go.Proofs.YtbhoijnhpmkglabDoor
open Go.RowKit
set_option linter.unusedVariables false
set_option linter.unusedSimpArgs false
section
variable {P : Program} {ops : Array Oper} {Q : Exit → Act → World → Prop} {md : Region.Mode} {S : World → Prop} {last : Nat}

def wpAnyT (P : Program) (md : Region.Mode) (ops : Array Oper) (Q : Exit → Act → World → Prop) (S : World → Prop) (last : Nat) : Nat → Array Bool → Act → World → Prop
  | 0, listed, a, w => Region.ready md ops listed = [] ∧ Q .normal a w
  | fuel + 1, listed, a, w =>
    (Region.ready md ops listed = [] → Q .normal a w) ∧
    ∀ i ∈ Region.ready md ops listed, wpOp P ops Q i (fun a' w' => (i ≠ last → S w') ∧ wpAnyT P md ops Q S last fuel (listed.setIfInBounds i true) a' w') a w
theorem wpAny_of_till : ∀ (fuel : Nat) (listed : Array Bool) (a : Act) (w : World), wpAnyT P md ops Q S last fuel listed a w → wpAny P md ops Q fuel listed a w
  | 0, _, _, _, h => h
  | fuel + 1, _, _, _, h => ⟨h.1, fun i hi => wpOp_mono (fun a' w' h' => wpAny_of_till fuel _ a' w' h'.2) (h.2 i hi)⟩
/-- The last one waits for i. -/
def lastWaits (md : Region.Mode) (ops : Array Oper) (last i : Nat) : Bool := match ops[last]? with
  | none => false
  | some o => o.after.toList.any fun e => Region.binds md e && e.on == i
theorem lastWaits_spec {i : Nat} {listed : Array Bool} (h : lastWaits md ops last i = true) (hi : listed.getD i true = false) : last ∉ Region.ready md ops listed := by
  intro hl
  obtain ⟨_, o, ho, hall⟩ := mem_ready.1 hl
  unfold lastWaits at h
  rw [ho] at h
  obtain ⟨e, he, hb⟩ := List.any_eq_true.1 h
  simp only [Bool.and_eq_true, beq_iff_eq] at hb
  have := hall e (Array.mem_toList_iff.1 he) hb.1
  rw [hb.2] at this
  rcases Nat.lt_or_ge i listed.size with h' | h'
  · simp [h'] at hi this; rw [hi] at this; cases this
  · simp [Array.getElem?_eq_none h'] at this
theorem wpAnyT_first {i : Nat} {oi : Oper} {v : Value} (hi : ops[i]? = some oi) (hsel : ∀ (j : Nat) (o : Oper) cs b, ops[j]? = some o → o.op ≠ .select cs b)
    (hQ : ∀ c a w, Q (.panic c) (a.put oi.dst v) w → Q (.panic c) a w) (hw8 : lastWaits md ops last i = true) :
    ∀ (fuel : Nat) (listed : Array Bool) (a : Act) (w : World),
      (∀ j oj, ops[j]? = some oj → j ≠ i → listed.getD j true = false → (∀ e ∈ oj.after, Region.binds md e = true → e.on ≠ i) → oi.apart ops oj = true) →
      i ∈ Region.ready md ops listed → YieldsIf P ops S oi v a → S w →
      wpAnyT P md ops Q S last fuel (listed.setIfInBounds i true) (a.put oi.dst v) w → wpAnyT P md ops Q S last (fuel + 1) listed a w := by
  intro fuel
  induction fuel with
  | zero =>
    intro listed a w _ hr hy hS H
    refine ⟨fun h => (by rw [h] at hr; cases hr), fun j hj => ?_⟩
    by_cases hji : j = i
    · subst hji; exact hy.wpOp hi hS ⟨fun _ => hS, H⟩
    · have := ready_mono hj hji
      rw [H.1] at this
      cases this
  | succ fuel ih =>
    intro listed a w hfree hr hy hS H
    refine ⟨fun h => (by rw [h] at hr; cases hr), fun j hj => ?_⟩
    by_cases hji : j = i
    · subst hji; exact hy.wpOp hi hS ⟨fun _ => hS, H⟩
    · have hjl : j ≠ last := fun e => lastWaits_spec hw8 (mem_ready.1 hr).1 (e ▸ hj)
      have h1 := H.2 j (ready_mono hj hji)
      obtain ⟨hjun, oj, hoj, hall⟩ := mem_ready.1 hj
      have hnot : ∀ e ∈ oj.after, Region.binds md e = true → e.on ≠ i := fun e he hb heq => by
        have h1 := hall e he hb
        have h0 := (mem_ready.1 hr).1
        rw [heq] at h1
        rcases Nat.lt_or_ge i listed.size with h' | h'
        · simp [h'] at h0 h1; rw [h0] at h1; cases h1
        · simp [Array.getElem?_eq_none h'] at h1
      have h2 := wpOp_putIf hoj (hfree j oj hoj hji hjun hnot) (fun cs b => hsel i oi cs b hi) (fun cs b => hsel j oj cs b hoj) hQ hy h1
      have hfree' : ∀ k ok, ops[k]? = some ok → k ≠ i → (listed.setIfInBounds j true).getD k true = false →
          (∀ e ∈ ok.after, Region.binds md e = true → e.on ≠ i) → oi.apart ops ok = true := fun k ok hk hki hun hno => by
        refine hfree k ok hk hki ?_ hno
        by_cases hjk : j = k
        · subst hjk; exact hjun
        · rw [getD_set_ne true hjk] at hun; exact hun
      refine wpOp_mono (fun a' w' h3 => ⟨h3.2.1, ih (listed.setIfInBounds j true) a' w' hfree' (ready_mono hr (Ne.symm hji)) h3.1 (h3.2.1 hjl) ?_⟩) h2
      rw [Array.setIfInBounds_comm _ _ hji]
      exact h3.2.2
theorem wpAnyT_take {i : Nat} {oi : Oper} {v : Value} {fuel : Nat} {listed : Array Bool} {a : Act} {w : World} (hi : ops[i]? = some oi)
    (hs : Region.noSelect ops = true) (hf : Region.free md ops listed i = true) (hr : (Region.ready md ops listed).contains i = true) (hw8 : lastWaits md ops last i = true)
    (hQ : ∀ c a w, Q (.panic c) (a.put oi.dst v) w → Q (.panic c) a w) (hy : YieldsIf P ops S oi v a) (hS : S w)
    (h : wpAnyT P md ops Q S last fuel (listed.setIfInBounds i true) (a.put oi.dst v) w) : wpAnyT P md ops Q S last (fuel + 1) listed a w :=
  wpAnyT_first hi (Region.noSelect_spec hs) hQ hw8 fuel listed a w (Region.free_spec hi hf) (by simpa using hr) hy hS h
def AllReadyT (P : Program) (md : Region.Mode) (ops : Array Oper) (Q : Exit → Act → World → Prop) (S : World → Prop) (last : Nat) (fuel : Nat) (listed : Array Bool) (a : Act) (w : World) (rs : List Nat) : Prop :=
  ∀ i ∈ rs, wpOp P ops Q i (fun a' w' => (i ≠ last → S w') ∧ wpAnyT P md ops Q S last fuel (listed.setIfInBounds i true) a' w') a w
theorem AllReadyT.nil {fuel : Nat} {listed : Array Bool} {a : Act} {w : World} : AllReadyT P md ops Q S last fuel listed a w [] := fun _ h => by cases h
theorem AllReadyT.cons {fuel : Nat} {listed : Array Bool} {a : Act} {w : World} {i : Nat} {o : Oper} {rs : List Nat} (ho : ops[i]? = some o)
    (h : ∀ K' : Act → World → Prop, Shut (∀ a w, S w → (S w → wpAnyT P md ops Q S last fuel (listed.setIfInBounds i true) a w) → K' a w) → if Region.wanted o (yielded ops a.tmps) = true then Oper.wp P o a w K' Q else K' (a.put o.dst undef) w)
    (hs : AllReadyT P md ops Q S last fuel listed a w rs) : AllReadyT P md ops Q S last fuel listed a w (i :: rs) := fun j hj => by
  rcases List.mem_cons.1 hj with rfl | hj
  · exact wpOp_step ho (fun K' hK => h K' (fun a w hS hW => hK a w ⟨fun _ => hS, hW hS⟩))
  · exact hs j hj
/-- The last one: behind it nothing is asked of the world. -/
theorem AllReadyT.lastly {fuel : Nat} {listed : Array Bool} {a : Act} {w : World} {i : Nat} {o : Oper} {rs : List Nat} (ho : ops[i]? = some o) (hl : last = i)
    (h : ∀ K' : Act → World → Prop, Shut (∀ a w, wpAnyT P md ops Q S last fuel (listed.setIfInBounds i true) a w → K' a w) → if Region.wanted o (yielded ops a.tmps) = true then Oper.wp P o a w K' Q else K' (a.put o.dst undef) w)
    (hs : AllReadyT P md ops Q S last fuel listed a w rs) : AllReadyT P md ops Q S last fuel listed a w (i :: rs) := fun j hj => by
  rcases List.mem_cons.1 hj with rfl | hj
  · exact wpOp_step ho (fun K' hK => h K' (fun a w hW => hK a w ⟨fun hn => absurd hl.symm hn, hW⟩))
  · exact hs j hj
theorem wpAnyT_ready {rs : List Nat} {fuel : Nat} {listed : Array Bool} {a : Act} {w : World} (hr : Region.ready md ops listed = rs) (hne : rs ≠ [])
    (h : AllReadyT P md ops Q S last fuel listed a w rs) : wpAnyT P md ops Q S last (fuel + 1) listed a w := ⟨fun h0 => absurd (hr ▸ h0) hne, hr ▸ h⟩
theorem wpAnyT_done {listed : Array Bool} {a : Act} {w : World} (hr : Region.ready md ops listed = []) (h : Q .normal a w) :
    ∀ fuel, wpAnyT P md ops Q S last fuel listed a w
  | 0 => ⟨hr, h⟩
  | _ + 1 => ⟨fun _ => h, by rw [hr]; simp⟩
theorem wp_region_till {id : Nat} {a : Act} {w : World} (last : Nat) (hm : P.follows .mixedOrders = true) (hS : S w.drew)
    (h : S w.drew → wpAnyT P .any ops Q S last ops.size (Array.replicate ops.size false) a w.drew) : (Code.region id ops true).wp P Q a w :=
  wp_region_any hm (wpAny_of_till _ _ _ _ (h hS))
theorem wpIn_round_till {id : Nat} {a : Act} {w : World} (last : Nat) (l n : Nat) (hm : P.follows .mixedOrders = true) (hd : noDefer ops = true) (hQ : ¬ LetsOut Q) (hS : S w.drew)
    (h : S w.drew → wpAnyT P .any ops Q S last ops.size (Array.replicate ops.size false) a w.drew) : (Code.region id ops true).wpIn (Fence.wide.inRound l) n P Q a w :=
  wpIn_region_draw fun t => by
    refine wpOps_round l n hd hQ _ _ _ ?_
    simp only [Region.schedule, hm, Bool.true_or, if_true]
    exact wpAny_sound ops.size t _ a _ (wpAny_of_till _ _ _ _ (h hS))
end
end Go.Proofs.YtbhoijnhpmkglabDoor
/- The contract of the laws' mapClash. -/
namespace Go.Proofs.YtbhoijnhpmkglabDoor
open Go.RowKit
set_option linter.unusedVariables false
set_option linter.unusedSimpArgs false

theorem wp_buildT2 {w : World} {o : Oper} {a : Act} {K : Act → World → Prop} {Q : Exit → Act → World → Prop} (x y : Operand) (ho : o.op = .buildSlice 30 2 #[(0, x), (1, y)])
    (l r : List UInt8) (hl : l.length = 32) (hr : r.length = 32) (hx : a.eval x = digestV l) (hy : a.eval y = digestV r)
    (h : K (a.put o.dst (.slice (some ⟨w.heap.size, 0, none⟩) 2 2)) (w.alloc (.cells (cellsB (l ++ r)).toArray 25))) : o.wp Tryd.prog a w K Q := by
  obtain ⟨i0, hi, hz0, hz1, hz2⟩ := info_parts Tryd.infoDg
  have hrun := run_buildD (P := Tryd.prog) w 30 25 (.agg zeros32) i0 [l, r] (by intro q hq; simp only [List.mem_cons, List.not_mem_nil, or_false] at hq; rcases hq with rfl | rfl <;> assumption) (by simp) (by simp) Tryd.underlying30 hi hz0 (by rfl) hz1
  simp only [List.length_cons, List.length_nil, List.zipIdx_cons, List.zipIdx_nil, List.map_cons, List.map_nil, List.flatten_cons, List.flatten_nil, List.append_nil, Nat.zero_add, Nat.reduceAdd] at hrun
  unfold Oper.wp
  simp [execOp, ho, hx, hy, hrun, Result.andThen]
  exact h
theorem drow_twoT {w : World} {g : Nat} {A B : List UInt8} (h : DRow w (some ⟨g, 0, none⟩) 2 [A, B]) : DAt w g 0 A ∧ DAt w g 32 B := by
  have h0 := h.at 0 (by omega)
  have h1 := h.at 1 (by omega)
  exact ⟨by simpa using h0, by simpa using h1⟩
theorem clash_step {k : Nat} {a b : List UInt8} {ps qs : List (List UInt8)} {i : Nat} (hp : i < ps.length) (hq : i < qs.length) : clashM k a (ps.drop i) b (qs.drop i) = if k % 2 = 1 then (if ¬ (ps.getD i [] = qs.getD i [] ∧ a = b) ∧ mnode (ps.getD i []) a = mnode (qs.getD i []) b then true else clashM (k / 2) (mnode (ps.getD i []) a) (ps.drop (i + 1)) (mnode (qs.getD i []) b) (qs.drop (i + 1))) else if ¬ (a = b ∧ ps.getD i [] = qs.getD i []) ∧ mnode a (ps.getD i []) = mnode b (qs.getD i []) then true else clashM (k / 2) (mnode a (ps.getD i [])) (ps.drop (i + 1)) (mnode b (qs.getD i [])) (qs.drop (i + 1)) := by
  have h1 : ps.drop i = ps.getD i [] :: ps.drop (i + 1) := by
    rw [List.drop_eq_getElem_cons hp, List.getD_eq_getElem?_getD, List.getElem?_eq_getElem hp]
    rfl
  have h2 : qs.drop i = qs.getD i [] :: qs.drop (i + 1) := by
    rw [List.drop_eq_getElem_cons hq, List.getD_eq_getElem?_getD, List.getElem?_eq_getElem hq]
    rfl
  rw [h1, h2]
  conv => lhs; unfold clashM
/-- One level up: an if of four. -/
def lev (x0 x1 y0 y1 : List UInt8) (r : Bool) : Bool := if ¬ (x0 = y0 ∧ x1 = y1) ∧ mnode x0 x1 = mnode y0 y1 then true else r
theorem drow_aside {w : World} {a : Option Addr} {n : Nat} {ls : List (List UInt8)} (h : DRow w a n ls) (b o : Nat) (vs : List Value) (hne : ∀ x, a = some x → x.block ≠ b) : DRow (w.setCells b o vs) a n ls := by
  obtain ⟨h1, h2, h3⟩ := h
  refine ⟨h1, h2, ?_⟩
  rcases h3 with h3 | ⟨b', o', ha, hc⟩
  · exact .inl h3
  · exact .inr ⟨b', o', ha, fun i hi => World.rangeAt_setCells_apart (hc i hi) _ _ _ (.inl (hne _ ha))⟩
set_option maxRecDepth 100000 in
set_option maxHeartbeats 2000000 in
theorem rmapclash_any (k : Nat) (a : List UInt8) (pa : Option Addr) (c : Nat) (ps : List (List UInt8)) (b : List UInt8) (qa : Option Addr) (d : Nat) (qs : List (List UInt8)) (w : World) (hk : k ≤ 9223372036854775807) (ha : a.length = 32) (hb : b.length = 32) (R : DRow w pa 32 ps) (hc : 32 ≤ c) (S : DRow w qa 32 qs) (hd : 32 ≤ d) :
    Calls Tryd.prog 9 #[.int .i64 (k : Int), digestV a, .slice pa 32 c, digestV b, .slice qa 32 d] w fun r w' => r = .returned (.bool (clashM k a ps b qs)) ∧ Below w.heap.size w w' := by
  obtain ⟨w2, hw2⟩ : ∃ w2, (w.alloc (.cells (cellsB a).toArray 25)).alloc (.cells (cellsB b).toArray 25) = w2 := ⟨_, rfl⟩
  have hs1 : (w.alloc (.cells (cellsB a).toArray 25)).heap.size = w.heap.size + 1 := by simp
  have HS2 : Hid (w2.heap.size = w.heap.size + 1 + 1) := by unfold Hid; rw [← hw2]; simp
  have HB2 : Hid (Below w.heap.size w w2) := by rw [← hw2]; exact ((Below.refl _ _).alloc (Nat.le_refl _) _).alloc (by simp) _
  have HX2 : Hid (w2.rangeAt w.heap.size 0 (cellsB a) ∧ w2.rangeAt (w.heap.size + 1) 0 (cellsB b)) := by rw [← hw2]; exact ⟨World.rangeAt_alloc (box_dat w a _) _, box_rangeAt _ _ _ _ hs1⟩
  have HT2 : Hid (w2.there w.heap.size 0 32 ∧ w2.there (w.heap.size + 1) 0 32) := by
    rw [← hw2]
    exact ⟨there_below (w := w.alloc (.cells (cellsB a).toArray 25)) (alloc_thereAt _ _ _ 32 _ rfl (by rw [cellsB_size, ha])) ((Below.refl _ _).alloc (Nat.le_refl _) _) (by simp), alloc_thereAt _ _ _ 32 _ hs1 (by rw [cellsB_size, hb])⟩
  obtain ⟨pb, po, hpa⟩ := R.addr (by omega)
  obtain ⟨qb, qo, hqa⟩ := S.addr (by omega)
  subst hpa hqa
  have HR : Hid (∀ wx, Below w.heap.size w wx → DRow wx (some ⟨pb, po, none⟩) 32 ps ∧ DRow wx (some ⟨qb, qo, none⟩) 32 qs) := fun wx hx => ⟨R.below hx, S.below hx⟩
  have HPQ : Hid (ps.length = 32 ∧ qs.length = 32) := ⟨R.1, S.1⟩
  have HPL : Hid (∀ i, i < 32 → (ps.getD i []).length = 32 ∧ (qs.getD i []).length = 32) := fun i hi => ⟨R.len i hi, S.len i hi⟩
  clear R S hs1
  go_enter Tryd.func9, Tryd.ntmps9
  go_wp2_with fail
  try rw [hw2]
  clear hw2
  go_loopw [0, 11] (fun kv iv wr => ∃ (i kk : Nat) (A B : List UInt8), i ≤ 32 ∧ iv = .int .i64 (i : Int) ∧ kv = .int .i64 (kk : Int) ∧ kk ≤ k ∧ A.length = 32 ∧ B.length = 32 ∧ wr.rangeAt w.heap.size 0 (cellsB A) ∧ wr.rangeAt (w.heap.size + 1) 0 (cellsB B) ∧ wr.there w.heap.size 0 32 ∧ wr.there (w.heap.size + 1) 0 32 ∧ Below w.heap.size w wr ∧ w.heap.size + 1 < wr.heap.size ∧ Hid (clashM k a ps b qs = clashM kk A (ps.drop i) B (qs.drop i))) (fun _ iv _ => 32 - (intOf iv).toNat)
  case atStart => exact ⟨0, k, a, b, by omega, rfl, rfl, Nat.le_refl _, ha, hb, HX2.out.1, HX2.out.2, HT2.out.1, HT2.out.2, HB2.out, by have := HS2.out; omega, rfl⟩
  case round =>
    clear HX2 HT2 HB2 HS2
    obtain ⟨i, kk, A, B, hi, rfl, rfl, hkk, lA, lB, hXA, hXB, hTA, hTB, hB, hS, HC⟩ := hrel
    have HSW : Hid (w.heap.size + 1 < wr.heap.size) := hS
    have HBW : Hid (Below w.heap.size w wr) := hB
    by_cases hlt : i < 32
    · obtain ⟨lD, lE⟩ := HPL.out i hlt
      have HCS := clash_step (k := kk) (a := A) (b := B) (ps := ps) (qs := qs) (i := i) (by rw [HPQ.out.1]; exact hlt) (by rw [HPQ.out.2]; exact hlt)
      rw [← HC.out] at HCS
      have HKR : Hid (∀ wx, Below wr.heap.size wr wx → wx.rangeAt pb (po + i * 32) (cellsB (ps.getD i [])) ∧ wx.rangeAt qb (qo + i * 32) (cellsB (qs.getD i [])) ∧ wx.rangeAt w.heap.size 0 (cellsB A) ∧ wx.rangeAt (w.heap.size + 1) 0 (cellsB B) ∧ Below w.heap.size w wx) := fun wx hx => by
        have hb : Below w.heap.size w wx := hB.trans (hx.mono hB.size)
        exact ⟨(HR.out wx hb).1.at i hlt, (HR.out wx hb).2.at i hlt, range_below hXA hx (by omega), range_below hXB hx (by omega), hb⟩
      have HTH : Hid (∀ wx, Below wr.heap.size wr wx → wx.there w.heap.size 0 32 ∧ wx.there (w.heap.size + 1) 0 32 ∧ True) := fun wx hx => ⟨there_below hTA hx (by omega), there_below hTB hx (by omega), True.intro⟩
      have HTH' : Hid (∀ wx, Below wr.heap.size wr wx → wx.there w.heap.size 0 32) := fun wx hx => (HTH.out wx hx).1
      have i0 : (0 : Int) ≤ (i : Int) := by omega
      have i1 : (i : Int) < 32 := by omega
      have d1 : (kk : Int).tdiv 2 = ((kk / 2 : Nat) : Int) := by rw [Int.tdiv_eq_ediv_of_nonneg (by omega)]; omega
      have d2 : (kk : Int) / 2 = ((kk / 2 : Nat) : Int) := by omega
      have d3 : (kk : Int).tmod 2 = ((kk % 2 : Nat) : Int) := by rw [Int.tmod_eq_emod_of_nonneg (by omega)]; omega
      have d4 : (kk : Int) % 2 = ((kk % 2 : Nat) : Int) := by omega
      have HK2 : Hid (kk / 2 ≤ k) := by unfold Hid; omega
      have H0 : Hid (Below wr.heap.size wr wr) := Below.refl _ _
      clear hXA hXB hTA hTB hB hS HC
      generalize ps.getD i [] = D at *
      generalize qs.getD i [] = E at *
      by_cases hodd : kk % 2 = 1
      · have HCO : Hid (clashM k a ps b qs = (if ¬ (D = E ∧ A = B) ∧ mnode D A = mnode E B then true else clashM (kk / 2) (mnode D A) (ps.drop (i + 1)) (mnode E B) (qs.drop (i + 1)))) := by rw [if_pos hodd] at HCS; exact HCS
        rw [hodd] at d3 d4
        clear HCS
        generalize kk / 2 = k2 at *
        go_upto_region 4 with fail
        refine wp_region_noPanic ?_
        refine wp_region_held_drew (S := fun wx => wx.rangeAt pb (po + i * 32) (cellsB D) ∧ wx.rangeAt w.heap.size 0 (cellsB A)) (by kernel_rfl) ⟨(HKR.out _ (H0.out.trans ((below_drewN wr 1).mono H0.out.size))).1, (HKR.out _ (H0.out.trans ((below_drewN wr 1).mono H0.out.size))).2.2.1⟩ (fun hHeld => ?_)
        try simp only [Act.put, List.setIfInBounds_toArray, List.set_cons_zero, List.set_cons_succ]
        have HBd : Hid (Below wr.heap.size wr wr.drew) := H0.out.trans ((below_drewN wr 1).mono H0.out.size)
        have HKd : Hid (Below wr.heap.size wr wr.drew) := below_drewN wr 1
        generalize wr.drew = wd at *
        refine wpAnyH_take (i := 0) (v := .agg (cellsB A).toArray) (by simp only [List.getElem?_toArray, List.getElem?_cons_zero, List.getElem?_cons_succ]; rfl) (by kernel_rfl) (by kernel_rfl) (by kernel_rfl) (fun _ _ _ h => h)
          (yieldsIf_load_mid (by rfl) _ _ rfl _ _ rfl _ _ (fun w hw => hw.2) Tryd.underlying25 rfl (by rw [cellsB_length, lA]; exact Tryd.sizeDg)) hHeld ?_
        try simp only [Act.put, List.setIfInBounds_toArray, List.set_cons_zero, List.set_cons_succ]
        refine wpAnyH_take (i := 1) (v := ?_) (by simp only [List.getElem?_toArray, List.getElem?_cons_zero, List.getElem?_cons_succ]; rfl) (by kernel_rfl) (by kernel_rfl) (by kernel_rfl) (fun _ _ _ h => h) (Or.inl ⟨by rfl, ?_⟩) hHeld ?_
        rotate_left
        · intro w hSw
          obtain ⟨hSw0, hSw1⟩ := hSw
          go_simp
          try with_reducible rfl
        try simp only [Act.put, List.setIfInBounds_toArray, List.set_cons_zero, List.set_cons_succ]
        refine wpAnyH_take (i := 2) (v := ?_) (by simp only [List.getElem?_toArray, List.getElem?_cons_zero, List.getElem?_cons_succ]; rfl) (by kernel_rfl) (by kernel_rfl) (by kernel_rfl) (fun _ _ _ h => h) (Or.inl ⟨by rfl, ?_⟩) hHeld ?_
        rotate_left
        · intro w hSw
          obtain ⟨hSw0, hSw1⟩ := hSw
          go_simp
          try with_reducible rfl
        try simp only [Act.put, List.setIfInBounds_toArray, List.set_cons_zero, List.set_cons_succ]
        refine wpAnyH_take (i := 3) (v := .pointer (some ⟨pb, po + i * 32, none⟩)) (by simp only [List.getElem?_toArray, List.getElem?_cons_zero, List.getElem?_cons_succ]; rfl) (by kernel_rfl) (by kernel_rfl) (by kernel_rfl) (fun _ _ _ h => h) (Or.inl ⟨by rfl, ?_⟩) hHeld ?_
        · intro w hSw
          obtain ⟨hSw0, hSw1⟩ := hSw
          go_simp
        try simp only [Act.put, List.setIfInBounds_toArray, List.set_cons_zero, List.set_cons_succ]
        refine wpAnyH_take (i := 4) (v := .agg (cellsB D).toArray) (by simp only [List.getElem?_toArray, List.getElem?_cons_zero, List.getElem?_cons_succ]; rfl) (by kernel_rfl) (by kernel_rfl) (by kernel_rfl) (fun _ _ _ h => h)
          (yieldsIf_load_mid (by rfl) _ _ rfl _ _ rfl _ _ (fun w hw => hw.1) Tryd.underlying25 rfl (by rw [cellsB_length, lD]; exact Tryd.sizeDg)) hHeld ?_
        try simp only [Act.put, List.setIfInBounds_toArray, List.set_cons_zero, List.set_cons_succ]
        refine wpAnyH_ready (rs := [5]) (by kernel_rfl) (by simp) ?_
        refine AllReadyH.cons (by simp only [List.getElem?_toArray, List.getElem?_cons_zero, List.getElem?_cons_succ]; rfl) (fun K hK => ?_) AllReadyH.nil
        rw [if_pos (by rfl)]
        refine wp_buildT2 (.tmp 19) (.tmp 23) (by rfl) A D lA lD (by rfl) (by rfl) ?_
        obtain ⟨gx, hgx⟩ : ∃ gx, wd.heap.size = gx := ⟨_, rfl⟩
        have HRwx0 : Hid (DRow (wd.alloc (.cells (cellsB (A ++ D)).toArray 25)) (some ⟨gx, 0, none⟩) 2 [A, D]) := by rw [← hgx]; exact DRow.lit2 wd A D _ lA lD
        have HGgx : Hid (wr.heap.size ≤ gx) := by rw [← hgx]; exact HBd.out.size
        have HBwx0 : Hid (Below wr.heap.size wr (wd.alloc (.cells (cellsB (A ++ D)).toArray 25))) := Below.alloc HBd.out HBd.out.size _
        have HKwx0 : Hid (Below wr.heap.size wr (wd.alloc (.cells (cellsB (A ++ D)).toArray 25))) := Below.alloc HKd.out HKd.out.size _
        rw [hgx]
        refine hK.out _ _ ⟨(HKR.out _ HBwx0.out).1, (HKR.out _ HBwx0.out).2.2.1⟩ (fun hHeld => ?_)
        generalize wd.alloc (.cells (cellsB (A ++ D)).toArray 25) = wx0 at *
        clear hgx
        clear hK K
        try simp only [Act.put, List.setIfInBounds_toArray, List.set_cons_zero, List.set_cons_succ]
        refine wpAnyH_take (i := 6) (v := ?_) (by simp only [List.getElem?_toArray, List.getElem?_cons_zero, List.getElem?_cons_succ]; rfl) (by kernel_rfl) (by kernel_rfl) (by kernel_rfl) (fun _ _ _ h => h) (Or.inl ⟨by rfl, ?_⟩) hHeld ?_
        rotate_left
        · intro w hSw
          obtain ⟨hSw0, hSw1⟩ := hSw
          go_simp
          try with_reducible rfl
        try simp only [Act.put, List.setIfInBounds_toArray, List.set_cons_zero, List.set_cons_succ]
        refine wpAnyH_done (by kernel_rfl) (NoPanic.normal ?_) _
        clear hHeld HBd HKd
        go_upto_region 5 with fail
        refine wp_region_noPanic ?_
        refine wp_region_held_drew (S := fun wx => wx.rangeAt qb (qo + i * 32) (cellsB E) ∧ wx.rangeAt (w.heap.size + 1) 0 (cellsB B)) (by kernel_rfl) ⟨(HKR.out _ (HBwx0.out.trans ((below_drewN wx0 1).mono HBwx0.out.size))).2.1, (HKR.out _ (HBwx0.out.trans ((below_drewN wx0 1).mono HBwx0.out.size))).2.2.2.1⟩ (fun hHeld => ?_)
        try simp only [Act.put, List.setIfInBounds_toArray, List.set_cons_zero, List.set_cons_succ]
        have HBd : Hid (Below wr.heap.size wr wx0.drew) := HBwx0.out.trans ((below_drewN wx0 1).mono HBwx0.out.size)
        have HKd : Hid (Below wx0.heap.size wx0 wx0.drew) := below_drewN wx0 1
        generalize wx0.drew = wd at *
        refine wpAnyH_take (i := 0) (v := .agg (cellsB B).toArray) (by simp only [List.getElem?_toArray, List.getElem?_cons_zero, List.getElem?_cons_succ]; rfl) (by kernel_rfl) (by kernel_rfl) (by kernel_rfl) (fun _ _ _ h => h)
          (yieldsIf_load_mid (by rfl) _ _ rfl _ _ rfl _ _ (fun w hw => hw.2) Tryd.underlying25 rfl (by rw [cellsB_length, lB]; exact Tryd.sizeDg)) hHeld ?_
        try simp only [Act.put, List.setIfInBounds_toArray, List.set_cons_zero, List.set_cons_succ]
        refine wpAnyH_take (i := 1) (v := ?_) (by simp only [List.getElem?_toArray, List.getElem?_cons_zero, List.getElem?_cons_succ]; rfl) (by kernel_rfl) (by kernel_rfl) (by kernel_rfl) (fun _ _ _ h => h) (Or.inl ⟨by rfl, ?_⟩) hHeld ?_
        rotate_left
        · intro w hSw
          obtain ⟨hSw0, hSw1⟩ := hSw
          go_simp
          try with_reducible rfl
        try simp only [Act.put, List.setIfInBounds_toArray, List.set_cons_zero, List.set_cons_succ]
        refine wpAnyH_take (i := 2) (v := ?_) (by simp only [List.getElem?_toArray, List.getElem?_cons_zero, List.getElem?_cons_succ]; rfl) (by kernel_rfl) (by kernel_rfl) (by kernel_rfl) (fun _ _ _ h => h) (Or.inl ⟨by rfl, ?_⟩) hHeld ?_
        rotate_left
        · intro w hSw
          obtain ⟨hSw0, hSw1⟩ := hSw
          go_simp
          try with_reducible rfl
        try simp only [Act.put, List.setIfInBounds_toArray, List.set_cons_zero, List.set_cons_succ]
        refine wpAnyH_take (i := 3) (v := .pointer (some ⟨qb, qo + i * 32, none⟩)) (by simp only [List.getElem?_toArray, List.getElem?_cons_zero, List.getElem?_cons_succ]; rfl) (by kernel_rfl) (by kernel_rfl) (by kernel_rfl) (fun _ _ _ h => h) (Or.inl ⟨by rfl, ?_⟩) hHeld ?_
        · intro w hSw
          obtain ⟨hSw0, hSw1⟩ := hSw
          go_simp
        try simp only [Act.put, List.setIfInBounds_toArray, List.set_cons_zero, List.set_cons_succ]
        refine wpAnyH_take (i := 4) (v := .agg (cellsB E).toArray) (by simp only [List.getElem?_toArray, List.getElem?_cons_zero, List.getElem?_cons_succ]; rfl) (by kernel_rfl) (by kernel_rfl) (by kernel_rfl) (fun _ _ _ h => h)
          (yieldsIf_load_mid (by rfl) _ _ rfl _ _ rfl _ _ (fun w hw => hw.1) Tryd.underlying25 rfl (by rw [cellsB_length, lE]; exact Tryd.sizeDg)) hHeld ?_
        try simp only [Act.put, List.setIfInBounds_toArray, List.set_cons_zero, List.set_cons_succ]
        refine wpAnyH_ready (rs := [5]) (by kernel_rfl) (by simp) ?_
        refine AllReadyH.cons (by simp only [List.getElem?_toArray, List.getElem?_cons_zero, List.getElem?_cons_succ]; rfl) (fun K hK => ?_) AllReadyH.nil
        rw [if_pos (by rfl)]
        refine wp_buildT2 (.tmp 25) (.tmp 29) (by rfl) B E lB lE (by rfl) (by rfl) ?_
        obtain ⟨gy, hgy⟩ : ∃ gy, wd.heap.size = gy := ⟨_, rfl⟩
        have HRwy : Hid (DRow (wd.alloc (.cells (cellsB (B ++ E)).toArray 25)) (some ⟨gy, 0, none⟩) 2 [B, E]) := by rw [← hgy]; exact DRow.lit2 wd B E _ lB lE
        have HGgy : Hid (wr.heap.size ≤ gy) := by rw [← hgy]; exact HBd.out.size
        have HBwy : Hid (Below wr.heap.size wr (wd.alloc (.cells (cellsB (B ++ E)).toArray 25))) := Below.alloc HBd.out HBd.out.size _
        have HKwy : Hid (Below wx0.heap.size wx0 (wd.alloc (.cells (cellsB (B ++ E)).toArray 25))) := Below.alloc HKd.out HKd.out.size _
        rw [hgy]
        refine hK.out _ _ ⟨(HKR.out _ HBwy.out).2.1, (HKR.out _ HBwy.out).2.2.2.1⟩ (fun hHeld => ?_)
        generalize wd.alloc (.cells (cellsB (B ++ E)).toArray 25) = wy at *
        clear hgy
        clear hK K
        try simp only [Act.put, List.setIfInBounds_toArray, List.set_cons_zero, List.set_cons_succ]
        refine wpAnyH_take (i := 6) (v := ?_) (by simp only [List.getElem?_toArray, List.getElem?_cons_zero, List.getElem?_cons_succ]; rfl) (by kernel_rfl) (by kernel_rfl) (by kernel_rfl) (fun _ _ _ h => h) (Or.inl ⟨by rfl, ?_⟩) hHeld ?_
        rotate_left
        · intro w hSw
          obtain ⟨hSw0, hSw1⟩ := hSw
          go_simp
          try with_reducible rfl
        try simp only [Act.put, List.setIfInBounds_toArray, List.set_cons_zero, List.set_cons_succ]
        refine wpAnyH_done (by kernel_rfl) (NoPanic.normal ?_) _
        clear hHeld HBd HKd
        go_upto_region 7 with fail
        refine wp_region_noPanic ?_
        refine wp_region_held_drew (S := fun wx => wx.rangeAt pb (po + i * 32) (cellsB D) ∧ wx.rangeAt w.heap.size 0 (cellsB A)) (by kernel_rfl) ⟨(HKR.out _ (HBwy.out.trans ((below_drewN wy 1).mono HBwy.out.size))).1, (HKR.out _ (HBwy.out.trans ((below_drewN wy 1).mono HBwy.out.size))).2.2.1⟩ (fun hHeld => ?_)
        try simp only [Act.put, List.setIfInBounds_toArray, List.set_cons_zero, List.set_cons_succ]
        have HBd : Hid (Below wr.heap.size wr wy.drew) := HBwy.out.trans ((below_drewN wy 1).mono HBwy.out.size)
        have HKd : Hid (Below wy.heap.size wy wy.drew) := below_drewN wy 1
        generalize wy.drew = wd at *
        refine wpAnyH_take (i := 0) (v := ?_) (by simp only [List.getElem?_toArray, List.getElem?_cons_zero, List.getElem?_cons_succ]; rfl) (by kernel_rfl) (by kernel_rfl) (by kernel_rfl) (fun _ _ _ h => h) (Or.inl ⟨by rfl, ?_⟩) hHeld ?_
        rotate_left
        · intro w hSw
          obtain ⟨hSw0, hSw1⟩ := hSw
          go_simp
          try with_reducible rfl
        try simp only [Act.put, List.setIfInBounds_toArray, List.set_cons_zero, List.set_cons_succ]
        refine wpAnyH_take (i := 1) (v := ?_) (by simp only [List.getElem?_toArray, List.getElem?_cons_zero, List.getElem?_cons_succ]; rfl) (by kernel_rfl) (by kernel_rfl) (by kernel_rfl) (fun _ _ _ h => h) (Or.inl ⟨by rfl, ?_⟩) hHeld ?_
        rotate_left
        · intro w hSw
          obtain ⟨hSw0, hSw1⟩ := hSw
          go_simp
          try with_reducible rfl
        try simp only [Act.put, List.setIfInBounds_toArray, List.set_cons_zero, List.set_cons_succ]
        refine wpAnyH_take (i := 2) (v := .pointer (some ⟨pb, po + i * 32, none⟩)) (by simp only [List.getElem?_toArray, List.getElem?_cons_zero, List.getElem?_cons_succ]; rfl) (by kernel_rfl) (by kernel_rfl) (by kernel_rfl) (fun _ _ _ h => h) (Or.inl ⟨by rfl, ?_⟩) hHeld ?_
        · intro w hSw
          obtain ⟨hSw0, hSw1⟩ := hSw
          go_simp
        try simp only [Act.put, List.setIfInBounds_toArray, List.set_cons_zero, List.set_cons_succ]
        refine wpAnyH_take (i := 3) (v := .agg (cellsB D).toArray) (by simp only [List.getElem?_toArray, List.getElem?_cons_zero, List.getElem?_cons_succ]; rfl) (by kernel_rfl) (by kernel_rfl) (by kernel_rfl) (fun _ _ _ h => h)
          (yieldsIf_load_mid (by rfl) _ _ rfl _ _ rfl _ _ (fun w hw => hw.1) Tryd.underlying25 rfl (by rw [cellsB_length, lD]; exact Tryd.sizeDg)) hHeld ?_
        try simp only [Act.put, List.setIfInBounds_toArray, List.set_cons_zero, List.set_cons_succ]
        refine wpAnyH_take (i := 4) (v := .agg (cellsB A).toArray) (by simp only [List.getElem?_toArray, List.getElem?_cons_zero, List.getElem?_cons_succ]; rfl) (by kernel_rfl) (by kernel_rfl) (by kernel_rfl) (fun _ _ _ h => h)
          (yieldsIf_load_mid (by rfl) _ _ rfl _ _ rfl _ _ (fun w hw => hw.2) Tryd.underlying25 rfl (by rw [cellsB_length, lA]; exact Tryd.sizeDg)) hHeld ?_
        try simp only [Act.put, List.setIfInBounds_toArray, List.set_cons_zero, List.set_cons_succ]
        refine wpAnyH_ready (rs := [5]) (by kernel_rfl) (by simp) ?_
        refine AllReadyH.cons (by simp only [List.getElem?_toArray, List.getElem?_cons_zero, List.getElem?_cons_succ]; rfl) (fun K hK => ?_) AllReadyH.nil
        rw [if_pos (by rfl)]
        refine wp_buildT2 (.tmp 37) (.tmp 38) (by rfl) D A lD lA (by rfl) (by rfl) ?_
        obtain ⟨gc, hgc⟩ : ∃ gc, wd.heap.size = gc := ⟨_, rfl⟩
        have HRwv : Hid (DRow (wd.alloc (.cells (cellsB (D ++ A)).toArray 25)) (some ⟨gc, 0, none⟩) 2 [D, A]) := by rw [← hgc]; exact DRow.lit2 wd D A _ lD lA
        have HGgc : Hid (wr.heap.size ≤ gc) := by rw [← hgc]; exact HBd.out.size
        have HBwv : Hid (Below wr.heap.size wr (wd.alloc (.cells (cellsB (D ++ A)).toArray 25))) := Below.alloc HBd.out HBd.out.size _
        have HKwv : Hid (Below wy.heap.size wy (wd.alloc (.cells (cellsB (D ++ A)).toArray 25))) := Below.alloc HKd.out HKd.out.size _
        rw [hgc]
        refine hK.out _ _ ⟨(HKR.out _ HBwv.out).1, (HKR.out _ HBwv.out).2.2.1⟩ (fun hHeld => ?_)
        generalize wd.alloc (.cells (cellsB (D ++ A)).toArray 25) = wv at *
        clear hgc
        clear hK K
        try simp only [Act.put, List.setIfInBounds_toArray, List.set_cons_zero, List.set_cons_succ]
        refine wpAnyH_take (i := 6) (v := ?_) (by simp only [List.getElem?_toArray, List.getElem?_cons_zero, List.getElem?_cons_succ]; rfl) (by kernel_rfl) (by kernel_rfl) (by kernel_rfl) (fun _ _ _ h => h) (Or.inl ⟨by rfl, ?_⟩) hHeld ?_
        rotate_left
        · intro w hSw
          obtain ⟨hSw0, hSw1⟩ := hSw
          go_simp
          try with_reducible rfl
        try simp only [Act.put, List.setIfInBounds_toArray, List.set_cons_zero, List.set_cons_succ]
        refine wpAnyH_done (by kernel_rfl) (NoPanic.normal ?_) _
        clear hHeld HBd HKd
        go_upto_region 8 with fail
        refine wp_region_noPanic ?_
        refine wp_region_held_drew (S := fun wx => wx.rangeAt qb (qo + i * 32) (cellsB E) ∧ wx.rangeAt (w.heap.size + 1) 0 (cellsB B)) (by kernel_rfl) ⟨(HKR.out _ (HBwv.out.trans ((below_drewN wv 1).mono HBwv.out.size))).2.1, (HKR.out _ (HBwv.out.trans ((below_drewN wv 1).mono HBwv.out.size))).2.2.2.1⟩ (fun hHeld => ?_)
        try simp only [Act.put, List.setIfInBounds_toArray, List.set_cons_zero, List.set_cons_succ]
        have HBd : Hid (Below wr.heap.size wr wv.drew) := HBwv.out.trans ((below_drewN wv 1).mono HBwv.out.size)
        have HKd : Hid (Below wv.heap.size wv wv.drew) := below_drewN wv 1
        generalize wv.drew = wd at *
        refine wpAnyH_take (i := 0) (v := ?_) (by simp only [List.getElem?_toArray, List.getElem?_cons_zero, List.getElem?_cons_succ]; rfl) (by kernel_rfl) (by kernel_rfl) (by kernel_rfl) (fun _ _ _ h => h) (Or.inl ⟨by rfl, ?_⟩) hHeld ?_
        rotate_left
        · intro w hSw
          obtain ⟨hSw0, hSw1⟩ := hSw
          go_simp
          try with_reducible rfl
        try simp only [Act.put, List.setIfInBounds_toArray, List.set_cons_zero, List.set_cons_succ]
        refine wpAnyH_take (i := 1) (v := ?_) (by simp only [List.getElem?_toArray, List.getElem?_cons_zero, List.getElem?_cons_succ]; rfl) (by kernel_rfl) (by kernel_rfl) (by kernel_rfl) (fun _ _ _ h => h) (Or.inl ⟨by rfl, ?_⟩) hHeld ?_
        rotate_left
        · intro w hSw
          obtain ⟨hSw0, hSw1⟩ := hSw
          go_simp
          try with_reducible rfl
        try simp only [Act.put, List.setIfInBounds_toArray, List.set_cons_zero, List.set_cons_succ]
        refine wpAnyH_take (i := 2) (v := .pointer (some ⟨qb, qo + i * 32, none⟩)) (by simp only [List.getElem?_toArray, List.getElem?_cons_zero, List.getElem?_cons_succ]; rfl) (by kernel_rfl) (by kernel_rfl) (by kernel_rfl) (fun _ _ _ h => h) (Or.inl ⟨by rfl, ?_⟩) hHeld ?_
        · intro w hSw
          obtain ⟨hSw0, hSw1⟩ := hSw
          go_simp
        try simp only [Act.put, List.setIfInBounds_toArray, List.set_cons_zero, List.set_cons_succ]
        refine wpAnyH_take (i := 3) (v := .agg (cellsB E).toArray) (by simp only [List.getElem?_toArray, List.getElem?_cons_zero, List.getElem?_cons_succ]; rfl) (by kernel_rfl) (by kernel_rfl) (by kernel_rfl) (fun _ _ _ h => h)
          (yieldsIf_load_mid (by rfl) _ _ rfl _ _ rfl _ _ (fun w hw => hw.1) Tryd.underlying25 rfl (by rw [cellsB_length, lE]; exact Tryd.sizeDg)) hHeld ?_
        try simp only [Act.put, List.setIfInBounds_toArray, List.set_cons_zero, List.set_cons_succ]
        refine wpAnyH_take (i := 4) (v := .agg (cellsB B).toArray) (by simp only [List.getElem?_toArray, List.getElem?_cons_zero, List.getElem?_cons_succ]; rfl) (by kernel_rfl) (by kernel_rfl) (by kernel_rfl) (fun _ _ _ h => h)
          (yieldsIf_load_mid (by rfl) _ _ rfl _ _ rfl _ _ (fun w hw => hw.2) Tryd.underlying25 rfl (by rw [cellsB_length, lB]; exact Tryd.sizeDg)) hHeld ?_
        try simp only [Act.put, List.setIfInBounds_toArray, List.set_cons_zero, List.set_cons_succ]
        refine wpAnyH_ready (rs := [5]) (by kernel_rfl) (by simp) ?_
        refine AllReadyH.cons (by simp only [List.getElem?_toArray, List.getElem?_cons_zero, List.getElem?_cons_succ]; rfl) (fun K hK => ?_) AllReadyH.nil
        rw [if_pos (by rfl)]
        refine wp_buildT2 (.tmp 43) (.tmp 44) (by rfl) E B lE lB (by rfl) (by rfl) ?_
        obtain ⟨ge, hge⟩ : ∃ ge, wd.heap.size = ge := ⟨_, rfl⟩
        have HRwz : Hid (DRow (wd.alloc (.cells (cellsB (E ++ B)).toArray 25)) (some ⟨ge, 0, none⟩) 2 [E, B]) := by rw [← hge]; exact DRow.lit2 wd E B _ lE lB
        have HGge : Hid (wr.heap.size ≤ ge) := by rw [← hge]; exact HBd.out.size
        have HBwz : Hid (Below wr.heap.size wr (wd.alloc (.cells (cellsB (E ++ B)).toArray 25))) := Below.alloc HBd.out HBd.out.size _
        have HKwz : Hid (Below wv.heap.size wv (wd.alloc (.cells (cellsB (E ++ B)).toArray 25))) := Below.alloc HKd.out HKd.out.size _
        rw [hge]
        refine hK.out _ _ ⟨(HKR.out _ HBwz.out).2.1, (HKR.out _ HBwz.out).2.2.2.1⟩ (fun hHeld => ?_)
        generalize wd.alloc (.cells (cellsB (E ++ B)).toArray 25) = wz at *
        clear hge
        clear hK K
        try simp only [Act.put, List.setIfInBounds_toArray, List.set_cons_zero, List.set_cons_succ]
        refine wpAnyH_take (i := 6) (v := ?_) (by simp only [List.getElem?_toArray, List.getElem?_cons_zero, List.getElem?_cons_succ]; rfl) (by kernel_rfl) (by kernel_rfl) (by kernel_rfl) (fun _ _ _ h => h) (Or.inl ⟨by rfl, ?_⟩) hHeld ?_
        rotate_left
        · intro w hSw
          obtain ⟨hSw0, hSw1⟩ := hSw
          go_simp
          try with_reducible rfl
        try simp only [Act.put, List.setIfInBounds_toArray, List.set_cons_zero, List.set_cons_succ]
        refine wpAnyH_done (by kernel_rfl) (NoPanic.normal ?_) _
        clear hHeld HBd HKd
        go_upto_region 9 with fail
        have HRX : Hid (DRow wz (some ⟨gc, 0, none⟩) 2 [D, A]) := HRwv.out.below HKwz.out
        refine wp_region_noPanic ?_
        refine wp_region_till (S := fun wx => wx.rangeAt gc 0 (cellsB D) ∧ wx.rangeAt gc 32 (cellsB A)) 7 (by kernel_rfl) ⟨(drow_twoT (HRX.out.below (below_drewN wz 1))).1, (drow_twoT (HRX.out.below (below_drewN wz 1))).2⟩ (fun hHeld => ?_)
        try simp only [Act.put, List.setIfInBounds_toArray, List.set_cons_zero, List.set_cons_succ]
        have HBd : Hid (Below wz.heap.size wz wz.drew) := below_drewN wz 1
        generalize wz.drew = wd at *
        refine wpAnyT_take (i := 0) (v := ?_) (by simp only [List.getElem?_toArray, List.getElem?_cons_zero, List.getElem?_cons_succ]; rfl) (by kernel_rfl) (by kernel_rfl) (by kernel_rfl) (by kernel_rfl) (fun _ _ _ h => h) (Or.inl ⟨by rfl, ?_⟩) hHeld ?_
        rotate_left
        · intro w hSw
          obtain ⟨hSw0, hSw1⟩ := hSw
          go_simp
          try with_reducible rfl
        try simp only [Act.put, List.setIfInBounds_toArray, List.set_cons_zero, List.set_cons_succ]
        refine wpAnyT_take (i := 1) (v := .pointer (some ⟨gc, 0, none⟩)) (by simp only [List.getElem?_toArray, List.getElem?_cons_zero, List.getElem?_cons_succ]; rfl) (by kernel_rfl) (by kernel_rfl) (by kernel_rfl) (by kernel_rfl) (fun _ _ _ h => h) (Or.inl ⟨by rfl, ?_⟩) hHeld ?_
        · intro w hSw
          obtain ⟨hSw0, hSw1⟩ := hSw
          go_simp
        try simp only [Act.put, List.setIfInBounds_toArray, List.set_cons_zero, List.set_cons_succ]
        refine wpAnyT_take (i := 2) (v := .agg (cellsB D).toArray) (by simp only [List.getElem?_toArray, List.getElem?_cons_zero, List.getElem?_cons_succ]; rfl) (by kernel_rfl) (by kernel_rfl) (by kernel_rfl) (by kernel_rfl) (fun _ _ _ h => h)
          (yieldsIf_load_mid (by rfl) _ _ rfl _ _ rfl _ _ (fun w hw => hw.1) Tryd.underlying25 rfl (by rw [cellsB_length, lD]; exact Tryd.sizeDg)) hHeld ?_
        try simp only [Act.put, List.setIfInBounds_toArray, List.set_cons_zero, List.set_cons_succ]
        refine wpAnyT_take (i := 3) (v := ?_) (by simp only [List.getElem?_toArray, List.getElem?_cons_zero, List.getElem?_cons_succ]; rfl) (by kernel_rfl) (by kernel_rfl) (by kernel_rfl) (by kernel_rfl) (fun _ _ _ h => h) (Or.inl ⟨by rfl, ?_⟩) hHeld ?_
        rotate_left
        · intro w hSw
          obtain ⟨hSw0, hSw1⟩ := hSw
          go_simp
          try with_reducible rfl
        try simp only [Act.put, List.setIfInBounds_toArray, List.set_cons_zero, List.set_cons_succ]
        refine wpAnyT_take (i := 4) (v := .pointer (some ⟨gc, 32, none⟩)) (by simp only [List.getElem?_toArray, List.getElem?_cons_zero, List.getElem?_cons_succ]; rfl) (by kernel_rfl) (by kernel_rfl) (by kernel_rfl) (by kernel_rfl) (fun _ _ _ h => h) (Or.inl ⟨by rfl, ?_⟩) hHeld ?_
        · intro w hSw
          obtain ⟨hSw0, hSw1⟩ := hSw
          go_simp
        try simp only [Act.put, List.setIfInBounds_toArray, List.set_cons_zero, List.set_cons_succ]
        refine wpAnyT_take (i := 5) (v := .agg (cellsB A).toArray) (by simp only [List.getElem?_toArray, List.getElem?_cons_zero, List.getElem?_cons_succ]; rfl) (by kernel_rfl) (by kernel_rfl) (by kernel_rfl) (by kernel_rfl) (fun _ _ _ h => h)
          (yieldsIf_load_mid (by rfl) _ _ rfl _ _ rfl _ _ (fun w hw => hw.2) Tryd.underlying25 rfl (by rw [cellsB_length, lA]; exact Tryd.sizeDg)) hHeld ?_
        try simp only [Act.put, List.setIfInBounds_toArray, List.set_cons_zero, List.set_cons_succ]
        refine wpAnyT_ready (rs := [6]) (by kernel_rfl) (by simp) ?_
        refine AllReadyT.cons (by simp only [List.getElem?_toArray, List.getElem?_cons_zero, List.getElem?_cons_succ]; rfl) (fun K hK => ?_) AllReadyT.nil
        rw [if_pos (by rfl)]
        go_simp
        refine (rmapnode_any D A wd lD lA).mono ?_
        rintro r wn ⟨rfl, hbn⟩
        have HBn : Hid (Below wz.heap.size wz wn) := HBd.out.trans (hbn.mono HBd.out.size)
        have lNA := mnode_length D A
        clear hbn HBd
        generalize hNA : mnode D A = NA at *
        have HNNA : Hid (mnode D A = NA) := hNA
        clear hNA
        go_wp2_with fail
        refine hK.out _ _ ⟨(drow_twoT (HRX.out.below HBn.out)).1, (drow_twoT (HRX.out.below HBn.out)).2⟩ (fun hHeld => ?_)
        clear hK K
        try simp only [Act.put, List.setIfInBounds_toArray, List.set_cons_zero, List.set_cons_succ]
        refine wpAnyT_ready (rs := [7]) (by kernel_rfl) (by simp) ?_
        refine AllReadyT.lastly (by simp only [List.getElem?_toArray, List.getElem?_cons_zero, List.getElem?_cons_succ]; rfl) rfl (fun K hK => ?_) AllReadyT.nil
        rw [if_pos (by rfl)]
        have HTn : Hid (wn.there w.heap.size 0 32) := (HTH.out _ (HBwz.out.trans (HBn.out.mono HBwz.out.size))).1
        refine wp_store_mid _ _ _ rfl w.heap.size 0 (cellsB NA).toArray rfl rfl (by rw [cellsB_size, lNA]; exact HTn.out) (by rw [cellsB_size, lNA]; exact Tryd.sizeDg) (all_oneCell_toArray (cellsB_one _)) ?_
        refine hK.out _ _ ?_
        clear hK K
        try simp only [Act.put, List.setIfInBounds_toArray, List.set_cons_zero, List.set_cons_succ]
        refine wpAnyT_done (by kernel_rfl) (NoPanic.normal ?_) _
        try clear hHeld
        have HB6 : Hid (Below w.heap.size w (wn.setCells w.heap.size 0 (cellsB NA))) := below_setCells _ (Nat.le_refl _) _ _ _ (HKR.out _ (HBwz.out.trans (HBn.out.mono HBwz.out.size))).2.2.2.2
        have HX6 : Hid ((wn.setCells w.heap.size 0 (cellsB NA)).rangeAt w.heap.size 0 (cellsB NA)) := World.rangeAt_setCells_same _ _ _ _ (by rw [cellsB_length, lNA]; exact HTn.out)
        have HT6 : Hid ((wn.setCells w.heap.size 0 (cellsB NA)).there w.heap.size 0 32 ∧ (wn.setCells w.heap.size 0 (cellsB NA)).there (w.heap.size + 1) 0 32) := ⟨World.there_setCells HTn.out _ _ _, World.there_setCells (HTH.out _ (HBwz.out.trans (HBn.out.mono HBwz.out.size))).2.1 _ _ _⟩
        have HR6 : Hid (DRow (wn.setCells w.heap.size 0 (cellsB NA)) (some ⟨gc, 0, none⟩) 2 [D, A] ∧ DRow (wn.setCells w.heap.size 0 (cellsB NA)) (some ⟨ge, 0, none⟩) 2 [E, B]) := ⟨drow_aside (HRX.out.below HBn.out) _ _ _ (by intro x hx; cases hx; have := HGgc.out; have := HSW.out; show gc ≠ _; omega), drow_aside (HRwz.out.below HBn.out) _ _ _ (by intro x hx; cases hx; have := HGge.out; have := HSW.out; show ge ≠ _; omega)⟩
        have HS6 : Hid (wr.heap.size ≤ (wn.setCells w.heap.size 0 (cellsB NA)).heap.size) := by have h := (gro_setCells w.heap.size (cellsB NA) 0 wn).size; have := HBn.out.size; have := HBwz.out.size; unfold Hid; omega
        go_upto_region 10 with fail
        generalize wn.setCells w.heap.size 0 (cellsB NA) = w6 at *
        clear HTn HBn wn
        have HR62 : Hid (DRow w6 (some ⟨ge, 0, none⟩) 2 [E, B]) := HR6.out.2
        refine wp_region_noPanic ?_
        refine wp_region_till (S := fun wx => wx.rangeAt ge 0 (cellsB E) ∧ wx.rangeAt ge 32 (cellsB B)) 7 (by kernel_rfl) ⟨(drow_twoT (HR62.out.below (below_drewN w6 1))).1, (drow_twoT (HR62.out.below (below_drewN w6 1))).2⟩ (fun hHeld => ?_)
        try simp only [Act.put, List.setIfInBounds_toArray, List.set_cons_zero, List.set_cons_succ]
        have HBd : Hid (Below w6.heap.size w6 w6.drew) := below_drewN w6 1
        generalize w6.drew = wd at *
        refine wpAnyT_take (i := 0) (v := ?_) (by simp only [List.getElem?_toArray, List.getElem?_cons_zero, List.getElem?_cons_succ]; rfl) (by kernel_rfl) (by kernel_rfl) (by kernel_rfl) (by kernel_rfl) (fun _ _ _ h => h) (Or.inl ⟨by rfl, ?_⟩) hHeld ?_
        rotate_left
        · intro w hSw
          obtain ⟨hSw0, hSw1⟩ := hSw
          go_simp
          try with_reducible rfl
        try simp only [Act.put, List.setIfInBounds_toArray, List.set_cons_zero, List.set_cons_succ]
        refine wpAnyT_take (i := 1) (v := .pointer (some ⟨ge, 0, none⟩)) (by simp only [List.getElem?_toArray, List.getElem?_cons_zero, List.getElem?_cons_succ]; rfl) (by kernel_rfl) (by kernel_rfl) (by kernel_rfl) (by kernel_rfl) (fun _ _ _ h => h) (Or.inl ⟨by rfl, ?_⟩) hHeld ?_
        · intro w hSw
          obtain ⟨hSw0, hSw1⟩ := hSw
          go_simp
        try simp only [Act.put, List.setIfInBounds_toArray, List.set_cons_zero, List.set_cons_succ]
        refine wpAnyT_take (i := 2) (v := .agg (cellsB E).toArray) (by simp only [List.getElem?_toArray, List.getElem?_cons_zero, List.getElem?_cons_succ]; rfl) (by kernel_rfl) (by kernel_rfl) (by kernel_rfl) (by kernel_rfl) (fun _ _ _ h => h)
          (yieldsIf_load_mid (by rfl) _ _ rfl _ _ rfl _ _ (fun w hw => hw.1) Tryd.underlying25 rfl (by rw [cellsB_length, lE]; exact Tryd.sizeDg)) hHeld ?_
        try simp only [Act.put, List.setIfInBounds_toArray, List.set_cons_zero, List.set_cons_succ]
        refine wpAnyT_take (i := 3) (v := ?_) (by simp only [List.getElem?_toArray, List.getElem?_cons_zero, List.getElem?_cons_succ]; rfl) (by kernel_rfl) (by kernel_rfl) (by kernel_rfl) (by kernel_rfl) (fun _ _ _ h => h) (Or.inl ⟨by rfl, ?_⟩) hHeld ?_
        rotate_left
        · intro w hSw
          obtain ⟨hSw0, hSw1⟩ := hSw
          go_simp
          try with_reducible rfl
        try simp only [Act.put, List.setIfInBounds_toArray, List.set_cons_zero, List.set_cons_succ]
        refine wpAnyT_take (i := 4) (v := .pointer (some ⟨ge, 32, none⟩)) (by simp only [List.getElem?_toArray, List.getElem?_cons_zero, List.getElem?_cons_succ]; rfl) (by kernel_rfl) (by kernel_rfl) (by kernel_rfl) (by kernel_rfl) (fun _ _ _ h => h) (Or.inl ⟨by rfl, ?_⟩) hHeld ?_
        · intro w hSw
          obtain ⟨hSw0, hSw1⟩ := hSw
          go_simp
        try simp only [Act.put, List.setIfInBounds_toArray, List.set_cons_zero, List.set_cons_succ]
        refine wpAnyT_take (i := 5) (v := .agg (cellsB B).toArray) (by simp only [List.getElem?_toArray, List.getElem?_cons_zero, List.getElem?_cons_succ]; rfl) (by kernel_rfl) (by kernel_rfl) (by kernel_rfl) (by kernel_rfl) (fun _ _ _ h => h)
          (yieldsIf_load_mid (by rfl) _ _ rfl _ _ rfl _ _ (fun w hw => hw.2) Tryd.underlying25 rfl (by rw [cellsB_length, lB]; exact Tryd.sizeDg)) hHeld ?_
        try simp only [Act.put, List.setIfInBounds_toArray, List.set_cons_zero, List.set_cons_succ]
        refine wpAnyT_ready (rs := [6]) (by kernel_rfl) (by simp) ?_
        refine AllReadyT.cons (by simp only [List.getElem?_toArray, List.getElem?_cons_zero, List.getElem?_cons_succ]; rfl) (fun K hK => ?_) AllReadyT.nil
        rw [if_pos (by rfl)]
        go_simp
        refine (rmapnode_any E B wd lE lB).mono ?_
        rintro r wn ⟨rfl, hbn⟩
        have HBn : Hid (Below w6.heap.size w6 wn) := HBd.out.trans (hbn.mono HBd.out.size)
        have lNB := mnode_length E B
        clear hbn HBd
        generalize hNB : mnode E B = NB at *
        have HNNB : Hid (mnode E B = NB) := hNB
        clear hNB
        go_wp2_with fail
        refine hK.out _ _ ⟨(drow_twoT (HR62.out.below HBn.out)).1, (drow_twoT (HR62.out.below HBn.out)).2⟩ (fun hHeld => ?_)
        clear hK K
        try simp only [Act.put, List.setIfInBounds_toArray, List.set_cons_zero, List.set_cons_succ]
        refine wpAnyT_ready (rs := [7]) (by kernel_rfl) (by simp) ?_
        refine AllReadyT.lastly (by simp only [List.getElem?_toArray, List.getElem?_cons_zero, List.getElem?_cons_succ]; rfl) rfl (fun K hK => ?_) AllReadyT.nil
        rw [if_pos (by rfl)]
        have HTn : Hid (wn.there (w.heap.size + 1) 0 32) := there_below HT6.out.2 HBn.out (by have := HS6.out; have := HSW.out; omega)
        refine wp_store_mid _ _ _ rfl (w.heap.size + 1) 0 (cellsB NB).toArray rfl rfl (by rw [cellsB_size, lNB]; exact HTn.out) (by rw [cellsB_size, lNB]; exact Tryd.sizeDg) (all_oneCell_toArray (cellsB_one _)) ?_
        refine hK.out _ _ ?_
        clear hK K
        try simp only [Act.put, List.setIfInBounds_toArray, List.set_cons_zero, List.set_cons_succ]
        refine wpAnyT_done (by kernel_rfl) (NoPanic.normal ?_) _
        try clear hHeld
        have HB7 : Hid (Below w.heap.size w (wn.setCells (w.heap.size + 1) 0 (cellsB NB))) := below_setCells _ (by omega) _ _ _ (HB6.out.trans (HBn.out.mono HB6.out.size))
        have HX7 : Hid ((wn.setCells (w.heap.size + 1) 0 (cellsB NB)).rangeAt w.heap.size 0 (cellsB NA) ∧ (wn.setCells (w.heap.size + 1) 0 (cellsB NB)).rangeAt (w.heap.size + 1) 0 (cellsB NB)) := ⟨World.rangeAt_setCells_apart (range_below HX6.out HBn.out (by have := HS6.out; have := HSW.out; omega)) _ _ _ (.inl (by omega)), World.rangeAt_setCells_same _ _ _ _ (by rw [cellsB_length, lNB]; exact HTn.out)⟩
        have HT7 : Hid ((wn.setCells (w.heap.size + 1) 0 (cellsB NB)).there w.heap.size 0 32 ∧ (wn.setCells (w.heap.size + 1) 0 (cellsB NB)).there (w.heap.size + 1) 0 32) := ⟨World.there_setCells (there_below HT6.out.1 HBn.out (by have := HS6.out; have := HSW.out; omega)) _ _ _, World.there_setCells HTn.out _ _ _⟩
        have HR7 : Hid (DRow (wn.setCells (w.heap.size + 1) 0 (cellsB NB)) (some ⟨gc, 0, none⟩) 2 [D, A] ∧ DRow (wn.setCells (w.heap.size + 1) 0 (cellsB NB)) (some ⟨ge, 0, none⟩) 2 [E, B]) := ⟨drow_aside (HR6.out.1.below HBn.out) _ _ _ (by intro x hx; cases hx; have := HGgc.out; have := HSW.out; show gc ≠ _; omega), drow_aside (HR6.out.2.below HBn.out) _ _ _ (by intro x hx; cases hx; have := HGge.out; have := HSW.out; show ge ≠ _; omega)⟩
        have HS7 : Hid (wr.heap.size ≤ (wn.setCells (w.heap.size + 1) 0 (cellsB NB)).heap.size) := by have h := (gro_setCells (w.heap.size + 1) (cellsB NB) 0 wn).size; have := HBn.out.size; have := HS6.out; unfold Hid; omega
        go_upto_region 11 with fail
        generalize wn.setCells (w.heap.size + 1) 0 (cellsB NB) = w7 at *
        clear HTn HBn wn
        go_wp2_with fail
        refine (sdigests_any (some ⟨gc, 0, none⟩) (some ⟨ge, 0, none⟩) 2 2 2 2 [D, A] [E, B] w7 HR7.out.1 HR7.out.2 (by omega)).mono ?_
        rintro r w8 ⟨rfl, hb8⟩
        have HB8 : Hid (Below w.heap.size w w8) := HB7.out.trans (hb8.mono HB7.out.size)
        have HXA : Hid (w8.rangeAt w.heap.size 0 (cellsB NA)) := range_below HX7.out.1 hb8 (by have := HS7.out; have := HSW.out; omega)
        have HXB : Hid (w8.rangeAt (w.heap.size + 1) 0 (cellsB NB)) := range_below HX7.out.2 hb8 (by have := HS7.out; have := HSW.out; omega)
        have HT8 : Hid (w8.there w.heap.size 0 32 ∧ w8.there (w.heap.size + 1) 0 32) := ⟨there_below HT7.out.1 hb8 (by have := HS7.out; have := HSW.out; omega), there_below HT7.out.2 hb8 (by have := HS7.out; have := HSW.out; omega)⟩
        have HS8 : Hid (w.heap.size + 1 < w8.heap.size) := by have := HS7.out; have := HSW.out; have := hb8.size; unfold Hid; omega
        have HLV : Hid (clashM k a ps b qs = lev D A E B (clashM k2 NA (ps.drop (i + 1)) NB (qs.drop (i + 1)))) := by
          have h := HCO.out
          unfold Hid lev
          rw [HNNA.out, HNNB.out]
          exact h
        have HNE : Hid (mnode D A = NA ∧ mnode E B = NB) := ⟨HNNA.out, HNNB.out⟩
        clear hb8 HB7 HX7 HT7 HR7 HS7 HB6 HX6 HT6 HR6 HS6 HR62 HRX HNNA HNNB HCO HKR HTH
        by_cases hs : [D, A] = [E, B]
        · have HL2 : Hid (clashM k a ps b qs = clashM k2 NA (ps.drop (i + 1)) NB (qs.drop (i + 1))) := by
            have h := HLV.out
            unfold lev at h
            rw [if_neg (fun q => q.1 (by simpa using hs))] at h
            exact h
          rw [decide_eq_true hs]
          clear hs HLV
          go_wp2_with fail
          go_roundw
          case rel => exact ⟨i + 1, k2, NA, NB, by omega, by go_num, rfl, HK2.out, lNA, lNB, HXA.out, HXB.out, HT8.out.1, HT8.out.2, HB8.out, HS8.out, HL2.out⟩
          case measure => simp [intOf]; omega
        · rw [decide_eq_false hs]
          by_cases hn : NA = NB
          · have HL2 : Hid (clashM k a ps b qs = true) := by
              have h := HLV.out
              unfold lev at h
              rw [if_pos ⟨fun q => hs (by rw [q.1, q.2]), by rw [HNE.out.1, HNE.out.2]; exact hn⟩] at h
              exact h
            have HDN : Hid (decide (NA = NB) = true) := decide_eq_true hn
            clear hs hn HLV
            go_wp2_with (first
              | (refine wpList_load_midG (by rfl) 25 (.tmp 6) (by rfl) w.heap.size 0 (by rfl) (cellsB NA) _ HXA.out Tryd.underlying25 (by rfl) (by rw [cellsB_length, lNA]; exact Tryd.sizeDg) ?_)
              | (refine wpList_load_midG (by rfl) 25 (.tmp 8) (by rfl) (w.heap.size + 1) 0 (by rfl) (cellsB NB) _ HXB.out Tryd.underlying25 (by rfl) (by rw [cellsB_length, lNB]; exact Tryd.sizeDg) ?_)
              | (refine wpList_eqD (.tmp 66) (.tmp 67) (by rfl) (by rfl) NA NB lNA lNB (by rfl) (by rfl) true HDN.out ?_))
            go_ret
            exact ⟨by rw [HL2.out]; rfl, HB8.out⟩
          · have HL2 : Hid (clashM k a ps b qs = clashM k2 NA (ps.drop (i + 1)) NB (qs.drop (i + 1))) := by
              have h := HLV.out
              unfold lev at h
              rw [if_neg (fun q => hn (by have h := q.2; rw [HNE.out.1, HNE.out.2] at h; exact h))] at h
              exact h
            have HDN : Hid (decide (NA = NB) = false) := decide_eq_false hn
            clear hs hn HLV
            go_wp2_with (first
              | (refine wpList_load_midG (by rfl) 25 (.tmp 6) (by rfl) w.heap.size 0 (by rfl) (cellsB NA) _ HXA.out Tryd.underlying25 (by rfl) (by rw [cellsB_length, lNA]; exact Tryd.sizeDg) ?_)
              | (refine wpList_load_midG (by rfl) 25 (.tmp 8) (by rfl) (w.heap.size + 1) 0 (by rfl) (cellsB NB) _ HXB.out Tryd.underlying25 (by rfl) (by rw [cellsB_length, lNB]; exact Tryd.sizeDg) ?_)
              | (refine wpList_eqD (.tmp 66) (.tmp 67) (by rfl) (by rfl) NA NB lNA lNB (by rfl) (by rfl) false HDN.out ?_))
            go_roundw
            case rel => exact ⟨i + 1, k2, NA, NB, by omega, by go_num, rfl, HK2.out, lNA, lNB, HXA.out, HXB.out, HT8.out.1, HT8.out.2, HB8.out, HS8.out, HL2.out⟩
            case measure => simp [intOf]; omega
      · have hr0 : kk % 2 = 0 := by omega
        have HCE : Hid (clashM k a ps b qs = (if ¬ (A = B ∧ D = E) ∧ mnode A D = mnode B E then true else clashM (kk / 2) (mnode A D) (ps.drop (i + 1)) (mnode B E) (qs.drop (i + 1)))) := by rw [if_neg hodd] at HCS; exact HCS
        rw [hr0] at d3 d4
        clear HCS
        generalize kk / 2 = k2 at *
        go_upto_region 4 with fail
        refine wp_region_noPanic ?_
        refine wp_region_held_drew (S := fun wx => wx.rangeAt pb (po + i * 32) (cellsB D) ∧ wx.rangeAt w.heap.size 0 (cellsB A)) (by kernel_rfl) ⟨(HKR.out _ (H0.out.trans ((below_drewN wr 1).mono H0.out.size))).1, (HKR.out _ (H0.out.trans ((below_drewN wr 1).mono H0.out.size))).2.2.1⟩ (fun hHeld => ?_)
        try simp only [Act.put, List.setIfInBounds_toArray, List.set_cons_zero, List.set_cons_succ]
        have HBd : Hid (Below wr.heap.size wr wr.drew) := H0.out.trans ((below_drewN wr 1).mono H0.out.size)
        have HKd : Hid (Below wr.heap.size wr wr.drew) := below_drewN wr 1
        generalize wr.drew = wd at *
        refine wpAnyH_take (i := 0) (v := .agg (cellsB A).toArray) (by simp only [List.getElem?_toArray, List.getElem?_cons_zero, List.getElem?_cons_succ]; rfl) (by kernel_rfl) (by kernel_rfl) (by kernel_rfl) (fun _ _ _ h => h)
          (yieldsIf_load_mid (by rfl) _ _ rfl _ _ rfl _ _ (fun w hw => hw.2) Tryd.underlying25 rfl (by rw [cellsB_length, lA]; exact Tryd.sizeDg)) hHeld ?_
        try simp only [Act.put, List.setIfInBounds_toArray, List.set_cons_zero, List.set_cons_succ]
        refine wpAnyH_take (i := 1) (v := ?_) (by simp only [List.getElem?_toArray, List.getElem?_cons_zero, List.getElem?_cons_succ]; rfl) (by kernel_rfl) (by kernel_rfl) (by kernel_rfl) (fun _ _ _ h => h) (Or.inl ⟨by rfl, ?_⟩) hHeld ?_
        rotate_left
        · intro w hSw
          obtain ⟨hSw0, hSw1⟩ := hSw
          go_simp
          try with_reducible rfl
        try simp only [Act.put, List.setIfInBounds_toArray, List.set_cons_zero, List.set_cons_succ]
        refine wpAnyH_take (i := 2) (v := ?_) (by simp only [List.getElem?_toArray, List.getElem?_cons_zero, List.getElem?_cons_succ]; rfl) (by kernel_rfl) (by kernel_rfl) (by kernel_rfl) (fun _ _ _ h => h) (Or.inl ⟨by rfl, ?_⟩) hHeld ?_
        rotate_left
        · intro w hSw
          obtain ⟨hSw0, hSw1⟩ := hSw
          go_simp
          try with_reducible rfl
        try simp only [Act.put, List.setIfInBounds_toArray, List.set_cons_zero, List.set_cons_succ]
        refine wpAnyH_take (i := 3) (v := .pointer (some ⟨pb, po + i * 32, none⟩)) (by simp only [List.getElem?_toArray, List.getElem?_cons_zero, List.getElem?_cons_succ]; rfl) (by kernel_rfl) (by kernel_rfl) (by kernel_rfl) (fun _ _ _ h => h) (Or.inl ⟨by rfl, ?_⟩) hHeld ?_
        · intro w hSw
          obtain ⟨hSw0, hSw1⟩ := hSw
          go_simp
        try simp only [Act.put, List.setIfInBounds_toArray, List.set_cons_zero, List.set_cons_succ]
        refine wpAnyH_take (i := 4) (v := .agg (cellsB D).toArray) (by simp only [List.getElem?_toArray, List.getElem?_cons_zero, List.getElem?_cons_succ]; rfl) (by kernel_rfl) (by kernel_rfl) (by kernel_rfl) (fun _ _ _ h => h)
          (yieldsIf_load_mid (by rfl) _ _ rfl _ _ rfl _ _ (fun w hw => hw.1) Tryd.underlying25 rfl (by rw [cellsB_length, lD]; exact Tryd.sizeDg)) hHeld ?_
        try simp only [Act.put, List.setIfInBounds_toArray, List.set_cons_zero, List.set_cons_succ]
        refine wpAnyH_ready (rs := [5]) (by kernel_rfl) (by simp) ?_
        refine AllReadyH.cons (by simp only [List.getElem?_toArray, List.getElem?_cons_zero, List.getElem?_cons_succ]; rfl) (fun K hK => ?_) AllReadyH.nil
        rw [if_pos (by rfl)]
        refine wp_buildT2 (.tmp 19) (.tmp 23) (by rfl) A D lA lD (by rfl) (by rfl) ?_
        obtain ⟨gx, hgx⟩ : ∃ gx, wd.heap.size = gx := ⟨_, rfl⟩
        have HRwx0 : Hid (DRow (wd.alloc (.cells (cellsB (A ++ D)).toArray 25)) (some ⟨gx, 0, none⟩) 2 [A, D]) := by rw [← hgx]; exact DRow.lit2 wd A D _ lA lD
        have HGgx : Hid (wr.heap.size ≤ gx) := by rw [← hgx]; exact HBd.out.size
        have HBwx0 : Hid (Below wr.heap.size wr (wd.alloc (.cells (cellsB (A ++ D)).toArray 25))) := Below.alloc HBd.out HBd.out.size _
        have HKwx0 : Hid (Below wr.heap.size wr (wd.alloc (.cells (cellsB (A ++ D)).toArray 25))) := Below.alloc HKd.out HKd.out.size _
        rw [hgx]
        refine hK.out _ _ ⟨(HKR.out _ HBwx0.out).1, (HKR.out _ HBwx0.out).2.2.1⟩ (fun hHeld => ?_)
        generalize wd.alloc (.cells (cellsB (A ++ D)).toArray 25) = wx0 at *
        clear hgx
        clear hK K
        try simp only [Act.put, List.setIfInBounds_toArray, List.set_cons_zero, List.set_cons_succ]
        refine wpAnyH_take (i := 6) (v := ?_) (by simp only [List.getElem?_toArray, List.getElem?_cons_zero, List.getElem?_cons_succ]; rfl) (by kernel_rfl) (by kernel_rfl) (by kernel_rfl) (fun _ _ _ h => h) (Or.inl ⟨by rfl, ?_⟩) hHeld ?_
        rotate_left
        · intro w hSw
          obtain ⟨hSw0, hSw1⟩ := hSw
          go_simp
          try with_reducible rfl
        try simp only [Act.put, List.setIfInBounds_toArray, List.set_cons_zero, List.set_cons_succ]
        refine wpAnyH_done (by kernel_rfl) (NoPanic.normal ?_) _
        clear hHeld HBd HKd
        go_upto_region 5 with fail
        refine wp_region_noPanic ?_
        refine wp_region_held_drew (S := fun wx => wx.rangeAt qb (qo + i * 32) (cellsB E) ∧ wx.rangeAt (w.heap.size + 1) 0 (cellsB B)) (by kernel_rfl) ⟨(HKR.out _ (HBwx0.out.trans ((below_drewN wx0 1).mono HBwx0.out.size))).2.1, (HKR.out _ (HBwx0.out.trans ((below_drewN wx0 1).mono HBwx0.out.size))).2.2.2.1⟩ (fun hHeld => ?_)
        try simp only [Act.put, List.setIfInBounds_toArray, List.set_cons_zero, List.set_cons_succ]
        have HBd : Hid (Below wr.heap.size wr wx0.drew) := HBwx0.out.trans ((below_drewN wx0 1).mono HBwx0.out.size)
        have HKd : Hid (Below wx0.heap.size wx0 wx0.drew) := below_drewN wx0 1
        generalize wx0.drew = wd at *
        refine wpAnyH_take (i := 0) (v := .agg (cellsB B).toArray) (by simp only [List.getElem?_toArray, List.getElem?_cons_zero, List.getElem?_cons_succ]; rfl) (by kernel_rfl) (by kernel_rfl) (by kernel_rfl) (fun _ _ _ h => h)
          (yieldsIf_load_mid (by rfl) _ _ rfl _ _ rfl _ _ (fun w hw => hw.2) Tryd.underlying25 rfl (by rw [cellsB_length, lB]; exact Tryd.sizeDg)) hHeld ?_
        try simp only [Act.put, List.setIfInBounds_toArray, List.set_cons_zero, List.set_cons_succ]
        refine wpAnyH_take (i := 1) (v := ?_) (by simp only [List.getElem?_toArray, List.getElem?_cons_zero, List.getElem?_cons_succ]; rfl) (by kernel_rfl) (by kernel_rfl) (by kernel_rfl) (fun _ _ _ h => h) (Or.inl ⟨by rfl, ?_⟩) hHeld ?_
        rotate_left
        · intro w hSw
          obtain ⟨hSw0, hSw1⟩ := hSw
          go_simp
          try with_reducible rfl
        try simp only [Act.put, List.setIfInBounds_toArray, List.set_cons_zero, List.set_cons_succ]
        refine wpAnyH_take (i := 2) (v := ?_) (by simp only [List.getElem?_toArray, List.getElem?_cons_zero, List.getElem?_cons_succ]; rfl) (by kernel_rfl) (by kernel_rfl) (by kernel_rfl) (fun _ _ _ h => h) (Or.inl ⟨by rfl, ?_⟩) hHeld ?_
        rotate_left
        · intro w hSw
          obtain ⟨hSw0, hSw1⟩ := hSw
          go_simp
          try with_reducible rfl
        try simp only [Act.put, List.setIfInBounds_toArray, List.set_cons_zero, List.set_cons_succ]
        refine wpAnyH_take (i := 3) (v := .pointer (some ⟨qb, qo + i * 32, none⟩)) (by simp only [List.getElem?_toArray, List.getElem?_cons_zero, List.getElem?_cons_succ]; rfl) (by kernel_rfl) (by kernel_rfl) (by kernel_rfl) (fun _ _ _ h => h) (Or.inl ⟨by rfl, ?_⟩) hHeld ?_
        · intro w hSw
          obtain ⟨hSw0, hSw1⟩ := hSw
          go_simp
        try simp only [Act.put, List.setIfInBounds_toArray, List.set_cons_zero, List.set_cons_succ]
        refine wpAnyH_take (i := 4) (v := .agg (cellsB E).toArray) (by simp only [List.getElem?_toArray, List.getElem?_cons_zero, List.getElem?_cons_succ]; rfl) (by kernel_rfl) (by kernel_rfl) (by kernel_rfl) (fun _ _ _ h => h)
          (yieldsIf_load_mid (by rfl) _ _ rfl _ _ rfl _ _ (fun w hw => hw.1) Tryd.underlying25 rfl (by rw [cellsB_length, lE]; exact Tryd.sizeDg)) hHeld ?_
        try simp only [Act.put, List.setIfInBounds_toArray, List.set_cons_zero, List.set_cons_succ]
        refine wpAnyH_ready (rs := [5]) (by kernel_rfl) (by simp) ?_
        refine AllReadyH.cons (by simp only [List.getElem?_toArray, List.getElem?_cons_zero, List.getElem?_cons_succ]; rfl) (fun K hK => ?_) AllReadyH.nil
        rw [if_pos (by rfl)]
        refine wp_buildT2 (.tmp 25) (.tmp 29) (by rfl) B E lB lE (by rfl) (by rfl) ?_
        obtain ⟨gy, hgy⟩ : ∃ gy, wd.heap.size = gy := ⟨_, rfl⟩
        have HRwy : Hid (DRow (wd.alloc (.cells (cellsB (B ++ E)).toArray 25)) (some ⟨gy, 0, none⟩) 2 [B, E]) := by rw [← hgy]; exact DRow.lit2 wd B E _ lB lE
        have HGgy : Hid (wr.heap.size ≤ gy) := by rw [← hgy]; exact HBd.out.size
        have HBwy : Hid (Below wr.heap.size wr (wd.alloc (.cells (cellsB (B ++ E)).toArray 25))) := Below.alloc HBd.out HBd.out.size _
        have HKwy : Hid (Below wx0.heap.size wx0 (wd.alloc (.cells (cellsB (B ++ E)).toArray 25))) := Below.alloc HKd.out HKd.out.size _
        rw [hgy]
        refine hK.out _ _ ⟨(HKR.out _ HBwy.out).2.1, (HKR.out _ HBwy.out).2.2.2.1⟩ (fun hHeld => ?_)
        generalize wd.alloc (.cells (cellsB (B ++ E)).toArray 25) = wy at *
        clear hgy
        clear hK K
        try simp only [Act.put, List.setIfInBounds_toArray, List.set_cons_zero, List.set_cons_succ]
        refine wpAnyH_take (i := 6) (v := ?_) (by simp only [List.getElem?_toArray, List.getElem?_cons_zero, List.getElem?_cons_succ]; rfl) (by kernel_rfl) (by kernel_rfl) (by kernel_rfl) (fun _ _ _ h => h) (Or.inl ⟨by rfl, ?_⟩) hHeld ?_
        rotate_left
        · intro w hSw
          obtain ⟨hSw0, hSw1⟩ := hSw
          go_simp
          try with_reducible rfl
        try simp only [Act.put, List.setIfInBounds_toArray, List.set_cons_zero, List.set_cons_succ]
        refine wpAnyH_done (by kernel_rfl) (NoPanic.normal ?_) _
        clear hHeld HBd HKd
        go_upto_region 9 with fail
        have HRX : Hid (DRow wy (some ⟨gx, 0, none⟩) 2 [A, D]) := HRwx0.out.below HKwy.out
        refine wp_region_noPanic ?_
        refine wp_region_till (S := fun wx => wx.rangeAt gx 0 (cellsB A) ∧ wx.rangeAt gx 32 (cellsB D)) 7 (by kernel_rfl) ⟨(drow_twoT (HRX.out.below (below_drewN wy 1))).1, (drow_twoT (HRX.out.below (below_drewN wy 1))).2⟩ (fun hHeld => ?_)
        try simp only [Act.put, List.setIfInBounds_toArray, List.set_cons_zero, List.set_cons_succ]
        have HBd : Hid (Below wy.heap.size wy wy.drew) := below_drewN wy 1
        generalize wy.drew = wd at *
        refine wpAnyT_take (i := 0) (v := ?_) (by simp only [List.getElem?_toArray, List.getElem?_cons_zero, List.getElem?_cons_succ]; rfl) (by kernel_rfl) (by kernel_rfl) (by kernel_rfl) (by kernel_rfl) (fun _ _ _ h => h) (Or.inl ⟨by rfl, ?_⟩) hHeld ?_
        rotate_left
        · intro w hSw
          obtain ⟨hSw0, hSw1⟩ := hSw
          go_simp
          try with_reducible rfl
        try simp only [Act.put, List.setIfInBounds_toArray, List.set_cons_zero, List.set_cons_succ]
        refine wpAnyT_take (i := 1) (v := .pointer (some ⟨gx, 0, none⟩)) (by simp only [List.getElem?_toArray, List.getElem?_cons_zero, List.getElem?_cons_succ]; rfl) (by kernel_rfl) (by kernel_rfl) (by kernel_rfl) (by kernel_rfl) (fun _ _ _ h => h) (Or.inl ⟨by rfl, ?_⟩) hHeld ?_
        · intro w hSw
          obtain ⟨hSw0, hSw1⟩ := hSw
          go_simp
        try simp only [Act.put, List.setIfInBounds_toArray, List.set_cons_zero, List.set_cons_succ]
        refine wpAnyT_take (i := 2) (v := .agg (cellsB A).toArray) (by simp only [List.getElem?_toArray, List.getElem?_cons_zero, List.getElem?_cons_succ]; rfl) (by kernel_rfl) (by kernel_rfl) (by kernel_rfl) (by kernel_rfl) (fun _ _ _ h => h)
          (yieldsIf_load_mid (by rfl) _ _ rfl _ _ rfl _ _ (fun w hw => hw.1) Tryd.underlying25 rfl (by rw [cellsB_length, lA]; exact Tryd.sizeDg)) hHeld ?_
        try simp only [Act.put, List.setIfInBounds_toArray, List.set_cons_zero, List.set_cons_succ]
        refine wpAnyT_take (i := 3) (v := ?_) (by simp only [List.getElem?_toArray, List.getElem?_cons_zero, List.getElem?_cons_succ]; rfl) (by kernel_rfl) (by kernel_rfl) (by kernel_rfl) (by kernel_rfl) (fun _ _ _ h => h) (Or.inl ⟨by rfl, ?_⟩) hHeld ?_
        rotate_left
        · intro w hSw
          obtain ⟨hSw0, hSw1⟩ := hSw
          go_simp
          try with_reducible rfl
        try simp only [Act.put, List.setIfInBounds_toArray, List.set_cons_zero, List.set_cons_succ]
        refine wpAnyT_take (i := 4) (v := .pointer (some ⟨gx, 32, none⟩)) (by simp only [List.getElem?_toArray, List.getElem?_cons_zero, List.getElem?_cons_succ]; rfl) (by kernel_rfl) (by kernel_rfl) (by kernel_rfl) (by kernel_rfl) (fun _ _ _ h => h) (Or.inl ⟨by rfl, ?_⟩) hHeld ?_
        · intro w hSw
          obtain ⟨hSw0, hSw1⟩ := hSw
          go_simp
        try simp only [Act.put, List.setIfInBounds_toArray, List.set_cons_zero, List.set_cons_succ]
        refine wpAnyT_take (i := 5) (v := .agg (cellsB D).toArray) (by simp only [List.getElem?_toArray, List.getElem?_cons_zero, List.getElem?_cons_succ]; rfl) (by kernel_rfl) (by kernel_rfl) (by kernel_rfl) (by kernel_rfl) (fun _ _ _ h => h)
          (yieldsIf_load_mid (by rfl) _ _ rfl _ _ rfl _ _ (fun w hw => hw.2) Tryd.underlying25 rfl (by rw [cellsB_length, lD]; exact Tryd.sizeDg)) hHeld ?_
        try simp only [Act.put, List.setIfInBounds_toArray, List.set_cons_zero, List.set_cons_succ]
        refine wpAnyT_ready (rs := [6]) (by kernel_rfl) (by simp) ?_
        refine AllReadyT.cons (by simp only [List.getElem?_toArray, List.getElem?_cons_zero, List.getElem?_cons_succ]; rfl) (fun K hK => ?_) AllReadyT.nil
        rw [if_pos (by rfl)]
        go_simp
        refine (rmapnode_any A D wd lA lD).mono ?_
        rintro r wn ⟨rfl, hbn⟩
        have HBn : Hid (Below wy.heap.size wy wn) := HBd.out.trans (hbn.mono HBd.out.size)
        have lNA := mnode_length A D
        clear hbn HBd
        generalize hNA : mnode A D = NA at *
        have HNNA : Hid (mnode A D = NA) := hNA
        clear hNA
        go_wp2_with fail
        refine hK.out _ _ ⟨(drow_twoT (HRX.out.below HBn.out)).1, (drow_twoT (HRX.out.below HBn.out)).2⟩ (fun hHeld => ?_)
        clear hK K
        try simp only [Act.put, List.setIfInBounds_toArray, List.set_cons_zero, List.set_cons_succ]
        refine wpAnyT_ready (rs := [7]) (by kernel_rfl) (by simp) ?_
        refine AllReadyT.lastly (by simp only [List.getElem?_toArray, List.getElem?_cons_zero, List.getElem?_cons_succ]; rfl) rfl (fun K hK => ?_) AllReadyT.nil
        rw [if_pos (by rfl)]
        have HTn : Hid (wn.there w.heap.size 0 32) := (HTH.out _ (HBwy.out.trans (HBn.out.mono HBwy.out.size))).1
        refine wp_store_mid _ _ _ rfl w.heap.size 0 (cellsB NA).toArray rfl rfl (by rw [cellsB_size, lNA]; exact HTn.out) (by rw [cellsB_size, lNA]; exact Tryd.sizeDg) (all_oneCell_toArray (cellsB_one _)) ?_
        refine hK.out _ _ ?_
        clear hK K
        try simp only [Act.put, List.setIfInBounds_toArray, List.set_cons_zero, List.set_cons_succ]
        refine wpAnyT_done (by kernel_rfl) (NoPanic.normal ?_) _
        try clear hHeld
        have HB6 : Hid (Below w.heap.size w (wn.setCells w.heap.size 0 (cellsB NA))) := below_setCells _ (Nat.le_refl _) _ _ _ (HKR.out _ (HBwy.out.trans (HBn.out.mono HBwy.out.size))).2.2.2.2
        have HX6 : Hid ((wn.setCells w.heap.size 0 (cellsB NA)).rangeAt w.heap.size 0 (cellsB NA)) := World.rangeAt_setCells_same _ _ _ _ (by rw [cellsB_length, lNA]; exact HTn.out)
        have HT6 : Hid ((wn.setCells w.heap.size 0 (cellsB NA)).there w.heap.size 0 32 ∧ (wn.setCells w.heap.size 0 (cellsB NA)).there (w.heap.size + 1) 0 32) := ⟨World.there_setCells HTn.out _ _ _, World.there_setCells (HTH.out _ (HBwy.out.trans (HBn.out.mono HBwy.out.size))).2.1 _ _ _⟩
        have HR6 : Hid (DRow (wn.setCells w.heap.size 0 (cellsB NA)) (some ⟨gx, 0, none⟩) 2 [A, D] ∧ DRow (wn.setCells w.heap.size 0 (cellsB NA)) (some ⟨gy, 0, none⟩) 2 [B, E]) := ⟨drow_aside (HRX.out.below HBn.out) _ _ _ (by intro x hx; cases hx; have := HGgx.out; have := HSW.out; show gx ≠ _; omega), drow_aside (HRwy.out.below HBn.out) _ _ _ (by intro x hx; cases hx; have := HGgy.out; have := HSW.out; show gy ≠ _; omega)⟩
        have HS6 : Hid (wr.heap.size ≤ (wn.setCells w.heap.size 0 (cellsB NA)).heap.size) := by have h := (gro_setCells w.heap.size (cellsB NA) 0 wn).size; have := HBn.out.size; have := HBwy.out.size; unfold Hid; omega
        go_upto_region 10 with fail
        generalize wn.setCells w.heap.size 0 (cellsB NA) = w6 at *
        clear HTn HBn wn
        have HR62 : Hid (DRow w6 (some ⟨gy, 0, none⟩) 2 [B, E]) := HR6.out.2
        refine wp_region_noPanic ?_
        refine wp_region_till (S := fun wx => wx.rangeAt gy 0 (cellsB B) ∧ wx.rangeAt gy 32 (cellsB E)) 7 (by kernel_rfl) ⟨(drow_twoT (HR62.out.below (below_drewN w6 1))).1, (drow_twoT (HR62.out.below (below_drewN w6 1))).2⟩ (fun hHeld => ?_)
        try simp only [Act.put, List.setIfInBounds_toArray, List.set_cons_zero, List.set_cons_succ]
        have HBd : Hid (Below w6.heap.size w6 w6.drew) := below_drewN w6 1
        generalize w6.drew = wd at *
        refine wpAnyT_take (i := 0) (v := ?_) (by simp only [List.getElem?_toArray, List.getElem?_cons_zero, List.getElem?_cons_succ]; rfl) (by kernel_rfl) (by kernel_rfl) (by kernel_rfl) (by kernel_rfl) (fun _ _ _ h => h) (Or.inl ⟨by rfl, ?_⟩) hHeld ?_
        rotate_left
        · intro w hSw
          obtain ⟨hSw0, hSw1⟩ := hSw
          go_simp
          try with_reducible rfl
        try simp only [Act.put, List.setIfInBounds_toArray, List.set_cons_zero, List.set_cons_succ]
        refine wpAnyT_take (i := 1) (v := .pointer (some ⟨gy, 0, none⟩)) (by simp only [List.getElem?_toArray, List.getElem?_cons_zero, List.getElem?_cons_succ]; rfl) (by kernel_rfl) (by kernel_rfl) (by kernel_rfl) (by kernel_rfl) (fun _ _ _ h => h) (Or.inl ⟨by rfl, ?_⟩) hHeld ?_
        · intro w hSw
          obtain ⟨hSw0, hSw1⟩ := hSw
          go_simp
        try simp only [Act.put, List.setIfInBounds_toArray, List.set_cons_zero, List.set_cons_succ]
        refine wpAnyT_take (i := 2) (v := .agg (cellsB B).toArray) (by simp only [List.getElem?_toArray, List.getElem?_cons_zero, List.getElem?_cons_succ]; rfl) (by kernel_rfl) (by kernel_rfl) (by kernel_rfl) (by kernel_rfl) (fun _ _ _ h => h)
          (yieldsIf_load_mid (by rfl) _ _ rfl _ _ rfl _ _ (fun w hw => hw.1) Tryd.underlying25 rfl (by rw [cellsB_length, lB]; exact Tryd.sizeDg)) hHeld ?_
        try simp only [Act.put, List.setIfInBounds_toArray, List.set_cons_zero, List.set_cons_succ]
        refine wpAnyT_take (i := 3) (v := ?_) (by simp only [List.getElem?_toArray, List.getElem?_cons_zero, List.getElem?_cons_succ]; rfl) (by kernel_rfl) (by kernel_rfl) (by kernel_rfl) (by kernel_rfl) (fun _ _ _ h => h) (Or.inl ⟨by rfl, ?_⟩) hHeld ?_
        rotate_left
        · intro w hSw
          obtain ⟨hSw0, hSw1⟩ := hSw
          go_simp
          try with_reducible rfl
        try simp only [Act.put, List.setIfInBounds_toArray, List.set_cons_zero, List.set_cons_succ]
        refine wpAnyT_take (i := 4) (v := .pointer (some ⟨gy, 32, none⟩)) (by simp only [List.getElem?_toArray, List.getElem?_cons_zero, List.getElem?_cons_succ]; rfl) (by kernel_rfl) (by kernel_rfl) (by kernel_rfl) (by kernel_rfl) (fun _ _ _ h => h) (Or.inl ⟨by rfl, ?_⟩) hHeld ?_
        · intro w hSw
          obtain ⟨hSw0, hSw1⟩ := hSw
          go_simp
        try simp only [Act.put, List.setIfInBounds_toArray, List.set_cons_zero, List.set_cons_succ]
        refine wpAnyT_take (i := 5) (v := .agg (cellsB E).toArray) (by simp only [List.getElem?_toArray, List.getElem?_cons_zero, List.getElem?_cons_succ]; rfl) (by kernel_rfl) (by kernel_rfl) (by kernel_rfl) (by kernel_rfl) (fun _ _ _ h => h)
          (yieldsIf_load_mid (by rfl) _ _ rfl _ _ rfl _ _ (fun w hw => hw.2) Tryd.underlying25 rfl (by rw [cellsB_length, lE]; exact Tryd.sizeDg)) hHeld ?_
        try simp only [Act.put, List.setIfInBounds_toArray, List.set_cons_zero, List.set_cons_succ]
        refine wpAnyT_ready (rs := [6]) (by kernel_rfl) (by simp) ?_
        refine AllReadyT.cons (by simp only [List.getElem?_toArray, List.getElem?_cons_zero, List.getElem?_cons_succ]; rfl) (fun K hK => ?_) AllReadyT.nil
        rw [if_pos (by rfl)]
        go_simp
        refine (rmapnode_any B E wd lB lE).mono ?_
        rintro r wn ⟨rfl, hbn⟩
        have HBn : Hid (Below w6.heap.size w6 wn) := HBd.out.trans (hbn.mono HBd.out.size)
        have lNB := mnode_length B E
        clear hbn HBd
        generalize hNB : mnode B E = NB at *
        have HNNB : Hid (mnode B E = NB) := hNB
        clear hNB
        go_wp2_with fail
        refine hK.out _ _ ⟨(drow_twoT (HR62.out.below HBn.out)).1, (drow_twoT (HR62.out.below HBn.out)).2⟩ (fun hHeld => ?_)
        clear hK K
        try simp only [Act.put, List.setIfInBounds_toArray, List.set_cons_zero, List.set_cons_succ]
        refine wpAnyT_ready (rs := [7]) (by kernel_rfl) (by simp) ?_
        refine AllReadyT.lastly (by simp only [List.getElem?_toArray, List.getElem?_cons_zero, List.getElem?_cons_succ]; rfl) rfl (fun K hK => ?_) AllReadyT.nil
        rw [if_pos (by rfl)]
        have HTn : Hid (wn.there (w.heap.size + 1) 0 32) := there_below HT6.out.2 HBn.out (by have := HS6.out; have := HSW.out; omega)
        refine wp_store_mid _ _ _ rfl (w.heap.size + 1) 0 (cellsB NB).toArray rfl rfl (by rw [cellsB_size, lNB]; exact HTn.out) (by rw [cellsB_size, lNB]; exact Tryd.sizeDg) (all_oneCell_toArray (cellsB_one _)) ?_
        refine hK.out _ _ ?_
        clear hK K
        try simp only [Act.put, List.setIfInBounds_toArray, List.set_cons_zero, List.set_cons_succ]
        refine wpAnyT_done (by kernel_rfl) (NoPanic.normal ?_) _
        try clear hHeld
        have HB7 : Hid (Below w.heap.size w (wn.setCells (w.heap.size + 1) 0 (cellsB NB))) := below_setCells _ (by omega) _ _ _ (HB6.out.trans (HBn.out.mono HB6.out.size))
        have HX7 : Hid ((wn.setCells (w.heap.size + 1) 0 (cellsB NB)).rangeAt w.heap.size 0 (cellsB NA) ∧ (wn.setCells (w.heap.size + 1) 0 (cellsB NB)).rangeAt (w.heap.size + 1) 0 (cellsB NB)) := ⟨World.rangeAt_setCells_apart (range_below HX6.out HBn.out (by have := HS6.out; have := HSW.out; omega)) _ _ _ (.inl (by omega)), World.rangeAt_setCells_same _ _ _ _ (by rw [cellsB_length, lNB]; exact HTn.out)⟩
        have HT7 : Hid ((wn.setCells (w.heap.size + 1) 0 (cellsB NB)).there w.heap.size 0 32 ∧ (wn.setCells (w.heap.size + 1) 0 (cellsB NB)).there (w.heap.size + 1) 0 32) := ⟨World.there_setCells (there_below HT6.out.1 HBn.out (by have := HS6.out; have := HSW.out; omega)) _ _ _, World.there_setCells HTn.out _ _ _⟩
        have HR7 : Hid (DRow (wn.setCells (w.heap.size + 1) 0 (cellsB NB)) (some ⟨gx, 0, none⟩) 2 [A, D] ∧ DRow (wn.setCells (w.heap.size + 1) 0 (cellsB NB)) (some ⟨gy, 0, none⟩) 2 [B, E]) := ⟨drow_aside (HR6.out.1.below HBn.out) _ _ _ (by intro x hx; cases hx; have := HGgx.out; have := HSW.out; show gx ≠ _; omega), drow_aside (HR6.out.2.below HBn.out) _ _ _ (by intro x hx; cases hx; have := HGgy.out; have := HSW.out; show gy ≠ _; omega)⟩
        have HS7 : Hid (wr.heap.size ≤ (wn.setCells (w.heap.size + 1) 0 (cellsB NB)).heap.size) := by have h := (gro_setCells (w.heap.size + 1) (cellsB NB) 0 wn).size; have := HBn.out.size; have := HS6.out; unfold Hid; omega
        go_upto_region 11 with fail
        generalize wn.setCells (w.heap.size + 1) 0 (cellsB NB) = w7 at *
        clear HTn HBn wn
        go_wp2_with fail
        refine (sdigests_any (some ⟨gx, 0, none⟩) (some ⟨gy, 0, none⟩) 2 2 2 2 [A, D] [B, E] w7 HR7.out.1 HR7.out.2 (by omega)).mono ?_
        rintro r w8 ⟨rfl, hb8⟩
        have HB8 : Hid (Below w.heap.size w w8) := HB7.out.trans (hb8.mono HB7.out.size)
        have HXA : Hid (w8.rangeAt w.heap.size 0 (cellsB NA)) := range_below HX7.out.1 hb8 (by have := HS7.out; have := HSW.out; omega)
        have HXB : Hid (w8.rangeAt (w.heap.size + 1) 0 (cellsB NB)) := range_below HX7.out.2 hb8 (by have := HS7.out; have := HSW.out; omega)
        have HT8 : Hid (w8.there w.heap.size 0 32 ∧ w8.there (w.heap.size + 1) 0 32) := ⟨there_below HT7.out.1 hb8 (by have := HS7.out; have := HSW.out; omega), there_below HT7.out.2 hb8 (by have := HS7.out; have := HSW.out; omega)⟩
        have HS8 : Hid (w.heap.size + 1 < w8.heap.size) := by have := HS7.out; have := HSW.out; have := hb8.size; unfold Hid; omega
        have HLV : Hid (clashM k a ps b qs = lev A D B E (clashM k2 NA (ps.drop (i + 1)) NB (qs.drop (i + 1)))) := by
          have h := HCE.out
          unfold Hid lev
          rw [HNNA.out, HNNB.out]
          exact h
        have HNE : Hid (mnode A D = NA ∧ mnode B E = NB) := ⟨HNNA.out, HNNB.out⟩
        clear hb8 HB7 HX7 HT7 HR7 HS7 HB6 HX6 HT6 HR6 HS6 HR62 HRX HNNA HNNB HCE HKR HTH
        by_cases hs : [A, D] = [B, E]
        · have HL2 : Hid (clashM k a ps b qs = clashM k2 NA (ps.drop (i + 1)) NB (qs.drop (i + 1))) := by
            have h := HLV.out
            unfold lev at h
            rw [if_neg (fun q => q.1 (by simpa using hs))] at h
            exact h
          rw [decide_eq_true hs]
          clear hs HLV
          go_wp2_with fail
          go_roundw
          case rel => exact ⟨i + 1, k2, NA, NB, by omega, by go_num, rfl, HK2.out, lNA, lNB, HXA.out, HXB.out, HT8.out.1, HT8.out.2, HB8.out, HS8.out, HL2.out⟩
          case measure => simp [intOf]; omega
        · rw [decide_eq_false hs]
          by_cases hn : NA = NB
          · have HL2 : Hid (clashM k a ps b qs = true) := by
              have h := HLV.out
              unfold lev at h
              rw [if_pos ⟨fun q => hs (by rw [q.1, q.2]), by rw [HNE.out.1, HNE.out.2]; exact hn⟩] at h
              exact h
            have HDN : Hid (decide (NA = NB) = true) := decide_eq_true hn
            clear hs hn HLV
            go_wp2_with (first
              | (refine wpList_load_midG (by rfl) 25 (.tmp 6) (by rfl) w.heap.size 0 (by rfl) (cellsB NA) _ HXA.out Tryd.underlying25 (by rfl) (by rw [cellsB_length, lNA]; exact Tryd.sizeDg) ?_)
              | (refine wpList_load_midG (by rfl) 25 (.tmp 8) (by rfl) (w.heap.size + 1) 0 (by rfl) (cellsB NB) _ HXB.out Tryd.underlying25 (by rfl) (by rw [cellsB_length, lNB]; exact Tryd.sizeDg) ?_)
              | (refine wpList_eqD (.tmp 66) (.tmp 67) (by rfl) (by rfl) NA NB lNA lNB (by rfl) (by rfl) true HDN.out ?_))
            go_ret
            exact ⟨by rw [HL2.out]; rfl, HB8.out⟩
          · have HL2 : Hid (clashM k a ps b qs = clashM k2 NA (ps.drop (i + 1)) NB (qs.drop (i + 1))) := by
              have h := HLV.out
              unfold lev at h
              rw [if_neg (fun q => hn (by have h := q.2; rw [HNE.out.1, HNE.out.2] at h; exact h))] at h
              exact h
            have HDN : Hid (decide (NA = NB) = false) := decide_eq_false hn
            clear hs hn HLV
            go_wp2_with (first
              | (refine wpList_load_midG (by rfl) 25 (.tmp 6) (by rfl) w.heap.size 0 (by rfl) (cellsB NA) _ HXA.out Tryd.underlying25 (by rfl) (by rw [cellsB_length, lNA]; exact Tryd.sizeDg) ?_)
              | (refine wpList_load_midG (by rfl) 25 (.tmp 8) (by rfl) (w.heap.size + 1) 0 (by rfl) (cellsB NB) _ HXB.out Tryd.underlying25 (by rfl) (by rw [cellsB_length, lNB]; exact Tryd.sizeDg) ?_)
              | (refine wpList_eqD (.tmp 66) (.tmp 67) (by rfl) (by rfl) NA NB lNA lNB (by rfl) (by rfl) false HDN.out ?_))
            go_roundw
            case rel => exact ⟨i + 1, k2, NA, NB, by omega, by go_num, rfl, HK2.out, lNA, lNB, HXA.out, HXB.out, HT8.out.1, HT8.out.2, HB8.out, HS8.out, HL2.out⟩
            case measure => simp [intOf]; omega
    · obtain rfl : i = 32 := by omega
      have HE : Hid (clashM k a ps b qs = false) := by
        have h := HC.out
        rw [List.drop_of_length_le (by rw [HPQ.out.1]; exact Nat.le_refl _), List.drop_of_length_le (by rw [HPQ.out.2]; exact Nat.le_refl _)] at h
        exact h
      go_wp2_with fail
      go_ret
      exact ⟨by rw [HE.out]; rfl, HBW.out⟩
end Go.Proofs.YtbhoijnhpmkglabDoor
/- Root and Path, whatever they are asked (over the interface Wtrie). -/
namespace Go.Proofs.YtbhoijnhpmkglabDoor
open Go.RowKit
set_option linter.unusedVariables false
set_option linter.unusedSimpArgs false

theorem wtrie_rootall (a : Option Addr) (n c : Nat) (es : List Ent) (w : World) (G : Env w) (R : ERow w a n es) (hc : n ≤ c) (hn : 40 * n ≤ 140737488351232) :
    Calls Tryd.prog 6 #[.slice a n c] w fun r w' => (∃ (X : List UInt8) (er : Value), X.length = 32 ∧ r = .returned (.tuple #[digestV X, er]) ∧ ((er = .nilIface ∧ faultE es = 0 ∧ X = mapL (gE es) 0 32) ∨ (∃ z : Int, er = .iface 50 (.int .i64 z)))) ∧ Below w.heap.size w w' := by
  by_cases h : faultE es = 0
  · refine (wtrie_root a n c es w G R hc hn h).mono ?_
    rintro r w' ⟨rfl, hb⟩
    exact ⟨⟨_, _, mapL_length (gE_length es) 32 0, rfl, .inl ⟨rfl, h, rfl⟩⟩, hb⟩
  · refine (wtrie_rootout a n c es _ w G R hc hn rfl h).mono ?_
    rintro r w' ⟨rfl, hb⟩
    exact ⟨⟨_, _, zT_length, rfl, .inr ⟨_, rfl⟩⟩, hb⟩
theorem wtrie_pathall (a : Option Addr) (n c : Nat) (es : List Ent) (k : Int) (w : World) (G : Env w) (R : ERow w a n es) (hc : n ≤ c) (hn : 40 * n ≤ 140737488351232) (k1 : -9223372036854775808 ≤ k) (k2 : k ≤ 9223372036854775807) :
    Calls Tryd.prog 7 #[.slice a n c, .int .i64 k] w fun r w' => (∃ (a' : Option Addr) (n' c' : Nat) (er : Value), r = .returned (.tuple #[.slice a' n' c', er]) ∧ ((er = .nilIface ∧ faultE es = 0 ∧ isKey k = true ∧ n' = 32 ∧ 32 ≤ c' ∧ DRow w' a' 32 (pathM (gE es) k.toNat 32)) ∨ (∃ z : Int, er = .iface 50 (.int .i64 z)))) ∧ Below w.heap.size w w' := by
  by_cases h : pathE es k = 0
  · have hf : faultE es = 0 := by
      unfold pathE at h
      by_cases c1 : faultE es = 0
      · exact c1
      · rw [if_pos c1] at h; exact h
    have hk : isKey k = true := by
      unfold pathE at h
      rw [if_neg (by simp [hf])] at h
      by_cases c1 : isKey k = false
      · rw [if_pos c1] at h; omega
      · simpa using c1
    have hkb := of_decide_eq_true hk
    obtain ⟨j, rfl⟩ : ∃ j : Nat, k = (j : Int) := ⟨k.toNat, by omega⟩
    refine (wtrie_path a n c es j w G R hc hn hf (by omega)).mono ?_
    rintro r w' ⟨⟨a', c', rfl, hc', r'⟩, hb⟩
    exact ⟨⟨a', 32, c', _, rfl, .inl ⟨rfl, hf, hk, rfl, hc', r'⟩⟩, hb⟩
  · refine (wtrie_pathout a n c es k _ w G R hc hn k1 k2 rfl h).mono ?_
    rintro r w' ⟨⟨a', c', rfl⟩, hb⟩
    exact ⟨⟨a', 0, c', _, rfl, .inr ⟨_, rfl⟩⟩, hb⟩
end Go.Proofs.YtbhoijnhpmkglabDoor
