/- What once.Sign holds between two rounds; steps of its drawn region. -/
import Derived.Test.YtigdgmoiljifjaaDoorWbits
import Derived.Test.YtigdgmoiljifjaaDoorTill
import Derived.Test.YtigdgmoiljifjaaDoorStepD
import Derived.Test.YtigdgmoiljifjaaDoorEnv
import Derived.OwnWalk
namespace Go.Proofs.YtigdgmoiljifjaaDoor
open Go.RowKit
set_option linter.unusedVariables false
set_option linter.unusedSimpArgs false

theorem wrap_small (n : Nat) (h : n < 9223372036854775808) : IntKind.i64.wrap (n : Int) = n := by
  simp only [IntKind.wrap, IntKind.bits, IntKind.signed, Bool.true_and]
  rw [if_neg (by simp; omega)]
  omega
def sigP (seed m : List UInt8) (pre : List (Fin 256)) : List (List UInt8) := (pre.map fun x => [onceSecL seed x.1 (bitL m x.1), onceLeafL (onceSecL seed x.1 (1 - bitL m x.1))]).flatten
theorem sigP_snoc (seed m : List UInt8) (pre : List (Fin 256)) (x : Fin 256) : sigP seed m (pre ++ [x]) = sigP seed m pre ++ [onceSecL seed x.1 (bitL m x.1), onceLeafL (onceSecL seed x.1 (1 - bitL m x.1))] := by
  simp [sigP]
theorem sigP_len (seed m : List UInt8) : ∀ pre : List (Fin 256), (sigP seed m pre).length = 2 * pre.length := by
  intro pre
  induction pre with
  | nil => rfl
  | cons x r ih =>
    have : sigP seed m (x :: r) = [onceSecL seed x.1 (bitL m x.1), onceLeafL (onceSecL seed x.1 (1 - bitL m x.1))] ++ sigP seed m r := by simp [sigP]
    rw [this, List.length_append, ih, List.length_cons]
    simp
    omega
theorem sigP_all (seed m : List UInt8) : ∀ k, k ≤ 256 → sigP seed m (places k) = onceSigL seed m k
  | 0, _ => rfl
  | k + 1, h => by
    have hof : (Fin.ofNat 256 k).1 = k := by show k % 256 = k; omega
    rw [places_succ, sigP_snoc, sigP_all seed m k (by omega), hof, onceSigL, List.append_assoc]
    rfl
/-- Blocks: b the seed, b + 2 the signature's digests, B the variable sig. -/
def SigI (w : World) (B : Nat) (seed m : List UInt8) (pre : List (Fin 256)) (W : World) : Prop :=
  DAt W w.heap.size 0 seed ∧ OwnD W (w.heap.size + 2) (.slice (some ⟨w.heap.size + 2, 0, none⟩) (2 * pre.length) 512) (sigP seed m pre) ∧
  W.cell? ⟨B, 0, none⟩ = some (.slice (some ⟨w.heap.size + 2, 0, none⟩) (2 * pre.length) 512) ∧ W.frozen? ⟨B, 0, none⟩ = false ∧ Below w.heap.size w W ∧ w.heap.size + 2 < B ∧ B + 2 ≤ W.heap.size
theorem OwnD.keep {w w' : World} {B g n cap C : Nat} {ls : List (List UInt8)} (h : OwnD w B (.slice (some ⟨g, 0, none⟩) n cap) ls) (hb : Below C w w') (hg : g < C) : OwnD w' B (.slice (some ⟨g, 0, none⟩) n cap) ls := by
  refine ⟨h.1, ?_⟩
  have h := h.2
  rcases h.2 with ⟨h1, h0⟩ | ⟨g', cap', cur, e1, e2, e3, e4⟩
  · exact ⟨h.1, .inl ⟨h1, h0⟩⟩
  · have hgg : g = g' := by cases e1; rfl
    subst hgg
    exact ⟨h.1, .inr ⟨g, cap', cur, e1, e2, (hb.block g hg).trans e3, e4⟩⟩
theorem OwnD.same {w w' : World} {B g n cap : Nat} {ls : List (List UInt8)} (h : OwnD w B (.slice (some ⟨g, 0, none⟩) n cap) ls) (hk : w'.heap[g]? = w.heap[g]?) : OwnD w' B (.slice (some ⟨g, 0, none⟩) n cap) ls := by
  refine ⟨h.1, ?_⟩
  have h := h.2
  rcases h.2 with ⟨h1, h0⟩ | ⟨g', cap', cur, e1, e2, e3, e4⟩
  · exact ⟨h.1, .inl ⟨h1, h0⟩⟩
  · have hgg : g = g' := by cases e1; rfl
    subst hgg
    exact ⟨h.1, .inr ⟨g, cap', cur, e1, e2, hk.trans e3, e4⟩⟩
theorem SigI.keep {w : World} {B : Nat} {seed m : List UInt8} {pre : List (Fin 256)} {W W' : World} (h : SigI w B seed m pre W) (hb : Below (B + 2) W W') : SigI w B seed m pre W' := by
  obtain ⟨h1, h2, h3, h4, h5, h6, h7⟩ := h
  exact ⟨h1.below hb (by omega), h2.keep hb (by omega), (hb.cell (p := ⟨B, 0, none⟩) (by show B < B + 2; omega)).trans h3, (hb.frozen (p := ⟨B, 0, none⟩) (by show B < B + 2; omega)).trans h4, h5.trans (hb.mono (by omega)), h6, Nat.le_trans h7 hb.size⟩
/-- What the law of a range over a function asks: what is no cells, at or beyond B, stays. -/
theorem keepsFrom_of {B : Nat} {W W' : World} (hs : W.heap.size ≤ W'.heap.size) (h : ∀ k, B ≤ k → k < W.heap.size → W'.heap[k]? = W.heap[k]?) : KeepsFrom B W W' :=
  ⟨hs, fun k o hk ho _ => (h k hk (Array.getElem?_eq_some_iff.1 ho).1).trans ho⟩
theorem ownFrom_keep {β : Type} {B : Nat} {I : β → World → Prop} (hs : ∀ s W, I s W → B ≤ W.heap.size) (h : ∀ s W W', I s W → Below B W W' → I s W') : OwnFrom B I := fun s W W' row hi hg hr =>
  h s W W' hi ((Below.refl B W).grown hg (hs s W hi) fun k e => (hr k e).1)

theorem wp_buildD2 {w : World} {o : Oper} {a : Act} {K : Act → World → Prop} {Q : Exit → Act → World → Prop} (x y : Operand) (ho : o.op = .buildSlice 24 2 #[(0, x), (1, y)])
    (l r : List UInt8) (hl : l.length = 32) (hr : r.length = 32) (hx : a.eval x = digestV l) (hy : a.eval y = digestV r)
    (h : K (a.put o.dst (.slice (some ⟨w.heap.size, 0, none⟩) 2 2)) (w.alloc (.cells (cellsB (l ++ r)).toArray 23))) : o.wp Tryd.prog a w K Q := by
  obtain ⟨i0, hi, hz0, hz1, hz2⟩ := info_parts Tryd.infoDg
  have hrun := run_buildD (P := Tryd.prog) w 24 23 (.agg zeros32) i0 [l, r] (by intro q hq; simp only [List.mem_cons, List.not_mem_nil, or_false] at hq; rcases hq with rfl | rfl <;> assumption) (by simp) (by simp) Tryd.underlying24 hi hz0 (by rfl) hz1
  simp only [List.length_cons, List.length_nil, List.zipIdx_cons, List.zipIdx_nil, List.map_cons, List.map_nil, List.flatten_cons, List.flatten_nil, List.append_nil, Nat.zero_add, Nat.reduceAdd] at hrun
  unfold Oper.wp
  simp [execOp, ho, hx, hy, hrun, Result.andThen]
  exact h
/-- 'append(v, ds...)', v the call's own row of digests, with room. -/
theorem wp_appendDF {w : World} {o : Oper} {a : Act} {K : Act → World → Prop} {Q : Exit → Act → World → Prop} (s x : Operand)
    (ho : o.op = .call { callee := .builtin .append, args := #[s, x], argTypes := #[24, 24] })
    (base g k cap : Nat) (ls : List (List UInt8)) (hk : ls.length = k) (hs : a.eval s = .slice (some ⟨g, 0, none⟩) k cap) (hown : OwnD w base (.slice (some ⟨g, 0, none⟩) k cap) ls)
    (ad : Addr) (n c : Nat) (ds : List (List UInt8)) (hx : a.eval x = .slice (some ad) n c) (hr : DRow w (some ad) n ds) (hn0 : 0 < n) (hroom : k + n ≤ cap)
    (h : ∀ w', OwnD w' base (.slice (some ⟨g, 0, none⟩) (k + n) cap) (ls ++ ds) → w.grownBy w' (some g) → K (a.put o.dst (.slice (some ⟨g, 0, none⟩) (k + n) cap)) w') : o.wp Tryd.prog a w K Q := by
  obtain ⟨i0, hi, hz0, hz1, hz2⟩ := info_parts Tryd.infoDg
  subst hk
  have hlen := hr.len
  obtain ⟨hl, h32, h1 | ⟨b, off, e1, hc⟩⟩ := hr
  · omega
  cases e1
  have hf := flat_len h32
  have hnews : ∀ j u, (cellsB ds.flatten)[j]? = some u → w.cell? ((⟨b, off, none⟩ : Addr).add j) = some u := by
    intro j u hj
    have hj' : j < ds.flatten.length := by have := (List.getElem?_eq_some_iff.1 hj).1; rwa [cellsB_length] at this
    have hq : j / 32 < n := by omega
    have hm : j % 32 < 32 := Nat.mod_lt _ (by omega)
    have e : j = 32 * (j / 32) + j % 32 := by omega
    rw [Go.WideShapes.add_plain, ← hj, cellsB_at _ j hj']
    have := (hc (j / 32) hq).cell (j % 32) (by rw [hlen _ hq]; exact hm)
    rw [show off + 32 * (j / 32) + j % 32 = off + j by omega] at this
    rw [this]
    have hn := nth_flat h32 (j / 32) (j % 32) (by omega) hm
    rw [← e] at hn
    rw [hn]
  obtain ⟨w', hrun, r1, r2⟩ := run_append_fits (P := Tryd.prog) w base 24 o.type 23 i0 32 Tryd.underlying24 hi hz1 g ls.length cap (cellsB ls.flatten) hown.2 ⟨b, off, none⟩ n c (cellsB ds.flatten) (by rw [cellsB_length, hf, hl]; omega) hnews (cellsB_one _) hroom
  unfold Oper.wp execOp
  simp only [ho, resolve, invoke, builtin, Sem.run_bind, Sem.run_pure, Result.andThen_ok, List.map_toArray, List.map_cons, List.map_nil, hs, hx, hrun]
  refine h w' ⟨?_, ?_⟩ r2
  · intro l hl'
    rcases List.mem_append.1 hl' with h' | h'
    · exact hown.1 l h'
    · exact h32 l h'
  · rw [List.length_append, List.flatten_append, cellsB_append, hl]
    exact r1
end Go.Proofs.YtigdgmoiljifjaaDoor
