/- Texts of this claim, joined: Build, OwnD, Dsub, Wroot. -/
import Derived.Test.YtbpkhpkllokbhaaDoorJ08
import Derived.Test.YtbpkhpkllokbhaaDoorJ02
import Derived.Test.YtbpkhpkllokbhaaDoorJ03
/- Slices of digests that a literal lays. -/
namespace Go.Proofs.YtbpkhpkllokbhaaDoor
open Go.RowKit
set_option linter.unusedVariables false
set_option linter.unusedSimpArgs false

theorem fold_set (off : Nat) : ∀ (l : List Value) (j : Nat) (b : Array Value), off + j + l.length ≤ b.size →
    ((l.zipIdx j).foldl (fun cs (x : Value × Nat) => cs.setIfInBounds (off + x.2) x.1) b).toList = b.toList.take (off + j) ++ l ++ b.toList.drop (off + j + l.length)
  | [], j, b, h => by simp
  | c :: r, j, b, h => by
    rw [List.zipIdx_cons, List.foldl_cons, fold_set off r (j + 1) _ (by simp; simp at h; omega)]
    simp only [Array.toList_setIfInBounds]
    have hlt : off + j < b.toList.length := by simp at h ⊢; omega
    have e1 : (b.toList.set (off + j) c).take (off + (j + 1)) = b.toList.take (off + j) ++ [c] := by
      rw [show off + (j + 1) = off + j + 1 from by omega, List.take_succ_eq_append_getElem (by simpa using hlt)]
      rw [List.take_set_of_le (Nat.le_refl _)]
      simp
    have e2 : (b.toList.set (off + j) c).drop (off + (j + 1) + r.length) = b.toList.drop (off + j + (c :: r).length) := by
      rw [List.drop_set_of_lt (by omega)]
      congr 1
      simp; omega
    rw [e1, e2]
    simp
theorem fill_digests : ∀ (ls : List (List UInt8)) (k : Nat) (b : Array Value), (∀ l ∈ ls, l.length = 32) → b.size = 32 * (k + ls.length) →
    ∃ r : Array Value, Instr.fill (fun i => some (i * 32, 32)) b ((ls.zipIdx k).map fun x => (x.2, digestV x.1)) = some r ∧ r.toList = b.toList.take (32 * k) ++ cellsB ls.flatten
  | [], k, b, _, hb => ⟨b, rfl, by simp at hb; rw [List.take_of_length_le (by simp; omega)]; simp [cellsB]⟩
  | l :: ls, k, b, hl, hb => by
    have h32 : l.length = 32 := hl l (List.mem_cons_self ..)
    have hsz : (digestV l).cells.size = 32 := by
      show (cellsB l).toArray.size = 32
      exact cells32 h32
    have hlen : (cellsB l).length = 32 := by rw [cellsB_length, h32]
    let b' := (digestV l).cells.zipIdx.foldl (fun cs (x : Value × Nat) => cs.setIfInBounds (k * 32 + x.2) x.1) b
    have hb' : b'.toList = b.toList.take (k * 32) ++ cellsB l ++ b.toList.drop (k * 32 + 32) := by
      have := fold_set (k * 32) (cellsB l) 0 b (by simp at hb; omega)
      rw [Nat.add_zero, hlen] at this
      rw [← this]
      show ((cellsB l).toArray.zipIdx.foldl _ b).toList = _
      rw [← Array.foldl_toList, Array.toList_zipIdx]
    have hbs : b'.size = b.size := by
      rw [← Array.length_toList, hb']
      simp [hlen]
      simp at hb
      omega
    obtain ⟨r, hr, hrl⟩ := fill_digests ls (k + 1) b' (fun x hx => hl x (List.mem_cons_of_mem _ hx)) (by rw [hbs, hb]; simp; omega)
    refine ⟨r, ?_, ?_⟩
    · rw [List.zipIdx_cons, List.map_cons]
      unfold Instr.fill
      simp only
      rw [if_neg (by simp only [hsz]; simp; simp at hb; omega)]
      exact hr
    · rw [hrl, hb', List.flatten_cons, cellsB_append]
      have e : 32 * (k + 1) = (b.toList.take (k * 32) ++ cellsB l).length := by simp [hlen]; simp at hb; omega
      rw [e, List.take_left, List.append_assoc, Nat.mul_comm k 32]

section
variable {P : Program}
/-- 'a literal of digests': a new row that reads as they do. -/
theorem run_buildD (w : World) (t e : TypeId) (z : Value) (i : TypeInfo) (ls : List (List UInt8)) (hls : ∀ l ∈ ls, l.length = 32) (h0 : 0 < ls.length) (hn : ls.length ≤ 10000) (ht : P.underlying t = some (.slice e)) (hi : P.info? e = some i) (hz : i.zero = some z) (hzs : z.cells.size = 32) (hsize : i.size = 32) :
    (Instr.buildSlice t ls.length ((ls.zipIdx 0).map fun x => (x.2, digestV x.1)).toArray).run P w = .ok (.slice (some ⟨w.heap.size, 0, none⟩) ls.length ls.length) (w.alloc (.cells (cellsB ls.flatten).toArray e)) := by
  obtain ⟨r, hr, hrl⟩ := fill_digests ls 0 ((Array.range (ls.length * 32)).map (z.cells[· % z.cells.size]!)) hls (by simp; omega)
  have hr' : r = (cellsB ls.flatten).toArray := by
    rw [← Array.toArray_toList (xs := r), hrl]
    simp
  subst hr'
  rw [hzs] at hr
  have hne : ¬ ls.length * 32 = 0 := by omega
  simp [Instr.buildSlice, run_underlying ht, sizeOf, typeInfo, hi, hsize, zeroValue, hz, hr, newRow, hzs, show ¬ (16777216 < ls.length * 32) by omega, hne]
/-- .. as a step of a walk, of one digest. -/
theorem wpList_build1 {w : World} {ops : Array Oper} {rest : List Oper} {o : Oper} {a : Act} {Q : Exit → Act → World → Prop} (hgd : o.guard = none) (x : Operand) (t : TypeId) (ho : o.op = .buildSlice t 1 #[(0, x)])
    (e : TypeId) (z : Value) (i : TypeInfo) (l : List UInt8) (hl : l.length = 32) (hx : a.eval x = digestV l) (ht : P.underlying t = some (.slice e)) (hi : P.info? e = some i) (hz : i.zero = some z) (hzs : z.cells.size = 32) (hsize : i.size = 32)
    (h : wpList P ops Q rest (a.put o.dst (.slice (some ⟨w.heap.size, 0, none⟩) 1 1)) (w.alloc (.cells (cellsB l).toArray e))) : wpList P ops Q (o :: rest) a w := by
  have hrun := run_buildD (P := P) w t e z i [l] (by intro q hq; rw [List.mem_singleton] at hq; rw [hq]; exact hl) (by simp) (by simp) ht hi hz hzs hsize
  simp only [List.length_singleton, List.zipIdx_cons, List.zipIdx_nil, List.map_cons, List.map_nil, List.flatten_cons, List.flatten_nil, List.append_nil] at hrun
  refine wpList_plain hgd fun K hK' => ?_
  unfold Oper.wp
  simp [execOp, ho, hx, hrun, Result.andThen]
  exact hK' _ _ h
/-- .. of two. -/
theorem wpList_build2 {w : World} {ops : Array Oper} {rest : List Oper} {o : Oper} {a : Act} {Q : Exit → Act → World → Prop} (hgd : o.guard = none) (x y : Operand) (t : TypeId) (ho : o.op = .buildSlice t 2 #[(0, x), (1, y)])
    (e : TypeId) (z : Value) (i : TypeInfo) (l r : List UInt8) (hl : l.length = 32) (hr : r.length = 32) (hx : a.eval x = digestV l) (hy : a.eval y = digestV r) (ht : P.underlying t = some (.slice e)) (hi : P.info? e = some i) (hz : i.zero = some z) (hzs : z.cells.size = 32) (hsize : i.size = 32)
    (h : wpList P ops Q rest (a.put o.dst (.slice (some ⟨w.heap.size, 0, none⟩) 2 2)) (w.alloc (.cells (cellsB (l ++ r)).toArray e))) : wpList P ops Q (o :: rest) a w := by
  have hrun := run_buildD (P := P) w t e z i [l, r] (by intro q hq; simp only [List.mem_cons, List.not_mem_nil, or_false] at hq; rcases hq with rfl | rfl <;> assumption) (by simp) (by simp) ht hi hz hzs hsize
  simp only [List.length_cons, List.length_nil, List.zipIdx_cons, List.zipIdx_nil, List.map_cons, List.map_nil, List.flatten_cons, List.flatten_nil, List.append_nil, Nat.zero_add, Nat.reduceAdd] at hrun
  refine wpList_plain hgd fun K hK' => ?_
  unfold Oper.wp
  simp [execOp, ho, hx, hy, hrun, Result.andThen]
  exact hK' _ _ h
end
theorem cells_new (w : World) (cs : List Value) (t : TypeId) (j : Nat) : (w.alloc (.cells cs.toArray t)).cell? ⟨w.heap.size, j, none⟩ = cs[j]? := by
  have h : (w.alloc (.cells cs.toArray t)).heap[w.heap.size]? = some (.cells cs.toArray t) := by
    show (w.heap.push _)[w.heap.size]? = _
    simp
  unfold World.cell?
  rw [h]
  simp
theorem DRow.lit1 (w : World) (l : List UInt8) (t : TypeId) (hl : l.length = 32) : DRow (w.alloc (.cells (cellsB l).toArray t)) (some ⟨w.heap.size, 0, none⟩) 1 [l] := by
  refine ⟨rfl, by intro q hq; rw [List.mem_singleton] at hq; rw [hq]; exact hl, .inr ⟨w.heap.size, 0, rfl, fun i hi => ?_⟩⟩
  obtain rfl : i = 0 := by omega
  exact box_dat w l t
theorem DRow.lit2 (w : World) (l r : List UInt8) (t : TypeId) (hl : l.length = 32) (hr : r.length = 32) : DRow (w.alloc (.cells (cellsB (l ++ r)).toArray t)) (some ⟨w.heap.size, 0, none⟩) 2 [l, r] := by
  refine ⟨rfl, by intro q hq; simp only [List.mem_cons, List.not_mem_nil, or_false] at hq; rcases hq with rfl | rfl <;> assumption, .inr ⟨w.heap.size, 0, rfl, fun i hi => ?_⟩⟩
  have : i = 0 ∨ i = 1 := by omega
  rcases this with rfl | rfl
  · refine DAt.mk fun j hj => ?_
    have hj' : j < l.length := hj
    rw [show 0 + 32 * 0 + j = j from by omega, cells_new, cellsB_append, List.getElem?_append_left (by rw [cellsB_length]; exact hj'), cellsB_at l j hj']
    rfl
  · refine DAt.mk fun j hj => ?_
    have hj' : j < r.length := hj
    rw [show 0 + 32 * 1 + j = 32 + j from by omega, cells_new, cellsB_append, List.getElem?_append_right (by rw [cellsB_length]; omega), cellsB_length, hl, show 32 + j - 32 = j from by omega, cellsB_at r j hj']
    rfl
end Go.Proofs.YtbpkhpkllokbhaaDoor
/- Rows of digests that a call itself made: read, and appended to. -/
namespace Go.Proofs.YtbpkhpkllokbhaaDoor
open Go.RowKit
set_option linter.unusedVariables false
set_option linter.unusedSimpArgs false

theorem flat_len {ls : List (List UInt8)} (h : ∀ l ∈ ls, l.length = 32) : ls.flatten.length = 32 * ls.length := by
  induction ls with
  | nil => rfl
  | cons l r ih =>
    rw [List.flatten_cons, List.length_append, h l (List.mem_cons_self ..), ih (fun x hx => h x (List.mem_cons_of_mem _ hx)), List.length_cons]
    omega
theorem nth_flat : ∀ {ls : List (List UInt8)}, (∀ l ∈ ls, l.length = 32) → ∀ (i j : Nat), i < ls.length → j < 32 → nth ls.flatten (32 * i + j) = nth (ls.getD i []) j
  | [], _, i, j, hi, _ => by simp at hi
  | l :: r, h, i, j, hi, hj => by
    have hl := h l (List.mem_cons_self ..)
    cases i with
    | zero =>
      unfold nth
      simp only [List.flatten_cons, List.getD_eq_getElem?_getD, Nat.mul_zero, Nat.zero_add]
      rw [List.getElem?_append_left (by omega)]
      rfl
    | succ i =>
      have ih := nth_flat (fun x hx => h x (List.mem_cons_of_mem _ hx)) i j (by simpa using hi) hj
      unfold nth at ih ⊢
      simp only [List.flatten_cons, List.getD_eq_getElem?_getD] at ih ⊢
      rw [List.getElem?_append_right (by omega), hl, show 32 * (i + 1) + j - 32 = 32 * i + j by omega, ih]
      rfl
/-- The call's own slice of digests v reads as ls. -/
def OwnD (w : World) (B : Nat) (v : Value) (ls : List (List UInt8)) : Prop := (∀ l ∈ ls, l.length = 32) ∧ w.ownsRow B 24 32 v ls.length (cellsB ls.flatten)
theorem OwnD.nil (w : World) (B : Nat) : OwnD w B (.slice none 0 0) [] := ⟨(fun l hl => by cases hl), World.ownsRow_nil _ _ _ _⟩
theorem OwnD.form {w : World} {B : Nat} {v : Value} {ls : List (List UInt8)} (h : OwnD w B v ls) : ∃ a cap, v = .slice a ls.length cap ∧ DRow w a ls.length ls ∧ ls.length ≤ cap := by
  obtain ⟨h32, h⟩ := h
  rcases h.2 with ⟨rfl, h0⟩ | ⟨g, cap, cur, rfl, h1, h2, h3, _⟩
  · exact ⟨none, 0, by rw [h0], ⟨rfl, h32, .inl h0⟩, by omega⟩
  · refine ⟨_, cap, rfl, ⟨rfl, h32, .inr ⟨g, 0, rfl, fun i hi => DAt.mk fun j hj => ?_⟩⟩, h3⟩
    have hlen : (ls.getD i []).length = 32 := by
      rw [List.getD_eq_getElem?_getD, List.getElem?_eq_getElem hi]
      exact h32 _ (List.getElem_mem _)
    rw [hlen] at hj
    have hf := flat_len h32
    rw [Nat.zero_add, World.ownsRow.cellAt h (32 * i + j) (by omega), cellsB_at _ _ (by omega), nth_flat h32 i j hi hj]
theorem OwnD.below {w w' : World} {B : Nat} {v : Value} {ls : List (List UInt8)} (h : OwnD w B v ls) (hb : Below w.heap.size w w') : OwnD w' B v ls := by
  refine ⟨h.1, ?_⟩
  have h := h.2
  rcases h.2 with ⟨h1, h0⟩ | ⟨g, cap, cur, e1, e2, e3, e4⟩
  · exact ⟨h.1, .inl ⟨h1, h0⟩⟩
  · have hg : g < w.heap.size := (World.ownsRow.lt h g (by rw [e1]; rfl)).2
    exact ⟨h.1, .inr ⟨g, cap, cur, e1, e2, (hb.block g hg).trans e3, e4⟩⟩
theorem OwnD.grown {w w0 w' : World} {B B0 : Nat} {v : Value} {ls : List (List UInt8)} (h : OwnD w B v ls) (hb : Below B0 w0 w) (hg : w.grownBy w' v.ownBlock) (h0 : B0 ≤ B) (hs : B0 ≤ w.heap.size) : Below B0 w0 w' :=
  hb.grown hg hs (fun k hk => Nat.le_trans h0 (World.ownsRow.lt h.2 k hk).1)
theorem OwnD.alloc {w : World} {B : Nat} {v : Value} {ls : List (List UInt8)} (h : OwnD w B v ls) (o : Obj) : OwnD (w.alloc o) B v ls := h.below ((Below.refl _ _).alloc (Nat.le_refl _) _)
theorem Tryd.infoDg : (Tryd.prog.info? 24).map (fun i => (i.zero, i.size, i.bytes)) = some (some (.agg zeros32), 32, 32) := by kernel_rfl
/-- 'append(v, ds...)', v the call's own row of digests. -/
theorem wpList_append_digests {w : World} {ops : Array Oper} {rest : List Oper} {o : Oper} {a : Act} {Q : Exit → Act → World → Prop} (hgd : o.guard = none) (s x : Operand)
    (ho : o.op = .call { callee := .builtin .append, args := #[s, x], argTypes := #[22, 22] })
    (base : Nat) (v : Value) (ls : List (List UInt8)) (hs : a.eval s = v) (hown : OwnD w base v ls)
    (ad : Addr) (n c : Nat) (ds : List (List UInt8)) (hx : a.eval x = .slice (some ad) n c) (hr : DRow w (some ad) n ds) (hn0 : 0 < n) (h47 : (ls.length + n) * 32 ≤ 140737488355328) (hbase : base ≤ w.heap.size)
    (h : ∀ v' w', OwnD w' base v' (ls ++ ds) → w.grownBy w' v.ownBlock → (v'.ownBlock = v.ownBlock ∨ v'.ownBlock = some w.heap.size) → wpList Tryd.prog ops Q rest (a.put o.dst v') w') : wpList Tryd.prog ops Q (o :: rest) a w := by
  obtain ⟨i0, hi, hz0, hz1, hz2⟩ := info_parts Tryd.infoDg
  have hlen := hr.len
  obtain ⟨hl, h32, h1 | ⟨b, off, e1, hc⟩⟩ := hr
  · omega
  cases e1
  have hf := flat_len h32
  refine wpList_append_own_at w hgd s x 22 ho base 24 i0 (.agg zeros32) 32 32 Tryd.underlying22 hi hz0 hz1 hz2 rfl (by decide) v ls.length (cellsB ls.flatten) hs hown.2 ⟨b, off, none⟩ n c (cellsB ds.flatten) hx (by rw [cellsB_length, hf, hl]; omega) ?_ (cellsB_one _) (by unfold maxLen; omega) h47 hbase ?_
  · intro j u hj
    have hj' : j < ds.flatten.length := by have := (List.getElem?_eq_some_iff.1 hj).1; rwa [cellsB_length] at this
    have hq : j / 32 < n := by omega
    have hm : j % 32 < 32 := Nat.mod_lt _ (by omega)
    have e : j = 32 * (j / 32) + j % 32 := by omega
    rw [Go.WideShapes.add_plain, ← hj, cellsB_at _ j hj']
    have := (hc (j / 32) hq).cell (j % 32) (by rw [hlen _ hq]; exact hm)
    rw [show off + 32 * (j / 32) + j % 32 = off + j by omega] at this
    rw [this]
    have hn := nth_flat h32 (j / 32) (j % 32) (by omega) hm
    rw [← e] at hn
    rw [hn]
  · intro v' w' hown' hgrow _ hat
    refine h v' w' ⟨?_, ?_⟩ hgrow hat
    · intro l hl'
      rcases List.mem_append.1 hl' with h' | h'
      · exact hown.1 l h'
      · exact h32 l h'
    · rw [List.length_append, List.flatten_append, cellsB_append, hl]
      exact hown'
end Go.Proofs.YtbpkhpkllokbhaaDoor
/- Parts of slices of digests. -/
namespace Go.Proofs.YtbpkhpkllokbhaaDoor
open Go.RowKit
set_option linter.unusedVariables false
set_option linter.unusedSimpArgs false

theorem DRow.take {w : World} {a : Option Addr} {n : Nat} {ls : List (List UInt8)} (h : DRow w a n ls) (k : Nat) (hk : k ≤ n) : DRow w a k (ls.take k) := by
  obtain ⟨h1, h2, h3⟩ := h
  refine ⟨by rw [List.length_take]; omega, fun l hl => h2 l (List.mem_of_mem_take hl), ?_⟩
  rcases h3 with h3 | ⟨b, o, ha, hc⟩
  · exact .inl (by omega)
  · exact .inr ⟨b, o, ha, fun i hi => by rw [getD_take hi]; exact hc i (by omega)⟩
theorem DRow.drop {w : World} {b o : Nat} {n : Nat} {ls : List (List UInt8)} (h : DRow w (some ⟨b, o, none⟩) n ls) (k : Nat) (hk : k ≤ n) : DRow w (some ⟨b, o + k * 32, none⟩) (n - k) (ls.drop k) := by
  obtain ⟨h1, h2, h3⟩ := h
  refine ⟨by rw [List.length_drop]; omega, fun l hl => h2 l (List.mem_of_mem_drop hl), ?_⟩
  rcases h3 with h3 | ⟨b', o', ha, hc⟩
  · exact .inl (by omega)
  · cases ha
    refine .inr ⟨b, o + k * 32, rfl, fun i hi => ?_⟩
    rw [getD_drop]
    have := hc (k + i) (by omega)
    rwa [show o + k * 32 + 32 * i = o + 32 * (k + i) by omega]
theorem DRow.addr {w : World} {a : Option Addr} {n : Nat} {ls : List (List UInt8)} (h : DRow w a n ls) (hn : 0 < n) : ∃ b o, a = some ⟨b, o, none⟩ := by
  rcases h.2.2 with h3 | ⟨b, o, ha, hc⟩
  · omega
  · exact ⟨b, o, ha⟩
theorem DRow.at {w : World} {b o : Nat} {n : Nat} {ls : List (List UInt8)} (h : DRow w (some ⟨b, o, none⟩) n ls) (i : Nat) (hi : i < n) : DAt w b (o + i * 32) (ls.getD i []) := by
  rcases h.2.2 with h3 | ⟨b', o', ha, hc⟩
  · omega
  · cases ha
    rw [show o + i * 32 = o + 32 * i by omega]
    exact hc i hi
end Go.Proofs.YtbpkhpkllokbhaaDoor
/- The contracts of tree.root and tree.Root. -/
namespace Go.Proofs.YtbpkhpkllokbhaaDoor
open Go.RowKit
set_option linter.unusedVariables false
set_option linter.unusedSimpArgs false

set_option maxRecDepth 100000 in
set_option maxHeartbeats 1000000 in
theorem wroot_any : ∀ (n : Nat) (a : Option Addr) (c : Nat) (ls : List (List UInt8)) (w : World), Env w → DRow w a n ls → n ≤ c → n ≤ 256 →
    Calls Tryd.prog 19 #[.slice a n c] w fun e w' => e = .returned (digestV (rootT ls)) ∧ Below w.heap.size w w' := by
  intro n
  induction n using Nat.strongRecOn with
  | ind n ih =>
    intro a c ls w G R hc hn
    have HI : Hid (∀ m, m < n → ∀ (a : Option Addr) (c : Nat) (ls : List (List UInt8)) (w : World), Env w → DRow w a m ls → m ≤ c → m ≤ 256 → Calls Tryd.prog 19 #[.slice a m c] w fun e w' => e = .returned (digestV (rootT ls)) ∧ Below w.heap.size w w') := ih
    clear ih
    obtain ⟨w2, hw2⟩ : ∃ w2, w.alloc (.cells (cellsB zD).toArray 24) = w2 := ⟨_, rfl⟩
    have HS2 : Hid (w2.heap.size = w.heap.size + 1) := by unfold Hid; rw [← hw2]; simp
    have HB2 : Hid (Below w.heap.size w w2) := by rw [← hw2]; exact (Below.refl _ _).alloc (Nat.le_refl _) _
    have HT2 : Hid (w2.there w.heap.size 0 32) := by rw [← hw2]; exact alloc_thereAt _ _ _ 32 _ rfl zD_size.symm
    have HR2 : Hid (DRow w2 a n ls) := R.below HB2.out
    have HLEN : Hid (ls.length = n) := R.1
    have HKT : Hid (∀ wx, Below w2.heap.size w2 wx → DRow wx a n ls ∧ wx.there w.heap.size 0 32 ∧ Below w.heap.size w wx) := fun wx hx => ⟨HR2.out.below hx, there_below HT2.out hx (by have := HS2.out; omega), HB2.out.trans (hx.mono (by have := HS2.out; omega))⟩
    have HGE : Hid (∀ wx, Below w2.heap.size w2 wx → Env wx) := fun wx hx => G.below (HKT.out wx hx).2.2
    clear R G
    have hlen := rootT_length HR2.out.2.1
    go_enter Tryd.func19, Tryd.ntmps19
    by_cases h2 : 2 ≤ n
    · have e0 : ((n : Int) == 0) = false := by simp; omega
      have e1 : ((n : Int) == 1) = false := by simp; omega
      go_wp2_with (refine wpList_allocE (by rfl) 24 (by rfl) (cellsB zD).toArray Tryd.zeroDg w.heap.size rfl w2 hw2 ?_)
      refine (wsplit_any n w2 h2 (by omega)).mono ?_
      rintro e w' ⟨rfl, rfl⟩
      clear hw2
      have hk1 := halfT_lt h2
      have hk2 := halfT_pos n
      have HE : Hid (rootT ls = nodeT (rootT (ls.take (halfT n))) (rootT (ls.drop (halfT n)))) := by
        have := rootT_two (ls := ls) (by rw [HLEN.out]; exact h2)
        rw [HLEN.out] at this
        exact this
      obtain ⟨b, o, rfl⟩ := HR2.out.addr (by omega)
      have HKL : Hid (∀ wx, Below w'.heap.size w' wx → DRow wx (some ⟨b, o, none⟩) (halfT n) (ls.take (halfT n)) ∧ DRow wx (some ⟨b, o + halfT n * 32, none⟩) (n - halfT n) (ls.drop (halfT n))) := fun wx hx => ⟨(HKT.out wx hx).1.take _ (by omega), (HKT.out wx hx).1.drop _ (by omega)⟩
      have HC1 : Hid (∀ wx, Env wx → DRow wx (some ⟨b, o, none⟩) (halfT n) (ls.take (halfT n)) → Calls Tryd.prog 19 #[.slice (some ⟨b, o, none⟩) (halfT n) c] wx fun e w' => e = .returned (digestV (rootT (ls.take (halfT n)))) ∧ Below wx.heap.size wx w') := fun wx hg hr => HI.out (halfT n) hk1 _ c _ wx hg hr (by omega) (by omega)
      have HC2 : Hid (∀ wx, Env wx → DRow wx (some ⟨b, o + halfT n * 32, none⟩) (n - halfT n) (ls.drop (halfT n)) → Calls Tryd.prog 19 #[.slice (some ⟨b, o + halfT n * 32, none⟩) (n - halfT n) (c - halfT n)] wx fun e w' => e = .returned (digestV (rootT (ls.drop (halfT n)))) ∧ Below wx.heap.size wx w') := fun wx hg hr => HI.out (n - halfT n) (by omega) _ (c - halfT n) _ wx hg hr (by omega) (by omega)
      have lA := rootT_length (HKL.out w' (Below.refl _ _)).1.2.1
      have lB := rootT_length (HKL.out w' (Below.refl _ _)).2.2.1
      rw [HE.out] at hlen
      generalize halfT n = k at *
      generalize rootT (ls.take k) = X at *
      generalize rootT (ls.drop k) = Y at *
      have k0 : (0 : Int) ≤ (k : Int) := by omega
      have k1 : (k : Int) ≤ (n : Int) := by omega
      have k2 : (k : Int) ≤ (c : Int) := by omega
      have n1 : (n : Int) ≤ (c : Int) := by omega
      go_wp2_with fail
      refine wp_region_noPanic ?_
      refine wp_region_held_drew (S := fun _ => True) (by kernel_rfl) True.intro (fun hHeld => ?_)
      try simp only [Act.put, List.setIfInBounds_toArray, List.set_cons_zero, List.set_cons_succ]
      have HBd : Hid (Below w'.heap.size w' w'.drew) := below_drewN w' 1
      generalize w'.drew = wd at *
      refine wpAnyH_take (i := 0) (v := ?_) (by simp only [List.getElem?_toArray, List.getElem?_cons_zero, List.getElem?_cons_succ]; rfl) (by kernel_rfl) (by kernel_rfl) (by kernel_rfl) (fun _ _ _ h => h) (Or.inl ⟨by rfl, ?_⟩) hHeld ?_
      rotate_left
      · intro w hSw
        go_simp
        try with_reducible rfl
      try simp only [Act.put, List.setIfInBounds_toArray, List.set_cons_zero, List.set_cons_succ]
      refine wpAnyH_take (i := 1) (v := ?_) (by simp only [List.getElem?_toArray, List.getElem?_cons_zero, List.getElem?_cons_succ]; rfl) (by kernel_rfl) (by kernel_rfl) (by kernel_rfl) (fun _ _ _ h => h) (Or.inl ⟨by rfl, ?_⟩) hHeld ?_
      rotate_left
      · intro w hSw
        go_simp
        try with_reducible rfl
      try simp only [Act.put, List.setIfInBounds_toArray, List.set_cons_zero, List.set_cons_succ]
      refine wpAnyH_take (i := 2) (v := .slice (some ⟨b, o, none⟩) k c) (by simp only [List.getElem?_toArray, List.getElem?_cons_zero, List.getElem?_cons_succ]; rfl) (by kernel_rfl) (by kernel_rfl) (by kernel_rfl) (fun _ _ _ h => h) (Or.inl ⟨by rfl, ?_⟩) hHeld ?_
      · intro w hSw
        go_simp
      try simp only [Act.put, List.setIfInBounds_toArray, List.set_cons_zero, List.set_cons_succ]
      refine wpAnyH_take (i := 4) (v := ?_) (by simp only [List.getElem?_toArray, List.getElem?_cons_zero, List.getElem?_cons_succ]; rfl) (by kernel_rfl) (by kernel_rfl) (by kernel_rfl) (fun _ _ _ h => h) (Or.inl ⟨by rfl, ?_⟩) hHeld ?_
      rotate_left
      · intro w hSw
        go_simp
        try with_reducible rfl
      try simp only [Act.put, List.setIfInBounds_toArray, List.set_cons_zero, List.set_cons_succ]
      refine wpAnyH_take (i := 5) (v := ?_) (by simp only [List.getElem?_toArray, List.getElem?_cons_zero, List.getElem?_cons_succ]; rfl) (by kernel_rfl) (by kernel_rfl) (by kernel_rfl) (fun _ _ _ h => h) (Or.inl ⟨by rfl, ?_⟩) hHeld ?_
      rotate_left
      · intro w hSw
        go_simp
        try with_reducible rfl
      try simp only [Act.put, List.setIfInBounds_toArray, List.set_cons_zero, List.set_cons_succ]
      refine wpAnyH_take (i := 6) (v := .slice (some ⟨b, o + k * 32, none⟩) (n - k) (c - k)) (by simp only [List.getElem?_toArray, List.getElem?_cons_zero, List.getElem?_cons_succ]; rfl) (by kernel_rfl) (by kernel_rfl) (by kernel_rfl) (fun _ _ _ h => h) (Or.inl ⟨by rfl, ?_⟩) hHeld ?_
      · intro w hSw
        go_simp
        omega
      try simp only [Act.put, List.setIfInBounds_toArray, List.set_cons_zero, List.set_cons_succ]
      refine wpAnyH_ready (rs := [3]) (by kernel_rfl) (by simp) ?_
      refine AllReadyH.cons (by simp only [List.getElem?_toArray, List.getElem?_cons_zero, List.getElem?_cons_succ]; rfl) (fun K hK => ?_) AllReadyH.nil
      rw [if_pos (by rfl)]
      go_simp
      refine (HC1.out wd (HGE.out _ HBd.out) (HKL.out _ HBd.out).1).mono ?_
      rintro e w3 ⟨rfl, hb3⟩
      have HB3 : Hid (Below w'.heap.size w' w3) := HBd.out.trans (hb3.mono HBd.out.size)
      clear hb3 HBd HC1
      go_wp2_with fail
      refine hK.out _ _ True.intro (fun hHeld => ?_)
      clear hK K
      try simp only [Act.put, List.setIfInBounds_toArray, List.set_cons_zero, List.set_cons_succ]
      refine wpAnyH_ready (rs := [7]) (by kernel_rfl) (by simp) ?_
      refine AllReadyH.cons (by simp only [List.getElem?_toArray, List.getElem?_cons_zero, List.getElem?_cons_succ]; rfl) (fun K hK => ?_) AllReadyH.nil
      rw [if_pos (by rfl)]
      go_simp
      refine (HC2.out w3 (HGE.out _ HB3.out) (HKL.out _ HB3.out).2).mono ?_
      rintro e w4 ⟨rfl, hb4⟩
      have HB4 : Hid (Below w'.heap.size w' w4) := HB3.out.trans (hb4.mono HB3.out.size)
      clear hb4 HB3 HC2
      go_wp2_with fail
      refine hK.out _ _ True.intro (fun hHeld => ?_)
      clear hK K
      try simp only [Act.put, List.setIfInBounds_toArray, List.set_cons_zero, List.set_cons_succ]
      refine wpAnyH_ready (rs := [8]) (by kernel_rfl) (by simp) ?_
      refine AllReadyH.cons (by simp only [List.getElem?_toArray, List.getElem?_cons_zero, List.getElem?_cons_succ]; rfl) (fun K hK => ?_) AllReadyH.nil
      rw [if_pos (by rfl)]
      go_simp
      refine (wtree_node X Y w4 (HGE.out _ HB4.out) lA lB).mono ?_
      rintro e w5 ⟨rfl, hb5⟩
      have HB5 : Hid (Below w'.heap.size w' w5) := HB4.out.trans (hb5.mono HB4.out.size)
      clear hb5 HB4
      generalize nodeT X Y = D at *
      go_wp2_with fail
      refine hK.out _ _ True.intro (fun hHeld => ?_)
      clear hK K
      try simp only [Act.put, List.setIfInBounds_toArray, List.set_cons_zero, List.set_cons_succ]
      refine wpAnyH_ready (rs := [9]) (by kernel_rfl) (by simp) ?_
      refine AllReadyH.cons (by simp only [List.getElem?_toArray, List.getElem?_cons_zero, List.getElem?_cons_succ]; rfl) (fun K hK => ?_) AllReadyH.nil
      rw [if_pos (by rfl)]
      refine wp_store_mid _ _ _ rfl w.heap.size 0 (cellsB D).toArray rfl rfl (by rw [cellsB_size, hlen]; exact (HKT.out _ HB5.out).2.1) (by rw [cellsB_size, hlen]; exact Tryd.sizeDg) (all_oneCell_toArray (cellsB_one _)) ?_
      refine hK.out _ _ True.intro (fun hHeld => ?_)
      clear hK K
      try simp only [Act.put, List.setIfInBounds_toArray, List.set_cons_zero, List.set_cons_succ]
      refine wpAnyH_done (by kernel_rfl) (NoPanic.normal ?_) _
      clear hHeld
      go_wp2_with fail
      refine bodyPost_ret (v := digestV D) (run_results_row Tryd.results19 _ _ w.heap.size 0 (by rfl) (cellsB D) (World.rangeAt_setCells_same _ _ _ _ (by rw [cellsB_length, hlen]; exact (HKT.out _ HB5.out).2.1)) _ Tryd.underlying24 (by rfl) (by rw [cellsB_length, hlen]; exact Tryd.sizeDg)) rfl ⟨by rw [HE.out], ?_⟩
      exact below_setCells _ (Nat.le_refl _) _ _ _ (HKT.out _ HB5.out).2.2
    · by_cases h0 : n = 0
      · subst h0
        have HE : Hid (rootT ls = shaL []) := rootT_none HLEN.out
        rw [HE.out] at hlen
        go_wp2_with (refine wpList_allocE (by rfl) 24 (by rfl) (cellsB zD).toArray Tryd.zeroDg w.heap.size rfl w2 hw2 ?_)
        refine (wsum_any none 0 0 [] w2 (HGE.out _ (Below.refl _ _)) (Row.nil _) (by omega) (by omega)).mono ?_
        rintro e w3 ⟨rfl, hb3⟩
        have HB3 : Hid (Below w2.heap.size w2 w3) := hb3
        clear hb3
        generalize shaL [] = D at *
        go_wp2_with (refine wpList_store_mid (by rfl) 24 (.tmp 2) (.tmp 8) (by rfl) w.heap.size 0 (cellsB D).toArray (by rfl) (by rfl) (by rw [cellsB_size, hlen]; exact (HKT.out _ HB3.out).2.1) (by rw [cellsB_size, hlen]; exact Tryd.sizeDg) (all_oneCell_toArray (cellsB_one _)) ?_)
        refine bodyPost_ret (v := digestV D) (run_results_row Tryd.results19 _ _ w.heap.size 0 (by rfl) (cellsB D) (World.rangeAt_setCells_same _ _ _ _ (by rw [cellsB_length, hlen]; exact (HKT.out _ HB3.out).2.1)) _ Tryd.underlying24 (by rfl) (by rw [cellsB_length, hlen]; exact Tryd.sizeDg)) rfl ⟨by rw [HE.out], ?_⟩
        exact below_setCells _ (Nat.le_refl _) _ _ _ (HKT.out _ HB3.out).2.2
      · obtain rfl : n = 1 := by omega
        have HE : Hid (rootT ls = ls.getD 0 []) := rootT_one HLEN.out
        rw [HE.out] at hlen
        obtain ⟨b, o, rfl⟩ := HR2.out.addr (by omega)
        have HX : Hid (DAt w2 b o (ls.getD 0 [])) := by have := HR2.out.at 0 (by omega); rwa [Nat.zero_mul, Nat.add_zero] at this
        generalize ls.getD 0 [] = D at *
        go_wp2_with (first
          | (refine wpList_allocE (by rfl) 24 (by rfl) (cellsB zD).toArray Tryd.zeroDg w.heap.size rfl w2 hw2 ?_)
          | (refine wpList_load_mid (by rfl) 24 (.tmp 12) (by rfl) b o (by rfl) (cellsB D) _ HX.out Tryd.underlying24 (by rfl) (by rw [cellsB_length, hlen]; exact Tryd.sizeDg) ?_)
          | (refine wpList_store_mid (by rfl) 24 (.tmp 2) (.tmp 13) (by rfl) w.heap.size 0 (cellsB D).toArray (by rfl) (by rfl) (by rw [cellsB_size, hlen]; exact HT2.out) (by rw [cellsB_size, hlen]; exact Tryd.sizeDg) (all_oneCell_toArray (cellsB_one _)) ?_))
        refine bodyPost_ret (v := digestV D) (run_results_row Tryd.results19 _ _ w.heap.size 0 (by rfl) (cellsB D) (World.rangeAt_setCells_same _ _ _ _ (by rw [cellsB_length, hlen]; exact HT2.out)) _ Tryd.underlying24 (by rfl) (by rw [cellsB_length, hlen]; exact Tryd.sizeDg)) rfl ⟨by rw [HE.out], ?_⟩
        exact below_setCells _ (Nat.le_refl _) _ _ _ HB2.out
set_option maxRecDepth 100000 in
set_option maxHeartbeats 1000000 in
theorem wtree_root (a : Option Addr) (n c : Nat) (ls : List (List UInt8)) (w : World) (G : Env w) (R : DRow w a n ls) (hc : n ≤ c) (hn : n ≤ 256) :
    Calls Tryd.prog 13 #[.slice a n c] w fun e w' => e = .returned (.tuple #[digestV (rootT ls), .nilIface]) ∧ Below w.heap.size w w' := by
  obtain ⟨w2, hw2⟩ : ∃ w2, w.alloc (.cells (cellsB zD).toArray 24) = w2 := ⟨_, rfl⟩
  have HS2 : Hid (w2.heap.size = w.heap.size + 1) := by unfold Hid; rw [← hw2]; simp
  have HB2 : Hid (Below w.heap.size w w2) := by rw [← hw2]; exact (Below.refl _ _).alloc (Nat.le_refl _) _
  have HT2 : Hid (w2.there w.heap.size 0 32) := by rw [← hw2]; exact alloc_thereAt _ _ _ 32 _ rfl zD_size.symm
  have HG : Hid (Env w2 ∧ DRow w2 a n ls) := ⟨G.below HB2.out, R.below HB2.out⟩
  have hlen := rootT_length R.2.1
  clear G R
  have g1 : ¬ (256 : Int) < (n : Int) := by omega
  go_enter Tryd.func13, Tryd.ntmps13
  go_wp2_with (refine wpList_allocE (by rfl) 24 (by rfl) (cellsB zD).toArray Tryd.zeroDg w.heap.size rfl w2 hw2 ?_)
  refine (wroot_any n a c ls w2 HG.out.1 HG.out.2 hc hn).mono ?_
  rintro e w3 ⟨rfl, hb3⟩
  have HB3 : Hid (Below w.heap.size w w3) := below_trans HB2.out hb3
  have HT3 : Hid (w3.there w.heap.size 0 32) := there_below HT2.out hb3 (by have := HS2.out; omega)
  clear hb3 hw2 HG
  generalize hD : rootT ls = D at *
  have HD : Hid (rootT ls = D) := hD
  clear hD
  go_wp2_with (refine wpList_store_mid (by rfl) 24 (.tmp 2) (.tmp 10) (by rfl) w.heap.size 0 (cellsB D).toArray (by rfl) (by rfl) (by rw [cellsB_size, hlen]; exact HT3.out) (by rw [cellsB_size, hlen]; exact Tryd.sizeDg) (all_oneCell_toArray (cellsB_one _)) ?_)
  refine bodyPost_ret (v := .tuple #[digestV D, .nilIface]) (run_results_row2 Tryd.results13 _ _ w.heap.size 0 (by rfl) _ (by rfl) (cellsB D) (World.rangeAt_setCells_same _ _ _ _ (by rw [cellsB_length, hlen]; exact HT3.out)) _ Tryd.underlying24 (by rfl) (by rw [cellsB_length, hlen]; exact Tryd.sizeDg)) rfl ⟨by rw [HD.out], ?_⟩
  exact below_setCells _ (Nat.le_refl _) _ _ _ HB3.out
set_option maxRecDepth 100000 in
set_option maxHeartbeats 1000000 in
theorem wtree_full (a : Option Addr) (n c : Nat) (ls : List (List UInt8)) (w : World) (G : Env w) (R : DRow w a n ls) (hc : n ≤ c) (hn : 256 < n) (hn2 : 32 * n ≤ 140737488351232) :
    Calls Tryd.prog 13 #[.slice a n c] w fun e w' => e = .returned (.tuple #[digestV zD, .iface 25 (.int .i64 4)]) ∧ Below w.heap.size w w' := by
  obtain ⟨w2, hw2⟩ : ∃ w2, w.alloc (.cells (cellsB zD).toArray 24) = w2 := ⟨_, rfl⟩
  have HS2 : Hid (w2.heap.size = w.heap.size + 1) := by unfold Hid; rw [← hw2]; simp
  have HB2 : Hid (Below w.heap.size w w2) := by rw [← hw2]; exact (Below.refl _ _).alloc (Nat.le_refl _) _
  have HT2 : Hid (w2.there w.heap.size 0 32) := by rw [← hw2]; exact alloc_thereAt _ _ _ 32 _ rfl zD_size.symm
  clear G R
  have g1 : (256 : Int) < (n : Int) := by omega
  go_enter Tryd.func13, Tryd.ntmps13
  go_wp2_with (first
    | (refine wpList_allocE (by rfl) 24 (by rfl) (cellsB zD).toArray Tryd.zeroDg w.heap.size rfl w2 hw2 ?_)
    | (refine wpList_buildC (by rfl) 24 _ (by rfl) (cellsB zD).toArray (by kernel_rfl) ?_)
    | (refine wpList_store_mid (by rfl) 24 (.tmp 2) (.tmp 7) (by rfl) w.heap.size 0 (cellsB zD).toArray (by rfl) (by rfl) (by rw [cellsB_size]; exact HT2.out) (by rw [cellsB_size]; exact Tryd.sizeDg) (all_oneCell_toArray (cellsB_one _)) ?_))
  refine bodyPost_ret (v := .tuple #[digestV zD, .iface 25 (.int .i64 4)]) (run_results_row2 Tryd.results13 _ _ w.heap.size 0 (by rfl) _ (by rfl) (cellsB zD) (World.rangeAt_setCells_same _ _ _ _ (by rw [cellsB_length]; exact HT2.out)) _ Tryd.underlying24 (by rfl) (by rw [cellsB_length]; exact Tryd.sizeDg)) rfl ⟨rfl, ?_⟩
  exact below_setCells _ (Nat.le_refl _) _ _ _ HB2.out
end Go.Proofs.YtbpkhpkllokbhaaDoor
