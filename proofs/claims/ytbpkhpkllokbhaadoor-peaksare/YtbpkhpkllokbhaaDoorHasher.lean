/- A Hasher in memory: plain facts. -/
import Derived.Test.YtbpkhpkllokbhaaDoorWdigest
import Derived.Laws.IdiomCopy
namespace Go.Proofs.YtbpkhpkllokbhaaDoor
open Go.RowKit
set_option linter.unusedVariables false
set_option linter.unusedSimpArgs false

/-! what changes one block alone -/
theorem gr_trans {w w1 w2 : World} {r : Option Nat} (h : w.grownBy w1 r) (k : w1.grownBy w2 r) : w.grownBy w2 r :=
  ⟨k.os.trans h.os, k.tape.trans h.tape, k.output.trans h.output, Nat.le_trans h.size k.size, fun i hi hne => (k.block i (Nat.lt_of_lt_of_le hi h.size) hne).trans (h.block i hi hne)⟩
theorem gr_below {w w' : World} (h : Below w.heap.size w w') (r : Option Nat) : w.grownBy w' r := ⟨h.os, h.tape, h.output, h.size, fun i hi _ => h.block i hi⟩
theorem gr_setCell (w : World) (g j : Nat) (v : Value) : w.grownBy (w.setCell ⟨g, j, none⟩ v) (some g) :=
  ⟨rfl, rfl, rfl, by simp [World.setCell], fun i hi hne => Below.heap_setCell _ _ _ _ (fun e => hne (congrArg some e))⟩
theorem gr_setCells (g : Nat) : ∀ (vs : List Value) (o : Nat) (w : World), w.grownBy (w.setCells g o vs) (some g)
  | [], _, w => World.grownBy.refl w _
  | v :: r, o, w => by
    rw [World.setCells]
    exact gr_trans (gr_setCell w g o v) (gr_setCells g r (o + 1) _)
theorem gr_drew (w : World) (r : Option Nat) : w.grownBy w.drew r := ⟨rfl, rfl, rfl, Nat.le_refl _, fun _ _ _ => rfl⟩
theorem gr_drewN (w : World) (n : Nat) (r : Option Nat) : w.grownBy (w.drewN n) r := gr_below (below_drewN w n) r
theorem below_gr {B g : Nat} {w0 w w' : World} (h : Below B w0 w) (hg : w.grownBy w' (some g)) (hB : B ≤ w.heap.size) (hb : B ≤ g) : Below B w0 w' := h.grown hg hB (fun k e => by cases e; exact hb)
theorem Row.grown {w w' : World} {a : Option Addr} {n g : Nat} {l : List UInt8} (h : Row w a n l) (hg : w.grownBy w' (some g)) (hne : ∀ ad, a = some ad → ad.block ≠ g) : Row w' a n l := by
  obtain ⟨h1, h2⟩ := h
  refine ⟨h1, ?_⟩
  rcases h2 with h2 | ⟨b, o, ha, hc⟩
  · exact .inl h2
  · by_cases hn : n = 0
    · exact .inl hn
    · have hlt := Row.block hc (by omega)
      exact .inr ⟨b, o, ha, fun i hi => (World.cell?_of_block (hg.block b hlt (fun e => hne _ ha (Option.some.inj e)))).trans (hc i hi)⟩

theorem Tab.grown {w w' : World} {g : Nat} (h : Tab w) (hg : w.grownBy w' (some g)) (hne : g ≠ 1) : Tab w' := fun t ht =>
  (World.cell?_of_block (hg.block 1 (cell_block (h t ht)) (fun e => hne (Option.some.inj e).symm))).trans (h t ht)
theorem below_of_drew {w w' : World} (h : Below w.drew.heap.size w.drew w') : Below w.heap.size w w' := ⟨h.os, h.tape, h.output, h.size, h.block⟩
/-- What is left of a slice behind its first bytes. -/
theorem row_rest {wr wF : World} {sb so N M c' g : Nat} {z : List UInt8} (hs : ∀ i, i < N → wr.cell? ⟨sb, so + i, none⟩ = some (.int .u8 (nth z i))) (hz : z.length = N) (hN : 0 < N) (hM : M ≤ N) (hc : N ≤ c') (hg : wr.grownBy wF (some g)) (hne : sb ≠ g) :
    Row wF (if c' = M then some ⟨sb, so, none⟩ else some ⟨sb, so + M, none⟩) (N - M) (z.drop M) := by
  refine ⟨by simp; omega, ?_⟩
  by_cases h0 : N - M = 0
  · exact .inl h0
  · rw [if_neg (by omega)]
    have hlt := Row.block hs hN
    refine .inr ⟨sb, so + M, rfl, fun i hi => ?_⟩
    rw [World.cell?_of_block (a := ⟨sb, so + M + i, none⟩) (hg.block sb hlt (fun e => hne (Option.some.inj e))), show so + M + i = so + (M + i) by omega, hs (M + i) (by omega)]
    unfold nth
    simp [List.getD_eq_getElem?_getD, List.getElem?_drop]

theorem row_ne {w : World} {a : Option Addr} {n g : Nat} {l : List UInt8} (h : Row w a n l) (hg : w.heap.size ≤ g) : 0 < n → ∀ ad, a = some ad → ad.block ≠ g := by
  intro hn ad had
  rcases h.2 with h2 | ⟨b, o, ha, hc⟩
  · omega
  · rw [ha] at had
    cases had
    have := Row.block hc hn
    show b ≠ g
    omega

/-! the words so far -/
theorem hTo_length (l : List UInt8) : ∀ b, (hTo l b).length = 8
  | 0 => rfl
  | b + 1 => by rw [hTo, blockW, addW_length]
theorem hTo_append (l r : List UInt8) : ∀ b, 64 * b ≤ l.length → hTo (l ++ r) b = hTo l b
  | 0, _ => rfl
  | b + 1, h => by
    rw [hTo, hTo, hTo_append l r b (by omega)]
    congr 1
    rw [List.drop_append_of_le_length (by omega), List.take_append_of_le_length (by simp; omega)]
/-- A block with some of its bytes put anew. -/
def blkPut (blk : List UInt8) (r : Nat) (y : List UInt8) : List UInt8 := blk.take r ++ y ++ blk.drop (r + y.length)
theorem blkPut_length {blk : List UInt8} {r : Nat} {y : List UInt8} (h : blk.length = 64) (hr : r + y.length ≤ 64) : (blkPut blk r y).length = 64 := by
  simp [blkPut]; omega
theorem blkPut_nth {blk : List UInt8} {r : Nat} {y : List UInt8} (h : blk.length = 64) (hr : r + y.length ≤ 64) (i : Nat) (hi : i < 64) :
    nth (blkPut blk r y) i = if i < r then nth blk i else if i < r + y.length then nth y (i - r) else nth blk i := by
  unfold nth blkPut
  have hl : (blk.take r).length = r := by simp; omega
  simp only [List.getD_eq_getElem?_getD]
  by_cases h1 : i < r
  · rw [if_pos h1, List.append_assoc, List.getElem?_append_left (by omega), List.getElem?_take, if_pos h1]
  · rw [if_neg h1]
    by_cases h2 : i < r + y.length
    · rw [if_pos h2, List.append_assoc, List.getElem?_append_right (by omega), hl, List.getElem?_append_left (by omega)]
    · rw [if_neg h2, List.append_assoc, List.getElem?_append_right (by omega), hl, List.getElem?_append_right (by omega), List.getElem?_drop]
      rw [show r + y.length + (i - r - y.length) = i by omega]
/-- The words and the block that belong to what was taken. -/
def Took (h : List Nat) (blk l : List UInt8) : Prop := h = hTo l (l.length / 64) ∧ blk.length = 64 ∧ blk.take (l.length % 64) = l.drop (64 * (l.length / 64))
theorem took_take {h : List Nat} {blk l y : List UInt8} (t : Took h blk l) (hr : l.length % 64 + y.length ≤ 64) : (blkPut blk (l.length % 64) y).take (l.length % 64 + y.length) = (l ++ y).drop (64 * (l.length / 64)) := by
  obtain ⟨_, t2, t3⟩ := t
  have hl : (blk.take (l.length % 64)).length = l.length % 64 := by simp; omega
  unfold blkPut
  rw [List.take_append_of_le_length (by simp; omega), List.take_of_length_le (by simp; omega), t3, List.drop_append_of_le_length (by omega)]
theorem took_part {h : List Nat} {blk l y : List UInt8} (t : Took h blk l) (hr : l.length % 64 + y.length < 64) : Took h (blkPut blk (l.length % 64) y) (l ++ y) := by
  have e := took_take (y := y) t (by omega)
  obtain ⟨t1, t2, t3⟩ := t
  have e1 : (l ++ y).length / 64 = l.length / 64 := by simp; omega
  have e2 : (l ++ y).length % 64 = l.length % 64 + y.length := by simp; omega
  refine ⟨?_, blkPut_length t2 (by omega), ?_⟩
  · rw [e1, hTo_append _ _ _ (by omega), ← t1]
  · rw [e1, e2, e]
theorem took_full {h : List Nat} {blk l y : List UInt8} (t : Took h blk l) (hr : l.length % 64 + y.length = 64) : Took (blockW h (blkPut blk (l.length % 64) y)) (blkPut blk (l.length % 64) y) (l ++ y) := by
  have e := took_take (y := y) t (by omega)
  obtain ⟨t1, t2, t3⟩ := t
  have hlen := blkPut_length (y := y) (r := l.length % 64) t2 (by omega)
  have e1 : (l ++ y).length / 64 = l.length / 64 + 1 := by simp; omega
  have e2 : (l ++ y).length % 64 = 0 := by simp; omega
  rw [hr, List.take_of_length_le (by omega)] at e
  refine ⟨?_, hlen, ?_⟩
  · rw [e1, hTo, hTo_append _ _ _ (by omega), ← t1, ← e, List.take_of_length_le (by omega)]
  · rw [e1, e2, List.take_zero, List.drop_eq_nil_of_le (by simp; omega)]
theorem took_new : Took hW (List.replicate 64 0) [] := ⟨rfl, by simp, rfl⟩
theorem Took.words {h : List Nat} {blk l : List UInt8} (t : Took h blk l) : h.length = 8 ∧ Fit h := by
  rw [t.1]
  exact ⟨hTo_length _ _, fit_hTo _ _⟩

/-! the object -/
/-- The words, the block and the count of a Hasher, at block g. -/
def HAt (w : World) (g : Nat) (h : List Nat) (blk : List UInt8) (n : Nat) : Prop :=
  w.rangeAt g 0 (cellsW h) ∧ w.rangeAt g 8 (cellsB blk) ∧ w.cell? ⟨g, 72, none⟩ = some (.int .i64 (n : Int)) ∧ w.there g 0 73 ∧ h.length = 8 ∧ blk.length = 64
theorem HAt.block {w : World} {g n : Nat} {h : List Nat} {blk : List UInt8} (H : HAt w g h blk n) : g < w.heap.size := cell_block H.2.2.1
theorem HAt.below {w w' : World} {g n : Nat} {h : List Nat} {blk : List UInt8} (H : HAt w g h blk n) (hb : Below w.heap.size w w') : HAt w' g h blk n := by
  have hg := H.block
  obtain ⟨h1, h2, h3, h4, h5, h6⟩ := H
  exact ⟨range_below h1 hb hg, range_below h2 hb hg, (hb.cell (p := ⟨g, 72, none⟩) hg).trans h3, there_below h4 hb hg, h5, h6⟩
theorem HAt.other {w w' : World} {g g' n : Nat} {h : List Nat} {blk : List UInt8} (H : HAt w g h blk n) (hb : w.grownBy w' (some g')) (hne : g ≠ g') : HAt w' g h blk n := by
  have hg := H.block
  have hk := hb.block g hg (fun e => hne (Option.some.inj e))
  obtain ⟨h1, h2, h3, h4, h5, h6⟩ := H
  have hc : ∀ j, w'.cell? ⟨g, j, none⟩ = w.cell? ⟨g, j, none⟩ := fun j => World.cell?_of_block hk
  have hf : ∀ j, w'.frozen? ⟨g, j, none⟩ = w.frozen? ⟨g, j, none⟩ := fun j => World.frozen?_of_block hk
  exact ⟨fun j v hj => (hc _).trans (h1 j v hj), fun j v hj => (hc _).trans (h2 j v hj), (hc _).trans h3, fun j hj => by rw [hc, hf]; exact h4 j hj, h5, h6⟩
theorem HAt.copy {w : World} {g n r : Nat} {h : List Nat} {blk y : List UInt8} (H : HAt w g h blk n) (hr : r + y.length ≤ 64) : HAt (w.setCells g (8 + r) (cellsB y)) g h (blkPut blk r y) n := by
  obtain ⟨h1, h2, h3, h4, h5, h6⟩ := H
  have hs : ∀ j, j < (cellsB y).length → (w.cell? ⟨g, 8 + r + j, none⟩).isSome = true := fun j hj => by
    rw [cellsB_length] at hj
    have := (h4 (8 + r + j) (by omega)).1
    rwa [Nat.zero_add] at this
  refine ⟨World.rangeAt_setCells_apart h1 _ _ _ (.inr (.inl (by rw [cellsW_length]; omega))), ?_, ?_, World.there_setCells h4 _ _ _, h5, blkPut_length h6 hr⟩
  · refine DAt.mk fun i hi => ?_
    rw [blkPut_length h6 hr] at hi
    rw [blkPut_nth h6 hr i hi]
    by_cases c1 : i < r
    · rw [if_pos c1, World.cell?_setCells_out _ _ _ _ _ (fun _ _ => Or.inl (by show 8 + i < 8 + r; omega))]
      exact DAt.cell h2 i (by omega)
    · rw [if_neg c1]
      by_cases c2 : i < r + y.length
      · rw [if_pos c2]
        have := World.cell?_setCells_in g (cellsB y) (8 + r) w hs (i - r) (by rw [cellsB_length]; omega)
        rw [show 8 + r + (i - r) = 8 + i by omega] at this
        rw [this]
        have := cellsB_at y (i - r) (by omega)
        rw [List.getElem?_eq_getElem (by rw [cellsB_length]; omega)] at this
        exact this
      · rw [if_neg c2, World.cell?_setCells_out _ _ _ _ _ (fun _ _ => Or.inr (by show 8 + r + (cellsB y).length ≤ 8 + i; rw [cellsB_length]; omega))]
        exact DAt.cell h2 i (by omega)
  · rw [World.cell?_setCells_out _ _ _ _ _ (fun _ _ => Or.inr (by show 8 + r + (cellsB y).length ≤ 72; rw [cellsB_length]; omega))]
    exact h3
theorem HAt.count {w : World} {g n : Nat} {h : List Nat} {blk : List UInt8} (H : HAt w g h blk n) (n' : Nat) : HAt (w.setCell ⟨g, 72, none⟩ (.int .i64 (n' : Int))) g h blk n' := by
  obtain ⟨h1, h2, h3, h4, h5, h6⟩ := H
  refine ⟨World.rangeAt_setCells_apart h1 g 72 [_] (.inr (.inl (by rw [cellsW_length]; omega))), World.rangeAt_setCells_apart h2 g 72 [_] (.inr (.inl (by rw [cellsB_length]; omega))), ?_, there_set h4 _ _ _, h5, h6⟩
  simpa using World.cell?_setCell_same _ _ _ h3
theorem HAt.words {w : World} {g n : Nat} {h h' : List Nat} {blk : List UInt8} (H : HAt w g h blk n) (h8 : h'.length = 8) : HAt (w.setCells g 0 (cellsW h')) g h' blk n := by
  obtain ⟨h1, h2, h3, h4, h5, h6⟩ := H
  refine ⟨World.rangeAt_setCells_same _ _ _ _ (fun j hj => h4 j (by rw [cellsW_length] at hj; omega)), World.rangeAt_setCells_apart h2 _ _ _ (.inr (.inr (by rw [cellsW_length]; omega))), ?_, World.there_setCells h4 _ _ _, h8, h6⟩
  rw [World.cell?_setCells_out _ _ _ _ _ (fun _ _ => Or.inr (by show 0 + (cellsW h').length ≤ 72; rw [cellsW_length]; omega))]
  exact h3
/-- A Hasher that has taken l. -/
def Hasher (w : World) (g : Nat) (l : List UInt8) : Prop := ∃ h blk, HAt w g h blk l.length ∧ Took h blk l
theorem Hasher.below {w w' : World} {g : Nat} {l : List UInt8} (H : Hasher w g l) (hb : Below w.heap.size w w') : Hasher w' g l := by
  obtain ⟨h, blk, H1, H2⟩ := H
  exact ⟨h, blk, H1.below hb, H2⟩
theorem Hasher.other {w w' : World} {g g' : Nat} {l : List UInt8} (H : Hasher w g l) (hb : w.grownBy w' (some g')) (hne : g ≠ g') : Hasher w' g l := by
  obtain ⟨h, blk, H1, H2⟩ := H
  exact ⟨h, blk, H1.other hb hne, H2⟩
theorem Hasher.block {w : World} {g : Nat} {l : List UInt8} (H : Hasher w g l) : g < w.heap.size := by
  obtain ⟨h, blk, H1, H2⟩ := H
  exact H1.block

theorem blockW_length (h : List Nat) (m : List UInt8) : (blockW h m).length = 8 := addW_length _ _
/-- after, beside a Hasher that it leaves as it is. -/
theorem wafter_in (g n : Nat) (h : List Nat) (B : List UInt8) (w : World) (G : Tab w) (H : HAt w g h B n) (hf : Fit h) :
    Calls Tryd.prog 41 #[.agg (cellsW h).toArray, .agg (cellsB B).toArray] w fun e w' => ∃ h', e = .returned (.agg (cellsW h').toArray) ∧ (cellsW h').length = 8 ∧ Hid (h' = blockW h B) ∧ Hid (Below w.heap.size w w') ∧ w'.rangeAt g 8 (cellsB B) ∧ w'.there g 0 8 := by
  refine (wafter_any h B w G H.2.2.2.2.1 hf H.2.2.2.2.2).mono ?_
  rintro e w' ⟨rfl, hb⟩
  have H2 := H.below hb
  exact ⟨_, rfl, by rw [cellsW_length, blockW_length], rfl, hb, H2.2.1, fun j hj => H2.2.2.2.1 j (by omega)⟩
theorem Tryd.sizeState : (Tryd.prog.info? 82).map (·.size) = some 8 := by kernel_rfl
/-- copy as one step of a region that draws its order: the cells that go over are told. -/
theorem step_copy_cells {P : Program} {ops : Array Oper} {o : Oper} {a : Act} {w : World} {K : Act → World → Prop} {Q : Exit → Act → World → Prop} {E : Prop}
    (hg : o.guard = none) (d x : Operand) (dT sT elem : TypeId) (hop : o.op = Op.call { callee := Callee.builtin Builtin.copy, args := #[d, x], argTypes := #[dT, sT] }) (hu : P.underlying dT = some (.slice elem)) (hs : (P.info? elem).map (·.size) = some 1)
    (b p dLen dCap : Nat) (s : Addr) (sLen sCap : Nat) (cs : List Value) (hd : a.eval d = .slice (some ⟨b, p, none⟩) dLen dCap) (hx : a.eval x = .slice (some s) sLen sCap) (hn : cs.length = Nat.min sLen dLen)
    (hsrc : ∀ j v, cs[j]? = some v → w.cell? (s.add j) = some v) (ht : w.there b p cs.length) (h1 : ∀ v ∈ cs, v.oneCell' = true)
    (hK : K (a.put o.dst (.int .i64 ((cs.length : Nat) : Int))) (w.setCells b p cs)) :
    if Region.wanted o (yielded ops a.tmps) = true then Oper.wp P o a w K Q else E := by
  have hw : Region.wanted o (yielded ops a.tmps) = true := by simp [Region.wanted, hg]
  have hr := run_copy_cells (P := P) w dT sT o.type elem b p dLen dCap s sLen sCap cs hu hs hn hsrc (fun j hj => (ht j hj).1) (fun j hj => (ht j hj).2) h1
  rw [if_pos hw]
  unfold Oper.wp
  simp only [execOp, hop, resolve, invoke, builtin, Sem.run_bind, Sem.run_pure, Result.andThen_ok, List.map_toArray, List.map_cons, List.map_nil, hd, hx, hr]
  exact hK
end Go.Proofs.YtbpkhpkllokbhaaDoor
