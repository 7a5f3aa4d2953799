/- Texts of this claim, joined: Wdigest, Hasher, Chainm, Kch. -/
import Derived.Test.YtghiniaijobonaaDoorJ03
import Derived.Laws.IdiomCopy
import Derived.Test.YtghiniaijobonaaDoorJ16
/- The contract of state.digest: the words as bytes. -/
namespace Go.Proofs.YtghiniaijobonaaDoor
open Go.RowKit
set_option linter.unusedVariables false
set_option linter.unusedSimpArgs false

theorem out_eq (x k : Nat) (e : Nat) (h : e = 24 - k % 4 * 8) : (x : Int) / 2 ^ e % 256 = ((x >>> (24 - k % 4 * 8) % 256 : Nat) : Int) := by
  rw [← h, Nat.shiftRight_eq_div_pow, Int.natCast_emod, Int.natCast_ediv, Int.natCast_pow]
  rfl

set_option maxRecDepth 100000 in
set_option maxHeartbeats 1000000 in
theorem wdigest_any (h : List Nat) (w : World) (h8 : h.length = 8) (hf : Fit h) :
    Calls Tryd.prog 68 #[.agg (cellsW h).toArray] w fun e w' => e = .returned (digestV (outL h)) ∧ Below w.heap.size w w' := by
  go_enter Tryd.func68, Tryd.ntmps68
  go_wp2_with fail
  go_loopw [5] (fun i wr => ∃ t : Nat, t ≤ 32 ∧ i = .int .i64 (t : Int) ∧ OwnK .u8 23 wr (w.heap.size + 1 + 1) (w.heap.size + 1 + 1) 32 32 (fun q => if q < t then nth (outL h) q else 0) ∧ WAt wr w.heap.size 0 h ∧ wr.there (w.heap.size + 1) 0 32 ∧ Below w.heap.size w wr) (fun i _ => 32 - (intOf i).toNat)
  case atStart =>
    refine ⟨0, Nat.zero_le _, rfl, ?_, ?_, ?_, ?_⟩
    · refine OwnK.congr (f := fun _ => 0) ?_ (fun i hi => by rw [if_neg (by omega)])
      refine OwnK.newAt _ _ 23 32 (by omega) (fun _ => 0) _ (by simp) ?_
      kernel_rfl
    · exact World.rangeAt_alloc (World.rangeAt_alloc (box_range w (cellsW h) _) _) _
    · refine World.there_alloc (alloc_thereAt _ _ _ 32 _ (by simp) ?_) _
      kernel_rfl
    · exact (((Below.refl _ _).alloc (Nat.le_refl _) _).alloc (by simp) _).alloc (by simp; omega) _
  case round =>
    obtain ⟨t, ht, rfl, hO, hh, hT, hB⟩ := hrel
    by_cases hlt : t < 32
    · have c0 := hO.cell t hlt
      rw [if_neg (by omega)] at c0
      have z0 := hO.frozen t
      have ch := hh.cell (t / 4) (by omega)
      rw [Nat.zero_add] at ch
      have fx := hf (t / 4)
      have HN : Hid (nth (outL h) t = ((at' h (t / 4) >>> (24 - t % 4 * 8) % 256 : Nat) : Int)) := nth_outL _ _ hlt
      have HO : Hid (OwnK .u8 23 wr (w.heap.size + 1 + 1) (w.heap.size + 1 + 1) 32 32 (fun q => if q < t then nth (outL h) q else 0)) := hO
      have HH : Hid (WAt wr w.heap.size 0 h ∧ wr.there (w.heap.size + 1) 0 32) := ⟨hh, hT⟩
      clear hO hh hT
      generalize hx : at' h (t / 4) = x at *
      clear hx
      go_wp2
      go_roundw
      case rel =>
        refine ⟨t + 1, by omega, by go_num, (OwnK.store HO.out t _).congr fun q hq => ?_, range_set HH.out.1 _ _ _ (by omega), there_set HH.out.2 _ _ _, hB.setCell (by show w.heap.size ≤ w.heap.size + 1 + 1; omega) _⟩
        by_cases hqt : q = t
        · subst hqt
          rw [if_pos rfl, if_pos (by omega), HN.out]
          exact out_eq x q _ (by omega)
        · rw [if_neg hqt]
          by_cases hlt2 : q < t
          · rw [if_pos hlt2, if_pos (by omega)]
          · rw [if_neg hlt2, if_neg (by omega)]
      case measure => simp [intOf]; omega
    · obtain rfl : t = 32 := by omega
      have HD : Hid (DAt wr (w.heap.size + 1 + 1) 0 (outL h)) := hO.dat (outL_length _) fun i hi => by rw [if_pos hi]
      have HT : Hid (wr.there (w.heap.size + 1) 0 32) := hT
      have hlen := outL_length h
      clear hO hT hh
      generalize hD : outL h = D at *
      have HE : Hid (outL h = D) := hD
      clear hD
      go_wp2_with (first
        | (refine wpList_load_mid (by rfl) 23 (.tmp 3) (by rfl) (w.heap.size + 1 + 1) 0 (by rfl) (cellsB D) _ HD.out Tryd.underlying23 (by rfl) (by rw [cellsB_length, hlen]; kernel_rfl) ?_)
        | (refine wpList_store_mid (by rfl) 23 (.tmp 2) (.tmp 21) (by rfl) (w.heap.size + 1) 0 (cellsB D).toArray (by rfl) (by rfl) (by rw [cellsB_size, hlen]; exact HT.out) (by rw [cellsB_size, hlen]; kernel_rfl) (all_oneCell_toArray (cellsB_one _)) ?_))
      refine bodyPost_ret (v := digestV D) (run_results_row Tryd.results68 _ _ (w.heap.size + 1) 0 (by rfl) (cellsB D) (World.rangeAt_setCells_same _ _ _ _ (by rw [cellsB_length, hlen]; exact HT.out)) _ Tryd.underlying23 (by rfl) (by rw [cellsB_length, hlen]; kernel_rfl)) rfl ⟨by rw [HE.out], ?_⟩
      exact below_setCells _ (by omega) _ _ _ hB
end Go.Proofs.YtghiniaijobonaaDoor
/- A Hasher in memory: plain facts. -/
namespace Go.Proofs.YtghiniaijobonaaDoor
open Go.RowKit
set_option linter.unusedVariables false
set_option linter.unusedSimpArgs false

/-! what changes one block alone -/
theorem gr_trans {w w1 w2 : World} {r : Option Nat} (h : w.grownBy w1 r) (k : w1.grownBy w2 r) : w.grownBy w2 r :=
  ⟨k.os.trans h.os, k.tape.trans h.tape, k.output.trans h.output, Nat.le_trans h.size k.size, fun i hi hne => (k.block i (Nat.lt_of_lt_of_le hi h.size) hne).trans (h.block i hi hne)⟩
theorem gr_below {w w' : World} (h : Below w.heap.size w w') (r : Option Nat) : w.grownBy w' r := ⟨h.os, h.tape, h.output, h.size, fun i hi _ => h.block i hi⟩
theorem gr_setCell (w : World) (g j : Nat) (v : Value) : w.grownBy (w.setCell ⟨g, j, none⟩ v) (some g) :=
  ⟨rfl, rfl, rfl, by simp [World.setCell], fun i hi hne => Below.heap_setCell _ _ _ _ (fun e => hne (congrArg some e))⟩
theorem gr_setCells (g : Nat) : ∀ (vs : List Value) (o : Nat) (w : World), w.grownBy (w.setCells g o vs) (some g)
  | [], _, w => World.grownBy.refl w _
  | v :: r, o, w => by
    rw [World.setCells]
    exact gr_trans (gr_setCell w g o v) (gr_setCells g r (o + 1) _)
theorem gr_drew (w : World) (r : Option Nat) : w.grownBy w.drew r := ⟨rfl, rfl, rfl, Nat.le_refl _, fun _ _ _ => rfl⟩
theorem gr_drewN (w : World) (n : Nat) (r : Option Nat) : w.grownBy (w.drewN n) r := gr_below (below_drewN w n) r
theorem below_gr {B g : Nat} {w0 w w' : World} (h : Below B w0 w) (hg : w.grownBy w' (some g)) (hB : B ≤ w.heap.size) (hb : B ≤ g) : Below B w0 w' := h.grown hg hB (fun k e => by cases e; exact hb)
theorem Row.grown {w w' : World} {a : Option Addr} {n g : Nat} {l : List UInt8} (h : Row w a n l) (hg : w.grownBy w' (some g)) (hne : ∀ ad, a = some ad → ad.block ≠ g) : Row w' a n l := by
  obtain ⟨h1, h2⟩ := h
  refine ⟨h1, ?_⟩
  rcases h2 with h2 | ⟨b, o, ha, hc⟩
  · exact .inl h2
  · by_cases hn : n = 0
    · exact .inl hn
    · have hlt := Row.block hc (by omega)
      exact .inr ⟨b, o, ha, fun i hi => (World.cell?_of_block (hg.block b hlt (fun e => hne _ ha (Option.some.inj e)))).trans (hc i hi)⟩

theorem Tab.grown {w w' : World} {g : Nat} (h : Tab w) (hg : w.grownBy w' (some g)) (hne : g ≠ 0) : Tab w' := fun t ht =>
  (World.cell?_of_block (hg.block 0 (cell_block (h t ht)) (fun e => hne (Option.some.inj e).symm))).trans (h t ht)
theorem below_of_drew {w w' : World} (h : Below w.drew.heap.size w.drew w') : Below w.heap.size w w' := ⟨h.os, h.tape, h.output, h.size, h.block⟩
/-- What is left of a slice behind its first bytes. -/
theorem row_rest {wr wF : World} {sb so N M c' g : Nat} {z : List UInt8} (hs : ∀ i, i < N → wr.cell? ⟨sb, so + i, none⟩ = some (.int .u8 (nth z i))) (hz : z.length = N) (hN : 0 < N) (hM : M ≤ N) (hc : N ≤ c') (hg : wr.grownBy wF (some g)) (hne : sb ≠ g) :
    Row wF (if c' = M then some ⟨sb, so, none⟩ else some ⟨sb, so + M, none⟩) (N - M) (z.drop M) := by
  refine ⟨by simp; omega, ?_⟩
  by_cases h0 : N - M = 0
  · exact .inl h0
  · rw [if_neg (by omega)]
    have hlt := Row.block hs hN
    refine .inr ⟨sb, so + M, rfl, fun i hi => ?_⟩
    rw [World.cell?_of_block (a := ⟨sb, so + M + i, none⟩) (hg.block sb hlt (fun e => hne (Option.some.inj e))), show so + M + i = so + (M + i) by omega, hs (M + i) (by omega)]
    unfold nth
    simp [List.getD_eq_getElem?_getD, List.getElem?_drop]

theorem row_ne {w : World} {a : Option Addr} {n g : Nat} {l : List UInt8} (h : Row w a n l) (hg : w.heap.size ≤ g) : 0 < n → ∀ ad, a = some ad → ad.block ≠ g := by
  intro hn ad had
  rcases h.2 with h2 | ⟨b, o, ha, hc⟩
  · omega
  · rw [ha] at had
    cases had
    have := Row.block hc hn
    show b ≠ g
    omega

/-! the words so far -/
theorem hTo_length (l : List UInt8) : ∀ b, (hTo l b).length = 8
  | 0 => rfl
  | b + 1 => by rw [hTo, blockW, addW_length]
theorem hTo_append (l r : List UInt8) : ∀ b, 64 * b ≤ l.length → hTo (l ++ r) b = hTo l b
  | 0, _ => rfl
  | b + 1, h => by
    rw [hTo, hTo, hTo_append l r b (by omega)]
    congr 1
    rw [List.drop_append_of_le_length (by omega), List.take_append_of_le_length (by simp; omega)]
/-- A block with some of its bytes put anew. -/
def blkPut (blk : List UInt8) (r : Nat) (y : List UInt8) : List UInt8 := blk.take r ++ y ++ blk.drop (r + y.length)
theorem blkPut_length {blk : List UInt8} {r : Nat} {y : List UInt8} (h : blk.length = 64) (hr : r + y.length ≤ 64) : (blkPut blk r y).length = 64 := by
  simp [blkPut]; omega
theorem blkPut_nth {blk : List UInt8} {r : Nat} {y : List UInt8} (h : blk.length = 64) (hr : r + y.length ≤ 64) (i : Nat) (hi : i < 64) :
    nth (blkPut blk r y) i = if i < r then nth blk i else if i < r + y.length then nth y (i - r) else nth blk i := by
  unfold nth blkPut
  have hl : (blk.take r).length = r := by simp; omega
  simp only [List.getD_eq_getElem?_getD]
  by_cases h1 : i < r
  · rw [if_pos h1, List.append_assoc, List.getElem?_append_left (by omega), List.getElem?_take, if_pos h1]
  · rw [if_neg h1]
    by_cases h2 : i < r + y.length
    · rw [if_pos h2, List.append_assoc, List.getElem?_append_right (by omega), hl, List.getElem?_append_left (by omega)]
    · rw [if_neg h2, List.append_assoc, List.getElem?_append_right (by omega), hl, List.getElem?_append_right (by omega), List.getElem?_drop]
      rw [show r + y.length + (i - r - y.length) = i by omega]
/-- The words and the block that belong to what was taken. -/
def Took (h : List Nat) (blk l : List UInt8) : Prop := h = hTo l (l.length / 64) ∧ blk.length = 64 ∧ blk.take (l.length % 64) = l.drop (64 * (l.length / 64))
theorem took_take {h : List Nat} {blk l y : List UInt8} (t : Took h blk l) (hr : l.length % 64 + y.length ≤ 64) : (blkPut blk (l.length % 64) y).take (l.length % 64 + y.length) = (l ++ y).drop (64 * (l.length / 64)) := by
  obtain ⟨_, t2, t3⟩ := t
  have hl : (blk.take (l.length % 64)).length = l.length % 64 := by simp; omega
  unfold blkPut
  rw [List.take_append_of_le_length (by simp; omega), List.take_of_length_le (by simp; omega), t3, List.drop_append_of_le_length (by omega)]
theorem took_part {h : List Nat} {blk l y : List UInt8} (t : Took h blk l) (hr : l.length % 64 + y.length < 64) : Took h (blkPut blk (l.length % 64) y) (l ++ y) := by
  have e := took_take (y := y) t (by omega)
  obtain ⟨t1, t2, t3⟩ := t
  have e1 : (l ++ y).length / 64 = l.length / 64 := by simp; omega
  have e2 : (l ++ y).length % 64 = l.length % 64 + y.length := by simp; omega
  refine ⟨?_, blkPut_length t2 (by omega), ?_⟩
  · rw [e1, hTo_append _ _ _ (by omega), ← t1]
  · rw [e1, e2, e]
theorem took_full {h : List Nat} {blk l y : List UInt8} (t : Took h blk l) (hr : l.length % 64 + y.length = 64) : Took (blockW h (blkPut blk (l.length % 64) y)) (blkPut blk (l.length % 64) y) (l ++ y) := by
  have e := took_take (y := y) t (by omega)
  obtain ⟨t1, t2, t3⟩ := t
  have hlen := blkPut_length (y := y) (r := l.length % 64) t2 (by omega)
  have e1 : (l ++ y).length / 64 = l.length / 64 + 1 := by simp; omega
  have e2 : (l ++ y).length % 64 = 0 := by simp; omega
  rw [hr, List.take_of_length_le (by omega)] at e
  refine ⟨?_, hlen, ?_⟩
  · rw [e1, hTo, hTo_append _ _ _ (by omega), ← t1, ← e, List.take_of_length_le (by omega)]
  · rw [e1, e2, List.take_zero, List.drop_eq_nil_of_le (by simp; omega)]
theorem took_new : Took hW (List.replicate 64 0) [] := ⟨rfl, by simp, rfl⟩
theorem Took.words {h : List Nat} {blk l : List UInt8} (t : Took h blk l) : h.length = 8 ∧ Fit h := by
  rw [t.1]
  exact ⟨hTo_length _ _, fit_hTo _ _⟩

/-! the object -/
/-- The words, the block and the count of a Hasher, at block g. -/
def HAt (w : World) (g : Nat) (h : List Nat) (blk : List UInt8) (n : Nat) : Prop :=
  w.rangeAt g 0 (cellsW h) ∧ w.rangeAt g 8 (cellsB blk) ∧ w.cell? ⟨g, 72, none⟩ = some (.int .i64 (n : Int)) ∧ w.there g 0 73 ∧ h.length = 8 ∧ blk.length = 64
theorem HAt.block {w : World} {g n : Nat} {h : List Nat} {blk : List UInt8} (H : HAt w g h blk n) : g < w.heap.size := cell_block H.2.2.1
theorem HAt.below {w w' : World} {g n : Nat} {h : List Nat} {blk : List UInt8} (H : HAt w g h blk n) (hb : Below w.heap.size w w') : HAt w' g h blk n := by
  have hg := H.block
  obtain ⟨h1, h2, h3, h4, h5, h6⟩ := H
  exact ⟨range_below h1 hb hg, range_below h2 hb hg, (hb.cell (p := ⟨g, 72, none⟩) hg).trans h3, there_below h4 hb hg, h5, h6⟩
theorem HAt.other {w w' : World} {g g' n : Nat} {h : List Nat} {blk : List UInt8} (H : HAt w g h blk n) (hb : w.grownBy w' (some g')) (hne : g ≠ g') : HAt w' g h blk n := by
  have hg := H.block
  have hk := hb.block g hg (fun e => hne (Option.some.inj e))
  obtain ⟨h1, h2, h3, h4, h5, h6⟩ := H
  have hc : ∀ j, w'.cell? ⟨g, j, none⟩ = w.cell? ⟨g, j, none⟩ := fun j => World.cell?_of_block hk
  have hf : ∀ j, w'.frozen? ⟨g, j, none⟩ = w.frozen? ⟨g, j, none⟩ := fun j => World.frozen?_of_block hk
  exact ⟨fun j v hj => (hc _).trans (h1 j v hj), fun j v hj => (hc _).trans (h2 j v hj), (hc _).trans h3, fun j hj => by rw [hc, hf]; exact h4 j hj, h5, h6⟩
theorem HAt.copy {w : World} {g n r : Nat} {h : List Nat} {blk y : List UInt8} (H : HAt w g h blk n) (hr : r + y.length ≤ 64) : HAt (w.setCells g (8 + r) (cellsB y)) g h (blkPut blk r y) n := by
  obtain ⟨h1, h2, h3, h4, h5, h6⟩ := H
  have hs : ∀ j, j < (cellsB y).length → (w.cell? ⟨g, 8 + r + j, none⟩).isSome = true := fun j hj => by
    rw [cellsB_length] at hj
    have := (h4 (8 + r + j) (by omega)).1
    rwa [Nat.zero_add] at this
  refine ⟨World.rangeAt_setCells_apart h1 _ _ _ (.inr (.inl (by rw [cellsW_length]; omega))), ?_, ?_, World.there_setCells h4 _ _ _, h5, blkPut_length h6 hr⟩
  · refine DAt.mk fun i hi => ?_
    rw [blkPut_length h6 hr] at hi
    rw [blkPut_nth h6 hr i hi]
    by_cases c1 : i < r
    · rw [if_pos c1, World.cell?_setCells_out _ _ _ _ _ (fun _ _ => Or.inl (by show 8 + i < 8 + r; omega))]
      exact DAt.cell h2 i (by omega)
    · rw [if_neg c1]
      by_cases c2 : i < r + y.length
      · rw [if_pos c2]
        have := World.cell?_setCells_in g (cellsB y) (8 + r) w hs (i - r) (by rw [cellsB_length]; omega)
        rw [show 8 + r + (i - r) = 8 + i by omega] at this
        rw [this]
        have := cellsB_at y (i - r) (by omega)
        rw [List.getElem?_eq_getElem (by rw [cellsB_length]; omega)] at this
        exact this
      · rw [if_neg c2, World.cell?_setCells_out _ _ _ _ _ (fun _ _ => Or.inr (by show 8 + r + (cellsB y).length ≤ 8 + i; rw [cellsB_length]; omega))]
        exact DAt.cell h2 i (by omega)
  · rw [World.cell?_setCells_out _ _ _ _ _ (fun _ _ => Or.inr (by show 8 + r + (cellsB y).length ≤ 72; rw [cellsB_length]; omega))]
    exact h3
theorem HAt.count {w : World} {g n : Nat} {h : List Nat} {blk : List UInt8} (H : HAt w g h blk n) (n' : Nat) : HAt (w.setCell ⟨g, 72, none⟩ (.int .i64 (n' : Int))) g h blk n' := by
  obtain ⟨h1, h2, h3, h4, h5, h6⟩ := H
  refine ⟨World.rangeAt_setCells_apart h1 g 72 [_] (.inr (.inl (by rw [cellsW_length]; omega))), World.rangeAt_setCells_apart h2 g 72 [_] (.inr (.inl (by rw [cellsB_length]; omega))), ?_, there_set h4 _ _ _, h5, h6⟩
  simpa using World.cell?_setCell_same _ _ _ h3
theorem HAt.words {w : World} {g n : Nat} {h h' : List Nat} {blk : List UInt8} (H : HAt w g h blk n) (h8 : h'.length = 8) : HAt (w.setCells g 0 (cellsW h')) g h' blk n := by
  obtain ⟨h1, h2, h3, h4, h5, h6⟩ := H
  refine ⟨World.rangeAt_setCells_same _ _ _ _ (fun j hj => h4 j (by rw [cellsW_length] at hj; omega)), World.rangeAt_setCells_apart h2 _ _ _ (.inr (.inr (by rw [cellsW_length]; omega))), ?_, World.there_setCells h4 _ _ _, h8, h6⟩
  rw [World.cell?_setCells_out _ _ _ _ _ (fun _ _ => Or.inr (by show 0 + (cellsW h').length ≤ 72; rw [cellsW_length]; omega))]
  exact h3
/-- A Hasher that has taken l. -/
def Hasher (w : World) (g : Nat) (l : List UInt8) : Prop := ∃ h blk, HAt w g h blk l.length ∧ Took h blk l
theorem Hasher.below {w w' : World} {g : Nat} {l : List UInt8} (H : Hasher w g l) (hb : Below w.heap.size w w') : Hasher w' g l := by
  obtain ⟨h, blk, H1, H2⟩ := H
  exact ⟨h, blk, H1.below hb, H2⟩
theorem Hasher.other {w w' : World} {g g' : Nat} {l : List UInt8} (H : Hasher w g l) (hb : w.grownBy w' (some g')) (hne : g ≠ g') : Hasher w' g l := by
  obtain ⟨h, blk, H1, H2⟩ := H
  exact ⟨h, blk, H1.other hb hne, H2⟩
theorem Hasher.block {w : World} {g : Nat} {l : List UInt8} (H : Hasher w g l) : g < w.heap.size := by
  obtain ⟨h, blk, H1, H2⟩ := H
  exact H1.block

theorem blockW_length (h : List Nat) (m : List UInt8) : (blockW h m).length = 8 := addW_length _ _
/-- after, beside a Hasher that it leaves as it is. -/
theorem wafter_in (g n : Nat) (h : List Nat) (B : List UInt8) (w : World) (G : Tab w) (H : HAt w g h B n) (hf : Fit h) :
    Calls Tryd.prog 66 #[.agg (cellsW h).toArray, .agg (cellsB B).toArray] w fun e w' => ∃ h', e = .returned (.agg (cellsW h').toArray) ∧ (cellsW h').length = 8 ∧ Hid (h' = blockW h B) ∧ Hid (Below w.heap.size w w') ∧ w'.rangeAt g 8 (cellsB B) ∧ w'.there g 0 8 := by
  refine (wafter_any h B w G H.2.2.2.2.1 hf H.2.2.2.2.2).mono ?_
  rintro e w' ⟨rfl, hb⟩
  have H2 := H.below hb
  exact ⟨_, rfl, by rw [cellsW_length, blockW_length], rfl, hb, H2.2.1, fun j hj => H2.2.2.2.1 j (by omega)⟩
theorem Tryd.sizeState : (Tryd.prog.info? 116).map (·.size) = some 8 := by kernel_rfl
/-- copy as one step of a region that draws its order: the cells that go over are told. -/
theorem step_copy_cells {P : Program} {ops : Array Oper} {o : Oper} {a : Act} {w : World} {K : Act → World → Prop} {Q : Exit → Act → World → Prop} {E : Prop}
    (hg : o.guard = none) (d x : Operand) (dT sT elem : TypeId) (hop : o.op = Op.call { callee := Callee.builtin Builtin.copy, args := #[d, x], argTypes := #[dT, sT] }) (hu : P.underlying dT = some (.slice elem)) (hs : (P.info? elem).map (·.size) = some 1)
    (b p dLen dCap : Nat) (s : Addr) (sLen sCap : Nat) (cs : List Value) (hd : a.eval d = .slice (some ⟨b, p, none⟩) dLen dCap) (hx : a.eval x = .slice (some s) sLen sCap) (hn : cs.length = Nat.min sLen dLen)
    (hsrc : ∀ j v, cs[j]? = some v → w.cell? (s.add j) = some v) (ht : w.there b p cs.length) (h1 : ∀ v ∈ cs, v.oneCell' = true)
    (hK : K (a.put o.dst (.int .i64 ((cs.length : Nat) : Int))) (w.setCells b p cs)) :
    if Region.wanted o (yielded ops a.tmps) = true then Oper.wp P o a w K Q else E := by
  have hw : Region.wanted o (yielded ops a.tmps) = true := by simp [Region.wanted, hg]
  have hr := run_copy_cells (P := P) w dT sT o.type elem b p dLen dCap s sLen sCap cs hu hs hn hsrc (fun j hj => (ht j hj).1) (fun j hj => (ht j hj).2) h1
  rw [if_pos hw]
  unfold Oper.wp
  simp only [execOp, hop, resolve, invoke, builtin, Sem.run_bind, Sem.run_pure, Result.andThen_ok, List.map_toArray, List.map_cons, List.map_nil, hd, hx, hr]
  exact hK
end Go.Proofs.YtghiniaijobonaaDoor
/- What a chain keeps: places and digests, no theorem of the program. -/
namespace Go.Proofs.YtghiniaijobonaaDoor
set_option linter.unusedVariables false

/-- The places that are kept from q on, with l levels left, where q + r is told next. -/
def keptP : Nat → Nat → Nat → List Nat
  | 0, q, _ => [q]
  | l + 1, q, r => if r < 2 ^ l then keptP l q r else q :: keptP l (q + 2 ^ l) (r - 2 ^ l)
/-- The places that are filled in behind q. -/
def fillP : Nat → Nat → List Nat
  | _, 0 => []
  | q, l + 1 => (q + 2 ^ l) :: fillP (q + 2 ^ l) l
/-- The lowest bit's place. -/
def tzN : Nat → Nat → Nat
  | 0, _ => 0
  | f + 1, r => if r % 2 = 1 then 0 else 1 + tzN f (r / 2)
def fillL : List UInt8 → Nat → List (List UInt8)
  | _, 0 => []
  | x, l + 1 => walkL x (2 ^ l) :: fillL (walkL x (2 ^ l)) l
theorem fillL_length : ∀ (l : Nat) (x : List UInt8), (fillL x l).length = l
  | 0, _ => rfl
  | l + 1, x => by rw [fillL, List.length_cons, fillL_length l]
theorem fillL_places (d : List UInt8) : ∀ (l q : Nat), fillL (walkL d q) l = (fillP q l).map (walkL d)
  | 0, _ => rfl
  | l + 1, q => by
    rw [fillL, fillP, List.map_cons, ← walkL_add, fillL_places d l]
theorem fillL_32 {x : List UInt8} (hx : x.length = 32) : ∀ (l : Nat) (x : List UInt8), x.length = 32 → ∀ y ∈ fillL x l, y.length = 32
  | 0, _, _ => fun y hy => absurd hy (by simp [fillL])
  | l + 1, x, h => fun y hy => by
    rw [fillL, List.mem_cons] at hy
    rcases hy with rfl | hy
    · exact walkL_length h _
    · exact fillL_32 hx l _ (walkL_length h _) y hy
/-- One place is told: what stays, and what is filled in. -/
def stepOk (k r : Nat) : Bool :=
  let A := (keptP k 0 r).dropLast
  keptP k 0 r == A ++ [r] && keptP k 0 (r - 1) == A ++ fillP (A.getLastD 0) (tzN 10 r) && decide (1 ≤ A.length) && decide (A.length + tzN 10 r ≤ k + 1) && decide (A.length ≤ k)
theorem steps_ok : ∀ k, k ≤ 10 → ∀ r, r < 1024 → 0 < r → r < 2 ^ k → stepOk k r = true := by decide +kernel
theorem kept_zero : ∀ k, k ≤ 10 → keptP k 0 0 = [0] := by decide +kernel
theorem kept_first : ∀ k, k ≤ 10 → keptP k 0 (2 ^ k - 1) = 0 :: fillP 0 k := by decide +kernel
theorem tz_le : ∀ r, r < 1024 → 0 < r → tzN 10 r ≤ 9 := by decide +kernel
theorem kept_step {k r : Nat} (hk : k ≤ 10) (h0 : 0 < r) (hr : r < 2 ^ k) : ∃ (A : List Nat) (q : Nat), keptP k 0 r = A ++ [q] ++ [r] ∧ keptP k 0 (r - 1) = A ++ [q] ++ fillP q (tzN 10 r) ∧ A.length + 1 + tzN 10 r ≤ k + 1 ∧ A.length + 1 ≤ k := by
  have h1024 : r < 1024 := Nat.lt_of_lt_of_le hr (Nat.pow_le_pow_right (by omega) hk)
  have h := steps_ok k hk r h1024 h0 hr
  unfold stepOk at h
  generalize hA : (keptP k 0 r).dropLast = B at h
  simp only [Bool.and_eq_true, beq_iff_eq, decide_eq_true_eq] at h
  obtain ⟨⟨⟨⟨h1, h2⟩, h3⟩, h4⟩, h5⟩ := h
  have hne : B ≠ [] := by rintro rfl; simp at h3
  refine ⟨B.dropLast, B.getLast hne, ?_, ?_, ?_, ?_⟩
  · rw [List.dropLast_concat_getLast hne]; exact h1
  · rw [List.dropLast_concat_getLast hne]
    rw [h2]
    rw [List.getLastD_eq_getLast?, List.getLast?_eq_some_getLast hne]
    rfl
  · rw [List.length_dropLast]; omega
  · rw [List.length_dropLast]; omega
end Go.Proofs.YtghiniaijobonaaDoor
/- A Chain in memory: what it keeps, how many, and the place that is told next. -/
namespace Go.Proofs.YtghiniaijobonaaDoor
open Go.RowKit
set_option linter.unusedVariables false
set_option linter.unusedSimpArgs false

theorem getD_app (l r : List (List UInt8)) (i : Nat) (h : i < l.length) : (l ++ r).getD i [] = l.getD i [] := by
  rw [List.getD_eq_getElem?_getD, List.getElem?_append_left h, List.getD_eq_getElem?_getD]
def KC (w : World) (g : Nat) (ds : List (List UInt8)) (p : Nat) : Prop :=
  (∀ i, i < ds.length → DAt w g (i * 32) (ds.getD i [])) ∧ (∀ d ∈ ds, d.length = 32) ∧ ds.length ≤ 11 ∧ w.cell? ⟨g, 352, none⟩ = some (.int .i64 (ds.length : Int)) ∧ w.cell? ⟨g, 353, none⟩ = some (.int .i64 (p : Int)) ∧ w.there g 0 354
theorem KC.block {w : World} {g p : Nat} {ds : List (List UInt8)} (h : KC w g ds p) : g < w.heap.size := cell_block h.2.2.2.1
theorem KC.cells {w w' : World} {g p : Nat} {ds : List (List UInt8)} (h : KC w g ds p) (hc : ∀ j, w'.cell? ⟨g, j, none⟩ = w.cell? ⟨g, j, none⟩) (hf : ∀ j, w'.frozen? ⟨g, j, none⟩ = w.frozen? ⟨g, j, none⟩) : KC w' g ds p := by
  obtain ⟨h1, h2, h3, h4, h5, h6⟩ := h
  refine ⟨fun i hi j v hj => by rw [hc]; exact h1 i hi j v hj, h2, h3, by rw [hc]; exact h4, by rw [hc]; exact h5, fun j hj => by rw [hc, hf]; exact h6 j hj⟩
theorem KC.below {w w' : World} {g p B : Nat} {ds : List (List UInt8)} (h : KC w g ds p) (hb : Below B w w') (hB : g < B) : KC w' g ds p :=
  h.cells (fun j => hb.cell (p := ⟨g, j, none⟩) hB) (fun j => hb.frozen (p := ⟨g, j, none⟩) hB)
theorem KC.other {w w' : World} {g g' p : Nat} {ds : List (List UInt8)} (h : KC w g ds p) (hb : w.grownBy w' (some g')) (hne : g ≠ g') : KC w' g ds p := by
  have hk := hb.block g h.block (by intro e; exact hne (Option.some.inj e))
  exact h.cells (fun j => World.cell?_of_block (w := w) (a := ⟨g, j, none⟩) hk) (fun j => World.frozen?_of_block (w := w) (a := ⟨g, j, none⟩) hk)
theorem KC.len {w : World} {g p : Nat} {ds : List (List UInt8)} (h : KC w g ds p) (i : Nat) (hi : i < ds.length) : (ds.getD i []).length = 32 := by
  have := h.2.1 (ds.getD i []) (by rw [List.getD_eq_getElem?_getD, List.getElem?_eq_getElem hi]; exact List.getElem_mem hi)
  exact this
theorem KC.slot {w : World} {g p : Nat} {ds : List (List UInt8)} (h : KC w g ds p) (i : Nat) (hi : i < 11) : w.there g (i * 32) 32 := fun j hj => by
  have := h.2.2.2.2.2 (i * 32 + j) (by omega)
  rwa [Nat.zero_add] at this
/-- One digest more. -/
theorem KC.push {w : World} {g p : Nat} {ds : List (List UInt8)} {d : List UInt8} (h : KC w g ds p) (hd : d.length = 32) (hl : ds.length < 11) :
    KC ((w.setCells g (ds.length * 32) (cellsB d)).setCell ⟨g, 352, none⟩ (.int .i64 ((ds.length : Int) + 1))) g (ds ++ [d]) p := by
  have hs := h.slot ds.length hl
  have hlen := h.len
  obtain ⟨h1, h2, h3, h4, h5, h6⟩ := h
  have hc : (cellsB d).length = 32 := by rw [cellsB_length, hd]
  have out : ∀ o, 352 ≤ o → (w.setCells g (ds.length * 32) (cellsB d)).cell? ⟨g, o, none⟩ = w.cell? ⟨g, o, none⟩ := fun o ho =>
    World.cell?_setCells_out _ _ _ _ _ (fun _ _ => Or.inr (by show ds.length * 32 + (cellsB d).length ≤ o; rw [hc]; omega))
  refine ⟨fun i hi => ?_, ?_, by simp; omega, ?_, ?_, there_set (World.there_setCells h6 _ _ _) _ _ _⟩
  · have hL : (cellsB ((ds ++ [d]).getD i [])).length = 32 := by
      rw [cellsB_length]
      by_cases c : i < ds.length
      · rw [getD_app _ _ _ c]; exact hlen i c
      · have : i = ds.length := by simp at hi; omega
        subst this
        simpa using hd
    refine World.rangeAt_setCells_apart ?_ g 352 [_] (.inr (.inl (by rw [hL]; simp at hi; omega)))
    by_cases c : i < ds.length
    · have e : (ds ++ [d]).getD i [] = ds.getD i [] := getD_app _ _ _ c
      rw [e] at hL ⊢
      exact World.rangeAt_setCells_apart (h1 i c) _ _ _ (.inr (.inl (by rw [hL]; omega)))
    · have e : i = ds.length := by simp at hi; omega
      subst e
      have e : (ds ++ [d]).getD ds.length [] = d := by simp
      rw [e]
      exact dat_stored hs hd
  · intro x hx
    rw [List.mem_append, List.mem_singleton] at hx
    rcases hx with hx | rfl
    · exact h2 x hx
    · exact hd
  · have := World.cell?_setCell_same (w.setCells g (ds.length * 32) (cellsB d)) ⟨g, 352, none⟩ (.int .i64 ((ds.length : Int) + 1)) ((out 352 (by omega)).trans h4)
    rw [this, List.length_append, List.length_singleton]
    simp
  · rw [World.cell?_setCell_other _ _ _ _ (by simp), out 353 (by omega)]
    exact h5
/-- The last one is counted no longer. -/
theorem KC.drop {w : World} {g p : Nat} {ds : List (List UInt8)} {d : List UInt8} (h : KC w g (ds ++ [d]) p) :
    KC (w.setCell ⟨g, 352, none⟩ (.int .i64 (ds.length : Int))) g ds p ∧ DAt (w.setCell ⟨g, 352, none⟩ (.int .i64 (ds.length : Int))) g (ds.length * 32) d := by
  have hlen := h.len
  obtain ⟨h1, h2, h3, h4, h5, h6⟩ := h
  have h3' : ds.length + 1 ≤ 11 := by simpa using h3
  refine ⟨⟨fun i hi => ?_, fun x hx => h2 x (List.mem_append_left _ hx), by omega, World.cell?_setCell_same _ _ _ h4, ?_, there_set h6 _ _ _⟩, ?_⟩
  · have e : (ds ++ [d]).getD i [] = ds.getD i [] := getD_app _ _ _ hi
    have hL : (cellsB (ds.getD i [])).length = 32 := by
      rw [cellsB_length, ← e]
      exact hlen i (by simp; omega)
    have q := h1 i (by simp; omega)
    rw [e] at q
    exact World.rangeAt_setCells_apart q g 352 [_] (.inr (.inl (by rw [hL]; omega)))
  · rw [World.cell?_setCell_other _ _ _ _ (by simp)]
    exact h5
  · have e : (ds ++ [d]).getD ds.length [] = d := by simp
    have q := h1 ds.length (by simp)
    rw [e] at q
    exact World.rangeAt_setCells_apart q g 352 [_] (.inr (.inl (by rw [cellsB_length, h2 d (by simp)]; omega)))
/-- Behind what is kept anything may stand. -/
theorem KC.wipe {w : World} {g p : Nat} {ds : List (List UInt8)} (h : KC w g ds p) (x : List UInt8) (hx : x.length = 32) (hl : ds.length < 11) : KC (w.setCells g (ds.length * 32) (cellsB x)) g ds p := by
  have hlen := h.len
  obtain ⟨h1, h2, h3, h4, h5, h6⟩ := h
  have hc : (cellsB x).length = 32 := by rw [cellsB_length, hx]
  have out : ∀ o, 352 ≤ o → (w.setCells g (ds.length * 32) (cellsB x)).cell? ⟨g, o, none⟩ = w.cell? ⟨g, o, none⟩ := fun o ho =>
    World.cell?_setCells_out _ _ _ _ _ (fun _ _ => Or.inr (by show ds.length * 32 + (cellsB x).length ≤ o; rw [hc]; omega))
  exact ⟨fun i hi => World.rangeAt_setCells_apart (h1 i hi) _ _ _ (.inr (.inl (by rw [cellsB_length, hlen i hi]; omega))), h2, h3, (out _ (by omega)).trans h4, (out _ (by omega)).trans h5, World.there_setCells h6 _ _ _⟩
theorem KC.free {w : World} {g p : Nat} {ds : List (List UInt8)} (h : KC w g ds p) (j : Nat) (hj : j < 354) : w.frozen? ⟨g, j, none⟩ = false := by
  have := (h.2.2.2.2.2 j hj).2
  rwa [Nat.zero_add] at this
theorem KC.count {w : World} {g p : Nat} {ds : List (List UInt8)} (h : KC w g ds p) : w.cell? ⟨g, 352, none⟩ = some (.int .i64 (ds.length : Int)) := h.2.2.2.1
theorem KC.last {w : World} {g p : Nat} {ds : List (List UInt8)} {d : List UInt8} (h : KC w g (ds ++ [d]) p) : DAt w g (ds.length * 32) d ∧ d.length = 32 := by
  have h1 := h.1 ds.length (by simp)
  have e : (ds ++ [d]).getD ds.length [] = d := by simp
  rw [e] at h1
  exact ⟨h1, h.2.1 d (by simp)⟩
theorem KC.place {w : World} {g p : Nat} {ds : List (List UInt8)} (h : KC w g ds p) (q : Nat) :
    KC (w.setCell ⟨g, 353, none⟩ (.int .i64 (q : Int))) g ds q := by
  have hlen := h.len
  obtain ⟨h1, h2, h3, h4, h5, h6⟩ := h
  refine ⟨fun i hi => World.rangeAt_setCells_apart (h1 i hi) g 353 [_] (.inr (.inl (by rw [cellsB_length, hlen i hi]; omega))), h2, h3, ?_, World.cell?_setCell_same _ _ _ h5, there_set h6 _ _ _⟩
  rw [World.cell?_setCell_other _ _ _ _ (by simp)]
  exact h4
end Go.Proofs.YtghiniaijobonaaDoor
