/- Texts of this claim, joined: Wdigest, Hasher, Wwrite, Wfinish. -/
import Derived.Test.YtbpkhpkllokbhaaDoorJ04
import Derived.Laws.IdiomCopy
import Derived.Deep.RegionHeld3
import Derived.Deep.RegionLaw
/- The contract of state.digest: the words as bytes. -/
namespace Go.Proofs.YtbpkhpkllokbhaaDoor
open Go.RowKit
set_option linter.unusedVariables false
set_option linter.unusedSimpArgs false

theorem out_eq (x k : Nat) (e : Nat) (h : e = 24 - k % 4 * 8) : (x : Int) / 2 ^ e % 256 = ((x >>> (24 - k % 4 * 8) % 256 : Nat) : Int) := by
  rw [← h, Nat.shiftRight_eq_div_pow, Int.natCast_emod, Int.natCast_ediv, Int.natCast_pow]
  rfl

set_option maxRecDepth 100000 in
set_option maxHeartbeats 1000000 in
theorem wdigest_any (h : List Nat) (w : World) (h8 : h.length = 8) (hf : Fit h) :
    Calls Tryd.prog 43 #[.agg (cellsW h).toArray] w fun e w' => e = .returned (digestV (outL h)) ∧ Below w.heap.size w w' := by
  go_enter Tryd.func43, Tryd.ntmps43
  go_wp2_with fail
  go_loopw [5] (fun i wr => ∃ t : Nat, t ≤ 32 ∧ i = .int .i64 (t : Int) ∧ OwnK .u8 24 wr (w.heap.size + 1 + 1) (w.heap.size + 1 + 1) 32 32 (fun q => if q < t then nth (outL h) q else 0) ∧ WAt wr w.heap.size 0 h ∧ wr.there (w.heap.size + 1) 0 32 ∧ Below w.heap.size w wr) (fun i _ => 32 - (intOf i).toNat)
  case atStart =>
    refine ⟨0, Nat.zero_le _, rfl, ?_, ?_, ?_, ?_⟩
    · refine OwnK.congr (f := fun _ => 0) ?_ (fun i hi => by rw [if_neg (by omega)])
      refine OwnK.newAt _ _ 24 32 (by omega) (fun _ => 0) _ (by simp) ?_
      kernel_rfl
    · exact World.rangeAt_alloc (World.rangeAt_alloc (box_range w (cellsW h) _) _) _
    · refine World.there_alloc (alloc_thereAt _ _ _ 32 _ (by simp) ?_) _
      kernel_rfl
    · exact (((Below.refl _ _).alloc (Nat.le_refl _) _).alloc (by simp) _).alloc (by simp; omega) _
  case round =>
    obtain ⟨t, ht, rfl, hO, hh, hT, hB⟩ := hrel
    by_cases hlt : t < 32
    · have c0 := hO.cell t hlt
      rw [if_neg (by omega)] at c0
      have z0 := hO.frozen t
      have ch := hh.cell (t / 4) (by omega)
      rw [Nat.zero_add] at ch
      have fx := hf (t / 4)
      have HN : Hid (nth (outL h) t = ((at' h (t / 4) >>> (24 - t % 4 * 8) % 256 : Nat) : Int)) := nth_outL _ _ hlt
      have HO : Hid (OwnK .u8 24 wr (w.heap.size + 1 + 1) (w.heap.size + 1 + 1) 32 32 (fun q => if q < t then nth (outL h) q else 0)) := hO
      have HH : Hid (WAt wr w.heap.size 0 h ∧ wr.there (w.heap.size + 1) 0 32) := ⟨hh, hT⟩
      clear hO hh hT
      generalize hx : at' h (t / 4) = x at *
      clear hx
      go_wp2
      go_roundw
      case rel =>
        refine ⟨t + 1, by omega, by go_num, (OwnK.store HO.out t _).congr fun q hq => ?_, range_set HH.out.1 _ _ _ (by omega), there_set HH.out.2 _ _ _, hB.setCell (by show w.heap.size ≤ w.heap.size + 1 + 1; omega) _⟩
        by_cases hqt : q = t
        · subst hqt
          rw [if_pos rfl, if_pos (by omega), HN.out]
          exact out_eq x q _ (by omega)
        · rw [if_neg hqt]
          by_cases hlt2 : q < t
          · rw [if_pos hlt2, if_pos (by omega)]
          · rw [if_neg hlt2, if_neg (by omega)]
      case measure => simp [intOf]; omega
    · obtain rfl : t = 32 := by omega
      have HD : Hid (DAt wr (w.heap.size + 1 + 1) 0 (outL h)) := hO.dat (outL_length _) fun i hi => by rw [if_pos hi]
      have HT : Hid (wr.there (w.heap.size + 1) 0 32) := hT
      have hlen := outL_length h
      clear hO hT hh
      generalize hD : outL h = D at *
      have HE : Hid (outL h = D) := hD
      clear hD
      go_wp2_with (first
        | (refine wpList_load_mid (by rfl) 24 (.tmp 3) (by rfl) (w.heap.size + 1 + 1) 0 (by rfl) (cellsB D) _ HD.out Tryd.underlying24 (by rfl) (by rw [cellsB_length, hlen]; kernel_rfl) ?_)
        | (refine wpList_store_mid (by rfl) 24 (.tmp 2) (.tmp 21) (by rfl) (w.heap.size + 1) 0 (cellsB D).toArray (by rfl) (by rfl) (by rw [cellsB_size, hlen]; exact HT.out) (by rw [cellsB_size, hlen]; kernel_rfl) (all_oneCell_toArray (cellsB_one _)) ?_))
      refine bodyPost_ret (v := digestV D) (run_results_row Tryd.results43 _ _ (w.heap.size + 1) 0 (by rfl) (cellsB D) (World.rangeAt_setCells_same _ _ _ _ (by rw [cellsB_length, hlen]; exact HT.out)) _ Tryd.underlying24 (by rfl) (by rw [cellsB_length, hlen]; kernel_rfl)) rfl ⟨by rw [HE.out], ?_⟩
      exact below_setCells _ (by omega) _ _ _ hB
end Go.Proofs.YtbpkhpkllokbhaaDoor
/- A Hasher in memory: plain facts. -/
namespace Go.Proofs.YtbpkhpkllokbhaaDoor
open Go.RowKit
set_option linter.unusedVariables false
set_option linter.unusedSimpArgs false

/-! what changes one block alone -/
theorem gr_trans {w w1 w2 : World} {r : Option Nat} (h : w.grownBy w1 r) (k : w1.grownBy w2 r) : w.grownBy w2 r :=
  ⟨k.os.trans h.os, k.tape.trans h.tape, k.output.trans h.output, Nat.le_trans h.size k.size, fun i hi hne => (k.block i (Nat.lt_of_lt_of_le hi h.size) hne).trans (h.block i hi hne)⟩
theorem gr_below {w w' : World} (h : Below w.heap.size w w') (r : Option Nat) : w.grownBy w' r := ⟨h.os, h.tape, h.output, h.size, fun i hi _ => h.block i hi⟩
theorem gr_setCell (w : World) (g j : Nat) (v : Value) : w.grownBy (w.setCell ⟨g, j, none⟩ v) (some g) :=
  ⟨rfl, rfl, rfl, by simp [World.setCell], fun i hi hne => Below.heap_setCell _ _ _ _ (fun e => hne (congrArg some e))⟩
theorem gr_setCells (g : Nat) : ∀ (vs : List Value) (o : Nat) (w : World), w.grownBy (w.setCells g o vs) (some g)
  | [], _, w => World.grownBy.refl w _
  | v :: r, o, w => by
    rw [World.setCells]
    exact gr_trans (gr_setCell w g o v) (gr_setCells g r (o + 1) _)
theorem gr_drew (w : World) (r : Option Nat) : w.grownBy w.drew r := ⟨rfl, rfl, rfl, Nat.le_refl _, fun _ _ _ => rfl⟩
theorem gr_drewN (w : World) (n : Nat) (r : Option Nat) : w.grownBy (w.drewN n) r := gr_below (below_drewN w n) r
theorem below_gr {B g : Nat} {w0 w w' : World} (h : Below B w0 w) (hg : w.grownBy w' (some g)) (hB : B ≤ w.heap.size) (hb : B ≤ g) : Below B w0 w' := h.grown hg hB (fun k e => by cases e; exact hb)
theorem Row.grown {w w' : World} {a : Option Addr} {n g : Nat} {l : List UInt8} (h : Row w a n l) (hg : w.grownBy w' (some g)) (hne : ∀ ad, a = some ad → ad.block ≠ g) : Row w' a n l := by
  obtain ⟨h1, h2⟩ := h
  refine ⟨h1, ?_⟩
  rcases h2 with h2 | ⟨b, o, ha, hc⟩
  · exact .inl h2
  · by_cases hn : n = 0
    · exact .inl hn
    · have hlt := Row.block hc (by omega)
      exact .inr ⟨b, o, ha, fun i hi => (World.cell?_of_block (hg.block b hlt (fun e => hne _ ha (Option.some.inj e)))).trans (hc i hi)⟩

theorem Tab.grown {w w' : World} {g : Nat} (h : Tab w) (hg : w.grownBy w' (some g)) (hne : g ≠ 1) : Tab w' := fun t ht =>
  (World.cell?_of_block (hg.block 1 (cell_block (h t ht)) (fun e => hne (Option.some.inj e).symm))).trans (h t ht)
theorem below_of_drew {w w' : World} (h : Below w.drew.heap.size w.drew w') : Below w.heap.size w w' := ⟨h.os, h.tape, h.output, h.size, h.block⟩
/-- What is left of a slice behind its first bytes. -/
theorem row_rest {wr wF : World} {sb so N M c' g : Nat} {z : List UInt8} (hs : ∀ i, i < N → wr.cell? ⟨sb, so + i, none⟩ = some (.int .u8 (nth z i))) (hz : z.length = N) (hN : 0 < N) (hM : M ≤ N) (hc : N ≤ c') (hg : wr.grownBy wF (some g)) (hne : sb ≠ g) :
    Row wF (if c' = M then some ⟨sb, so, none⟩ else some ⟨sb, so + M, none⟩) (N - M) (z.drop M) := by
  refine ⟨by simp; omega, ?_⟩
  by_cases h0 : N - M = 0
  · exact .inl h0
  · rw [if_neg (by omega)]
    have hlt := Row.block hs hN
    refine .inr ⟨sb, so + M, rfl, fun i hi => ?_⟩
    rw [World.cell?_of_block (a := ⟨sb, so + M + i, none⟩) (hg.block sb hlt (fun e => hne (Option.some.inj e))), show so + M + i = so + (M + i) by omega, hs (M + i) (by omega)]
    unfold nth
    simp [List.getD_eq_getElem?_getD, List.getElem?_drop]

theorem row_ne {w : World} {a : Option Addr} {n g : Nat} {l : List UInt8} (h : Row w a n l) (hg : w.heap.size ≤ g) : 0 < n → ∀ ad, a = some ad → ad.block ≠ g := by
  intro hn ad had
  rcases h.2 with h2 | ⟨b, o, ha, hc⟩
  · omega
  · rw [ha] at had
    cases had
    have := Row.block hc hn
    show b ≠ g
    omega

/-! the words so far -/
theorem hTo_length (l : List UInt8) : ∀ b, (hTo l b).length = 8
  | 0 => rfl
  | b + 1 => by rw [hTo, blockW, addW_length]
theorem hTo_append (l r : List UInt8) : ∀ b, 64 * b ≤ l.length → hTo (l ++ r) b = hTo l b
  | 0, _ => rfl
  | b + 1, h => by
    rw [hTo, hTo, hTo_append l r b (by omega)]
    congr 1
    rw [List.drop_append_of_le_length (by omega), List.take_append_of_le_length (by simp; omega)]
/-- A block with some of its bytes put anew. -/
def blkPut (blk : List UInt8) (r : Nat) (y : List UInt8) : List UInt8 := blk.take r ++ y ++ blk.drop (r + y.length)
theorem blkPut_length {blk : List UInt8} {r : Nat} {y : List UInt8} (h : blk.length = 64) (hr : r + y.length ≤ 64) : (blkPut blk r y).length = 64 := by
  simp [blkPut]; omega
theorem blkPut_nth {blk : List UInt8} {r : Nat} {y : List UInt8} (h : blk.length = 64) (hr : r + y.length ≤ 64) (i : Nat) (hi : i < 64) :
    nth (blkPut blk r y) i = if i < r then nth blk i else if i < r + y.length then nth y (i - r) else nth blk i := by
  unfold nth blkPut
  have hl : (blk.take r).length = r := by simp; omega
  simp only [List.getD_eq_getElem?_getD]
  by_cases h1 : i < r
  · rw [if_pos h1, List.append_assoc, List.getElem?_append_left (by omega), List.getElem?_take, if_pos h1]
  · rw [if_neg h1]
    by_cases h2 : i < r + y.length
    · rw [if_pos h2, List.append_assoc, List.getElem?_append_right (by omega), hl, List.getElem?_append_left (by omega)]
    · rw [if_neg h2, List.append_assoc, List.getElem?_append_right (by omega), hl, List.getElem?_append_right (by omega), List.getElem?_drop]
      rw [show r + y.length + (i - r - y.length) = i by omega]
/-- The words and the block that belong to what was taken. -/
def Took (h : List Nat) (blk l : List UInt8) : Prop := h = hTo l (l.length / 64) ∧ blk.length = 64 ∧ blk.take (l.length % 64) = l.drop (64 * (l.length / 64))
theorem took_take {h : List Nat} {blk l y : List UInt8} (t : Took h blk l) (hr : l.length % 64 + y.length ≤ 64) : (blkPut blk (l.length % 64) y).take (l.length % 64 + y.length) = (l ++ y).drop (64 * (l.length / 64)) := by
  obtain ⟨_, t2, t3⟩ := t
  have hl : (blk.take (l.length % 64)).length = l.length % 64 := by simp; omega
  unfold blkPut
  rw [List.take_append_of_le_length (by simp; omega), List.take_of_length_le (by simp; omega), t3, List.drop_append_of_le_length (by omega)]
theorem took_part {h : List Nat} {blk l y : List UInt8} (t : Took h blk l) (hr : l.length % 64 + y.length < 64) : Took h (blkPut blk (l.length % 64) y) (l ++ y) := by
  have e := took_take (y := y) t (by omega)
  obtain ⟨t1, t2, t3⟩ := t
  have e1 : (l ++ y).length / 64 = l.length / 64 := by simp; omega
  have e2 : (l ++ y).length % 64 = l.length % 64 + y.length := by simp; omega
  refine ⟨?_, blkPut_length t2 (by omega), ?_⟩
  · rw [e1, hTo_append _ _ _ (by omega), ← t1]
  · rw [e1, e2, e]
theorem took_full {h : List Nat} {blk l y : List UInt8} (t : Took h blk l) (hr : l.length % 64 + y.length = 64) : Took (blockW h (blkPut blk (l.length % 64) y)) (blkPut blk (l.length % 64) y) (l ++ y) := by
  have e := took_take (y := y) t (by omega)
  obtain ⟨t1, t2, t3⟩ := t
  have hlen := blkPut_length (y := y) (r := l.length % 64) t2 (by omega)
  have e1 : (l ++ y).length / 64 = l.length / 64 + 1 := by simp; omega
  have e2 : (l ++ y).length % 64 = 0 := by simp; omega
  rw [hr, List.take_of_length_le (by omega)] at e
  refine ⟨?_, hlen, ?_⟩
  · rw [e1, hTo, hTo_append _ _ _ (by omega), ← t1, ← e, List.take_of_length_le (by omega)]
  · rw [e1, e2, List.take_zero, List.drop_eq_nil_of_le (by simp; omega)]
theorem took_new : Took hW (List.replicate 64 0) [] := ⟨rfl, by simp, rfl⟩
theorem Took.words {h : List Nat} {blk l : List UInt8} (t : Took h blk l) : h.length = 8 ∧ Fit h := by
  rw [t.1]
  exact ⟨hTo_length _ _, fit_hTo _ _⟩

/-! the object -/
/-- The words, the block and the count of a Hasher, at block g. -/
def HAt (w : World) (g : Nat) (h : List Nat) (blk : List UInt8) (n : Nat) : Prop :=
  w.rangeAt g 0 (cellsW h) ∧ w.rangeAt g 8 (cellsB blk) ∧ w.cell? ⟨g, 72, none⟩ = some (.int .i64 (n : Int)) ∧ w.there g 0 73 ∧ h.length = 8 ∧ blk.length = 64
theorem HAt.block {w : World} {g n : Nat} {h : List Nat} {blk : List UInt8} (H : HAt w g h blk n) : g < w.heap.size := cell_block H.2.2.1
theorem HAt.below {w w' : World} {g n : Nat} {h : List Nat} {blk : List UInt8} (H : HAt w g h blk n) (hb : Below w.heap.size w w') : HAt w' g h blk n := by
  have hg := H.block
  obtain ⟨h1, h2, h3, h4, h5, h6⟩ := H
  exact ⟨range_below h1 hb hg, range_below h2 hb hg, (hb.cell (p := ⟨g, 72, none⟩) hg).trans h3, there_below h4 hb hg, h5, h6⟩
theorem HAt.other {w w' : World} {g g' n : Nat} {h : List Nat} {blk : List UInt8} (H : HAt w g h blk n) (hb : w.grownBy w' (some g')) (hne : g ≠ g') : HAt w' g h blk n := by
  have hg := H.block
  have hk := hb.block g hg (fun e => hne (Option.some.inj e))
  obtain ⟨h1, h2, h3, h4, h5, h6⟩ := H
  have hc : ∀ j, w'.cell? ⟨g, j, none⟩ = w.cell? ⟨g, j, none⟩ := fun j => World.cell?_of_block hk
  have hf : ∀ j, w'.frozen? ⟨g, j, none⟩ = w.frozen? ⟨g, j, none⟩ := fun j => World.frozen?_of_block hk
  exact ⟨fun j v hj => (hc _).trans (h1 j v hj), fun j v hj => (hc _).trans (h2 j v hj), (hc _).trans h3, fun j hj => by rw [hc, hf]; exact h4 j hj, h5, h6⟩
theorem HAt.copy {w : World} {g n r : Nat} {h : List Nat} {blk y : List UInt8} (H : HAt w g h blk n) (hr : r + y.length ≤ 64) : HAt (w.setCells g (8 + r) (cellsB y)) g h (blkPut blk r y) n := by
  obtain ⟨h1, h2, h3, h4, h5, h6⟩ := H
  have hs : ∀ j, j < (cellsB y).length → (w.cell? ⟨g, 8 + r + j, none⟩).isSome = true := fun j hj => by
    rw [cellsB_length] at hj
    have := (h4 (8 + r + j) (by omega)).1
    rwa [Nat.zero_add] at this
  refine ⟨World.rangeAt_setCells_apart h1 _ _ _ (.inr (.inl (by rw [cellsW_length]; omega))), ?_, ?_, World.there_setCells h4 _ _ _, h5, blkPut_length h6 hr⟩
  · refine DAt.mk fun i hi => ?_
    rw [blkPut_length h6 hr] at hi
    rw [blkPut_nth h6 hr i hi]
    by_cases c1 : i < r
    · rw [if_pos c1, World.cell?_setCells_out _ _ _ _ _ (fun _ _ => Or.inl (by show 8 + i < 8 + r; omega))]
      exact DAt.cell h2 i (by omega)
    · rw [if_neg c1]
      by_cases c2 : i < r + y.length
      · rw [if_pos c2]
        have := World.cell?_setCells_in g (cellsB y) (8 + r) w hs (i - r) (by rw [cellsB_length]; omega)
        rw [show 8 + r + (i - r) = 8 + i by omega] at this
        rw [this]
        have := cellsB_at y (i - r) (by omega)
        rw [List.getElem?_eq_getElem (by rw [cellsB_length]; omega)] at this
        exact this
      · rw [if_neg c2, World.cell?_setCells_out _ _ _ _ _ (fun _ _ => Or.inr (by show 8 + r + (cellsB y).length ≤ 8 + i; rw [cellsB_length]; omega))]
        exact DAt.cell h2 i (by omega)
  · rw [World.cell?_setCells_out _ _ _ _ _ (fun _ _ => Or.inr (by show 8 + r + (cellsB y).length ≤ 72; rw [cellsB_length]; omega))]
    exact h3
theorem HAt.count {w : World} {g n : Nat} {h : List Nat} {blk : List UInt8} (H : HAt w g h blk n) (n' : Nat) : HAt (w.setCell ⟨g, 72, none⟩ (.int .i64 (n' : Int))) g h blk n' := by
  obtain ⟨h1, h2, h3, h4, h5, h6⟩ := H
  refine ⟨World.rangeAt_setCells_apart h1 g 72 [_] (.inr (.inl (by rw [cellsW_length]; omega))), World.rangeAt_setCells_apart h2 g 72 [_] (.inr (.inl (by rw [cellsB_length]; omega))), ?_, there_set h4 _ _ _, h5, h6⟩
  simpa using World.cell?_setCell_same _ _ _ h3
theorem HAt.words {w : World} {g n : Nat} {h h' : List Nat} {blk : List UInt8} (H : HAt w g h blk n) (h8 : h'.length = 8) : HAt (w.setCells g 0 (cellsW h')) g h' blk n := by
  obtain ⟨h1, h2, h3, h4, h5, h6⟩ := H
  refine ⟨World.rangeAt_setCells_same _ _ _ _ (fun j hj => h4 j (by rw [cellsW_length] at hj; omega)), World.rangeAt_setCells_apart h2 _ _ _ (.inr (.inr (by rw [cellsW_length]; omega))), ?_, World.there_setCells h4 _ _ _, h8, h6⟩
  rw [World.cell?_setCells_out _ _ _ _ _ (fun _ _ => Or.inr (by show 0 + (cellsW h').length ≤ 72; rw [cellsW_length]; omega))]
  exact h3
/-- A Hasher that has taken l. -/
def Hasher (w : World) (g : Nat) (l : List UInt8) : Prop := ∃ h blk, HAt w g h blk l.length ∧ Took h blk l
theorem Hasher.below {w w' : World} {g : Nat} {l : List UInt8} (H : Hasher w g l) (hb : Below w.heap.size w w') : Hasher w' g l := by
  obtain ⟨h, blk, H1, H2⟩ := H
  exact ⟨h, blk, H1.below hb, H2⟩
theorem Hasher.other {w w' : World} {g g' : Nat} {l : List UInt8} (H : Hasher w g l) (hb : w.grownBy w' (some g')) (hne : g ≠ g') : Hasher w' g l := by
  obtain ⟨h, blk, H1, H2⟩ := H
  exact ⟨h, blk, H1.other hb hne, H2⟩
theorem Hasher.block {w : World} {g : Nat} {l : List UInt8} (H : Hasher w g l) : g < w.heap.size := by
  obtain ⟨h, blk, H1, H2⟩ := H
  exact H1.block

theorem blockW_length (h : List Nat) (m : List UInt8) : (blockW h m).length = 8 := addW_length _ _
/-- after, beside a Hasher that it leaves as it is. -/
theorem wafter_in (g n : Nat) (h : List Nat) (B : List UInt8) (w : World) (G : Tab w) (H : HAt w g h B n) (hf : Fit h) :
    Calls Tryd.prog 41 #[.agg (cellsW h).toArray, .agg (cellsB B).toArray] w fun e w' => ∃ h', e = .returned (.agg (cellsW h').toArray) ∧ (cellsW h').length = 8 ∧ Hid (h' = blockW h B) ∧ Hid (Below w.heap.size w w') ∧ w'.rangeAt g 8 (cellsB B) ∧ w'.there g 0 8 := by
  refine (wafter_any h B w G H.2.2.2.2.1 hf H.2.2.2.2.2).mono ?_
  rintro e w' ⟨rfl, hb⟩
  have H2 := H.below hb
  exact ⟨_, rfl, by rw [cellsW_length, blockW_length], rfl, hb, H2.2.1, fun j hj => H2.2.2.2.1 j (by omega)⟩
theorem Tryd.sizeState : (Tryd.prog.info? 82).map (·.size) = some 8 := by kernel_rfl
/-- copy as one step of a region that draws its order: the cells that go over are told. -/
theorem step_copy_cells {P : Program} {ops : Array Oper} {o : Oper} {a : Act} {w : World} {K : Act → World → Prop} {Q : Exit → Act → World → Prop} {E : Prop}
    (hg : o.guard = none) (d x : Operand) (dT sT elem : TypeId) (hop : o.op = Op.call { callee := Callee.builtin Builtin.copy, args := #[d, x], argTypes := #[dT, sT] }) (hu : P.underlying dT = some (.slice elem)) (hs : (P.info? elem).map (·.size) = some 1)
    (b p dLen dCap : Nat) (s : Addr) (sLen sCap : Nat) (cs : List Value) (hd : a.eval d = .slice (some ⟨b, p, none⟩) dLen dCap) (hx : a.eval x = .slice (some s) sLen sCap) (hn : cs.length = Nat.min sLen dLen)
    (hsrc : ∀ j v, cs[j]? = some v → w.cell? (s.add j) = some v) (ht : w.there b p cs.length) (h1 : ∀ v ∈ cs, v.oneCell' = true)
    (hK : K (a.put o.dst (.int .i64 ((cs.length : Nat) : Int))) (w.setCells b p cs)) :
    if Region.wanted o (yielded ops a.tmps) = true then Oper.wp P o a w K Q else E := by
  have hw : Region.wanted o (yielded ops a.tmps) = true := by simp [Region.wanted, hg]
  have hr := run_copy_cells (P := P) w dT sT o.type elem b p dLen dCap s sLen sCap cs hu hs hn hsrc (fun j hj => (ht j hj).1) (fun j hj => (ht j hj).2) h1
  rw [if_pos hw]
  unfold Oper.wp
  simp only [execOp, hop, resolve, invoke, builtin, Sem.run_bind, Sem.run_pure, Result.andThen_ok, List.map_toArray, List.map_cons, List.map_nil, hd, hx, hr]
  exact hK
end Go.Proofs.YtbpkhpkllokbhaaDoor
/- The contract of Hasher.Write. -/
namespace Go.Proofs.YtbpkhpkllokbhaaDoor
open Go.RowKit
set_option linter.unusedVariables false
set_option linter.unusedSimpArgs false
theorem Tryd.sizeW8 : (Tryd.prog.info? 5).map (·.size) = some 1 := by kernel_rfl
theorem Tryd.sizeBlock : (Tryd.prog.info? 83).map (·.size) = some 64 := by kernel_rfl
/-- How long a slice is. -/
def lenS : Value → Nat
  | .slice _ n _ => n
  | _ => 0

set_option maxRecDepth 100000 in
set_option maxHeartbeats 1000000 in
theorem wwrite_any (g : Nat) (l : List UInt8) (a : Option Addr) (n c : Nat) (x : List UInt8) (w : World) (G : Tab w) (H : Hasher w g l) (R : Row w a n x) (hc : n ≤ c) (hne : 0 < n → ∀ ad, a = some ad → ad.block ≠ g) (hG : g ≠ 1) (hn : l.length + n ≤ 9000000000000000000) :
    Calls Tryd.prog 34 #[.pointer (some ⟨g, 0, none⟩), .slice a n c] w fun e w' => e = .returned (.tuple #[]) ∧ Hasher w' g (l ++ x) ∧ w.grownBy w' (some g) := by
  go_enter Tryd.func34, Tryd.ntmps34
  go_wp2_with fail
  go_loopw [1] (fun v wr => ∃ k a' c', k ≤ n ∧ v = .slice a' (n - k) c' ∧ n - k ≤ c' ∧ Row wr a' (n - k) (x.drop k) ∧ (0 < n - k → ∀ ad, a' = some ad → ad.block ≠ g) ∧ Hasher wr g (l ++ x.take k) ∧ w.grownBy wr (some g)) (fun v _ => lenS v)
  case atStart => exact ⟨0, a, c, Nat.zero_le _, rfl, hc, R, hne, by simpa using H, World.grownBy.refl _ _⟩
  case round =>
    obtain ⟨k, a', c', hk, rfl, hc', R', hne', H', hg⟩ := hrel
    have hxl := R.1
    by_cases hlt : k < n
    · obtain ⟨ly, r0 | ⟨sb, so, rfl, hs⟩⟩ := R'
      · omega
      have hbne : sb ≠ g := hne' (by omega) _ rfl
      clear hne'
      obtain ⟨h, blk, HA, HK⟩ := H'
      have hlen : (l ++ x.take k).length = l.length + k := by simp; omega
      rw [hlen] at HA
      have hcnt := HA.2.2.1
      have hth := HA.2.2.2.1
      have HHA : Hid (HAt wr g h blk (l.length + k)) := HA
      clear HA
      generalize hP : l ++ x.take k = p at *
      have HP : Hid (l ++ x.take k = p) := hP
      clear hP
      generalize hL : l.length + k = L at *
      have HLn : Hid (l.length + k = L) := hL
      have hL1 : L ≤ 9000000000000000000 := by omega
      have hL2 : L + (n - k) ≤ 9000000000000000000 := by omega
      clear hL
      have hnk : n - k > 0 := by omega
      generalize hN : n - k = N at *
      have hr : L % 64 < 64 := Nat.mod_lt _ (by omega)
      have hmr : (L : Int).tmod 64 = ((L % 64 : Nat) : Int) := by rw [Int.tmod_eq_emod_of_nonneg (by omega)]; omega
      generalize hrr : L % 64 = r at *
      have HR : Hid (L % 64 = r) := hrr
      clear hrr
      have hr0 : (0 : Int) ≤ (r : Int) := by omega
      have hr1 : (r : Int) ≤ 64 := by omega
      have hr64 : ¬ 64 = r := by omega
      generalize hy : (x.drop k).take (Nat.min N (64 - r)) = y at *
      have hyl : y.length = Nat.min N (64 - r) := by rw [← hy, List.length_take, ly]; exact Nat.min_eq_left (Nat.min_le_left _ _)
      have hym : r + y.length ≤ 64 := by rw [hyl]; have : Nat.min N (64 - r) ≤ 64 - r := Nat.min_le_right _ _; omega
      have hyN : y.length ≤ N := by rw [hyl]; exact Nat.min_le_left _ _
      have hy0 : 0 < y.length := by
        rw [hyl]; exact Nat.lt_min.2 ⟨by omega, by omega⟩
      have HSRC : Hid (∀ j v, (cellsB y)[j]? = some v → wr.cell? ((⟨sb, so, none⟩ : Addr).add j) = some v) := by
        intro j v hj
        have hj' : j < y.length := by have := (List.getElem?_eq_some_iff.1 hj).1; rwa [cellsB_length] at this
        rw [Go.WideShapes.add_plain, hs j (by omega), ← hj, cellsB_at y j hj', ← hy]
        unfold nth
        rw [← hy] at hj'
        have hj2 : j < Nat.min N (64 - r) := by rw [List.length_take] at hj'; omega
        simp only [List.getD_eq_getElem?_getD, List.getElem?_take, if_pos hj2]
      have HTH : Hid (wr.there g (8 + r) (cellsB y).length) := by
        intro j hj
        rw [cellsB_length] at hj
        have := hth (8 + r + j) (by omega)
        rwa [Nat.zero_add] at this
      have HYL : Hid ((cellsB y).length = Nat.min N (64 - r)) := by unfold Hid; rw [cellsB_length, hyl]
      have HY : Hid ((x.drop k).take (Nat.min N (64 - r)) = y ∧ y.length = Nat.min N (64 - r)) := ⟨hy, hyl⟩
      clear hy hyl
      go_wp2_with fail
      go_region_held3 (fun w' => w'.cell? ⟨g, 72, none⟩ = some (.int .i64 (L : Int))) (first | go_keep | (rw [World.cell?_setCells_out _ _ _ _ _ (fun _ _ => Or.inr (by show 8 + r + (cellsB y).length ≤ 72; rw [cellsB_length]; omega))]; simpa using hcnt)) ((refine step_copy_cells (by rfl) (.tmp 16) (.tmp 17) 45 45 5 (by rfl) Tryd.underlying45 Tryd.sizeW8 g (8 + r) (64 - r) (64 - r) ⟨sb, so, none⟩ N c' (cellsB y) (by first | rfl | (simp only [hr64, if_false]; rfl)) (by rfl) HYL.out HSRC.out HTH.out (cellsB_one y) ?_))
      rw [cellsB_length]
      have HHA : Hid (HAt (wr.drew.setCells g (8 + r) (cellsB y)) g h (blkPut blk r y) L) := by
        have h1 : HAt wr.drew g h blk L := HHA.out
        exact h1.copy hym
      have hgw : wr.grownBy (wr.drew.setCells g (8 + r) (cellsB y)) (some g) := gr_trans (gr_drew wr _) (gr_setCells g _ _ _)
      clear HSRC HTH HYL hcnt hth hmr hr64
      generalize wr.drew.setCells g (8 + r) (cellsB y) = w1 at *
      have hct := HHA.out.2.2.1
      have hfz : w1.frozen? ⟨g, 72, none⟩ = false := by have := (HHA.out.2.2.2.1 72 (by omega)).2; rwa [Nat.zero_add] at this
      generalize hM : y.length = M at *
      have hM' : (M : Int) ≤ (N : Int) := by omega
      have hM0 : (0 : Int) ≤ (M : Int) := by omega
      have hNc : (N : Int) ≤ (c' : Int) := by omega
      have HHA : Hid (HAt (w1.setCell ⟨g, 72, none⟩ (.int .i64 ((L : Int) + (M : Int)))) g h (blkPut blk r y) (L + M)) := HAt.count HHA.out (L + M)
      have hgw : wr.grownBy (w1.setCell ⟨g, 72, none⟩ (.int .i64 ((L : Int) + (M : Int)))) (some g) := gr_trans hgw (gr_setCell _ _ _ _)
      have HD : Hid (l ++ x.take (k + M) = p ++ y) := by
        unfold Hid
        rw [← HP.out, List.append_assoc, List.take_add, HY.out.2, HY.out.1]
      obtain ⟨A0, hA0⟩ : ∃ A0, (if c' = M then (⟨sb, so, none⟩ : Addr) else ⟨sb, so + M, none⟩) = A0 := ⟨_, rfl⟩
      have hA1 : (if c' = M then some (⟨sb, so, none⟩ : Addr) else some ⟨sb, so + M, none⟩) = some A0 := by rw [← hA0]; split <;> rfl
      have HDD : Hid (∀ wF : World, wr.grownBy wF (some g) → Row wF (some A0) (n - (k + M)) (x.drop (k + M))) := by
        intro wF hgF
        rw [← hA1]
        rw [← List.drop_drop, show n - (k + M) = N - M by omega]
        exact row_rest hs ly hnk (by omega) hc' hgF hbne
      have HDN : Hid (∀ ad, some A0 = some ad → ad.block ≠ g) := by
        intro ad had
        cases had
        rw [← hA0]
        split <;> exact hbne
      have htm : ((L : Int) + (M : Int)).tmod 64 = (((L + M) % 64 : Nat) : Int) := by rw [Int.tmod_eq_emod_of_nonneg (by omega)]; omega
      have hpr : p.length % 64 = r := by rw [hlen]; exact HR.out
      have HPR : Hid (p.length % 64 = r ∧ p.length = L ∧ y.length = M) := ⟨hpr, hlen, hM⟩
      have HN : Hid (n - k = N) := hN
      have hrL : L % 64 = r := HR.out
      by_cases hfull : r + M = 64
      · have hz : ((L : Int) + (M : Int)).tmod 64 = 0 := by rw [htm]; omega
        clear htm hpr hlen hM hN hs ly
        go_wp2_with fail
        generalize w1.setCell ⟨g, 72, none⟩ (.int .i64 ((L : Int) + (M : Int))) = w2 at *
        generalize hBB : blkPut blk r y = B at *
        have HBB : Hid (blkPut blk r y = B) := hBB
        clear hBB
        have hu42 := Tryd.underlying83
        have hi42 : (Tryd.prog.info? 83).map (·.size) = some (cellsB B).length := by rw [Tryd.sizeBlock, cellsB_length, HHA.out.2.2.2.2.2]
        have hl42 : (cellsB B).length = 64 := by rw [cellsB_length, HHA.out.2.2.2.2.2]
        have ho42 := cellsB_one B
        have rB := HHA.out.2.1
        have rH := HHA.out.1
        have hu41 := Tryd.underlying82
        have hi41 : (Tryd.prog.info? 82).map (·.size) = some (cellsW h).length := by rw [Tryd.sizeState, cellsW_length, HHA.out.2.2.2.2.1]
        have HT : Hid (Tab w2.drew ∧ Fit h ∧ HAt w2.drew g h B (L + M)) := ⟨Tab.grown G (gr_trans (gr_trans hg hgw) (gr_drew w2 _)) hG, HK.words.2, HHA.out⟩
        refine wp_region_noPanic ?_
        refine wp_region_held_drew (S := fun w' => w'.rangeAt g 8 (cellsB B)) (by kernel_rfl) rB (fun hHeld => ?_)
        refine wpAnyH_take (i := 0) (v := ?_) (by simp only [List.getElem?_toArray, List.getElem?_cons_zero, List.getElem?_cons_succ]; rfl) (by kernel_rfl) (by kernel_rfl) (by kernel_rfl) (fun _ _ _ h => h) (Or.inl ⟨by rfl, ?_⟩) hHeld ?_
        rotate_left
        · intro w hSw
          go_simp
          try with_reducible rfl
        try simp only [Act.put, List.setIfInBounds_toArray, List.set_cons_zero, List.set_cons_succ]
        refine wpAnyH_take (i := 1) (v := ?_) (by simp only [List.getElem?_toArray, List.getElem?_cons_zero, List.getElem?_cons_succ]; rfl) (by kernel_rfl) (by kernel_rfl) (by kernel_rfl) (fun _ _ _ h => h) (Or.inl ⟨by rfl, ?_⟩) hHeld ?_
        rotate_left
        · intro w hSw
          go_simp
          try with_reducible rfl
        try simp only [Act.put, List.setIfInBounds_toArray, List.set_cons_zero, List.set_cons_succ]
        refine wpAnyH_take (i := 2) (v := ?_) (by simp only [List.getElem?_toArray, List.getElem?_cons_zero, List.getElem?_cons_succ]; rfl) (by kernel_rfl) (by kernel_rfl) (by kernel_rfl) (fun _ _ _ h => h) (Or.inl ⟨by rfl, ?_⟩) hHeld ?_
        rotate_left
        · intro w hSw
          go_simp
          try with_reducible rfl
        try simp only [Act.put, List.setIfInBounds_toArray, List.set_cons_zero, List.set_cons_succ]
        refine wpAnyH_take (i := 3) (v := ?_) (by simp only [List.getElem?_toArray, List.getElem?_cons_zero, List.getElem?_cons_succ]; rfl) (by kernel_rfl) (by kernel_rfl) (by kernel_rfl) (fun _ _ _ h => h) (Or.inl ⟨by rfl, ?_⟩) hHeld ?_
        rotate_left
        · intro w hSw
          go_simp
          try with_reducible rfl
        try simp only [Act.put, List.setIfInBounds_toArray, List.set_cons_zero, List.set_cons_succ]
        refine wpAnyH_take (i := 5) (v := ?_) (by simp only [List.getElem?_toArray, List.getElem?_cons_zero, List.getElem?_cons_succ]; rfl) (by kernel_rfl) (by kernel_rfl) (by kernel_rfl) (fun _ _ _ h => h) (Or.inl ⟨by rfl, ?_⟩) hHeld ?_
        rotate_left
        · intro w hSw
          go_simp
          try with_reducible rfl
        try simp only [Act.put, List.setIfInBounds_toArray, List.set_cons_zero, List.set_cons_succ]
        refine wpAnyH_take (i := 6) (v := ?_) (by simp only [List.getElem?_toArray, List.getElem?_cons_zero, List.getElem?_cons_succ]; rfl) (by kernel_rfl) (by kernel_rfl) (by kernel_rfl) (fun _ _ _ h => h) (Or.inl ⟨by rfl, ?_⟩) hHeld ?_
        rotate_left
        · intro w hSw
          go_simp
          try with_reducible rfl
        try simp only [Act.put, List.setIfInBounds_toArray, List.set_cons_zero, List.set_cons_succ]
        refine wpAnyH_take (i := 7) (v := ?_) (by simp only [List.getElem?_toArray, List.getElem?_cons_zero, List.getElem?_cons_succ]; rfl) (by kernel_rfl) (by kernel_rfl) (by kernel_rfl) (fun _ _ _ h => h) (Or.inl ⟨by rfl, ?_⟩) hHeld ?_
        rotate_left
        · intro w hSw
          go_simp
          try with_reducible rfl
        try simp only [Act.put, List.setIfInBounds_toArray, List.set_cons_zero, List.set_cons_succ]
        refine wpAnyH_take (i := 8) (v := .agg (cellsB B).toArray) (by simp only [List.getElem?_toArray, List.getElem?_cons_zero, List.getElem?_cons_succ]; rfl) (by kernel_rfl) (by kernel_rfl) (by kernel_rfl) (fun _ _ _ h => h)
          (yieldsIf_load_mid (by rfl) _ _ rfl _ _ rfl _ _ (fun w hw => hw) hu42 rfl hi42) hHeld ?_
        try simp only [Act.put, List.setIfInBounds_toArray, List.set_cons_zero, List.set_cons_succ]
        refine wpAnyH_ready (rs := [4]) (by kernel_rfl) (by simp) ?_
        refine AllReadyH.cons (by simp only [List.getElem?_toArray, List.getElem?_cons_zero, List.getElem?_cons_succ]; rfl) (fun K hK => ?_) AllReadyH.nil
        rw [if_pos (by rfl)]
        refine wp_load_mid _ _ rfl _ _ rfl _ _ rH hu41 rfl hi41 ?_
        refine hK.out _ _ hHeld (fun hHeld => ?_)
        clear hK K
        try simp only [Act.put, List.setIfInBounds_toArray, List.set_cons_zero, List.set_cons_succ]
        refine wpAnyH_ready (rs := [9]) (by kernel_rfl) (by simp) ?_
        refine AllReadyH.cons (by simp only [List.getElem?_toArray, List.getElem?_cons_zero, List.getElem?_cons_succ]; rfl) (fun K hK => ?_) AllReadyH.nil
        rw [if_pos (by rfl)]
        go_simp
        refine (wafter_in g (L + M) h B _ HT.out.1 HT.out.2.2 HT.out.2.1).mono ?_
        rintro e w' ⟨h', rfl, h8', hE', hb8, rB8, rT8⟩
        go_wp2_with fail
        refine hK.out _ _ rB8 (fun hHeld => ?_)
        clear hK K
        try simp only [Act.put, List.setIfInBounds_toArray, List.set_cons_zero, List.set_cons_succ]
        refine wpAnyH_take (i := 10) (v := ?_) (by simp only [List.getElem?_toArray, List.getElem?_cons_zero, List.getElem?_cons_succ]; rfl) (by kernel_rfl) (by kernel_rfl) (by kernel_rfl) (fun _ _ _ h => h) (Or.inl ⟨by rfl, ?_⟩) hHeld ?_
        rotate_left
        · intro w hSw
          go_simp
          try with_reducible rfl
        try simp only [Act.put, List.setIfInBounds_toArray, List.set_cons_zero, List.set_cons_succ]
        refine wpAnyH_take (i := 11) (v := ?_) (by simp only [List.getElem?_toArray, List.getElem?_cons_zero, List.getElem?_cons_succ]; rfl) (by kernel_rfl) (by kernel_rfl) (by kernel_rfl) (fun _ _ _ h => h) (Or.inl ⟨by rfl, ?_⟩) hHeld ?_
        rotate_left
        · intro w hSw
          go_simp
          try with_reducible rfl
        try simp only [Act.put, List.setIfInBounds_toArray, List.set_cons_zero, List.set_cons_succ]
        refine wpAnyH_ready (rs := [12]) (by kernel_rfl) (by simp) ?_
        refine AllReadyH.cons (by simp only [List.getElem?_toArray, List.getElem?_cons_zero, List.getElem?_cons_succ]; rfl) (fun K hK => ?_) AllReadyH.nil
        rw [if_pos (by rfl)]
        refine wp_store_mid _ _ _ rfl _ _ (cellsW h').toArray rfl rfl (by rw [List.size_toArray, h8']; exact rT8) (by rw [List.size_toArray, h8']; exact Tryd.sizeState) (all_oneCell_toArray (cellsW_one _)) ?_
        refine hK.out _ _ (World.rangeAt_setCells_apart rB8 _ _ _ (.inr (.inr (by rw [h8']; exact Nat.le_refl _)))) (fun hHeld => ?_)
        clear hK K
        try simp only [Act.put, List.setIfInBounds_toArray, List.set_cons_zero, List.set_cons_succ]
        refine wpAnyH_done (by kernel_rfl) (NoPanic.normal ?_) _
        have hbw := below_of_drew hb8.out
        have HF : Hid (HAt (w'.setCells g 0 (cellsW h')) g h' B (L + M)) := HAt.words (HAt.below HHA.out hbw) (by rw [← cellsW_length]; exact h8')
        have hgF : wr.grownBy (w'.setCells g 0 (cellsW h')) (some g) := gr_trans hgw (gr_trans (gr_below hbw _) (gr_setCells _ _ _ _))
        have HTK : Hid (Took h' B (p ++ y)) := by
          obtain ⟨e1, e2, e3⟩ := HPR.out
          have := took_full (y := y) HK (by rw [e1, e3]; exact hfull)
          rw [e1, HBB.out] at this
          unfold Hid
          rw [hE'.out]
          exact this
        generalize w'.setCells g 0 (cellsW h') = wF at *
        clear rT8 rB8 hb8 hbw hE' h8' hgw
        go_wp2
        go_roundw
        case rel =>
          have := HN.out
          refine ⟨k + M, _, c' - M, by omega, by rw [show n - (k + M) = N - M by omega], by omega, HDD.out _ hgF, fun _ => HDN.out, ?_, gr_trans hg hgF⟩
          rw [HD.out]
          refine ⟨h', B, ?_, HTK.out⟩
          rw [List.length_append, HPR.out.2.1, HPR.out.2.2]
          exact HF.out
        case measure => simp only [lenS]; omega
      · have hz : ¬ ((L : Int) + (M : Int)).tmod 64 = 0 := by rw [htm]; omega
        clear htm hpr hlen hM hN hs ly
        go_wp2
        go_roundw
        case rel =>
          have := HN.out
          refine ⟨k + M, _, c' - M, by omega, by rw [show n - (k + M) = N - M by omega], by omega, HDD.out _ hgw, fun _ => HDN.out, ?_, gr_trans hg hgw⟩
          rw [HD.out]
          obtain ⟨e1, e2, e3⟩ := HPR.out
          have ht := took_part (y := y) HK (by rw [e1, e3]; omega)
          rw [e1] at ht
          refine ⟨h, blkPut blk r y, ?_, ht⟩
          rw [List.length_append, e2, e3]
          exact HHA.out
        case measure => simp only [lenS]; omega
    · obtain rfl : k = n := by omega
      have HH : Hid (Hasher wr g (l ++ x)) := by
        rw [List.take_of_length_le (by omega)] at H'
        exact H'
      clear H' R'
      rw [Nat.sub_self]
      go_wp2
      go_end0
      exact ⟨rfl, HH.out, hg⟩
end Go.Proofs.YtbpkhpkllokbhaaDoor
/- The contract of Hasher.finish: what stands behind the bytes. -/
namespace Go.Proofs.YtbpkhpkllokbhaaDoor
open Go.RowKit
set_option linter.unusedVariables false
set_option linter.unusedSimpArgs false

/-- What stands behind n bytes: 128, zeros, eight bytes of their bits' number. -/
def endL (n : Nat) : List UInt8 := [128] ++ List.replicate ((119 - n % 64) % 64) 0 ++ putL (8 * n) 8
theorem endL_length (n : Nat) : (endL n).length = 1 + (119 - n % 64) % 64 + 8 := by simp [endL, putL_length]; omega
theorem padL_end (l : List UInt8) : padL l = l ++ endL l.length := by simp [padL, endL]
theorem endL_nth (n z : Nat) (hz : (119 - n % 64) % 64 = z) (q : Nat) (hq : q < 1 + z + 8) : nth (endL n) q = if q = 0 then 128 else if q < 1 + z then 0 else putB (8 * (n : Int)) 8 (q - (1 + z)) := by
  unfold endL
  rw [hz]
  by_cases h0 : q = 0
  · subst h0; rfl
  · rw [if_neg h0]
    obtain ⟨j, rfl⟩ : ∃ j, q = j + 1 := ⟨q - 1, by omega⟩
    have e1 : nth ([128] ++ List.replicate z 0 ++ putL (8 * (n : Int)) 8) (j + 1) = nth (List.replicate z 0 ++ putL (8 * (n : Int)) 8) j := by unfold nth; simp [List.getD_eq_getElem?_getD]
    rw [e1]
    by_cases h1 : j + 1 < 1 + z
    · rw [if_pos h1]
      unfold nth
      rw [List.getD_eq_getElem?_getD, List.getElem?_append_left (by simp; omega), List.getElem?_replicate, if_pos (by omega)]
      rfl
    · rw [if_neg h1, ← nth_putL _ _ _ (by omega)]
      unfold nth
      rw [List.getD_eq_getElem?_getD, List.getD_eq_getElem?_getD, List.getElem?_append_right (by simp; omega), List.length_replicate, show j + 1 - (1 + z) = j - z by omega]
theorem put_shr (n i e : Nat) (hi : i < 8) (h : e = 8 * (7 - i)) : (n : Int) * 8 / 2 ^ e % 256 = putB (8 * (n : Int)) 8 i := by
  unfold putB
  rw [h, Int.pow_mul, Int.mul_comm, show 8 - 1 - i = 7 - i by omega]
  rfl
/-- 72 bytes 0. -/
def z72 : List UInt8 := List.replicate 72 0
theorem z72_length : (cellsB z72).length = 72 := by rw [cellsB_length]; rfl
theorem Tryd.zero72 : (Tryd.prog.info? 104).map (·.zero) = some (some (.agg (cellsB z72).toArray)) := by kernel_rfl
theorem z72_cells : (cellsB z72) = (List.range 72).map fun _ => Value.int .u8 0 := by kernel_rfl

set_option maxRecDepth 100000 in
set_option maxHeartbeats 1000000 in
theorem wfinish_any (g : Nat) (l : List UInt8) (w : World) (G : Tab w) (H : Hasher w g l) (hG : g ≠ 1) (hn : l.length ≤ 1000000000000000000) :
    Calls Tryd.prog 42 #[.pointer (some ⟨g, 0, none⟩)] w fun e w' => e = .returned (.tuple #[]) ∧ Hasher w' g (padL l) ∧ w.grownBy w' (some g) := by
  have hgl := H.block
  have hct : w.cell? ⟨g, 72, none⟩ = some (.int .i64 ((l.length : Nat) : Int)) := by
    obtain ⟨h, blk, HA, HK⟩ := H
    exact HA.2.2.1
  obtain ⟨w1, hw1⟩ : ∃ w1, w.alloc (.cells (cellsB z72).toArray 104) = w1 := ⟨_, rfl⟩
  have hO : OwnK .u8 104 w1 w.heap.size w.heap.size 72 72 (fun _ => 0) := by
    rw [← hw1]
    exact OwnK.newAt w _ _ 72 (by omega) (fun _ => 0) _ rfl z72_cells
  have hB : Below w.heap.size w w1 := by rw [← hw1]; exact (Below.refl _ _).alloc (Nat.le_refl _) _
  have HH : Hid (Hasher w g l ∧ Tab w) := ⟨H, G⟩
  have hct1 := (hB.cell (p := ⟨g, 72, none⟩) hgl).trans hct
  clear H G
  have HL : Hid (padL l = l ++ endL l.length) := padL_end l
  have HLn : Hid (l.length = l.length) := rfl
  generalize hL : l.length = L at *
  have HLL : Hid (l.length = L) := hL
  clear hL HLn
  have c0 := hO.cell 0 (by omega)
  have z0 := hO.frozen 0
  have HO : Hid (OwnK .u8 104 w1 w.heap.size w.heap.size 72 72 (fun _ => 0)) := hO
  have HB : Hid (Below w.heap.size w w1) := hB
  clear hO hB
  go_enter Tryd.func42, Tryd.ntmps42
  go_wp2_with (refine wpList_allocE (by rfl) 104 (by rfl) (cellsB z72).toArray Tryd.zero72 w.heap.size rfl w1 hw1 ?_)
  obtain ⟨z, hz⟩ : ∃ z, (119 - L % 64) % 64 = z := ⟨_, rfl⟩
  have HZ : Hid ((119 - L % 64) % 64 = z) := hz
  have hz64 : z < 64 := by omega
  clear hz
  have HO : Hid (OwnK .u8 104 (w1.setCell ⟨w.heap.size, 0, none⟩ (.int .u8 128)) w.heap.size w.heap.size 72 72 (fun q => if q = 0 then 128 else 0)) := OwnK.store HO.out 0 128
  have HB : Hid (Below w.heap.size w (w1.setCell ⟨w.heap.size, 0, none⟩ (.int .u8 128))) := Below.setCell HB.out (Nat.le_refl _) _
  have hct2 : (w1.setCell ⟨w.heap.size, 0, none⟩ (.int .u8 128)).cell? ⟨g, 72, none⟩ = some (.int .i64 (L : Int)) := (Below.cell HB.out (p := ⟨g, 72, none⟩) hgl).trans hct
  clear c0 z0 hw1
  generalize w1.setCell ⟨w.heap.size, 0, none⟩ (.int .u8 128) = w2 at *
  clear hct1 hct
  go_loopw [4] (fun v wr => ∃ n : Nat, 1 ≤ n ∧ n ≤ 1 + z ∧ v = .int .i64 (n : Int) ∧ Hid (wr = w2)) (fun v _ => 100 - (intOf v).toNat)
  case atStart => exact ⟨1, by omega, by omega, rfl, rfl⟩
  case round =>
    obtain ⟨n, hn1, hnz, rfl, HW⟩ := hrel
    obtain rfl : wr = w2 := HW.out
    clear HW
    have htm : ((L : Int) + (n : Int) + 8).tmod 64 = (((L + n + 8) % 64 : Nat) : Int) := by rw [Int.tmod_eq_emod_of_nonneg (by omega)]; omega
    have hzz := HZ.out
    by_cases hend : n = 1 + z
    · have hz : ((L : Int) + (n : Int) + 8).tmod 64 = 0 := by rw [htm]; omega
      clear htm hzz
      have HNZ : Hid (n = 1 + z) := hend
      have hn64 : n ≤ 64 := by omega
      clear hend
      go_wp2_with fail
      go_loopw [24] (fun i wx => ∃ t : Nat, t ≤ 8 ∧ i = .int .i64 (t : Int) ∧ OwnK .u8 104 wx w.heap.size w.heap.size 72 72 (fun q => if q = 0 then 128 else if q < n then 0 else if q < n + t then putB (8 * (L : Int)) 8 (q - n) else 0) ∧ Below w.heap.size w wx) (fun i _ => 8 - (intOf i).toNat)
      case atStart =>
        refine ⟨0, Nat.zero_le _, rfl, OwnK.congr HO.out fun q hq => ?_, HB.out⟩
        by_cases h0 : q = 0
        · rw [if_pos h0, if_pos h0]
        · rw [if_neg h0, if_neg h0]
          by_cases h1 : q < n
          · rw [if_pos h1]
          · rw [if_neg h1, if_neg (by omega)]
      case round =>
        clear hct2 HO HB hz
        obtain ⟨t, ht, rfl, hO, hB⟩ := hrel
        by_cases hlt : t < 8
        · have c0 := hO.cell (n + t) (by omega)
          have z0 := hO.frozen (n + t)
          have HO : Hid (OwnK .u8 104 wr w.heap.size w.heap.size 72 72 (fun q => if q = 0 then 128 else if q < n then 0 else if q < n + t then putB (8 * (L : Int)) 8 (q - n) else 0)) := hO
          clear hO
          rw [if_neg (by omega), if_neg (by omega), if_neg (by omega)] at c0
          go_wp2
          go_roundw
          case rel =>
            refine ⟨t + 1, by omega, by go_num, (OwnK.store HO.out (n + t) _).congr fun q hq => ?_, Below.setCell hB (Nat.le_refl _) _⟩
            by_cases hqt : q = n + t
            · subst hqt
              rw [if_pos rfl, if_neg (by omega), if_neg (by omega), if_pos (by omega), Nat.add_sub_cancel_left]
              exact put_shr L t _ hlt rfl
            · rw [if_neg hqt]
              by_cases h0 : q = 0
              · rw [if_pos h0, if_pos h0]
              · rw [if_neg h0, if_neg h0]
                by_cases h1 : q < n
                · rw [if_pos h1, if_pos h1]
                · rw [if_neg h1, if_neg h1]
                  by_cases h2 : q < n + t
                  · rw [if_pos h2, if_pos (by omega)]
                  · rw [if_neg h2, if_neg (by omega)]
          case measure => simp [intOf]; omega
        · obtain rfl : t = 8 := by omega
          have HR : Hid (Row wr (some ⟨w.heap.size, 0, none⟩) (n + 8) (endL L)) := by
            have hlen : (endL L).length = n + 8 := by rw [endL_length, HZ.out, HNZ.out]
            refine ⟨hlen, .inr ⟨w.heap.size, 0, rfl, fun i hi => ?_⟩⟩
            rw [Nat.zero_add, hO.cell i (by omega), endL_nth L z HZ.out i (by have := HNZ.out; omega), ← HNZ.out]
            by_cases h0 : i = 0
            · rw [if_pos h0, if_pos h0]
            · rw [if_neg h0, if_neg h0]
              by_cases h1 : i < n
              · rw [if_pos h1, if_pos h1]
              · rw [if_neg h1, if_neg h1, if_pos hi]
          have hB' : Hid (Below w.heap.size w wr) := hB
          clear hO hB
          have hs1 : (0 : Int) ≤ (n : Int) + 8 := by omega
          have hs2 : (n : Int) + 8 ≤ 72 := by omega
          go_wp2_with fail
          refine (wwrite_any g l _ _ 72 (endL L) wr (HH.out.2.below hB'.out) (HH.out.1.below hB'.out) HR.out (by omega) (fun _ ad h => by cases h; show w.heap.size ≠ g; omega) hG (by have := HLL.out; omega)).mono ?_
          rintro e w5 ⟨rfl, H5, hg5⟩
          have H5 : Hid (Hasher w5 g (padL l)) := by
            unfold Hid
            rw [HL.out]
            exact H5
          have hg6 := gr_trans (gr_below hB'.out (some g)) hg5
          go_wp2
          go_end0
          exact ⟨rfl, H5.out, hg6⟩
    · have hz : ¬ ((L : Int) + (n : Int) + 8).tmod 64 = 0 := by rw [htm]; omega
      have hz' : ¬ ((L : Int) + (n : Int) + 8) % 64 = 0 := by omega
      clear htm hzz
      go_wp2
      go_roundw
      case rel => exact ⟨n + 1, by omega, by omega, by go_num, by first | exact True.intro | exact rfl⟩
      case measure => simp [intOf]; omega
end Go.Proofs.YtbpkhpkllokbhaaDoor
