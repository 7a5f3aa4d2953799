/- Texts of this claim, joined: Wkmac, Wmac, Wcstep, Knots. -/
import Derived.Test.YtghiniaijobonaaDoorJ21
import Derived.Test.YtghiniaijobonaaDoorYPairs
import Derived.Deep.AppendLies
import Derived.Deep.RegionHeld3
import Derived.StillTailTactics
import Derived.Test.YtghiniaijobonaaDoorJ04
import Derived.Test.YtghiniaijobonaaDoorJ20
import Derived.Test.YtghiniaijobonaaDoorJ16
import Derived.Test.YtghiniaijobonaaDoorJ15
/- The contract of block.mac: the digest of pieces with the block's key. -/
namespace Go.Proofs.YtghiniaijobonaaDoor
open Go.RowKit
set_option linter.unusedVariables false
set_option linter.unusedSimpArgs false

theorem Tryd.infoS8 : (Tryd.prog.info? 33).map (fun i => (i.zero, i.size, i.bytes)) = some (some (.slice none 0 0), 1, 24) := by kernel_rfl
/-- A literal of one slice, and slices behind it. -/
theorem wpList_append_rows {w : World} {ops : Array Oper} {rest : List Oper} {o : Oper} {a : Act} {Q : Exit → Act → World → Prop} (hgd : o.guard = none) (s x : Operand)
    (ho : o.op = .call { callee := .builtin .append, args := #[s, x], argTypes := #[24, 24] })
    (a0 : Option Addr) (n0 c0 : Nat) (l0 : List UInt8) (R0 : Row w a0 n0 l0) (h0 : n0 ≤ c0) (H : Nat) (hH : w.heap.size = H) (hs : a.eval s = .slice (some ⟨H, 0, none⟩) 1 1)
    (ad : Option Addr) (n c : Nat) (ls : List (List UInt8)) (hx : a.eval x = .slice ad n c) (R : BRows w ad n ls) (hn0 : 0 < n) (hn : n ≤ 1000)
    (h : ∀ g cap w', BRows w' (some ⟨g, 0, none⟩) (1 + n) (l0 :: ls) → Below w.heap.size w w' → wpList Tryd.prog ops Q rest (a.put o.dst (.slice (some ⟨g, 0, none⟩) (1 + n) cap)) w') :
    wpList Tryd.prog ops Q (o :: rest) a (w.alloc (.cells #[.slice a0 n0 c0] 33)) := by
  obtain ⟨i0, hi, hz0, hz1, hz2⟩ := info_parts Tryd.infoS8
  subst hH
  obtain ⟨hl, hR⟩ := R
  rcases hR with h1 | ⟨b, off, rfl, hcells⟩
  · omega
  have hb0 : Below w.heap.size w (w.alloc (.cells #[.slice a0 n0 c0] 33)) := (Below.refl _ _).alloc (Nat.le_refl _) _
  have each : ∀ i, i < n → (w.alloc (.cells #[.slice a0 n0 c0] 33)).cell? ⟨b, off + i, none⟩ = some ((w.cell? ⟨b, off + i, none⟩).getD undef) ∧ ((w.cell? ⟨b, off + i, none⟩).getD undef).oneCell' = true := by
    intro i hi
    obtain ⟨ai, ni, ci, e1, e2, e3⟩ := hcells i hi
    rw [hb0.cell (p := ⟨b, off + i, none⟩) (cell_block e1), e1]
    exact ⟨rfl, rfl⟩
  refine wpList_append_lies _ hgd s x 24 ho w.heap.size 33 i0 (.slice none 0 0) 1 24 Tryd.underlying24 hi hz0 hz1 hz2 rfl (by omega) (.slice (some ⟨w.heap.size, 0, none⟩) 1 1) 1 [.slice a0 n0 c0] hs
    (World.ownsRow_lit w #[.slice a0 n0 c0] 1 (Nat.le_refl _) (by unfold maxLen; omega) rfl) ⟨b, off, none⟩ n c ((List.range n).map fun i => (w.cell? ⟨b, off + i, none⟩).getD undef) hx (by simp) ?_ ?_ hn0 (by unfold maxLen; omega) (by omega) (by simp) (w.heap.size + 1) (by simp) ?_
  · intro j u hj
    have hj' : j < n := by have := (List.getElem?_eq_some_iff.1 hj).1; simpa using this
    rw [Go.WideShapes.add_plain, (each j hj').1]
    simp [hj'] at hj
    rw [hj]
  · intro u hu
    obtain ⟨i, hi, rfl⟩ := List.mem_map.1 hu
    exact (each i (List.mem_range.1 hi)).2
  · intro g cap w' hown hgr hat hlt
    have hb1 : Below w.heap.size w w' := hb0.grown hgr (by simp) (fun k hk => by simp [Value.ownBlock] at hk; omega)
    refine h g cap w' ⟨by simp [hl]; omega, .inr ⟨g, 0, rfl, fun i hi => ?_⟩⟩ hb1
    have hc := World.ownsRow.cellAt hown i (by omega)
    rw [Nat.zero_add]
    cases i with
    | zero => exact ⟨a0, n0, c0, hc, h0, R0.below hb1⟩
    | succ i =>
      obtain ⟨ai, ni, ci, e1, e2, e3⟩ := hcells i (by omega)
      refine ⟨ai, ni, ci, ?_, e2, by simpa using e3.below hb1⟩
      rw [hc]
      have hi' : i < n := by omega
      simp [hi', e1]

/-- A new variable's place, where it is there. -/
def ptrO : Option Nat → Value
  | none => undef
  | some g => .pointer (some ⟨g, 0, none⟩)
def val1 (v : Value) : Nat → Value
  | 0 => undef
  | _ + 1 => v
def val2 (v : Value) : Nat → Value
  | 0 => undef
  | 1 => undef
  | _ + 2 => v
/-- The frame of mac in its first region. -/
abbrev kmacAct (k s : Value) (g : Nat) (v5 v6 v9 v11 : Value) : Act :=
  { tmps := #[k, s, .pointer (some ⟨g, 0, none⟩), undef, .pointer (some ⟨g + 1, 0, none⟩), v5, v6, undef, k, v9, k, v11, undef, undef, undef, undef, undef, undef, undef, undef, undef], defers := [] }

set_option maxRecDepth 100000 in
set_option maxHeartbeats 1000000 in
theorem wkmac_any (kk : List UInt8) (a : Option Addr) (n c : Nat) (ls : List (List UInt8)) (w : World) (G : Tab w) (h64 : kk.length = 64) (R : BRows w a n ls) (hn0 : 0 < n) (hn : n ≤ 1000) (hl : ls.flatten.length ≤ 100000000000000000) :
    Calls Tryd.prog 51 #[.agg (cellsB kk).toArray, .slice a n c] w fun e w' => e = .returned (digestV (shaL (padX kk 92 64 ++ shaL (padX kk 54 64 ++ ls.flatten)))) ∧ Below w.heap.size w w' := by
  obtain ⟨w2, hw2⟩ : ∃ w2, (w.alloc (.cells (cellsB kk).toArray 99)).alloc (.cells (cellsB z32).toArray 23) = w2 := ⟨_, rfl⟩
  have hs1 : (w.alloc (.cells (cellsB kk).toArray 99)).heap.size = w.heap.size + 1 := by simp
  have hs2 : w2.heap.size = w.heap.size + 2 := by rw [← hw2]; simp
  have HR2 : Hid (w2.rangeAt w.heap.size 0 (cellsB kk)) := by rw [← hw2]; exact World.rangeAt_alloc (box_range w (cellsB kk) _) _
  have HT2 : Hid (w2.there (w.heap.size + 1) 0 32) := by rw [← hw2]; exact alloc_thereAt _ _ _ 32 _ hs1 z32_size.symm
  have HB2 : Hid (Below w.heap.size w w2) := by rw [← hw2]; exact ((Below.refl _ _).alloc (Nat.le_refl _) _).alloc (by simp) _
  have HG : Hid (Tab w2 ∧ BRows w2 a n ls) := ⟨G.below HB2.out, R.below HB2.out⟩
  have hln := R.1
  have hp1 := padX_length kk 54 64
  have hp2 := padX_length kk 92 64
  clear G R
  go_enter Tryd.func51, Tryd.ntmps51
  go_wp2_with (refine wpList_allocE (by rfl) 23 (by rfl) (cellsB z32).toArray Tryd.zeroDigest (w.heap.size + 1) hs1 w2 hw2 ?_)
  clear hw2 hs1
  refine wp_region_noPanic ?_
  refine wp_region_held_drew (S := fun w' => w'.rangeAt w.heap.size 0 (cellsB kk)) (by kernel_rfl) HR2.out (fun hHeld => ?_)
  try simp only [Act.put, List.setIfInBounds_toArray, List.set_cons_zero, List.set_cons_succ]
  refine wpAnyH_take (i := 0) (v := .agg (cellsB kk).toArray) (by simp only [List.getElem?_toArray, List.getElem?_cons_zero, List.getElem?_cons_succ]; rfl) (by kernel_rfl) (by kernel_rfl) (by kernel_rfl) (fun _ _ _ h => h)
    (yieldsIf_load_mid (by rfl) _ _ rfl _ _ rfl _ _ (fun w hw => hw) Tryd.underlying99 rfl (by rw [cellsB_length, h64]; exact Tryd.sizeKblock)) hHeld ?_
  try simp only [Act.put, List.setIfInBounds_toArray, List.set_cons_zero, List.set_cons_succ]
  refine wpAnyH_take (i := 2) (v := .agg (cellsB kk).toArray) (by simp only [List.getElem?_toArray, List.getElem?_cons_zero, List.getElem?_cons_succ]; rfl) (by kernel_rfl) (by kernel_rfl) (by kernel_rfl) (fun _ _ _ h => h)
    (yieldsIf_load_mid (by rfl) _ _ rfl _ _ rfl _ _ (fun w hw => hw) Tryd.underlying99 rfl (by rw [cellsB_length, h64]; exact Tryd.sizeKblock)) hHeld ?_
  try simp only [Act.put, List.setIfInBounds_toArray, List.set_cons_zero, List.set_cons_succ]
  refine pairs_any (fun c' p q => kmacAct (.agg (cellsB kk).toArray) (.slice a n c) w.heap.size (ptrO p) (ptrO q) (val1 (.agg (cellsB (padX kk 54 64)).toArray) c') (val2 (.agg (cellsB (padX kk 92 64)).toArray) c'))
    (fun wx p q => Below w2.heap.size w2 wx ∧ (∀ g, p = some g → w2.heap.size ≤ g ∧ g < wx.heap.size ∧ wx.there g 0 64) ∧ (∀ g, q = some g → w2.heap.size ≤ g ∧ g < wx.heap.size ∧ wx.there g 0 64) ∧ (∀ g g', p = some g → q = some g' → g ≠ g'))
    ?hr ?hS ?s1 ?s3 ?s4 ?s5 ?fin 4 0 none none _ rfl (by omega) ?m0
  case hr =>
    intro c' p q hc' hne
    have : c' = 0 ∨ c' = 1 ∨ c' = 2 := by omega
    rcases this with rfl | rfl | rfl <;> cases p <;> cases q <;> first | exact absurd rfl hne | (clear hne; refine Eq.trans (b := _) (by kernel_rfl) rfl)
  case hS => exact fun wx p q hM => range_below HR2.out hM.1 (by omega)
  case m0 => exact ⟨below_drewN w2 1, (fun g hg => by cases hg), (fun g hg => by cases hg), (fun g g' hg => by cases hg)⟩
  case s1 =>
    intro p q wx K hM hK
    have HK : Hid (∀ w', _ → K _ w') := hK
    clear hK
    refine wpOp_step (by simp only [List.getElem?_toArray, List.getElem?_cons_zero, List.getElem?_cons_succ]; rfl) (fun K' hK' => ?_)
    have HK' : Hid (∀ a w, K a w → K' a w) := hK'
    clear hK'
    rw [if_pos (by rfl)]
    show Oper.wp _ _ (kmacAct _ _ _ (ptrO p) (ptrO q) undef undef) _ _ _
    go_simp
    refine (wunlike_any kk 54 54 rfl wx h64).mono ?_
    rintro e w' ⟨rfl, hb⟩
    go_wp2_with fail
    refine HK'.out _ _ (HK.out w' ?_)
    obtain ⟨m1, m2, m3, m4⟩ := hM
    exact ⟨m1.trans (hb.mono m1.size), fun g hg => ⟨(m2 g hg).1, Nat.lt_of_lt_of_le (m2 g hg).2.1 hb.size, there_below (m2 g hg).2.2 hb (m2 g hg).2.1⟩, fun g hg => ⟨(m3 g hg).1, Nat.lt_of_lt_of_le (m3 g hg).2.1 hb.size, there_below (m3 g hg).2.2 hb (m3 g hg).2.1⟩, m4⟩
  case s3 =>
    intro p q wx K hM hK
    have HK : Hid (∀ w', _ → K _ w') := hK
    clear hK
    refine wpOp_step (by simp only [List.getElem?_toArray, List.getElem?_cons_zero, List.getElem?_cons_succ]; rfl) (fun K' hK' => ?_)
    have HK' : Hid (∀ a w, K a w → K' a w) := hK'
    clear hK'
    rw [if_pos (by rfl)]
    show Oper.wp _ _ (kmacAct _ _ _ (ptrO p) (ptrO q) _ undef) _ _ _
    go_simp
    refine (wunlike_any kk 92 92 rfl wx h64).mono ?_
    rintro e w' ⟨rfl, hb⟩
    go_wp2_with fail
    refine HK'.out _ _ (HK.out w' ?_)
    obtain ⟨m1, m2, m3, m4⟩ := hM
    exact ⟨m1.trans (hb.mono m1.size), fun g hg => ⟨(m2 g hg).1, Nat.lt_of_lt_of_le (m2 g hg).2.1 hb.size, there_below (m2 g hg).2.2 hb (m2 g hg).2.1⟩, fun g hg => ⟨(m3 g hg).1, Nat.lt_of_lt_of_le (m3 g hg).2.1 hb.size, there_below (m3 g hg).2.2 hb (m3 g hg).2.1⟩, m4⟩
  case s4 =>
    intro c' q wx K hM hK
    refine wpOp_step (by simp only [List.getElem?_toArray, List.getElem?_cons_zero, List.getElem?_cons_succ]; rfl) (fun K' hK' => ?_)
    rw [if_pos (by rfl)]
    refine wp_allocE 99 (by rfl) (cellsB z64).toArray Tryd.zeroKblock ?_
    refine hK' _ _ (hK wx.heap.size _ ?_)
    obtain ⟨m1, m2, m3, m4⟩ := hM
    have hb : Below wx.heap.size wx (wx.alloc (.cells (cellsB z64).toArray 99)) := (Below.refl _ _).alloc (Nat.le_refl _) _
    refine ⟨m1.trans (hb.mono m1.size), fun g hg => ?_, fun g hg => ⟨(m3 g hg).1, Nat.lt_of_lt_of_le (m3 g hg).2.1 hb.size, there_below (m3 g hg).2.2 hb (m3 g hg).2.1⟩, fun g g' hg hg' => ?_⟩
    · cases hg
      exact ⟨m1.size, by simp, alloc_thereAt _ _ _ 64 _ rfl z64_size.symm⟩
    · cases hg
      have := (m3 g' hg').2.1
      omega
  case s5 =>
    intro c' p wx K hM hK
    refine wpOp_step (by simp only [List.getElem?_toArray, List.getElem?_cons_zero, List.getElem?_cons_succ]; rfl) (fun K' hK' => ?_)
    rw [if_pos (by rfl)]
    refine wp_allocE 99 (by rfl) (cellsB z64).toArray Tryd.zeroKblock ?_
    refine hK' _ _ (hK wx.heap.size _ ?_)
    obtain ⟨m1, m2, m3, m4⟩ := hM
    have hb : Below wx.heap.size wx (wx.alloc (.cells (cellsB z64).toArray 99)) := (Below.refl _ _).alloc (Nat.le_refl _) _
    refine ⟨m1.trans (hb.mono m1.size), fun g hg => ⟨(m2 g hg).1, Nat.lt_of_lt_of_le (m2 g hg).2.1 hb.size, there_below (m2 g hg).2.2 hb (m2 g hg).2.1⟩, fun g hg => ?_, fun g g' hg hg' => ?_⟩
    · cases hg
      exact ⟨m1.size, by simp, alloc_thereAt _ _ _ 64 _ rfl z64_size.symm⟩
    · cases hg'
      have := (m2 g hg).2.1
      omega
  case fin =>
    generalize hD1 : padX kk 54 64 = D1 at *
    generalize hD2 : padX kk 92 64 = D2 at *
    have HDE : Hid (padX kk 54 64 = D1 ∧ padX kk 92 64 = D2) := ⟨hD1, hD2⟩
    clear hD1 hD2
    intro g5 g6 wq hM
    obtain ⟨m1, m2, m3, m4⟩ := hM
    obtain ⟨g5l, g5s, g5t⟩ := m2 g5 rfl
    obtain ⟨g6l, g6s, g6t⟩ := m3 g6 rfl
    have gne : g5 ≠ g6 := m4 g5 g6 rfl rfl
    clear m2 m3 m4
    refine wpAnyH_ready (rs := [6]) (by kernel_rfl) (by simp) ?_
    refine AllReadyH.cons (by simp only [List.getElem?_toArray, List.getElem?_cons_zero, List.getElem?_cons_succ]; rfl) (fun K hK => ?_) AllReadyH.nil
    rw [if_pos (by rfl)]
    refine wp_store_mid _ _ _ rfl g5 0 (cellsB D1).toArray rfl rfl (by rw [cellsB_size, hp1]; exact g5t) (by rw [cellsB_size, hp1]; exact Tryd.sizeKblock) (all_oneCell_toArray (cellsB_one _)) ?_
    refine hK.out _ _ (World.rangeAt_setCells_apart (range_below HR2.out m1 (by omega)) _ _ _ (.inl (by omega))) (fun hHeld => ?_)
    clear hK K
    try simp only [Act.put, List.setIfInBounds_toArray, List.set_cons_zero, List.set_cons_succ]
    refine wpAnyH_ready (rs := [7]) (by kernel_rfl) (by simp) ?_
    refine AllReadyH.cons (by simp only [List.getElem?_toArray, List.getElem?_cons_zero, List.getElem?_cons_succ]; rfl) (fun K hK => ?_) AllReadyH.nil
    rw [if_pos (by rfl)]
    refine wp_store_mid _ _ _ rfl g6 0 (cellsB D2).toArray rfl rfl (by rw [cellsB_size, hp2]; exact World.there_setCells g6t _ _ _) (by rw [cellsB_size, hp2]; exact Tryd.sizeKblock) (all_oneCell_toArray (cellsB_one _)) ?_
    refine hK.out _ _ (World.rangeAt_setCells_apart hHeld _ _ _ (.inl (by omega))) (fun hHeld => ?_)
    clear hK K
    try simp only [Act.put, List.setIfInBounds_toArray, List.set_cons_zero, List.set_cons_succ]
    refine wpAnyH_done (by kernel_rfl) (NoPanic.normal ?_) _
    have HD5 : Hid (Row ((wq.setCells g5 0 (cellsB D1)).setCells g6 0 (cellsB D2)) (some ⟨g5, 0, none⟩) 64 D1) := by
      have : DAt ((wq.setCells g5 0 (cellsB D1)).setCells g6 0 (cellsB D2)) g5 0 D1 :=
        World.rangeAt_setCells_apart (World.rangeAt_setCells_same _ _ _ _ (by rw [cellsB_length, hp1]; exact g5t)) _ _ _ (.inl gne)
      exact ⟨hp1, .inr ⟨g5, 0, rfl, fun i hi => this.cell i (by omega)⟩⟩
    have HD6 : Hid (Row ((wq.setCells g5 0 (cellsB D1)).setCells g6 0 (cellsB D2)) (some ⟨g6, 0, none⟩) 64 D2) := by
      have : DAt ((wq.setCells g5 0 (cellsB D1)).setCells g6 0 (cellsB D2)) g6 0 D2 :=
        World.rangeAt_setCells_same _ _ _ _ (by rw [cellsB_length, hp2]; exact World.there_setCells g6t _ _ _)
      exact ⟨hp2, .inr ⟨g6, 0, rfl, fun i hi => this.cell i (by omega)⟩⟩
    have HB5 : Hid (Below w2.heap.size w2 ((wq.setCells g5 0 (cellsB D1)).setCells g6 0 (cellsB D2))) := below_setCells _ g6l _ _ _ (below_setCells _ g5l _ _ _ m1)
    clear hHeld g5t g6t m1 g5s g6s gne HR2
    generalize (wq.setCells g5 0 (cellsB D1)).setCells g6 0 (cellsB D2) = w5 at *
    simp only [kmacAct, ptrO, val1, val2]
    have HBR : Hid (BRows w5 a n ls) := BRows.below HG.out.2 HB5.out
    go_wp2_with (at_builtin; refine wpList_append_rows (by rfl) (.tmp 13) (.tmp 14) (by rfl) (some ⟨g5, 0, none⟩) 64 64 D1 HD5.out (by omega) w5.heap.size rfl (by rfl) a n c ls (by rfl) HBR.out hn0 hn ?_; intro g7 c7 w7 hR7 hb7)
    have HB7 : Hid (Below w2.heap.size w2 w7) := HB5.out.trans (hb7.mono HB5.out.size)
    have HR7 : Hid (BRows w7 (some ⟨g7, 0, none⟩) (1 + n) (D1 :: ls)) := hR7
    have HD7 : Hid (Row w7 (some ⟨g6, 0, none⟩) 64 D2) := Row.below HD6.out hb7
    have hfl : (D1 :: ls).flatten = D1 ++ ls.flatten := by simp
    have hfn : (D1 :: ls).flatten.length ≤ 1000000000000000000 := by rw [hfl, List.length_append]; omega
    clear hR7 hb7 HB5 HD5 HD6 HBR
    refine (wsumof_any _ (1 + n) c7 (D1 :: ls) w7 (HG.out.1.below HB7.out) HR7.out hfn (by omega)).mono ?_
    rintro e w8 ⟨rfl, hb8⟩
    rw [hfl]
    clear hfl hfn
    have hlen := shaL_length (D1 ++ ls.flatten)
    have HB8 : Hid (Below w2.heap.size w2 w8) := HB7.out.trans (hb8.mono HB7.out.size)
    have HD8 : Hid (Row w8 (some ⟨g6, 0, none⟩) 64 D2) := Row.below HD7.out hb8
    clear hb8 HB7 HR7 HD7
    generalize hD : shaL (D1 ++ ls.flatten) = D at *
    have HD : Hid (shaL (D1 ++ ls.flatten) = D) := hD
    clear hD
    obtain ⟨w9, hw9⟩ : ∃ w9, w8.alloc (.cells (cellsB z32).toArray 23) = w9 := ⟨_, rfl⟩
    have ht9 : Hid (w9.there w8.heap.size 0 32) := by rw [← hw9]; exact alloc_thereAt _ _ _ 32 _ rfl z32_size.symm
    have hb9 : Below w8.heap.size w8 (w9.setCells w8.heap.size 0 (cellsB D)) := by rw [← hw9]; exact new_stored _ _ _
    have HB9 : Hid (Below w2.heap.size w2 (w9.setCells w8.heap.size 0 (cellsB D))) := HB8.out.trans (hb9.mono HB8.out.size)
    have HD9 : Hid (Row (w9.setCells w8.heap.size 0 (cellsB D)) (some ⟨g6, 0, none⟩) 64 D2) := Row.below HD8.out hb9
    have HE9 : Hid (Row (w9.setCells w8.heap.size 0 (cellsB D)) (some ⟨w8.heap.size, 0, none⟩) 32 D) := (dat_stored ht9.out hlen).row hlen
    clear hb9 HB8 HD8
    go_wp2_with (first
      | (refine wpList_allocE (by rfl) 23 (by rfl) (cellsB z32).toArray Tryd.zeroDigest w8.heap.size rfl w9 hw9 ?_)
      | (refine wpList_store_mid (by rfl) 23 (.tmp 7) (.tmp 16) (by rfl) w8.heap.size 0 (cellsB D).toArray (by rfl) (by rfl) (by rw [cellsB_size, hlen]; exact ht9.out) (by rw [cellsB_size, hlen]; exact Tryd.sizeDigest) (all_oneCell_toArray (cellsB_one _)) ?_))
    clear ht9 hw9
    generalize w9.setCells w8.heap.size 0 (cellsB D) = wA at *
    generalize w8.heap.size = g8 at *
    simp only [Act.put, List.setIfInBounds_toArray, List.set_cons_zero, List.set_cons_succ]
    go_still_tail 2, (by kernel_rfl)
    have HBd : Hid (Below w2.heap.size w2 wA.drew) := HB9.out.drew
    have HDd : Hid (Row wA.drew (some ⟨g6, 0, none⟩) 64 D2) := Row.below HD9.out (below_drewN wA 1)
    have HEd : Hid (Row wA.drew (some ⟨g8, 0, none⟩) 32 D) := Row.below HE9.out (below_drewN wA 1)
    clear HB9 HD9 HE9
    change wpList _ _ _ _ _ wA.drew
    generalize wA.drew = wB at *
    have HRB : Hid (BRows (wB.alloc (.cells #[.slice (some ⟨g6, 0, none⟩) 64 64, .slice (some ⟨g8, 0, none⟩) 32 32] 33)) (some ⟨wB.heap.size, 0, none⟩) 2 [D2, D]) := BRows.lit2 (by omega) HDd.out (by omega) HEd.out
    have HBB : Hid (Below w2.heap.size w2 (wB.alloc (.cells #[.slice (some ⟨g6, 0, none⟩) 64 64, .slice (some ⟨g8, 0, none⟩) 32 32] 33))) := Below.alloc HBd.out HBd.out.size _
    go_wp2_with fail
    refine (wsumof_any _ 2 2 [D2, D] _ (HG.out.1.below HBB.out) HRB.out (by simp; omega) (by omega)).mono ?_
    rintro e wC ⟨rfl, hbC⟩
    have hfl : [D2, D].flatten = D2 ++ D := by simp
    rw [hfl]
    clear hfl
    have HBC : Hid (Below w2.heap.size w2 wC) := HBB.out.trans (hbC.mono HBB.out.size)
    have HTC : Hid (wC.there (w.heap.size + 1) 0 32) := there_below HT2.out HBC.out (by omega)
    have hlE := shaL_length (D2 ++ D)
    clear hbC HRB HBB HBd HDd HEd
    generalize hE : shaL (D2 ++ D) = E at *
    have HE : Hid (shaL (D2 ++ D) = E) := hE
    clear hE
    go_wp2_with (refine wpList_store_mid (by rfl) 23 (.tmp 4) (.tmp 20) (by rfl) (w.heap.size + 1) 0 (cellsB E).toArray (by rfl) (by rfl) (by rw [cellsB_size, hlE]; exact HTC.out) (by rw [cellsB_size, hlE]; exact Tryd.sizeDigest) (all_oneCell_toArray (cellsB_one _)) ?_)
    refine bodyPost_ret (v := digestV E) (run_results_row Tryd.results51 _ _ (w.heap.size + 1) 0 (by rfl) (cellsB E) (World.rangeAt_setCells_same _ _ _ _ (by rw [cellsB_length, hlE]; exact HTC.out)) _ Tryd.underlying23 (by rfl) (by rw [cellsB_length, hlE]; exact Tryd.sizeDigest)) rfl ⟨?_, ?_⟩
    · rw [HDE.out.1, HDE.out.2, HD.out, HE.out]
    · exact below_setCells _ (by omega) _ _ _ (HB2.out.trans (HBC.out.mono (by omega)))
end Go.Proofs.YtghiniaijobonaaDoor
/- The contract of mac.Mac: the digest of bytes with a key. -/
namespace Go.Proofs.YtghiniaijobonaaDoor
open Go.RowKit
set_option linter.unusedVariables false
set_option linter.unusedSimpArgs false

theorem macL_kblk (key b : List UInt8) : shaL (padX (kblk key) 92 64 ++ shaL (padX (kblk key) 54 64 ++ b)) = macL key b := by
  rw [padX_kblk, padX_kblk]
  rfl

set_option maxRecDepth 100000 in
set_option maxHeartbeats 1000000 in
theorem wmac_any (a1 : Option Addr) (n1 c1 : Nat) (key : List UInt8) (a2 : Option Addr) (n2 c2 : Nat) (b : List UInt8) (w : World) (G : Tab w) (R1 : Row w a1 n1 key) (R2 : Row w a2 n2 b) (hc1 : n1 ≤ c1) (hc2 : n2 ≤ c2) (h1 : n1 ≤ 100000000000000000) (h2 : n2 ≤ 100000000000000000) :
    Calls Tryd.prog 34 #[.slice a1 n1 c1, .slice a2 n2 c2] w fun e w' => e = .returned (digestV (macL key b)) ∧ Below w.heap.size w w' := by
  obtain ⟨w1, hw1⟩ : ∃ w1, w.alloc (.cells (cellsB z32).toArray 23) = w1 := ⟨_, rfl⟩
  have hs1 : w1.heap.size = w.heap.size + 1 := by rw [← hw1]; simp
  have hb1 : Below w.heap.size w w1 := by rw [← hw1]; exact (Below.refl _ _).alloc (Nat.le_refl _) _
  have ht1 : Hid (w1.there w.heap.size 0 32) := by rw [← hw1]; exact alloc_thereAt _ _ _ 32 _ rfl z32_size.symm
  have HG : Hid (Tab w1 ∧ Row w1 a1 n1 key ∧ Row w1 a2 n2 b) := ⟨G.below hb1, R1.below hb1, R2.below hb1⟩
  have hln := R2.1
  clear G R1 R2
  go_enter Tryd.func34, Tryd.ntmps34
  go_wp2_with (refine wpList_allocE (by rfl) 23 (by rfl) (cellsB z32).toArray Tryd.zeroDigest w.heap.size rfl w1 hw1 ?_)
  refine (wblockof_any _ _ _ key _ HG.out.1 HG.out.2.1 hc1 (by omega)).mono ?_
  rintro e w2 ⟨rfl, hb2⟩
  have hb3 : Below w2.heap.size w2 (w2.alloc (.cells #[.slice a2 n2 c2] 33)) := (Below.refl _ _).alloc (Nat.le_refl _) _
  have HR3 : Hid (BRows (w2.alloc (.cells #[.slice a2 n2 c2] 33)) (some ⟨w2.heap.size, 0, none⟩) 1 [b]) := BRows.lit1 hc2 (HG.out.2.2.below hb2)
  have HB3 : Hid (Below w.heap.size w (w2.alloc (.cells #[.slice a2 n2 c2] 33))) := below_trans hb1 (below_trans hb2 hb3)
  have HT3 : Hid ((w2.alloc (.cells #[.slice a2 n2 c2] 33)).there w.heap.size 0 32) := there_below ht1.out (below_trans hb2 hb3) (by omega)
  have HG3 : Hid (Tab (w2.alloc (.cells #[.slice a2 n2 c2] 33))) := HG.out.1.below (below_trans hb2 hb3)
  have hk := kblk_length key
  have HM : Hid (shaL (padX (kblk key) 92 64 ++ shaL (padX (kblk key) 54 64 ++ [b].flatten)) = macL key b) := by
    unfold Hid
    rw [show [b].flatten = b by simp]
    exact macL_kblk key b
  have hfl : [b].flatten.length ≤ 100000000000000000 := by simp; omega
  have hs2 : w.heap.size < w2.heap.size := by have := hb2.size; omega
  clear hb3 hb2 ht1 hb1 hw1 HG hs1
  generalize kblk key = kk at *
  go_wp2_with fail
  refine (wkmac_any kk _ 1 1 [b] _ HG3.out hk HR3.out (by omega) (by omega) hfl).mono ?_
  rintro e w4 ⟨rfl, hb4⟩
  rw [HM.out]
  have HB4 : Hid (Below w.heap.size w w4) := below_trans HB3.out hb4
  have HT4 : Hid (w4.there w.heap.size 0 32) := there_below HT3.out hb4 (by simp; omega)
  have hlen := macL_length key b
  clear hb4 HB3 HT3 HR3 HG3 HM hfl
  generalize hD : macL key b = D at *
  have HD : Hid (macL key b = D) := hD
  clear hD
  go_wp2_with (refine wpList_store_mid (by rfl) 23 (.tmp 4) (.tmp 9) (by rfl) w.heap.size 0 (cellsB D).toArray (by rfl) (by rfl) (by rw [cellsB_size, hlen]; exact HT4.out) (by rw [cellsB_size, hlen]; exact Tryd.sizeDigest) (all_oneCell_toArray (cellsB_one _)) ?_)
  refine bodyPost_ret (v := digestV D) (run_results_row Tryd.results34 _ _ w.heap.size 0 (by rfl) (cellsB D) (World.rangeAt_setCells_same _ _ _ _ (by rw [cellsB_length, hlen]; exact HT4.out)) _ Tryd.underlying23 (by rfl) (by rw [cellsB_length, hlen]; exact Tryd.sizeDigest)) rfl ⟨by rw [HD.out], ?_⟩
  exact below_setCells _ (Nat.le_refl _) _ _ _ HB4.out
end Go.Proofs.YtghiniaijobonaaDoor
/- The contracts of chain.Step, chain.walk and chain.Walk. -/
namespace Go.Proofs.YtghiniaijobonaaDoor
open Go.RowKit
set_option linter.unusedVariables false
set_option linter.unusedSimpArgs false

set_option maxRecDepth 100000 in
set_option maxHeartbeats 1000000 in
theorem wchain_step (d : List UInt8) (w : World) (G : Env w) (hd : d.length = 32) :
    Calls Tryd.prog 65 #[digestV d] w fun e w' => e = .returned (digestV (walkL d 1)) ∧ Below w.heap.size w w' := by
  obtain ⟨w2, hw2⟩ : ∃ w2, (w.alloc (.cells (cellsB d).toArray 23)).alloc (.cells (cellsB zD).toArray 23) = w2 := ⟨_, rfl⟩
  have hs1 : (w.alloc (.cells (cellsB d).toArray 23)).heap.size = w.heap.size + 1 := by simp
  have HS2 : Hid (w2.heap.size = w.heap.size + 1 + 1) := by unfold Hid; rw [← hw2]; simp
  have HR2 : Hid (Row w2 (some ⟨w.heap.size, 0, none⟩) 32 d) := by
    rw [← hw2]
    exact DAt.row (World.rangeAt_alloc (box_dat w d _) _) hd
  have HT2 : Hid (w2.there (w.heap.size + 1) 0 32) := by rw [← hw2]; exact alloc_thereAt _ _ _ 32 _ hs1 zD_size.symm
  have HB2 : Hid (Below w.heap.size w w2) := by rw [← hw2]; exact ((Below.refl _ _).alloc (Nat.le_refl _) _).alloc (by simp) _
  have HG : Hid (Env w2) := G.below HB2.out
  clear G
  go_enter Tryd.func65, Tryd.ntmps65
  go_wp2_with (refine wpList_allocE (by rfl) 23 (by rfl) (cellsB zD).toArray Tryd.zeroDg (w.heap.size + 1) hs1 w2 hw2 ?_)
  clear hw2 hs1
  have hsa : (w2.alloc (.cells #[.int .u8 8] 5)).heap.size = w2.heap.size + 1 := by simp
  have HRB : Hid (BRows ((w2.alloc (.cells #[.int .u8 8] 5)).alloc (.cells #[.slice (some ⟨w2.heap.size, 0, none⟩) 1 1, .slice (some ⟨w.heap.size, 0, none⟩) 32 32] 33)) (some ⟨w2.heap.size + 1, 0, none⟩) 2 [[8], d]) := by
    have := BRows.lit2 (w := w2.alloc (.cells #[.int .u8 8] 5)) (t := 33) (Nat.le_refl 1) (Row.lit1v w2 8 5 8 rfl) (Nat.le_refl 32) (HR2.out.below ((Below.refl _ _).alloc (Nat.le_refl _) _))
    rw [hsa] at this
    exact this
  have HBB : Hid (Below w2.heap.size w2 ((w2.alloc (.cells #[.int .u8 8] 5)).alloc (.cells #[.slice (some ⟨w2.heap.size, 0, none⟩) 1 1, .slice (some ⟨w.heap.size, 0, none⟩) 32 32] 33))) := ((Below.refl _ _).alloc (Nat.le_refl _) _).alloc (by simp) _
  refine (wsumof_any _ 2 2 [[8], d] _ (HG.out.below HBB.out) HRB.out (by simp; omega) (by omega)).mono ?_
  rintro e w3 ⟨rfl, hb3⟩
  have e1 : shaL [[8], d].flatten = walkL d 1 := by
    rw [show [[8], d].flatten = 8 :: d by simp]
    rfl
  rw [e1]
  have HB3 : Hid (Below w2.heap.size w2 w3) := HBB.out.trans (hb3.mono HBB.out.size)
  have HT3 : Hid (w3.there (w.heap.size + 1) 0 32) := there_below HT2.out HB3.out (by have := HS2.out; omega)
  have hlen := walkL_length hd 1
  clear hb3 HRB HBB hsa e1
  generalize hD : walkL d 1 = D at *
  have HD : Hid (walkL d 1 = D) := hD
  clear hD
  go_wp2_with (refine wpList_store_mid (by rfl) 23 (.tmp 2) (.tmp 6) (by rfl) (w.heap.size + 1) 0 (cellsB D).toArray (by rfl) (by rfl) (by rw [cellsB_size, hlen]; exact HT3.out) (by rw [cellsB_size, hlen]; exact Tryd.sizeDg) (all_oneCell_toArray (cellsB_one _)) ?_)
  refine bodyPost_ret (v := digestV D) (run_results_row Tryd.results65 _ _ (w.heap.size + 1) 0 (by rfl) (cellsB D) (World.rangeAt_setCells_same _ _ _ _ (by rw [cellsB_length, hlen]; exact HT3.out)) _ Tryd.underlying23 (by rfl) (by rw [cellsB_length, hlen]; exact Tryd.sizeDg)) rfl ⟨by rw [HD.out], ?_⟩
  exact below_setCells _ (by omega) _ _ _ (HB2.out.trans (HB3.out.mono (by have := HS2.out; omega)))

set_option maxRecDepth 100000 in
set_option maxHeartbeats 1000000 in
theorem wchain_steps (d : List UInt8) (n : Nat) (w : World) (G : Env w) (hd : d.length = 32) (hn : n ≤ 1000000) :
    Calls Tryd.prog 58 #[digestV d, .int .i64 (n : Int)] w fun e w' => e = .returned (digestV (walkL d n)) ∧ Below w.heap.size w w' := by
  obtain ⟨w2, hw2⟩ : ∃ w2, (w.alloc (.cells (cellsB d).toArray 23)).alloc (.cells (cellsB zD).toArray 23) = w2 := ⟨_, rfl⟩
  have hs1 : (w.alloc (.cells (cellsB d).toArray 23)).heap.size = w.heap.size + 1 := by simp
  have HS2 : Hid (w2.heap.size = w.heap.size + 1 + 1) := by unfold Hid; rw [← hw2]; simp
  have HD2 : Hid (DAt w2 w.heap.size 0 d ∧ w2.there w.heap.size 0 32) := by
    rw [← hw2]
    exact ⟨World.rangeAt_alloc (box_dat w d _) _, there_below (box_there w d _ hd) ((Below.refl _ _).alloc (Nat.le_refl _) _) (by simp)⟩
  have HT2 : Hid (w2.there (w.heap.size + 1) 0 32) := by rw [← hw2]; exact alloc_thereAt _ _ _ 32 _ hs1 zD_size.symm
  have HB2 : Hid (Below w.heap.size w w2) := by rw [← hw2]; exact ((Below.refl _ _).alloc (Nat.le_refl _) _).alloc (by simp) _
  have HG : Hid (Env w) := G
  clear G
  go_enter Tryd.func58, Tryd.ntmps58
  go_wp2_with (refine wpList_allocE (by rfl) 23 (by rfl) (cellsB zD).toArray Tryd.zeroDg (w.heap.size + 1) hs1 w2 hw2 ?_)
  clear hw2 hs1
  go_loopw [6] (fun i wr => ∃ k : Nat, k ≤ n ∧ i = .int .i64 (k : Int) ∧ DAt wr w.heap.size 0 (walkL d k) ∧ wr.there w.heap.size 0 32 ∧ wr.there (w.heap.size + 1) 0 32 ∧ Below w.heap.size w wr ∧ w.heap.size + 1 < wr.heap.size) (fun i _ => n - (intOf i).toNat)
  case atStart => exact ⟨0, Nat.zero_le _, rfl, HD2.out.1, HD2.out.2, HT2.out, HB2.out, by have := HS2.out; omega⟩
  case round =>
    clear HD2 HT2 HB2 HS2
    obtain ⟨k, hk, rfl, hD, hT1, hT2, hB, hs⟩ := hrel
    have HD : Hid (DAt wr w.heap.size 0 (walkL d k)) := hD
    have HT1 : Hid (wr.there w.heap.size 0 32) := hT1
    have HT2 : Hid (wr.there (w.heap.size + 1) 0 32) := hT2
    have HB : Hid (Below w.heap.size w wr) := hB
    have hx := walkL_length hd k
    clear hD hT1 hT2 hB
    by_cases hlt : k < n
    · have HS : Hid (walkL d (k + 1) = walkL (walkL d k) 1) := walkL_add d k 1
      generalize walkL d k = x at *
      have hlt' : (k : Int) < (n : Int) := by omega
      go_wp2_with (refine wpList_load_mid (by rfl) 23 (.tmp 2) (by rfl) w.heap.size 0 (by rfl) (cellsB x) _ HD.out Tryd.underlying23 (by rfl) (by rw [cellsB_length, hx]; exact Tryd.sizeDg) ?_)
      refine (wchain_step x wr (HG.out.below HB.out) hx).mono ?_
      rintro e w4 ⟨rfl, hb4⟩
      have hy := walkL_length hx 1
      have HW1 : Hid (w4.there w.heap.size 0 32) := there_below HT1.out hb4 (by omega)
      have HW2 : Hid (w4.there (w.heap.size + 1) 0 32) := there_below HT2.out hb4 hs
      have HB4 : Hid (Below w.heap.size w w4 ∧ w.heap.size + 1 < w4.heap.size) := ⟨below_trans HB.out hb4, by have := hb4.size; omega⟩
      generalize hye : walkL x 1 = y at *
      clear hye hb4 HD HT1 HT2 HB
      go_wp2_with (refine wpList_store_mid (by rfl) 23 (.tmp 2) (.tmp 9) (by rfl) w.heap.size 0 (cellsB y).toArray (by rfl) (by rfl) (by rw [cellsB_size, hy]; exact HW1.out) (by rw [cellsB_size, hy]; exact Tryd.sizeDg) (all_oneCell_toArray (cellsB_one _)) ?_)
      go_roundw
      case rel =>
        have hz := (below_setCells (B := 0) w.heap.size (Nat.zero_le _) (cellsB y) 0 w4 (Below.refl 0 w4)).size
        exact ⟨k + 1, by omega, by go_num, by rw [HS.out]; exact dat_stored HW1.out hy, World.there_setCells HW1.out _ _ _, World.there_setCells HW2.out _ _ _, below_setCells _ (Nat.le_refl _) _ _ _ HB4.out.1, by have := HB4.out.2; omega⟩
      case measure => simp [intOf]; omega
    · obtain rfl : k = n := by omega
      generalize hXe : walkL d k = X at *
      have HX : Hid (walkL d k = X) := hXe
      clear hXe
      go_wp2_with (first
        | (refine wpList_load_mid (by rfl) 23 (.tmp 2) (by rfl) w.heap.size 0 (by rfl) (cellsB X) _ HD.out Tryd.underlying23 (by rfl) (by rw [cellsB_length, hx]; exact Tryd.sizeDg) ?_)
        | (refine wpList_store_mid (by rfl) 23 (.tmp 4) (.tmp 11) (by rfl) (w.heap.size + 1) 0 (cellsB X).toArray (by rfl) (by rfl) (by rw [cellsB_size, hx]; exact HT2.out) (by rw [cellsB_size, hx]; exact Tryd.sizeDg) (all_oneCell_toArray (cellsB_one _)) ?_))
      refine bodyPost_ret (v := digestV X) (run_results_row Tryd.results58 _ _ (w.heap.size + 1) 0 (by rfl) (cellsB X) (World.rangeAt_setCells_same _ _ _ _ (by rw [cellsB_length, hx]; exact HT2.out)) _ Tryd.underlying23 (by rfl) (by rw [cellsB_length, hx]; exact Tryd.sizeDg)) rfl ⟨by rw [HX.out], ?_⟩
      exact below_setCells _ (by omega) _ _ _ HB.out

set_option maxRecDepth 100000 in
set_option maxHeartbeats 1000000 in
theorem wchain_walk (d : List UInt8) (n : Nat) (w : World) (G : Env w) (hd : d.length = 32) (hn : n ≤ 1000) :
    Calls Tryd.prog 48 #[digestV d, .int .i64 (n : Int)] w fun e w' => e = .returned (.tuple #[digestV (walkL d n), .nilIface]) ∧ Below w.heap.size w w' := by
  have h1 : ¬ (n : Int) < 0 := by omega
  have h2 : ¬ (1000 : Int) < (n : Int) := by omega
  obtain ⟨w2, hw2⟩ : ∃ w2, (w.alloc (.cells (cellsB d).toArray 23)).alloc (.cells (cellsB zD).toArray 23) = w2 := ⟨_, rfl⟩
  have hs1 : (w.alloc (.cells (cellsB d).toArray 23)).heap.size = w.heap.size + 1 := by simp
  have HS2 : Hid (w2.heap.size = w.heap.size + 1 + 1) := by unfold Hid; rw [← hw2]; simp
  have HD2 : Hid (DAt w2 w.heap.size 0 d) := by
    rw [← hw2]
    exact World.rangeAt_alloc (box_dat w d _) _
  have HT2 : Hid (w2.there (w.heap.size + 1) 0 32) := by rw [← hw2]; exact alloc_thereAt _ _ _ 32 _ hs1 zD_size.symm
  have HB2 : Hid (Below w.heap.size w w2) := by rw [← hw2]; exact ((Below.refl _ _).alloc (Nat.le_refl _) _).alloc (by simp) _
  have HG : Hid (Env w2) := G.below HB2.out
  clear G
  go_enter Tryd.func48, Tryd.ntmps48
  go_wp2_with (first
    | (refine wpList_allocE (by rfl) 23 (by rfl) (cellsB zD).toArray Tryd.zeroDg (w.heap.size + 1) hs1 w2 hw2 ?_)
    | (refine wpList_load_mid (by rfl) 23 (.tmp 2) (by rfl) w.heap.size 0 (by rfl) (cellsB d) _ HD2.out Tryd.underlying23 (by rfl) (by rw [cellsB_length, hd]; exact Tryd.sizeDg) ?_))
  clear hw2 hs1
  refine (wchain_steps d n w2 HG.out hd (by omega)).mono ?_
  rintro e w3 ⟨rfl, hb3⟩
  have HT3 : Hid (w3.there (w.heap.size + 1) 0 32) := there_below HT2.out hb3 (by have := HS2.out; omega)
  have HB3 : Hid (Below w.heap.size w w3) := below_trans HB2.out hb3
  have hx := walkL_length hd n
  clear hb3
  generalize hXe : walkL d n = X at *
  have HX : Hid (walkL d n = X) := hXe
  clear hXe
  go_wp2_with (refine wpList_store_mid (by rfl) 23 (.tmp 4) (.tmp 16) (by rfl) (w.heap.size + 1) 0 (cellsB X).toArray (by rfl) (by rfl) (by rw [cellsB_size, hx]; exact HT3.out) (by rw [cellsB_size, hx]; exact Tryd.sizeDg) (all_oneCell_toArray (cellsB_one _)) ?_)
  refine bodyPost_ret (v := .tuple #[digestV X, .nilIface]) (run_results_row2 Tryd.results48 _ _ (w.heap.size + 1) 0 (by rfl) .nilIface (by rfl) (cellsB X) (World.rangeAt_setCells_same _ _ _ _ (by rw [cellsB_length, hx]; exact HT3.out)) _ Tryd.underlying23 (by rfl) (by rw [cellsB_length, hx]; exact Tryd.sizeDg)) rfl ⟨by rw [HX.out], ?_⟩
  exact below_setCells _ (by omega) _ _ _ HB3.out

set_option maxRecDepth 100000 in
set_option maxHeartbeats 1000000 in
theorem wchain_out (d : List UInt8) (m : Int) (w : World) (G : Env w) (hd : d.length = 32) (hm : m < 0 ∨ 1000 < m) :
    Calls Tryd.prog 48 #[digestV d, .int .i64 m] w fun e w' => e = .returned (.tuple #[digestV zD, .iface 51 (.int .i64 2)]) ∧ Below w.heap.size w w' := by
  clear G
  obtain ⟨w2, hw2⟩ : ∃ w2, (w.alloc (.cells (cellsB d).toArray 23)).alloc (.cells (cellsB zD).toArray 23) = w2 := ⟨_, rfl⟩
  have hs1 : (w.alloc (.cells (cellsB d).toArray 23)).heap.size = w.heap.size + 1 := by simp
  have HS2 : Hid (w2.heap.size = w.heap.size + 1 + 1) := by unfold Hid; rw [← hw2]; simp
  have HD2 : Hid (DAt w2 w.heap.size 0 d) := by
    rw [← hw2]
    exact World.rangeAt_alloc (box_dat w d _) _
  have HT2 : Hid (w2.there (w.heap.size + 1) 0 32) := by rw [← hw2]; exact alloc_thereAt _ _ _ 32 _ hs1 zD_size.symm
  have HB2 : Hid (Below w.heap.size w w2) := by rw [← hw2]; exact ((Below.refl _ _).alloc (Nat.le_refl _) _).alloc (by simp) _
  go_enter Tryd.func48, Tryd.ntmps48
  by_cases h1 : m < 0
  · clear hm
    go_wp2_with (first
      | (refine wpList_allocE (by rfl) 23 (by rfl) (cellsB zD).toArray Tryd.zeroDg (w.heap.size + 1) hs1 w2 hw2 ?_)
      | (refine wpList_buildC (by rfl) 23 _ (by rfl) (cellsB zD).toArray (by kernel_rfl) ?_)
      | (refine wpList_store_mid (by rfl) 23 (.tmp 4) (.tmp 12) (by rfl) (w.heap.size + 1) 0 (cellsB zD).toArray (by rfl) (by rfl) (by rw [cellsB_size]; exact HT2.out) (by rw [cellsB_size]; exact Tryd.sizeDg) (all_oneCell_toArray (cellsB_one _)) ?_))
    refine bodyPost_ret (v := .tuple #[digestV zD, .iface 51 (.int .i64 2)]) (run_results_row2 Tryd.results48 _ _ (w.heap.size + 1) 0 (by rfl) _ (by rfl) (cellsB zD) (World.rangeAt_setCells_same _ _ _ _ (by rw [cellsB_length]; exact HT2.out)) _ Tryd.underlying23 (by rfl) (by rw [cellsB_length]; exact Tryd.sizeDg)) rfl ⟨rfl, ?_⟩
    exact below_setCells _ (by omega) _ _ _ HB2.out
  · have h2 : 1000 < m := by omega
    clear hm
    go_wp2_with (first
      | (refine wpList_allocE (by rfl) 23 (by rfl) (cellsB zD).toArray Tryd.zeroDg (w.heap.size + 1) hs1 w2 hw2 ?_)
      | (refine wpList_buildC (by rfl) 23 _ (by rfl) (cellsB zD).toArray (by kernel_rfl) ?_)
      | (refine wpList_store_mid (by rfl) 23 (.tmp 4) (.tmp 12) (by rfl) (w.heap.size + 1) 0 (cellsB zD).toArray (by rfl) (by rfl) (by rw [cellsB_size]; exact HT2.out) (by rw [cellsB_size]; exact Tryd.sizeDg) (all_oneCell_toArray (cellsB_one _)) ?_))
    refine bodyPost_ret (v := .tuple #[digestV zD, .iface 51 (.int .i64 2)]) (run_results_row2 Tryd.results48 _ _ (w.heap.size + 1) 0 (by rfl) _ (by rfl) (cellsB zD) (World.rangeAt_setCells_same _ _ _ _ (by rw [cellsB_length]; exact HT2.out)) _ Tryd.underlying23 (by rfl) (by rw [cellsB_length]; exact Tryd.sizeDg)) rfl ⟨rfl, ?_⟩
    exact below_setCells _ (by omega) _ _ _ HB2.out
end Go.Proofs.YtghiniaijobonaaDoor
/- An array of 67 digests, in memory and as a value. -/
namespace Go.Proofs.YtghiniaijobonaaDoor
open Go.RowKit
set_option linter.unusedVariables false
set_option linter.unusedSimpArgs false

theorem Tryd.zeroKn0 : ((Tryd.prog.info? 73).bind (·.zero)).map (fun v => match v with | .agg cs => cs.size | _ => 0) = some 2144 := by kernel_rfl
theorem Tryd.sizeKn : (Tryd.prog.info? 73).map (·.size) = some 2144 := by kernel_rfl
theorem zeroKnots : ∃ cs : Array Value, cs.size = 2144 ∧ (Tryd.prog.info? 73).map (·.zero) = some (some (.agg cs)) := by
  have h := Tryd.zeroKn0
  cases hi : Tryd.prog.info? 73 with
  | none => rw [hi] at h; cases h
  | some i =>
    rw [hi] at h
    cases hz : i.zero with
    | none => simp [hz] at h
    | some v =>
      simp only [Option.bind_some, hz, Option.map_some, Option.some.injEq] at h
      cases v with
      | agg cs => exact ⟨cs, h, by simp [hz]⟩
      | _ => simp at h
/-- Of 67 digests those that f has, at their places. -/
def KArr (w : World) (g : Nat) (f : Nat → List UInt8) : Prop := w.there g 0 2144 ∧ (∀ i, (f i).length ≤ 32) ∧ ∀ i, i < 67 → DAt w g (i * 32) (f i)
theorem KArr.block {w : World} {g : Nat} {f : Nat → List UInt8} (h : KArr w g f) : g < w.heap.size := there_block h.1 (by omega)
theorem KArr.cells {w w' : World} {g : Nat} {f : Nat → List UInt8} (h : KArr w g f) (hk : w'.heap[g]? = w.heap[g]?) : KArr w' g f := by
  have hc : ∀ j, w'.cell? ⟨g, j, none⟩ = w.cell? ⟨g, j, none⟩ := fun j => World.cell?_of_block (w := w) (a := ⟨g, j, none⟩) hk
  have hf : ∀ j, w'.frozen? ⟨g, j, none⟩ = w.frozen? ⟨g, j, none⟩ := fun j => World.frozen?_of_block (w := w) (a := ⟨g, j, none⟩) hk
  exact ⟨fun j hj => by rw [hc, hf]; exact h.1 j hj, h.2.1, fun i hi j v hj => by rw [hc]; exact h.2.2 i hi j v hj⟩
theorem KArr.below {w w' : World} {B g : Nat} {f : Nat → List UInt8} (h : KArr w g f) (hb : Below B w w') (hB : g < B) : KArr w' g f := h.cells (hb.block g hB)
theorem KArr.slot {w : World} {g : Nat} {f : Nat → List UInt8} (h : KArr w g f) (i : Nat) (hi : i < 67) : w.there g (i * 32) 32 := fun j hj => by
  have := h.1 (i * 32 + j) (by omega)
  rwa [Nat.zero_add] at this
def putF (f : Nat → List UInt8) (i : Nat) (d : List UInt8) : Nat → List UInt8 := fun j => if j = i then d else f j
theorem KArr.set {w : World} {g : Nat} {f : Nat → List UInt8} (h : KArr w g f) (i : Nat) (hi : i < 67) (d : List UInt8) (hd : d.length = 32) : KArr (w.setCells g (i * 32) (cellsB d)) g (putF f i d) := by
  have hs := h.slot i hi
  refine ⟨World.there_setCells h.1 _ _ _, fun j => ?_, fun j hj => ?_⟩
  · unfold putF
    by_cases c : j = i
    · rw [if_pos c]; omega
    · rw [if_neg c]; exact h.2.1 j
  · unfold putF
    by_cases c : j = i
    · subst c
      rw [if_pos rfl]
      exact dat_stored hs hd
    · rw [if_neg c]
      have := h.2.1 j
      exact World.rangeAt_setCells_apart (h.2.2 j hj) _ _ _ (by rw [cellsB_length, cellsB_length, hd]; omega)
theorem KArr.newAt (w : World) (cs : Array Value) (t : TypeId) (hc : cs.size = 2144) (g : Nat) (hg : w.heap.size = g) : KArr (w.alloc (.cells cs t)) g (fun _ => []) :=
  ⟨alloc_thereAt _ _ _ _ _ hg hc.symm, fun _ => by simp, fun i hi j v hj => by simp [cellsB] at hj⟩
/-- The first k of them. -/
def tillF (F : Nat → List UInt8) (k : Nat) : Nat → List UInt8 := fun j => if j < k then F j else []
theorem tillF_zero (F : Nat → List UInt8) : tillF F 0 = fun _ => [] := by funext j; simp [tillF]
theorem tillF_succ (F : Nat → List UInt8) (k : Nat) : putF (tillF F k) k (F k) = tillF F (k + 1) := by
  funext j
  unfold putF tillF
  by_cases c : j = k
  · subst c; simp
  · rw [if_neg c]
    by_cases d : j < k
    · rw [if_pos d, if_pos (by omega)]
    · rw [if_neg d, if_neg (by omega)]
/-- 67 digests as a value. -/
def knotsV (ls : List (List UInt8)) : Value := .agg (cellsB ls.flatten).toArray
theorem knots_cells {ls : List (List UInt8)} (hl : ls.length = 67) (h32 : ∀ l ∈ ls, l.length = 32) : (cellsB ls.flatten).length = 2144 := by
  rw [cellsB_length, flat_len h32, hl]
theorem knots_at {w : World} {g : Nat} {ls : List (List UInt8)} (h32 : ∀ l ∈ ls, l.length = 32) (h : w.rangeAt g 0 (cellsB ls.flatten)) (i : Nat) (hi : i < ls.length) : DAt w g (i * 32) (ls.getD i []) := by
  have hlen : (ls.getD i []).length = 32 := by
    rw [List.getD_eq_getElem?_getD, List.getElem?_eq_getElem hi]
    exact h32 _ (List.getElem_mem _)
  refine DAt.mk fun j hj => ?_
  rw [hlen] at hj
  have hf := flat_len h32
  have := h (32 * i + j) _ (cellsB_at _ _ (by omega))
  rw [nth_flat h32 i j hi hj, Nat.zero_add] at this
  rw [show i * 32 + j = 32 * i + j by omega]
  exact this
theorem knots_range {w : World} {g : Nat} {ls : List (List UInt8)} (h32 : ∀ l ∈ ls, l.length = 32) (h : ∀ i, i < ls.length → DAt w g (i * 32) (ls.getD i [])) : w.rangeAt g 0 (cellsB ls.flatten) := by
  intro j v hj
  have hj' : j < ls.flatten.length := by have := (List.getElem?_eq_some_iff.1 hj).1; rwa [cellsB_length] at this
  have hf := flat_len h32
  have hq : j / 32 < ls.length := by omega
  have hm : j % 32 < 32 := Nat.mod_lt _ (by omega)
  have hlen : (ls.getD (j / 32) []).length = 32 := by
    rw [List.getD_eq_getElem?_getD, List.getElem?_eq_getElem hq]
    exact h32 _ (List.getElem_mem _)
  have hc := (h (j / 32) hq).cell (j % 32) (by omega)
  have hn := nth_flat h32 (j / 32) (j % 32) hq hm
  rw [show 32 * (j / 32) + j % 32 = j by omega] at hn
  rw [show j / 32 * 32 + j % 32 = j by omega] at hc
  rw [Nat.zero_add, hc, ← hn, ← cellsB_at _ j hj', hj]
theorem map_range_getD (F : Nat → List UInt8) (n i : Nat) (h : i < n) : ((List.range n).map F).getD i [] = F i := by
  simp [List.getD_eq_getElem?_getD, h]
theorem KArr.range {w : World} {g : Nat} {F : Nat → List UInt8} (h : KArr w g (tillF F 67)) (h32 : ∀ i, i < 67 → (F i).length = 32) : w.rangeAt g 0 (cellsB ((List.range 67).map F).flatten) := by
  refine knots_range ?_ ?_
  · intro l hl
    obtain ⟨i, hi, rfl⟩ := List.mem_map.1 hl
    exact h32 i (List.mem_range.1 hi)
  · intro i hi
    have hi' : i < 67 := by simpa using hi
    rw [map_range_getD F 67 i hi']
    have := h.2.2 i hi'
    unfold tillF at this
    rwa [if_pos hi'] at this
/-- A slice of all of them. -/
theorem knots_row {w : World} {g : Nat} {ls : List (List UInt8)} (hl : ls.length = 67) (h32 : ∀ l ∈ ls, l.length = 32) (h : w.rangeAt g 0 (cellsB ls.flatten)) : DRow w (some ⟨g, 0, none⟩) 67 ls := by
  refine ⟨hl, h32, .inr ⟨g, 0, rfl, fun i hi => ?_⟩⟩
  have := knots_at h32 h i (by omega)
  rwa [show 0 + 32 * i = i * 32 by omega]
end Go.Proofs.YtghiniaijobonaaDoor
