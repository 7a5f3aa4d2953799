/- Texts of this claim, joined: Wkmac, Wmac, Once, Wsec. -/
import Derived.Test.YtigdgmoiljifjaaDoorJ08
import Derived.Test.YtigdgmoiljifjaaDoorYPairs
import Derived.Deep.AppendLies
import Derived.Deep.RegionHeld3
import Derived.StillTailTactics
import Derived.Test.YtigdgmoiljifjaaDoorJ05
import Derived.Test.YtigdgmoiljifjaaDoorJ03
import Derived.Test.YtigdgmoiljifjaaDoorJ07
/- The contract of block.mac: the digest of pieces with the block's key. -/
namespace Go.Proofs.YtigdgmoiljifjaaDoor
open Go.RowKit
set_option linter.unusedVariables false
set_option linter.unusedSimpArgs false

theorem Tryd.infoS8 : (Tryd.prog.info? 49).map (fun i => (i.zero, i.size, i.bytes)) = some (some (.slice none 0 0), 1, 24) := by kernel_rfl
/-- A literal of one slice, and slices behind it. -/
theorem wpList_append_rows {w : World} {ops : Array Oper} {rest : List Oper} {o : Oper} {a : Act} {Q : Exit → Act → World → Prop} (hgd : o.guard = none) (s x : Operand)
    (ho : o.op = .call { callee := .builtin .append, args := #[s, x], argTypes := #[55, 55] })
    (a0 : Option Addr) (n0 c0 : Nat) (l0 : List UInt8) (R0 : Row w a0 n0 l0) (h0 : n0 ≤ c0) (H : Nat) (hH : w.heap.size = H) (hs : a.eval s = .slice (some ⟨H, 0, none⟩) 1 1)
    (ad : Option Addr) (n c : Nat) (ls : List (List UInt8)) (hx : a.eval x = .slice ad n c) (R : BRows w ad n ls) (hn0 : 0 < n) (hn : n ≤ 1000)
    (h : ∀ g cap w', BRows w' (some ⟨g, 0, none⟩) (1 + n) (l0 :: ls) → Below w.heap.size w w' → wpList Tryd.prog ops Q rest (a.put o.dst (.slice (some ⟨g, 0, none⟩) (1 + n) cap)) w') :
    wpList Tryd.prog ops Q (o :: rest) a (w.alloc (.cells #[.slice a0 n0 c0] 49)) := by
  obtain ⟨i0, hi, hz0, hz1, hz2⟩ := info_parts Tryd.infoS8
  subst hH
  obtain ⟨hl, hR⟩ := R
  rcases hR with h1 | ⟨b, off, rfl, hcells⟩
  · omega
  have hb0 : Below w.heap.size w (w.alloc (.cells #[.slice a0 n0 c0] 49)) := (Below.refl _ _).alloc (Nat.le_refl _) _
  have each : ∀ i, i < n → (w.alloc (.cells #[.slice a0 n0 c0] 49)).cell? ⟨b, off + i, none⟩ = some ((w.cell? ⟨b, off + i, none⟩).getD undef) ∧ ((w.cell? ⟨b, off + i, none⟩).getD undef).oneCell' = true := by
    intro i hi
    obtain ⟨ai, ni, ci, e1, e2, e3⟩ := hcells i hi
    rw [hb0.cell (p := ⟨b, off + i, none⟩) (cell_block e1), e1]
    exact ⟨rfl, rfl⟩
  refine wpList_append_lies _ hgd s x 55 ho w.heap.size 49 i0 (.slice none 0 0) 1 24 Tryd.underlying55 hi hz0 hz1 hz2 rfl (by omega) (.slice (some ⟨w.heap.size, 0, none⟩) 1 1) 1 [.slice a0 n0 c0] hs
    (World.ownsRow_lit w #[.slice a0 n0 c0] 1 (Nat.le_refl _) (by unfold maxLen; omega) rfl) ⟨b, off, none⟩ n c ((List.range n).map fun i => (w.cell? ⟨b, off + i, none⟩).getD undef) hx (by simp) ?_ ?_ hn0 (by unfold maxLen; omega) (by omega) (by simp) (w.heap.size + 1) (by simp) ?_
  · intro j u hj
    have hj' : j < n := by have := (List.getElem?_eq_some_iff.1 hj).1; simpa using this
    rw [Go.WideShapes.add_plain, (each j hj').1]
    simp [hj'] at hj
    rw [hj]
  · intro u hu
    obtain ⟨i, hi, rfl⟩ := List.mem_map.1 hu
    exact (each i (List.mem_range.1 hi)).2
  · intro g cap w' hown hgr hat hlt
    have hb1 : Below w.heap.size w w' := hb0.grown hgr (by simp) (fun k hk => by simp [Value.ownBlock] at hk; omega)
    refine h g cap w' ⟨by simp [hl]; omega, .inr ⟨g, 0, rfl, fun i hi => ?_⟩⟩ hb1
    have hc := World.ownsRow.cellAt hown i (by omega)
    rw [Nat.zero_add]
    cases i with
    | zero => exact ⟨a0, n0, c0, hc, h0, R0.below hb1⟩
    | succ i =>
      obtain ⟨ai, ni, ci, e1, e2, e3⟩ := hcells i (by omega)
      refine ⟨ai, ni, ci, ?_, e2, by simpa using e3.below hb1⟩
      rw [hc]
      have hi' : i < n := by omega
      simp [hi', e1]

/-- A new variable's place, where it is there. -/
def ptrO : Option Nat → Value
  | none => undef
  | some g => .pointer (some ⟨g, 0, none⟩)
def val1 (v : Value) : Nat → Value
  | 0 => undef
  | _ + 1 => v
def val2 (v : Value) : Nat → Value
  | 0 => undef
  | 1 => undef
  | _ + 2 => v
/-- The frame of mac in its first region. -/
abbrev kmacAct (k s : Value) (g : Nat) (v5 v6 v9 v11 : Value) : Act :=
  { tmps := #[k, s, .pointer (some ⟨g, 0, none⟩), undef, .pointer (some ⟨g + 1, 0, none⟩), v5, v6, undef, k, v9, k, v11, undef, undef, undef, undef, undef, undef, undef, undef, undef], defers := [] }

set_option maxRecDepth 100000 in
set_option maxHeartbeats 1000000 in
theorem wkmac_any (kk : List UInt8) (a : Option Addr) (n c : Nat) (ls : List (List UInt8)) (w : World) (G : Tab w) (h64 : kk.length = 64) (R : BRows w a n ls) (hn0 : 0 < n) (hn : n ≤ 1000) (hl : ls.flatten.length ≤ 100000000000000000) :
    Calls Tryd.prog 34 #[.agg (cellsB kk).toArray, .slice a n c] w fun e w' => e = .returned (digestV (shaL (padX kk 92 64 ++ shaL (padX kk 54 64 ++ ls.flatten)))) ∧ Below w.heap.size w w' := by
  obtain ⟨w2, hw2⟩ : ∃ w2, (w.alloc (.cells (cellsB kk).toArray 64)).alloc (.cells (cellsB z32).toArray 23) = w2 := ⟨_, rfl⟩
  have hs1 : (w.alloc (.cells (cellsB kk).toArray 64)).heap.size = w.heap.size + 1 := by simp
  have hs2 : w2.heap.size = w.heap.size + 2 := by rw [← hw2]; simp
  have HR2 : Hid (w2.rangeAt w.heap.size 0 (cellsB kk)) := by rw [← hw2]; exact World.rangeAt_alloc (box_range w (cellsB kk) _) _
  have HT2 : Hid (w2.there (w.heap.size + 1) 0 32) := by rw [← hw2]; exact alloc_thereAt _ _ _ 32 _ hs1 z32_size.symm
  have HB2 : Hid (Below w.heap.size w w2) := by rw [← hw2]; exact ((Below.refl _ _).alloc (Nat.le_refl _) _).alloc (by simp) _
  have HG : Hid (Tab w2 ∧ BRows w2 a n ls) := ⟨G.below HB2.out, R.below HB2.out⟩
  have hln := R.1
  have hp1 := padX_length kk 54 64
  have hp2 := padX_length kk 92 64
  clear G R
  go_enter Tryd.func34, Tryd.ntmps34
  go_wp2_with (refine wpList_allocE (by rfl) 23 (by rfl) (cellsB z32).toArray Tryd.zeroDigest (w.heap.size + 1) hs1 w2 hw2 ?_)
  clear hw2 hs1
  refine wp_region_noPanic ?_
  refine wp_region_held_drew (S := fun w' => w'.rangeAt w.heap.size 0 (cellsB kk)) (by kernel_rfl) HR2.out (fun hHeld => ?_)
  try simp only [Act.put, List.setIfInBounds_toArray, List.set_cons_zero, List.set_cons_succ]
  refine wpAnyH_take (i := 0) (v := .agg (cellsB kk).toArray) (by simp only [List.getElem?_toArray, List.getElem?_cons_zero, List.getElem?_cons_succ]; rfl) (by kernel_rfl) (by kernel_rfl) (by kernel_rfl) (fun _ _ _ h => h)
    (yieldsIf_load_mid (by rfl) _ _ rfl _ _ rfl _ _ (fun w hw => hw) Tryd.underlying64 rfl (by rw [cellsB_length, h64]; exact Tryd.sizeKblock)) hHeld ?_
  try simp only [Act.put, List.setIfInBounds_toArray, List.set_cons_zero, List.set_cons_succ]
  refine wpAnyH_take (i := 2) (v := .agg (cellsB kk).toArray) (by simp only [List.getElem?_toArray, List.getElem?_cons_zero, List.getElem?_cons_succ]; rfl) (by kernel_rfl) (by kernel_rfl) (by kernel_rfl) (fun _ _ _ h => h)
    (yieldsIf_load_mid (by rfl) _ _ rfl _ _ rfl _ _ (fun w hw => hw) Tryd.underlying64 rfl (by rw [cellsB_length, h64]; exact Tryd.sizeKblock)) hHeld ?_
  try simp only [Act.put, List.setIfInBounds_toArray, List.set_cons_zero, List.set_cons_succ]
  refine pairs_any (fun c' p q => kmacAct (.agg (cellsB kk).toArray) (.slice a n c) w.heap.size (ptrO p) (ptrO q) (val1 (.agg (cellsB (padX kk 54 64)).toArray) c') (val2 (.agg (cellsB (padX kk 92 64)).toArray) c'))
    (fun wx p q => Below w2.heap.size w2 wx ∧ (∀ g, p = some g → w2.heap.size ≤ g ∧ g < wx.heap.size ∧ wx.there g 0 64) ∧ (∀ g, q = some g → w2.heap.size ≤ g ∧ g < wx.heap.size ∧ wx.there g 0 64) ∧ (∀ g g', p = some g → q = some g' → g ≠ g'))
    ?hr ?hS ?s1 ?s3 ?s4 ?s5 ?fin 4 0 none none _ rfl (by omega) ?m0
  case hr =>
    intro c' p q hc' hne
    have : c' = 0 ∨ c' = 1 ∨ c' = 2 := by omega
    rcases this with rfl | rfl | rfl <;> cases p <;> cases q <;> first | exact absurd rfl hne | (clear hne; refine Eq.trans (b := _) (by kernel_rfl) rfl)
  case hS => exact fun wx p q hM => range_below HR2.out hM.1 (by omega)
  case m0 => exact ⟨below_drewN w2 1, (fun g hg => by cases hg), (fun g hg => by cases hg), (fun g g' hg => by cases hg)⟩
  case s1 =>
    intro p q wx K hM hK
    have HK : Hid (∀ w', _ → K _ w') := hK
    clear hK
    refine wpOp_step (by simp only [List.getElem?_toArray, List.getElem?_cons_zero, List.getElem?_cons_succ]; rfl) (fun K' hK' => ?_)
    have HK' : Hid (∀ a w, K a w → K' a w) := hK'
    clear hK'
    rw [if_pos (by rfl)]
    show Oper.wp _ _ (kmacAct _ _ _ (ptrO p) (ptrO q) undef undef) _ _ _
    go_simp
    refine (wunlike_any kk 54 54 rfl wx h64).mono ?_
    rintro e w' ⟨rfl, hb⟩
    go_wp2_with fail
    refine HK'.out _ _ (HK.out w' ?_)
    obtain ⟨m1, m2, m3, m4⟩ := hM
    exact ⟨m1.trans (hb.mono m1.size), fun g hg => ⟨(m2 g hg).1, Nat.lt_of_lt_of_le (m2 g hg).2.1 hb.size, there_below (m2 g hg).2.2 hb (m2 g hg).2.1⟩, fun g hg => ⟨(m3 g hg).1, Nat.lt_of_lt_of_le (m3 g hg).2.1 hb.size, there_below (m3 g hg).2.2 hb (m3 g hg).2.1⟩, m4⟩
  case s3 =>
    intro p q wx K hM hK
    have HK : Hid (∀ w', _ → K _ w') := hK
    clear hK
    refine wpOp_step (by simp only [List.getElem?_toArray, List.getElem?_cons_zero, List.getElem?_cons_succ]; rfl) (fun K' hK' => ?_)
    have HK' : Hid (∀ a w, K a w → K' a w) := hK'
    clear hK'
    rw [if_pos (by rfl)]
    show Oper.wp _ _ (kmacAct _ _ _ (ptrO p) (ptrO q) _ undef) _ _ _
    go_simp
    refine (wunlike_any kk 92 92 rfl wx h64).mono ?_
    rintro e w' ⟨rfl, hb⟩
    go_wp2_with fail
    refine HK'.out _ _ (HK.out w' ?_)
    obtain ⟨m1, m2, m3, m4⟩ := hM
    exact ⟨m1.trans (hb.mono m1.size), fun g hg => ⟨(m2 g hg).1, Nat.lt_of_lt_of_le (m2 g hg).2.1 hb.size, there_below (m2 g hg).2.2 hb (m2 g hg).2.1⟩, fun g hg => ⟨(m3 g hg).1, Nat.lt_of_lt_of_le (m3 g hg).2.1 hb.size, there_below (m3 g hg).2.2 hb (m3 g hg).2.1⟩, m4⟩
  case s4 =>
    intro c' q wx K hM hK
    refine wpOp_step (by simp only [List.getElem?_toArray, List.getElem?_cons_zero, List.getElem?_cons_succ]; rfl) (fun K' hK' => ?_)
    rw [if_pos (by rfl)]
    refine wp_allocE 64 (by rfl) (cellsB z64).toArray Tryd.zeroKblock ?_
    refine hK' _ _ (hK wx.heap.size _ ?_)
    obtain ⟨m1, m2, m3, m4⟩ := hM
    have hb : Below wx.heap.size wx (wx.alloc (.cells (cellsB z64).toArray 64)) := (Below.refl _ _).alloc (Nat.le_refl _) _
    refine ⟨m1.trans (hb.mono m1.size), fun g hg => ?_, fun g hg => ⟨(m3 g hg).1, Nat.lt_of_lt_of_le (m3 g hg).2.1 hb.size, there_below (m3 g hg).2.2 hb (m3 g hg).2.1⟩, fun g g' hg hg' => ?_⟩
    · cases hg
      exact ⟨m1.size, by simp, alloc_thereAt _ _ _ 64 _ rfl z64_size.symm⟩
    · cases hg
      have := (m3 g' hg').2.1
      omega
  case s5 =>
    intro c' p wx K hM hK
    refine wpOp_step (by simp only [List.getElem?_toArray, List.getElem?_cons_zero, List.getElem?_cons_succ]; rfl) (fun K' hK' => ?_)
    rw [if_pos (by rfl)]
    refine wp_allocE 64 (by rfl) (cellsB z64).toArray Tryd.zeroKblock ?_
    refine hK' _ _ (hK wx.heap.size _ ?_)
    obtain ⟨m1, m2, m3, m4⟩ := hM
    have hb : Below wx.heap.size wx (wx.alloc (.cells (cellsB z64).toArray 64)) := (Below.refl _ _).alloc (Nat.le_refl _) _
    refine ⟨m1.trans (hb.mono m1.size), fun g hg => ⟨(m2 g hg).1, Nat.lt_of_lt_of_le (m2 g hg).2.1 hb.size, there_below (m2 g hg).2.2 hb (m2 g hg).2.1⟩, fun g hg => ?_, fun g g' hg hg' => ?_⟩
    · cases hg
      exact ⟨m1.size, by simp, alloc_thereAt _ _ _ 64 _ rfl z64_size.symm⟩
    · cases hg'
      have := (m2 g hg).2.1
      omega
  case fin =>
    generalize hD1 : padX kk 54 64 = D1 at *
    generalize hD2 : padX kk 92 64 = D2 at *
    have HDE : Hid (padX kk 54 64 = D1 ∧ padX kk 92 64 = D2) := ⟨hD1, hD2⟩
    clear hD1 hD2
    intro g5 g6 wq hM
    obtain ⟨m1, m2, m3, m4⟩ := hM
    obtain ⟨g5l, g5s, g5t⟩ := m2 g5 rfl
    obtain ⟨g6l, g6s, g6t⟩ := m3 g6 rfl
    have gne : g5 ≠ g6 := m4 g5 g6 rfl rfl
    clear m2 m3 m4
    refine wpAnyH_ready (rs := [6]) (by kernel_rfl) (by simp) ?_
    refine AllReadyH.cons (by simp only [List.getElem?_toArray, List.getElem?_cons_zero, List.getElem?_cons_succ]; rfl) (fun K hK => ?_) AllReadyH.nil
    rw [if_pos (by rfl)]
    refine wp_store_mid _ _ _ rfl g5 0 (cellsB D1).toArray rfl rfl (by rw [cellsB_size, hp1]; exact g5t) (by rw [cellsB_size, hp1]; exact Tryd.sizeKblock) (all_oneCell_toArray (cellsB_one _)) ?_
    refine hK.out _ _ (World.rangeAt_setCells_apart (range_below HR2.out m1 (by omega)) _ _ _ (.inl (by omega))) (fun hHeld => ?_)
    clear hK K
    try simp only [Act.put, List.setIfInBounds_toArray, List.set_cons_zero, List.set_cons_succ]
    refine wpAnyH_ready (rs := [7]) (by kernel_rfl) (by simp) ?_
    refine AllReadyH.cons (by simp only [List.getElem?_toArray, List.getElem?_cons_zero, List.getElem?_cons_succ]; rfl) (fun K hK => ?_) AllReadyH.nil
    rw [if_pos (by rfl)]
    refine wp_store_mid _ _ _ rfl g6 0 (cellsB D2).toArray rfl rfl (by rw [cellsB_size, hp2]; exact World.there_setCells g6t _ _ _) (by rw [cellsB_size, hp2]; exact Tryd.sizeKblock) (all_oneCell_toArray (cellsB_one _)) ?_
    refine hK.out _ _ (World.rangeAt_setCells_apart hHeld _ _ _ (.inl (by omega))) (fun hHeld => ?_)
    clear hK K
    try simp only [Act.put, List.setIfInBounds_toArray, List.set_cons_zero, List.set_cons_succ]
    refine wpAnyH_done (by kernel_rfl) (NoPanic.normal ?_) _
    have HD5 : Hid (Row ((wq.setCells g5 0 (cellsB D1)).setCells g6 0 (cellsB D2)) (some ⟨g5, 0, none⟩) 64 D1) := by
      have : DAt ((wq.setCells g5 0 (cellsB D1)).setCells g6 0 (cellsB D2)) g5 0 D1 :=
        World.rangeAt_setCells_apart (World.rangeAt_setCells_same _ _ _ _ (by rw [cellsB_length, hp1]; exact g5t)) _ _ _ (.inl gne)
      exact ⟨hp1, .inr ⟨g5, 0, rfl, fun i hi => this.cell i (by omega)⟩⟩
    have HD6 : Hid (Row ((wq.setCells g5 0 (cellsB D1)).setCells g6 0 (cellsB D2)) (some ⟨g6, 0, none⟩) 64 D2) := by
      have : DAt ((wq.setCells g5 0 (cellsB D1)).setCells g6 0 (cellsB D2)) g6 0 D2 :=
        World.rangeAt_setCells_same _ _ _ _ (by rw [cellsB_length, hp2]; exact World.there_setCells g6t _ _ _)
      exact ⟨hp2, .inr ⟨g6, 0, rfl, fun i hi => this.cell i (by omega)⟩⟩
    have HB5 : Hid (Below w2.heap.size w2 ((wq.setCells g5 0 (cellsB D1)).setCells g6 0 (cellsB D2))) := below_setCells _ g6l _ _ _ (below_setCells _ g5l _ _ _ m1)
    clear hHeld g5t g6t m1 g5s g6s gne HR2
    generalize (wq.setCells g5 0 (cellsB D1)).setCells g6 0 (cellsB D2) = w5 at *
    simp only [kmacAct, ptrO, val1, val2]
    have HBR : Hid (BRows w5 a n ls) := BRows.below HG.out.2 HB5.out
    go_wp2_with (at_builtin; refine wpList_append_rows (by rfl) (.tmp 13) (.tmp 14) (by rfl) (some ⟨g5, 0, none⟩) 64 64 D1 HD5.out (by omega) w5.heap.size rfl (by rfl) a n c ls (by rfl) HBR.out hn0 hn ?_; intro g7 c7 w7 hR7 hb7)
    have HB7 : Hid (Below w2.heap.size w2 w7) := HB5.out.trans (hb7.mono HB5.out.size)
    have HR7 : Hid (BRows w7 (some ⟨g7, 0, none⟩) (1 + n) (D1 :: ls)) := hR7
    have HD7 : Hid (Row w7 (some ⟨g6, 0, none⟩) 64 D2) := Row.below HD6.out hb7
    have hfl : (D1 :: ls).flatten = D1 ++ ls.flatten := by simp
    have hfn : (D1 :: ls).flatten.length ≤ 1000000000000000000 := by rw [hfl, List.length_append]; omega
    clear hR7 hb7 HB5 HD5 HD6 HBR
    refine (wsumof_any _ (1 + n) c7 (D1 :: ls) w7 (HG.out.1.below HB7.out) HR7.out hfn (by omega)).mono ?_
    rintro e w8 ⟨rfl, hb8⟩
    rw [hfl]
    clear hfl hfn
    have hlen := shaL_length (D1 ++ ls.flatten)
    have HB8 : Hid (Below w2.heap.size w2 w8) := HB7.out.trans (hb8.mono HB7.out.size)
    have HD8 : Hid (Row w8 (some ⟨g6, 0, none⟩) 64 D2) := Row.below HD7.out hb8
    clear hb8 HB7 HR7 HD7
    generalize hD : shaL (D1 ++ ls.flatten) = D at *
    have HD : Hid (shaL (D1 ++ ls.flatten) = D) := hD
    clear hD
    obtain ⟨w9, hw9⟩ : ∃ w9, w8.alloc (.cells (cellsB z32).toArray 23) = w9 := ⟨_, rfl⟩
    have ht9 : Hid (w9.there w8.heap.size 0 32) := by rw [← hw9]; exact alloc_thereAt _ _ _ 32 _ rfl z32_size.symm
    have hb9 : Below w8.heap.size w8 (w9.setCells w8.heap.size 0 (cellsB D)) := by rw [← hw9]; exact new_stored _ _ _
    have HB9 : Hid (Below w2.heap.size w2 (w9.setCells w8.heap.size 0 (cellsB D))) := HB8.out.trans (hb9.mono HB8.out.size)
    have HD9 : Hid (Row (w9.setCells w8.heap.size 0 (cellsB D)) (some ⟨g6, 0, none⟩) 64 D2) := Row.below HD8.out hb9
    have HE9 : Hid (Row (w9.setCells w8.heap.size 0 (cellsB D)) (some ⟨w8.heap.size, 0, none⟩) 32 D) := (dat_stored ht9.out hlen).row hlen
    clear hb9 HB8 HD8
    go_wp2_with (first
      | (refine wpList_allocE (by rfl) 23 (by rfl) (cellsB z32).toArray Tryd.zeroDigest w8.heap.size rfl w9 hw9 ?_)
      | (refine wpList_store_mid (by rfl) 23 (.tmp 7) (.tmp 16) (by rfl) w8.heap.size 0 (cellsB D).toArray (by rfl) (by rfl) (by rw [cellsB_size, hlen]; exact ht9.out) (by rw [cellsB_size, hlen]; exact Tryd.sizeDigest) (all_oneCell_toArray (cellsB_one _)) ?_))
    clear ht9 hw9
    generalize w9.setCells w8.heap.size 0 (cellsB D) = wA at *
    generalize w8.heap.size = g8 at *
    simp only [Act.put, List.setIfInBounds_toArray, List.set_cons_zero, List.set_cons_succ]
    go_still_tail 2, (by kernel_rfl)
    have HBd : Hid (Below w2.heap.size w2 wA.drew) := HB9.out.drew
    have HDd : Hid (Row wA.drew (some ⟨g6, 0, none⟩) 64 D2) := Row.below HD9.out (below_drewN wA 1)
    have HEd : Hid (Row wA.drew (some ⟨g8, 0, none⟩) 32 D) := Row.below HE9.out (below_drewN wA 1)
    clear HB9 HD9 HE9
    change wpList _ _ _ _ _ wA.drew
    generalize wA.drew = wB at *
    have HRB : Hid (BRows (wB.alloc (.cells #[.slice (some ⟨g6, 0, none⟩) 64 64, .slice (some ⟨g8, 0, none⟩) 32 32] 49)) (some ⟨wB.heap.size, 0, none⟩) 2 [D2, D]) := BRows.lit2 (by omega) HDd.out (by omega) HEd.out
    have HBB : Hid (Below w2.heap.size w2 (wB.alloc (.cells #[.slice (some ⟨g6, 0, none⟩) 64 64, .slice (some ⟨g8, 0, none⟩) 32 32] 49))) := Below.alloc HBd.out HBd.out.size _
    go_wp2_with fail
    refine (wsumof_any _ 2 2 [D2, D] _ (HG.out.1.below HBB.out) HRB.out (by simp; omega) (by omega)).mono ?_
    rintro e wC ⟨rfl, hbC⟩
    have hfl : [D2, D].flatten = D2 ++ D := by simp
    rw [hfl]
    clear hfl
    have HBC : Hid (Below w2.heap.size w2 wC) := HBB.out.trans (hbC.mono HBB.out.size)
    have HTC : Hid (wC.there (w.heap.size + 1) 0 32) := there_below HT2.out HBC.out (by omega)
    have hlE := shaL_length (D2 ++ D)
    clear hbC HRB HBB HBd HDd HEd
    generalize hE : shaL (D2 ++ D) = E at *
    have HE : Hid (shaL (D2 ++ D) = E) := hE
    clear hE
    go_wp2_with (refine wpList_store_mid (by rfl) 23 (.tmp 4) (.tmp 20) (by rfl) (w.heap.size + 1) 0 (cellsB E).toArray (by rfl) (by rfl) (by rw [cellsB_size, hlE]; exact HTC.out) (by rw [cellsB_size, hlE]; exact Tryd.sizeDigest) (all_oneCell_toArray (cellsB_one _)) ?_)
    refine bodyPost_ret (v := digestV E) (run_results_row Tryd.results34 _ _ (w.heap.size + 1) 0 (by rfl) (cellsB E) (World.rangeAt_setCells_same _ _ _ _ (by rw [cellsB_length, hlE]; exact HTC.out)) _ Tryd.underlying23 (by rfl) (by rw [cellsB_length, hlE]; exact Tryd.sizeDigest)) rfl ⟨?_, ?_⟩
    · rw [HDE.out.1, HDE.out.2, HD.out, HE.out]
    · exact below_setCells _ (by omega) _ _ _ (HB2.out.trans (HBC.out.mono (by omega)))
end Go.Proofs.YtigdgmoiljifjaaDoor
/- The contract of mac.Mac: the digest of bytes with a key. -/
namespace Go.Proofs.YtigdgmoiljifjaaDoor
open Go.RowKit
set_option linter.unusedVariables false
set_option linter.unusedSimpArgs false

theorem macL_kblk (key b : List UInt8) : shaL (padX (kblk key) 92 64 ++ shaL (padX (kblk key) 54 64 ++ b)) = macL key b := by
  rw [padX_kblk, padX_kblk]
  rfl

set_option maxRecDepth 100000 in
set_option maxHeartbeats 1000000 in
theorem wmac_any (a1 : Option Addr) (n1 c1 : Nat) (key : List UInt8) (a2 : Option Addr) (n2 c2 : Nat) (b : List UInt8) (w : World) (G : Tab w) (R1 : Row w a1 n1 key) (R2 : Row w a2 n2 b) (hc1 : n1 ≤ c1) (hc2 : n2 ≤ c2) (h1 : n1 ≤ 100000000000000000) (h2 : n2 ≤ 100000000000000000) :
    Calls Tryd.prog 26 #[.slice a1 n1 c1, .slice a2 n2 c2] w fun e w' => e = .returned (digestV (macL key b)) ∧ Below w.heap.size w w' := by
  obtain ⟨w1, hw1⟩ : ∃ w1, w.alloc (.cells (cellsB z32).toArray 23) = w1 := ⟨_, rfl⟩
  have hs1 : w1.heap.size = w.heap.size + 1 := by rw [← hw1]; simp
  have hb1 : Below w.heap.size w w1 := by rw [← hw1]; exact (Below.refl _ _).alloc (Nat.le_refl _) _
  have ht1 : Hid (w1.there w.heap.size 0 32) := by rw [← hw1]; exact alloc_thereAt _ _ _ 32 _ rfl z32_size.symm
  have HG : Hid (Tab w1 ∧ Row w1 a1 n1 key ∧ Row w1 a2 n2 b) := ⟨G.below hb1, R1.below hb1, R2.below hb1⟩
  have hln := R2.1
  clear G R1 R2
  go_enter Tryd.func26, Tryd.ntmps26
  go_wp2_with (refine wpList_allocE (by rfl) 23 (by rfl) (cellsB z32).toArray Tryd.zeroDigest w.heap.size rfl w1 hw1 ?_)
  refine (wblockof_any _ _ _ key _ HG.out.1 HG.out.2.1 hc1 (by omega)).mono ?_
  rintro e w2 ⟨rfl, hb2⟩
  have hb3 : Below w2.heap.size w2 (w2.alloc (.cells #[.slice a2 n2 c2] 49)) := (Below.refl _ _).alloc (Nat.le_refl _) _
  have HR3 : Hid (BRows (w2.alloc (.cells #[.slice a2 n2 c2] 49)) (some ⟨w2.heap.size, 0, none⟩) 1 [b]) := BRows.lit1 hc2 (HG.out.2.2.below hb2)
  have HB3 : Hid (Below w.heap.size w (w2.alloc (.cells #[.slice a2 n2 c2] 49))) := below_trans hb1 (below_trans hb2 hb3)
  have HT3 : Hid ((w2.alloc (.cells #[.slice a2 n2 c2] 49)).there w.heap.size 0 32) := there_below ht1.out (below_trans hb2 hb3) (by omega)
  have HG3 : Hid (Tab (w2.alloc (.cells #[.slice a2 n2 c2] 49))) := HG.out.1.below (below_trans hb2 hb3)
  have hk := kblk_length key
  have HM : Hid (shaL (padX (kblk key) 92 64 ++ shaL (padX (kblk key) 54 64 ++ [b].flatten)) = macL key b) := by
    unfold Hid
    rw [show [b].flatten = b by simp]
    exact macL_kblk key b
  have hfl : [b].flatten.length ≤ 100000000000000000 := by simp; omega
  have hs2 : w.heap.size < w2.heap.size := by have := hb2.size; omega
  clear hb3 hb2 ht1 hb1 hw1 HG hs1
  generalize kblk key = kk at *
  go_wp2_with fail
  refine (wkmac_any kk _ 1 1 [b] _ HG3.out hk HR3.out (by omega) (by omega) hfl).mono ?_
  rintro e w4 ⟨rfl, hb4⟩
  rw [HM.out]
  have HB4 : Hid (Below w.heap.size w w4) := below_trans HB3.out hb4
  have HT4 : Hid (w4.there w.heap.size 0 32) := there_below HT3.out hb4 (by simp; omega)
  have hlen := macL_length key b
  clear hb4 HB3 HT3 HR3 HG3 HM hfl
  generalize hD : macL key b = D at *
  have HD : Hid (macL key b = D) := hD
  clear hD
  go_wp2_with (refine wpList_store_mid (by rfl) 23 (.tmp 4) (.tmp 9) (by rfl) w.heap.size 0 (cellsB D).toArray (by rfl) (by rfl) (by rw [cellsB_size, hlen]; exact HT4.out) (by rw [cellsB_size, hlen]; exact Tryd.sizeDigest) (all_oneCell_toArray (cellsB_one _)) ?_)
  refine bodyPost_ret (v := digestV D) (run_results_row Tryd.results26 _ _ w.heap.size 0 (by rfl) (cellsB D) (World.rangeAt_setCells_same _ _ _ _ (by rw [cellsB_length, hlen]; exact HT4.out)) _ Tryd.underlying23 (by rfl) (by rw [cellsB_length, hlen]; exact Tryd.sizeDigest)) rfl ⟨by rw [HD.out], ?_⟩
  exact below_setCells _ (Nat.le_refl _) _ _ _ HB4.out
end Go.Proofs.YtigdgmoiljifjaaDoor
/- Plain definitions for keys that sign once: no theorem of the program yet. -/
namespace Go.Proofs.YtigdgmoiljifjaaDoor
open Go.RowKit
set_option linter.unusedVariables false
set_option linter.unusedSimpArgs false
/-- The i-th bit of a digest, the highest one of a byte first. -/
def bitL (m : List UInt8) (i : Nat) : Nat := (m.getD (i / 8) 0).toNat / 2 ^ (7 - i % 8) % 2
theorem bitL_lt (m : List UInt8) (i : Nat) : bitL m i < 2 := Nat.mod_lt _ (by omega)
def onceSecL (seed : List UInt8) (i bit : Nat) : List UInt8 := macL seed [2, UInt8.ofNat i, UInt8.ofNat bit]
theorem onceSecL_length (seed : List UInt8) (i bit : Nat) : (onceSecL seed i bit).length = 32 := macL_length _ _
def onceLeafL (d : List UInt8) : List UInt8 := shaL (3 :: d)
theorem onceLeafL_length (d : List UInt8) : (onceLeafL d).length = 32 := shaL_length _
def onceLeavesL (seed : List UInt8) (n : Nat) : List (List UInt8) := (List.range n).map fun k => onceLeafL (onceSecL seed (k / 2) (k % 2))
def oncePubL (seed : List UInt8) : List UInt8 := shaL (4 :: (onceLeavesL seed 512).flatten)
def onceSigL (seed m : List UInt8) : Nat → List (List UInt8)
  | 0 => []
  | i + 1 => onceSigL seed m i ++ [onceSecL seed i (bitL m i)] ++ [onceLeafL (onceSecL seed i (1 - bitL m i))]
def onceAt (m : List UInt8) (sig : List (List UInt8)) (k : Nat) : List UInt8 := if bitL m (k / 2) = k % 2 then onceLeafL (sig.getD (k - k % 2) []) else sig.getD (k - k % 2 + 1) []
def onceToldL (m : List UInt8) (sig : List (List UInt8)) (n : Nat) : List (List UInt8) := (List.range n).map (onceAt m sig)
def onceKeyL (m : List UInt8) (sig : List (List UInt8)) : List UInt8 := shaL (4 :: (onceToldL m sig 512).flatten)
theorem onceLeavesL_succ (seed : List UInt8) (n : Nat) : onceLeavesL seed n ++ [onceLeafL (onceSecL seed (n / 2) (n % 2))] = onceLeavesL seed (n + 1) := by
  unfold onceLeavesL; rw [List.range_succ, List.map_append]; rfl
theorem onceLeavesL_len (seed : List UInt8) (n : Nat) : (onceLeavesL seed n).length = n := by simp [onceLeavesL]
theorem onceToldL_succ (m : List UInt8) (sig : List (List UInt8)) (n : Nat) : onceToldL m sig n ++ [onceAt m sig n] = onceToldL m sig (n + 1) := by
  unfold onceToldL; rw [List.range_succ, List.map_append]; rfl
theorem onceToldL_len (m : List UInt8) (sig : List (List UInt8)) (n : Nat) : (onceToldL m sig n).length = n := by simp [onceToldL]
theorem onceSigL_len (seed m : List UInt8) : ∀ n, (onceSigL seed m n).length = 2 * n
  | 0 => rfl
  | n + 1 => by rw [onceSigL, List.length_append, List.length_append, onceSigL_len seed m n]; simp; omega
theorem onceSigL_32 (seed m : List UInt8) : ∀ n, ∀ l ∈ onceSigL seed m n, l.length = 32
  | 0, l, h => by cases h
  | n + 1, l, h => by
    rw [onceSigL, List.mem_append, List.mem_append] at h
    rcases h with (h | h) | h
    · exact onceSigL_32 seed m n l h
    · rw [List.mem_singleton.1 h]; exact onceSecL_length _ _ _
    · rw [List.mem_singleton.1 h]; exact onceLeafL_length _
/-- What stands at a place of a signature. -/
theorem onceSigL_at (seed m : List UInt8) : ∀ n i, i < n → (onceSigL seed m n).getD (2 * i) [] = onceSecL seed i (bitL m i) ∧ (onceSigL seed m n).getD (2 * i + 1) [] = onceLeafL (onceSecL seed i (1 - bitL m i))
  | 0, i, h => by omega
  | n + 1, i, h => by
    have hl := onceSigL_len seed m n
    by_cases hi : i < n
    · obtain ⟨h1, h2⟩ := onceSigL_at seed m n i hi
      rw [onceSigL, List.append_assoc]
      simp only [List.getD_eq_getElem?_getD] at h1 h2 ⊢
      rw [List.getElem?_append_left (by omega), List.getElem?_append_left (by omega)]
      exact ⟨h1, h2⟩
    · obtain rfl : i = n := by omega
      rw [onceSigL, List.append_assoc]
      simp only [List.getD_eq_getElem?_getD]
      refine ⟨?_, ?_⟩
      · rw [List.getElem?_append_right (by omega), hl, Nat.sub_self]
        rfl
      · rw [List.getElem?_append_right (by omega), hl, show 2 * i + 1 - 2 * i = 1 by omega]
        rfl
/-- A signature tells the leaves of its seed. -/
theorem onceTold_signed (seed m : List UInt8) (k : Nat) (hk : k < 512) : onceAt m (onceSigL seed m 256) k = onceLeafL (onceSecL seed (k / 2) (k % 2)) := by
  obtain ⟨h1, h2⟩ := onceSigL_at seed m 256 (k / 2) (by omega)
  have e : k - k % 2 = 2 * (k / 2) := by omega
  have hb := bitL_lt m (k / 2)
  unfold onceAt
  rw [e]
  by_cases h : bitL m (k / 2) = k % 2
  · rw [if_pos h, h1, h]
  · rw [if_neg h, h2, show 1 - bitL m (k / 2) = k % 2 by omega]
theorem onceKey_signed (seed m : List UInt8) : onceKeyL m (onceSigL seed m 256) = oncePubL seed := by
  have e : onceToldL m (onceSigL seed m 256) 512 = onceLeavesL seed 512 := by
    unfold onceToldL onceLeavesL
    exact List.map_congr_left fun k hk => onceTold_signed seed m k (List.mem_range.1 hk)
  unfold onceKeyL oncePubL
  rw [e]
/-- Two digests that differ differ in a bit. -/
theorem byte_bits {x y : UInt8} (h : ∀ t, t < 8 → x.toNat / 2 ^ t % 2 = y.toNat / 2 ^ t % 2) : x = y := by
  apply UInt8.toNat_inj.1
  apply Nat.eq_of_testBit_eq
  intro t
  have hx := x.toNat_lt
  have hy := y.toNat_lt
  by_cases ht : t < 8
  · have := h t ht
    rw [Nat.testBit_eq_decide_div_mod_eq, Nat.testBit_eq_decide_div_mod_eq, this]
  · have hp : 2 ^ 8 ≤ 2 ^ t := Nat.pow_le_pow_right (by omega) (by omega)
    rw [Nat.testBit_lt_two_pow (by omega), Nat.testBit_lt_two_pow (by omega)]
theorem bits_apart {m o : List UInt8} (hm : m.length = 32) (ho : o.length = 32) (h : m ≠ o) : ∃ i, i < 256 ∧ bitL m i ≠ bitL o i := by
  apply Classical.byContradiction
  intro hn
  refine h (nth_inj (by omega) fun j hj => ?_)
  have hb : m.getD j 0 = o.getD j 0 := by
    refine byte_bits fun t ht => ?_
    have hi : ¬ (8 * j + (7 - t) < 256 ∧ bitL m (8 * j + (7 - t)) ≠ bitL o (8 * j + (7 - t))) := fun h' => hn ⟨_, h'.1, h'.2⟩
    have hlt : 8 * j + (7 - t) < 256 := by omega
    have e : bitL m (8 * j + (7 - t)) = bitL o (8 * j + (7 - t)) := Classical.byContradiction fun h' => hi ⟨hlt, h'⟩
    unfold bitL at e
    rw [show (8 * j + (7 - t)) / 8 = j by omega, show 7 - (8 * j + (7 - t)) % 8 = t by omega] at e
    exact e
  unfold nth
  rw [hb]
/-- Whoever signs another digest shows a secret, or leaves that differ. -/
theorem onceForged (seed m o : List UInt8) (sig : List (List UInt8)) (hm : m.length = 32) (ho : o.length = 32) (h : m ≠ o)
    (hno : ∀ i, i < 256 → bitL m i ≠ bitL o i → onceLeafL (sig.getD (2 * i) []) ≠ onceLeafL (onceSecL seed i (1 - bitL m i))) : onceLeavesL seed 512 ≠ onceToldL o sig 512 := by
  obtain ⟨i, hi, hb⟩ := bits_apart hm ho h
  intro e
  refine hno i hi hb ?_
  have b1 := bitL_lt m i
  have b2 := bitL_lt o i
  have hk : 2 * i + bitL o i < 512 := by omega
  have e2 := congrArg (fun l => l.getD (2 * i + bitL o i) []) e
  simp only [onceLeavesL, onceToldL, List.getD_eq_getElem?_getD, List.getElem?_map, List.getElem?_range hk, Option.map_some, Option.getD_some] at e2
  unfold onceAt at e2
  rw [show (2 * i + bitL o i) / 2 = i by omega, show (2 * i + bitL o i) % 2 = bitL o i by omega, if_pos rfl, show 2 * i + bitL o i - bitL o i = 2 * i by omega, show bitL o i = 1 - bitL m i by omega] at e2
  exact e2.symm
end Go.Proofs.YtigdgmoiljifjaaDoor
/- The contracts of once.secret and once.leaf. -/
namespace Go.Proofs.YtigdgmoiljifjaaDoor
open Go.RowKit
set_option linter.unusedVariables false
set_option linter.unusedSimpArgs false

/-- A literal of bytes. -/
theorem Row.litB (w : World) (cs : Array Value) (t : TypeId) (l : List UInt8) (h : cs.toList = cellsB l) (n : Nat) (hn : l.length = n) : Row (w.alloc (.cells cs t)) (some ⟨w.heap.size, 0, none⟩) n l := by
  have : DAt (w.alloc (.cells cs t)) w.heap.size 0 l := by
    unfold DAt
    rw [← h]
    exact alloc_range w cs t
  exact ⟨hn, .inr ⟨w.heap.size, 0, rfl, fun i hi => this.cell i (by omega)⟩⟩

set_option maxRecDepth 100000 in
set_option maxHeartbeats 1000000 in
theorem wonce_secret (seed : List UInt8) (i bit : Nat) (w : World) (G : Env w) (hs : seed.length = 32) (hi : i < 256) (hbit : bit < 256) :
    Calls Tryd.prog 19 #[digestV seed, .int .i64 (i : Int), .int .i64 (bit : Int)] w fun e w' => e = .returned (digestV (onceSecL seed i bit)) ∧ Below w.heap.size w w' := by
  obtain ⟨w2, hw2⟩ : ∃ w2, (w.alloc (.cells (cellsB seed).toArray 23)).alloc (.cells (cellsB zD).toArray 23) = w2 := ⟨_, rfl⟩
  have hs1 : (w.alloc (.cells (cellsB seed).toArray 23)).heap.size = w.heap.size + 1 := by simp
  have HS2 : Hid (w2.heap.size = w.heap.size + 1 + 1) := by unfold Hid; rw [← hw2]; simp
  have HR2 : Hid (Row w2 (some ⟨w.heap.size, 0, none⟩) 32 seed) := by
    rw [← hw2]
    exact DAt.row (World.rangeAt_alloc (box_dat w seed _) _) hs
  have HT2 : Hid (w2.there (w.heap.size + 1) 0 32) := by rw [← hw2]; exact alloc_thereAt _ _ _ 32 _ hs1 zD_size.symm
  have HB2 : Hid (Below w.heap.size w w2) := by rw [← hw2]; exact ((Below.refl _ _).alloc (Nat.le_refl _) _).alloc (by simp) _
  have HG : Hid (Env w2) := G.below HB2.out
  clear G
  have HR3 : Hid (Row (w2.alloc (.cells #[.int .u8 2, .int .u8 (i : Int), .int .u8 (bit : Int)] 5)) (some ⟨w2.heap.size, 0, none⟩) 3 [2, UInt8.ofNat i, UInt8.ofNat bit]) := by
    refine Row.litB _ _ _ _ ?_ 3 rfl
    have e1 : (UInt8.ofNat i).toNat = i := by rw [UInt8.toNat_ofNat']; omega
    have e2 : (UInt8.ofNat bit).toNat = bit := by rw [UInt8.toNat_ofNat']; omega
    simp [cellsB, e1, e2]
  have HBB : Hid (Below w2.heap.size w2 (w2.alloc (.cells #[.int .u8 2, .int .u8 (i : Int), .int .u8 (bit : Int)] 5))) := (Below.refl _ _).alloc (Nat.le_refl _) _
  have i0 : (0 : Int) ≤ (i : Int) := by omega
  have i1 : (i : Int) < 256 := by omega
  have b0 : (0 : Int) ≤ (bit : Int) := by omega
  have b1 : (bit : Int) < 256 := by omega
  go_enter Tryd.func19, Tryd.ntmps19
  go_wp2_with (refine wpList_allocE (by rfl) 23 (by rfl) (cellsB zD).toArray Tryd.zeroDg (w.heap.size + 1) hs1 w2 hw2 ?_)
  clear hw2 hs1
  refine (wmac_any _ 32 32 seed _ 3 3 _ _ (HG.out.below HBB.out) (HR2.out.below HBB.out) HR3.out (by omega) (by omega) (by omega) (by omega)).mono ?_
  rintro e w3 ⟨rfl, hb3⟩
  have hE : macL seed [2, UInt8.ofNat i, UInt8.ofNat bit] = onceSecL seed i bit := rfl
  rw [hE]
  have HB3 : Hid (Below w2.heap.size w2 w3) := HBB.out.trans (hb3.mono HBB.out.size)
  have HT3 : Hid (w3.there (w.heap.size + 1) 0 32) := there_below HT2.out HB3.out (by have := HS2.out; omega)
  have hlen := onceSecL_length seed i bit
  clear hb3 HR3 HBB hE HT2 HR2
  generalize hD : onceSecL seed i bit = D at *
  have HD : Hid (onceSecL seed i bit = D) := hD
  clear hD
  go_wp2_with (refine wpList_store_mid (by rfl) 23 (.tmp 6) (.tmp 13) (by rfl) (w.heap.size + 1) 0 (cellsB D).toArray (by rfl) (by rfl) (by rw [cellsB_size, hlen]; exact HT3.out) (by rw [cellsB_size, hlen]; exact Tryd.sizeDg) (all_oneCell_toArray (cellsB_one _)) ?_)
  refine bodyPost_ret (v := digestV D) (run_results_row Tryd.results19 _ _ (w.heap.size + 1) 0 (by rfl) (cellsB D) (World.rangeAt_setCells_same _ _ _ _ (by rw [cellsB_length, hlen]; exact HT3.out)) _ Tryd.underlying23 (by rfl) (by rw [cellsB_length, hlen]; exact Tryd.sizeDg)) rfl ⟨by rw [HD.out], ?_⟩
  exact below_setCells _ (by omega) _ _ _ (HB2.out.trans (HB3.out.mono (by have := HS2.out; omega)))

set_option maxRecDepth 100000 in
set_option maxHeartbeats 1000000 in
theorem wonce_leaf (d : List UInt8) (w : World) (G : Env w) (hd : d.length = 32) :
    Calls Tryd.prog 20 #[digestV d] w fun e w' => e = .returned (digestV (onceLeafL d)) ∧ Below w.heap.size w w' := by
  obtain ⟨w2, hw2⟩ : ∃ w2, (w.alloc (.cells (cellsB d).toArray 23)).alloc (.cells (cellsB zD).toArray 23) = w2 := ⟨_, rfl⟩
  have hs1 : (w.alloc (.cells (cellsB d).toArray 23)).heap.size = w.heap.size + 1 := by simp
  have HS2 : Hid (w2.heap.size = w.heap.size + 1 + 1) := by unfold Hid; rw [← hw2]; simp
  have HR2 : Hid (Row w2 (some ⟨w.heap.size, 0, none⟩) 32 d) := by
    rw [← hw2]
    exact DAt.row (World.rangeAt_alloc (box_dat w d _) _) hd
  have HT2 : Hid (w2.there (w.heap.size + 1) 0 32) := by rw [← hw2]; exact alloc_thereAt _ _ _ 32 _ hs1 zD_size.symm
  have HB2 : Hid (Below w.heap.size w w2) := by rw [← hw2]; exact ((Below.refl _ _).alloc (Nat.le_refl _) _).alloc (by simp) _
  have HG : Hid (Env w2) := G.below HB2.out
  clear G
  go_enter Tryd.func20, Tryd.ntmps20
  go_wp2_with (refine wpList_allocE (by rfl) 23 (by rfl) (cellsB zD).toArray Tryd.zeroDg (w.heap.size + 1) hs1 w2 hw2 ?_)
  clear hw2 hs1
  have hsa : (w2.alloc (.cells #[.int .u8 3] 5)).heap.size = w2.heap.size + 1 := by simp
  have HRB : Hid (BRows ((w2.alloc (.cells #[.int .u8 3] 5)).alloc (.cells #[.slice (some ⟨w2.heap.size, 0, none⟩) 1 1, .slice (some ⟨w.heap.size, 0, none⟩) 32 32] 49)) (some ⟨w2.heap.size + 1, 0, none⟩) 2 [[3], d]) := by
    have := BRows.lit2 (w := w2.alloc (.cells #[.int .u8 3] 5)) (t := 49) (Nat.le_refl 1) (Row.lit1v w2 3 5 3 rfl) (Nat.le_refl 32) (HR2.out.below ((Below.refl _ _).alloc (Nat.le_refl _) _))
    rw [hsa] at this
    exact this
  have HBB : Hid (Below w2.heap.size w2 ((w2.alloc (.cells #[.int .u8 3] 5)).alloc (.cells #[.slice (some ⟨w2.heap.size, 0, none⟩) 1 1, .slice (some ⟨w.heap.size, 0, none⟩) 32 32] 49))) := ((Below.refl _ _).alloc (Nat.le_refl _) _).alloc (by simp) _
  refine (wsumof_any _ 2 2 [[3], d] _ (HG.out.below HBB.out) HRB.out (by simp; omega) (by omega)).mono ?_
  rintro e w3 ⟨rfl, hb3⟩
  have e1 : shaL [[3], d].flatten = onceLeafL d := by
    rw [show [[3], d].flatten = 3 :: d by simp]
    rfl
  rw [e1]
  have HB3 : Hid (Below w2.heap.size w2 w3) := HBB.out.trans (hb3.mono HBB.out.size)
  have HT3 : Hid (w3.there (w.heap.size + 1) 0 32) := there_below HT2.out HB3.out (by have := HS2.out; omega)
  have hlen := onceLeafL_length d
  clear hb3 HRB HBB hsa e1
  generalize hD : onceLeafL d = D at *
  have HD : Hid (onceLeafL d = D) := hD
  clear hD
  go_wp2_with (refine wpList_store_mid (by rfl) 23 (.tmp 2) (.tmp 6) (by rfl) (w.heap.size + 1) 0 (cellsB D).toArray (by rfl) (by rfl) (by rw [cellsB_size, hlen]; exact HT3.out) (by rw [cellsB_size, hlen]; exact Tryd.sizeDg) (all_oneCell_toArray (cellsB_one _)) ?_)
  refine bodyPost_ret (v := digestV D) (run_results_row Tryd.results20 _ _ (w.heap.size + 1) 0 (by rfl) (cellsB D) (World.rangeAt_setCells_same _ _ _ _ (by rw [cellsB_length, hlen]; exact HT3.out)) _ Tryd.underlying23 (by rfl) (by rw [cellsB_length, hlen]; exact Tryd.sizeDg)) rfl ⟨by rw [HD.out], ?_⟩
  exact below_setCells _ (by omega) _ _ _ (HB2.out.trans (HB3.out.mono (by have := HS2.out; omega)))

end Go.Proofs.YtigdgmoiljifjaaDoor
