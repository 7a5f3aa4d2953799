/- Texts of this claim, joined: Wbytes, Sshares, Lsplit, OwnI. -/
import Derived.Test.YtnffmegicgbinaaJ01
import Derived.Deep.QuietTactic
import Derived.BigQuiet
import Derived.Test.YtnffmegicgbinaaJ05
import Derived.Deep.RegionHeld3
import Derived.Deep.DeepCutAuto
import Derived.Test.YtnffmegicgbinaaJ13
import Derived.Test.YtnffmegicgbinaaJ07
/- The contract of oathbooksame.Bytes: it tells whether two slices read as one list. -/
namespace Go.Proofs.Ytnffmegicgbinaa
open Go.RowKit
set_option linter.unusedVariables false
set_option linter.unusedSimpArgs false

set_option maxHeartbeats 400000 in
theorem bytes_any (a1 a2 : Option Addr) (n1 n2 c1 c2 : Nat) (l1 l2 : List UInt8) (w : World) (h1 : Row w a1 n1 l1) (h2 : Row w a2 n2 l2) (hm : n1 ≤ 281474976710656) :
    Calls Try.prog 9 #[.slice a1 n1 c1, .slice a2 n2 c2] w fun e w' => e = .returned (.bool (decide (l1 = l2))) ∧ ∃ n, w' = w.drewN n := by
  obtain ⟨e1, k1⟩ := h1
  obtain ⟨e2, k2⟩ := h2
  by_cases hn : n1 = n2
  · subst hn
    have hne : ((n1 : Int) != (n1 : Int)) = false := by simp
    have HE : Hid (l1.length = n1 ∧ l2.length = n1) := ⟨e1, e2⟩
    clear e1 e2
    go_enter Try.func9, Try.ntmps9
    go_wp2
    go_loopw [5] (fun i wr => ∃ k nn : Nat, k ≤ n1 ∧ i = .int .i64 k ∧ wr = w.drewN nn ∧ ∀ j, j < k → nth l1 j = nth l2 j) (fun i _ => n1 - (intOf i).toNat)
    case atStart => exact ⟨0, 0, Nat.zero_le _, rfl, rfl, fun j hj => by omega⟩
    case round =>
      obtain ⟨k, nn, hk, rfl, rfl, hall⟩ := hrel
      have HA : Hid (∀ j, j < k → nth l1 j = nth l2 j) := hall
      clear hall
      by_cases hlt : k < n1
      · rcases k1 with k1 | ⟨b1, o1, rfl, k1⟩
        · omega
        rcases k2 with k2 | ⟨b2, o2, rfl, k2⟩
        · omega
        have g1 := k1 k hlt
        have g2 := k2 k hlt
        have hi : (0 : Int) ≤ (k : Int) := by omega
        have hj : (k : Int) < (n1 : Int) := by omega
        clear k1 k2
        by_cases hq : nth l1 k = nth l2 k
        · have HQ : Hid (nth l1 k = nth l2 k) := hq
          have hb : (nth l1 k != nth l2 k) = false := by simp [hq]
          clear hq
          go_wp2
          go_quiet (fail)
          go_wp2
          go_roundw
          case rel => exact ⟨k + 1, nn + nq, by omega, by go_num, rfl, fun j hj => by
            by_cases hjk : j = k
            · subst hjk; exact HQ.out
            · exact HA.out j (by omega)⟩
          case measure => simp [intOf]; omega
        · have HQ : Hid (¬ nth l1 k = nth l2 k) := hq
          have hb : (nth l1 k != nth l2 k) = true := by simp [hq]
          clear hq
          go_wp2
          go_quiet (fail)
          go_wp2
          go_ret
          exact ⟨ret_bool (by symm; rw [decide_eq_false_iff_not]; intro h; subst h; exact HQ.out rfl), nn + nq, by rw [drewN_add]⟩
      · go_wp2
        go_ret
        exact ⟨ret_bool (by
          have hE := HE.out
          symm
          rw [decide_eq_true_iff]
          exact nth_inj (by omega) fun j hj => HA.out j (by omega)), nn, rfl⟩
  · have hne : ((n1 : Int) != (n2 : Int)) = true := by simp; omega
    go_enter Try.func9, Try.ntmps9
    go_wp2
    go_ret
    exact ⟨ret_bool (by symm; rw [decide_eq_false_iff_not]; intro h; subst h; omega), 0, rfl⟩
end Go.Proofs.Ytnffmegicgbinaa
/- The contract of oathbooksame.Shares: it tells whether two slices of shares read as one list. -/
namespace Go.Proofs.Ytnffmegicgbinaa
open Go.RowKit
set_option linter.unusedVariables false
set_option linter.unusedSimpArgs false

theorem SRow.head {w : World} {b o n : Nat} {ss : List Shr} (R : SRow w (some ⟨b, o, none⟩) n ss) (i : Nat) (hi : i < n) : ∃ (ai : Option Addr) (ni ci : Nat), ni ≤ 140737488351232 ∧ (ss.getD i noS).1 < 256 ∧ ni ≤ ci ∧ ∀ wx, Below w.heap.size w wx → wx.cell? ⟨b, o + i * 2, none⟩ = some (.int .u8 ((ss.getD i noS).1 : Int)) ∧ wx.cell? ⟨b, o + i * 2 + 1, none⟩ = some (.slice ai ni ci) ∧ Row wx ai ni (ss.getD i noS).2 := by
  obtain ⟨hp, c0, ai, ni, ci, c1, h4, h5, hR⟩ := R.at i hi
  exact ⟨ai, ni, ci, h5, hp, h4, fun wx hb => ⟨(hb.cell (p := ⟨b, o + i * 2, none⟩) (cell_block c0)).trans c0, (hb.cell (p := ⟨b, o + i * 2 + 1, none⟩) (cell_block c1)).trans c1, hR.below hb⟩⟩
theorem shr_ext {ss ts : List Shr} {n : Nat} (h1 : ss.length = n) (h2 : ts.length = n) (h : ∀ j, j < n → ss.getD j noS = ts.getD j noS) : ss = ts := by
  apply List.ext_getElem (by omega)
  intro j a b
  have := h j (by omega)
  rw [List.getD_eq_getElem?_getD, List.getD_eq_getElem?_getD, List.getElem?_eq_getElem a, List.getElem?_eq_getElem b] at this
  exact this
end Go.Proofs.Ytnffmegicgbinaa
/- The laws' split: the program splits a byte as the document says. -/
namespace Go.Proofs.Ytnffmegicgbinaa
open Go.RowKit
set_option linter.unusedVariables false
set_option linter.unusedSimpArgs false

theorem row_first' {w : World} {a : Option Addr} {n : Nat} {l : List UInt8} (R : Row w a n l) (hn : 0 < n) : ∃ b o, a = some ⟨b, o, none⟩ ∧ w.cell? ⟨b, o, none⟩ = some (.int .u8 (nth l 0)) := by
  rcases R.2 with h | ⟨b, o, e, hc⟩
  · omega
  · exact ⟨b, o, e, hc 0 hn⟩
/-- A literal of one slice of bytes. -/
theorem rowsB_lit1 {w : World} {t : TypeId} {a : Option Addr} {n c : Nat} {l : List UInt8} (hc : n ≤ c) (hn : n ≤ 140737488351232) (R : Row w a n l) : BRowsB (w.alloc (.cells #[.slice a n c] t)) (some ⟨w.heap.size, 0, none⟩) 1 [l] := by
  refine ⟨⟨rfl, .inr ⟨_, 0, rfl, fun i hi => ?_⟩⟩, fun i hi => ?_⟩
  · have : i = 0 := by omega
    subst this
    refine ⟨a, n, c, ?_, hc, R.below ((Below.refl _ _).alloc (Nat.le_refl _) _)⟩
    have := cells_new w [.slice a n c] t 0
    exact this
  · have : i = 0 := by omega
    subst this
    show l.length ≤ _
    rw [R.1]
    exact hn
set_option maxRecDepth 100000 in
set_option maxHeartbeats 2000000 in
theorem lsplit_any (w : World) (G : Env w) :
    Calls Try.prog 6 #[] w fun r w' => r = .returned (.bool true) ∧ Below w.heap.size w w' := by
  obtain ⟨w1, hw1⟩ : ∃ w1, w.alloc (.cells #[.int .u8 9] 5) = w1 := ⟨_, rfl⟩
  obtain ⟨w2, hw2⟩ : ∃ w2, w1.alloc (.cells #[.int .u8 1] 5) = w2 := ⟨_, rfl⟩
  obtain ⟨w3, hw3⟩ : ∃ w3, w2.alloc (.cells #[.slice (some ⟨w.heap.size + 1, 0, none⟩) 1 1] 22) = w3 := ⟨_, rfl⟩
  have hs1 : w1.heap.size = w.heap.size + 1 := by rw [← hw1]; simp
  have hs2 : w2.heap.size = w.heap.size + 1 + 1 := by rw [← hw2]; simp [hs1]
  have b1 : Below w.heap.size w w1 := by rw [← hw1]; exact (Below.refl _ _).alloc (Nat.le_refl _) _
  have b12 : Below w1.heap.size w1 w2 := by rw [← hw2]; exact (Below.refl _ _).alloc (Nat.le_refl _) _
  have b23 : Below w2.heap.size w2 w3 := by rw [← hw3]; exact (Below.refl _ _).alloc (Nat.le_refl _) _
  have HB3 : Hid (Below w.heap.size w w3) := (b1.trans (b12.mono b1.size)).trans (b23.mono (by omega))
  have HR1 : Hid (Row w3 (some ⟨w.heap.size, 0, none⟩) 1 [9]) := by
    have r : Row w1 (some ⟨w.heap.size, 0, none⟩) 1 [9] := by rw [← hw1]; exact Row.lit1v w 9 _ 9 rfl
    exact (r.below b12).below b23
  have HR2 : Hid (BRowsB w3 (some ⟨w.heap.size + 1 + 1, 0, none⟩) 1 [[1]]) := by
    have r : Row w2 (some ⟨w.heap.size + 1, 0, none⟩) 1 [1] := by rw [← hw2, ← hs1]; exact Row.lit1v w1 1 _ 1 rfl
    rw [← hw3, ← hs2]
    exact rowsB_lit1 (Nat.le_refl _) (by omega) r
  have HW : Hid (((w.alloc (.cells #[.int .u8 9] 5)).alloc (.cells #[.int .u8 1] 5)).alloc (.cells #[.slice (some ⟨w.heap.size + 1, 0, none⟩) 1 1] 22) = w3) := by unfold Hid; rw [hw1, hw2, hw3]
  have HG : Hid (Env w3) := G.below HB3.out
  clear hw1 hw2 hw3 hs1 hs2 b1 b12 b23 G
  go_enter Try.func6, Try.ntmps6
  go_wp2_with fail
  rw [HW.out]
  refine (wshare_split (some ⟨w.heap.size, 0, none⟩) 1 1 [9] 2 (some ⟨w.heap.size + 1 + 1, 0, none⟩) 1 1 [[1]] w3 HG.out HR1.out (Nat.le_refl _) HR2.out (Nat.le_refl _) splitE_eleven).mono ?_
  rintro r w4 ⟨⟨a4, c4, rfl, hc4, r4⟩, hb4⟩
  have HB4 : Hid (Below w.heap.size w w4) := HB3.out.trans (hb4.mono HB3.out.size)
  rw [split_eleven] at r4
  obtain ⟨b, o, rfl⟩ := r4.addr (by omega)
  obtain ⟨ai, ni, ci, hni, _, hnc, HC⟩ := r4.head 1 (by omega)
  have q := HC w4 (Below.refl _ _)
  have k1 : w4.cell? ⟨b, o + 2, none⟩ = some (.int .u8 2) := q.1
  have R := q.2.2
  have hl : ni = 1 := R.1.symm
  subst hl
  obtain ⟨bi, oi, rfl, k3⟩ := row_first' R (by omega)
  have k2 : w4.cell? ⟨b, o + 3, none⟩ = some (.slice (some ⟨bi, oi, none⟩) 1 ci) := q.2.1
  have k4 : w4.cell? ⟨bi, oi, none⟩ = some (.int .u8 11) := k3
  clear HC q R k3 hb4 r4 HW HG HB3 HR1 HR2
  go_wp2_with fail
  go_ret
  exact ⟨rfl, HB4.out⟩
end Go.Proofs.Ytnffmegicgbinaa
/- Slices of ints: read, and rows that a call itself made and appends to. -/
namespace Go.Proofs.Ytnffmegicgbinaa
open Go.RowKit
set_option linter.unusedVariables false
set_option linter.unusedSimpArgs false

def cellsI (l : List Int) : List Value := l.map fun x => Value.int .i64 x
theorem cellsI_length (l : List Int) : (cellsI l).length = l.length := by simp [cellsI]
theorem cellsI_append (l r : List Int) : cellsI (l ++ r) = cellsI l ++ cellsI r := by simp [cellsI]
theorem cellsI_at (l : List Int) (i : Nat) (h : i < l.length) : (cellsI l)[i]? = some (.int .i64 (l.getD i 0)) := by
  unfold cellsI
  simp [List.getElem?_eq_getElem h, List.getD_eq_getElem?_getD]
theorem cellsI_one (l : List Int) : ∀ u ∈ cellsI l, u.oneCell' = true := by
  intro u hu
  obtain ⟨i, _, rfl⟩ := List.mem_map.1 hu
  rfl
/-- A slice of n ints at a reads as the list l. -/
def IRow (w : World) (a : Option Addr) (n : Nat) (l : List Int) : Prop :=
  l.length = n ∧ (n = 0 ∨ ∃ b o, a = some ⟨b, o, none⟩ ∧ ∀ i, i < n → w.cell? ⟨b, o + i, none⟩ = some (.int .i64 (l.getD i 0)))
theorem IRow.nil (w : World) : IRow w none 0 [] := ⟨rfl, .inl rfl⟩
theorem IRow.below {w w' : World} {a : Option Addr} {n : Nat} {l : List Int} (h : IRow w a n l) (hb : Below w.heap.size w w') : IRow w' a n l := by
  obtain ⟨h1, h2⟩ := h
  refine ⟨h1, ?_⟩
  rcases h2 with h2 | ⟨b, o, ha, hc⟩
  · exact .inl h2
  · exact .inr ⟨b, o, ha, fun i hi => (hb.cell (p := ⟨b, o + i, none⟩) (cell_block (hc i hi))).trans (hc i hi)⟩
theorem IRow.lit (w : World) (cs : Array Value) (t : TypeId) (l : List Int) (h : cs.toList = cellsI l) (n : Nat) (hn : l.length = n) : IRow (w.alloc (.cells cs t)) (some ⟨w.heap.size, 0, none⟩) n l := by
  refine ⟨hn, .inr ⟨w.heap.size, 0, rfl, fun i hi => ?_⟩⟩
  have hb : (w.alloc (.cells cs t)).heap[w.heap.size]? = some (.cells cs t) := by
    show (w.heap.push _)[w.heap.size]? = _
    simp
  have := cellsI_at l i (by omega)
  rw [← h] at this
  unfold World.cell?
  rw [hb, Nat.zero_add]
  simpa using this
/-- The call's own slice of ints v reads as l. -/
def OwnI (w : World) (B : Nat) (v : Value) (l : List Int) : Prop := w.ownsRow B 3 1 v l.length (cellsI l)
theorem OwnI.nil (w : World) (B : Nat) : OwnI w B (.slice none 0 0) [] := World.ownsRow_nil _ _ _ _
theorem OwnI.form {w : World} {B : Nat} {v : Value} {l : List Int} (h : OwnI w B v l) : ∃ a cap, v = .slice a l.length cap ∧ IRow w a l.length l ∧ l.length ≤ cap := by
  rcases h.2 with ⟨rfl, h0⟩ | ⟨g, cap, cur, rfl, h1, h2, h3, _⟩
  · exact ⟨none, 0, by rw [h0], ⟨rfl, .inl h0⟩, by omega⟩
  · refine ⟨_, cap, rfl, ⟨rfl, .inr ⟨g, 0, rfl, fun i hi => ?_⟩⟩, h3⟩
    rw [Nat.zero_add, World.ownsRow.cellAt h i (by omega), cellsI_at l i hi]
theorem OwnI.below {w w' : World} {B : Nat} {v : Value} {l : List Int} (h : OwnI w B v l) (hb : Below w.heap.size w w') : OwnI w' B v l := by
  rcases h.2 with ⟨h1, h0⟩ | ⟨g, cap, cur, e1, e2, e3, e4⟩
  · exact ⟨h.1, .inl ⟨h1, h0⟩⟩
  · have hg : g < w.heap.size := (World.ownsRow.lt h g (by rw [e1]; rfl)).2
    exact ⟨h.1, .inr ⟨g, cap, cur, e1, e2, (hb.block g hg).trans e3, e4⟩⟩
theorem OwnI.grown {w w0 w' : World} {B B0 : Nat} {v : Value} {l : List Int} (h : OwnI w B v l) (hb : Below B0 w0 w) (hg : w.grownBy w' v.ownBlock) (h0 : B0 ≤ B) (hs : B0 ≤ w.heap.size) : Below B0 w0 w' :=
  hb.grown hg hs (fun k hk => Nat.le_trans h0 (World.ownsRow.lt h k hk).1)
theorem OwnI.alloc {w : World} {B : Nat} {v : Value} {l : List Int} (h : OwnI w B v l) (o : Obj) : OwnI (w.alloc o) B v l := h.below ((Below.refl _ _).alloc (Nat.le_refl _) _)
theorem Try.infoIntO : (Try.prog.info? 3).map (fun i => (i.zero, i.size, i.bytes)) = some (some (.int .i64 0), 1, 8) := by kernel_rfl
/-- 'append(v, x...)', v the call's own row of ints, x a slice of some. -/
theorem wpList_append_ints {w : World} {ops : Array Oper} {rest : List Oper} {o : Oper} {a : Act} {Q : Exit → Act → World → Prop} (hgd : o.guard = none) (s x : Operand)
    (ho : o.op = .call { callee := .builtin .append, args := #[s, x], argTypes := #[24, 24] })
    (base : Nat) (v : Value) (l : List Int) (hs : a.eval s = v) (hown : OwnI w base v l)
    (ad : Addr) (n c : Nat) (r : List Int) (hx : a.eval x = .slice (some ad) n c) (hr : IRow w (some ad) n r) (hn0 : 0 < n) (h47 : (l.length + n) * 8 ≤ 140737488355328) (hbase : base ≤ w.heap.size)
    (h : ∀ v' w', OwnI w' base v' (l ++ r) → w.grownBy w' v.ownBlock → (v'.ownBlock = v.ownBlock ∨ v'.ownBlock = some w.heap.size) → wpList Try.prog ops Q rest (a.put o.dst v') w') : wpList Try.prog ops Q (o :: rest) a w := by
  obtain ⟨i0, hi, hz0, hz1, hz2⟩ := info_parts Try.infoIntO
  obtain ⟨hl, h1 | ⟨b, off, e1, hc⟩⟩ := hr
  · omega
  cases e1
  refine wpList_append_own_at w hgd s x 24 ho base 3 i0 (.int .i64 0) 1 8 Try.underlying24 hi hz0 hz1 hz2 rfl (by decide) v l.length (cellsI l) hs hown ⟨b, off, none⟩ n c (cellsI r) hx (by rw [cellsI_length, hl]; omega) ?_ (cellsI_one _) (by unfold maxLen; omega) h47 hbase ?_
  · intro j u hj
    have hj' : j < r.length := by have := (List.getElem?_eq_some_iff.1 hj).1; rwa [cellsI_length] at this
    rw [Go.WideShapes.add_plain, hc j (by omega), ← hj, cellsI_at r j hj']
  · intro v' w' hown' hgrow _ hat
    refine h v' w' ?_ hgrow hat
    unfold OwnI
    rw [List.length_append, cellsI_append, hl]
    exact hown'
end Go.Proofs.Ytnffmegicgbinaa
