/- Texts of this claim, joined: OwnD, Dsub, Wtake, Grow. -/
import Derived.Test.YtdldkhhcicjbmabDoorJ07
import Derived.Test.YtdldkhhcicjbmabDoorJ06
import Derived.Test.YtdldkhhcicjbmabDoorJ03
import Derived.WalkLawsBesides
/- Rows of digests that a call itself made: read, and appended to. -/
namespace Go.Proofs.YtdldkhhcicjbmabDoor
open Go.RowKit
set_option linter.unusedVariables false
set_option linter.unusedSimpArgs false

theorem flat_len {ls : List (List UInt8)} (h : ∀ l ∈ ls, l.length = 32) : ls.flatten.length = 32 * ls.length := by
  induction ls with
  | nil => rfl
  | cons l r ih =>
    rw [List.flatten_cons, List.length_append, h l (List.mem_cons_self ..), ih (fun x hx => h x (List.mem_cons_of_mem _ hx)), List.length_cons]
    omega
theorem nth_flat : ∀ {ls : List (List UInt8)}, (∀ l ∈ ls, l.length = 32) → ∀ (i j : Nat), i < ls.length → j < 32 → nth ls.flatten (32 * i + j) = nth (ls.getD i []) j
  | [], _, i, j, hi, _ => by simp at hi
  | l :: r, h, i, j, hi, hj => by
    have hl := h l (List.mem_cons_self ..)
    cases i with
    | zero =>
      unfold nth
      simp only [List.flatten_cons, List.getD_eq_getElem?_getD, Nat.mul_zero, Nat.zero_add]
      rw [List.getElem?_append_left (by omega)]
      rfl
    | succ i =>
      have ih := nth_flat (fun x hx => h x (List.mem_cons_of_mem _ hx)) i j (by simpa using hi) hj
      unfold nth at ih ⊢
      simp only [List.flatten_cons, List.getD_eq_getElem?_getD] at ih ⊢
      rw [List.getElem?_append_right (by omega), hl, show 32 * (i + 1) + j - 32 = 32 * i + j by omega, ih]
      rfl
/-- The call's own slice of digests v reads as ls. -/
def OwnD (w : World) (B : Nat) (v : Value) (ls : List (List UInt8)) : Prop := (∀ l ∈ ls, l.length = 32) ∧ w.ownsRow B 24 32 v ls.length (cellsB ls.flatten)
theorem OwnD.nil (w : World) (B : Nat) : OwnD w B (.slice none 0 0) [] := ⟨(fun l hl => by cases hl), World.ownsRow_nil _ _ _ _⟩
theorem OwnD.form {w : World} {B : Nat} {v : Value} {ls : List (List UInt8)} (h : OwnD w B v ls) : ∃ a cap, v = .slice a ls.length cap ∧ DRow w a ls.length ls ∧ ls.length ≤ cap := by
  obtain ⟨h32, h⟩ := h
  rcases h.2 with ⟨rfl, h0⟩ | ⟨g, cap, cur, rfl, h1, h2, h3, _⟩
  · exact ⟨none, 0, by rw [h0], ⟨rfl, h32, .inl h0⟩, by omega⟩
  · refine ⟨_, cap, rfl, ⟨rfl, h32, .inr ⟨g, 0, rfl, fun i hi => DAt.mk fun j hj => ?_⟩⟩, h3⟩
    have hlen : (ls.getD i []).length = 32 := by
      rw [List.getD_eq_getElem?_getD, List.getElem?_eq_getElem hi]
      exact h32 _ (List.getElem_mem _)
    rw [hlen] at hj
    have hf := flat_len h32
    rw [Nat.zero_add, World.ownsRow.cellAt h (32 * i + j) (by omega), cellsB_at _ _ (by omega), nth_flat h32 i j hi hj]
theorem OwnD.below {w w' : World} {B : Nat} {v : Value} {ls : List (List UInt8)} (h : OwnD w B v ls) (hb : Below w.heap.size w w') : OwnD w' B v ls := by
  refine ⟨h.1, ?_⟩
  have h := h.2
  rcases h.2 with ⟨h1, h0⟩ | ⟨g, cap, cur, e1, e2, e3, e4⟩
  · exact ⟨h.1, .inl ⟨h1, h0⟩⟩
  · have hg : g < w.heap.size := (World.ownsRow.lt h g (by rw [e1]; rfl)).2
    exact ⟨h.1, .inr ⟨g, cap, cur, e1, e2, (hb.block g hg).trans e3, e4⟩⟩
theorem OwnD.grown {w w0 w' : World} {B B0 : Nat} {v : Value} {ls : List (List UInt8)} (h : OwnD w B v ls) (hb : Below B0 w0 w) (hg : w.grownBy w' v.ownBlock) (h0 : B0 ≤ B) (hs : B0 ≤ w.heap.size) : Below B0 w0 w' :=
  hb.grown hg hs (fun k hk => Nat.le_trans h0 (World.ownsRow.lt h.2 k hk).1)
theorem OwnD.alloc {w : World} {B : Nat} {v : Value} {ls : List (List UInt8)} (h : OwnD w B v ls) (o : Obj) : OwnD (w.alloc o) B v ls := h.below ((Below.refl _ _).alloc (Nat.le_refl _) _)
theorem Tryd.infoDg : (Tryd.prog.info? 24).map (fun i => (i.zero, i.size, i.bytes)) = some (some (.agg zeros32), 32, 32) := by kernel_rfl
/-- 'append(v, ds...)', v the call's own row of digests. -/
theorem wpList_append_digests {w : World} {ops : Array Oper} {rest : List Oper} {o : Oper} {a : Act} {Q : Exit → Act → World → Prop} (hgd : o.guard = none) (s x : Operand)
    (ho : o.op = .call { callee := .builtin .append, args := #[s, x], argTypes := #[22, 22] })
    (base : Nat) (v : Value) (ls : List (List UInt8)) (hs : a.eval s = v) (hown : OwnD w base v ls)
    (ad : Addr) (n c : Nat) (ds : List (List UInt8)) (hx : a.eval x = .slice (some ad) n c) (hr : DRow w (some ad) n ds) (hn0 : 0 < n) (h47 : (ls.length + n) * 32 ≤ 140737488355328) (hbase : base ≤ w.heap.size)
    (h : ∀ v' w', OwnD w' base v' (ls ++ ds) → w.grownBy w' v.ownBlock → (v'.ownBlock = v.ownBlock ∨ v'.ownBlock = some w.heap.size) → wpList Tryd.prog ops Q rest (a.put o.dst v') w') : wpList Tryd.prog ops Q (o :: rest) a w := by
  obtain ⟨i0, hi, hz0, hz1, hz2⟩ := info_parts Tryd.infoDg
  have hlen := hr.len
  obtain ⟨hl, h32, h1 | ⟨b, off, e1, hc⟩⟩ := hr
  · omega
  cases e1
  have hf := flat_len h32
  refine wpList_append_own_at w hgd s x 22 ho base 24 i0 (.agg zeros32) 32 32 Tryd.underlying22 hi hz0 hz1 hz2 rfl (by decide) v ls.length (cellsB ls.flatten) hs hown.2 ⟨b, off, none⟩ n c (cellsB ds.flatten) hx (by rw [cellsB_length, hf, hl]; omega) ?_ (cellsB_one _) (by unfold maxLen; omega) h47 hbase ?_
  · intro j u hj
    have hj' : j < ds.flatten.length := by have := (List.getElem?_eq_some_iff.1 hj).1; rwa [cellsB_length] at this
    have hq : j / 32 < n := by omega
    have hm : j % 32 < 32 := Nat.mod_lt _ (by omega)
    have e : j = 32 * (j / 32) + j % 32 := by omega
    rw [Go.WideShapes.add_plain, ← hj, cellsB_at _ j hj']
    have := (hc (j / 32) hq).cell (j % 32) (by rw [hlen _ hq]; exact hm)
    rw [show off + 32 * (j / 32) + j % 32 = off + j by omega] at this
    rw [this]
    have hn := nth_flat h32 (j / 32) (j % 32) (by omega) hm
    rw [← e] at hn
    rw [hn]
  · intro v' w' hown' hgrow _ hat
    refine h v' w' ⟨?_, ?_⟩ hgrow hat
    · intro l hl'
      rcases List.mem_append.1 hl' with h' | h'
      · exact hown.1 l h'
      · exact h32 l h'
    · rw [List.length_append, List.flatten_append, cellsB_append, hl]
      exact hown'
end Go.Proofs.YtdldkhhcicjbmabDoor
/- Parts of slices of digests. -/
namespace Go.Proofs.YtdldkhhcicjbmabDoor
open Go.RowKit
set_option linter.unusedVariables false
set_option linter.unusedSimpArgs false

theorem DRow.take {w : World} {a : Option Addr} {n : Nat} {ls : List (List UInt8)} (h : DRow w a n ls) (k : Nat) (hk : k ≤ n) : DRow w a k (ls.take k) := by
  obtain ⟨h1, h2, h3⟩ := h
  refine ⟨by rw [List.length_take]; omega, fun l hl => h2 l (List.mem_of_mem_take hl), ?_⟩
  rcases h3 with h3 | ⟨b, o, ha, hc⟩
  · exact .inl (by omega)
  · exact .inr ⟨b, o, ha, fun i hi => by rw [getD_take hi]; exact hc i (by omega)⟩
theorem DRow.drop {w : World} {b o : Nat} {n : Nat} {ls : List (List UInt8)} (h : DRow w (some ⟨b, o, none⟩) n ls) (k : Nat) (hk : k ≤ n) : DRow w (some ⟨b, o + k * 32, none⟩) (n - k) (ls.drop k) := by
  obtain ⟨h1, h2, h3⟩ := h
  refine ⟨by rw [List.length_drop]; omega, fun l hl => h2 l (List.mem_of_mem_drop hl), ?_⟩
  rcases h3 with h3 | ⟨b', o', ha, hc⟩
  · exact .inl (by omega)
  · cases ha
    refine .inr ⟨b, o + k * 32, rfl, fun i hi => ?_⟩
    rw [getD_drop]
    have := hc (k + i) (by omega)
    rwa [show o + k * 32 + 32 * i = o + 32 * (k + i) by omega]
theorem DRow.addr {w : World} {a : Option Addr} {n : Nat} {ls : List (List UInt8)} (h : DRow w a n ls) (hn : 0 < n) : ∃ b o, a = some ⟨b, o, none⟩ := by
  rcases h.2.2 with h3 | ⟨b, o, ha, hc⟩
  · omega
  · exact ⟨b, o, ha⟩
theorem DRow.at {w : World} {b o : Nat} {n : Nat} {ls : List (List UInt8)} (h : DRow w (some ⟨b, o, none⟩) n ls) (i : Nat) (hi : i < n) : DAt w b (o + i * 32) (ls.getD i []) := by
  rcases h.2.2 with h3 | ⟨b', o', ha, hc⟩
  · omega
  · cases ha
    rw [show o + i * 32 = o + 32 * i by omega]
    exact hc i hi
end Go.Proofs.YtdldkhhcicjbmabDoor
/- The contracts of pile.take: a digest, or a panic where there is none. -/
namespace Go.Proofs.YtdldkhhcicjbmabDoor
open Go.RowKit
set_option linter.unusedVariables false
set_option linter.unusedSimpArgs false

/-- A pile in memory. -/
def Pile (w : World) (P : Nat) (v : Value) : Prop := w.cell? ⟨P, 0, none⟩ = some v ∧ w.frozen? ⟨P, 0, none⟩ = false
theorem Pile.block {w : World} {P : Nat} {v : Value} (h : Pile w P v) : P < w.heap.size := cell_block h.1
theorem Pile.below {w w' : World} {P B : Nat} {v : Value} (h : Pile w P v) (hb : Below B w w') (hB : P < B) : Pile w' P v :=
  ⟨by rw [hb.cell (p := ⟨P, 0, none⟩) hB]; exact h.1, by rw [hb.frozen (p := ⟨P, 0, none⟩) hB]; exact h.2⟩
theorem Pile.other {w w' : World} {P g : Nat} {v : Value} (h : Pile w P v) (hg : w.grownBy w' (some g)) (hne : P ≠ g) : Pile w' P v := by
  have hk := hg.block P h.block (by intro e; exact hne (Option.some.inj e))
  exact ⟨(World.cell?_of_block (w := w) (a := ⟨P, 0, none⟩) hk).trans h.1, (World.frozen?_of_block (w := w) (a := ⟨P, 0, none⟩) hk).trans h.2⟩
theorem Pile.set {w : World} {P : Nat} {v : Value} (h : Pile w P v) (u : Value) : Pile (w.setCell ⟨P, 0, none⟩ u) P u :=
  ⟨World.cell?_setCell_same _ _ _ h.1, by rw [World.frozen?_setCell]; exact h.2⟩
theorem dat_gr {w w' : World} {b o g : Nat} {l : List UInt8} (h : DAt w b o l) (hg : w.grownBy w' (some g)) (hb : b < w.heap.size) (hne : b ≠ g) : DAt w' b o l := by
  have hk := hg.block b hb (by intro e; exact hne (Option.some.inj e))
  intro j v hj
  exact (World.cell?_of_block (w := w) (a := ⟨b, o + j, none⟩) hk).trans (h j v hj)
theorem there_gr {w w' : World} {b o n g : Nat} (h : w.there b o n) (hg : w.grownBy w' (some g)) (hb : b < w.heap.size) (hne : b ≠ g) : w'.there b o n := by
  have hk := hg.block b hb (by intro e; exact hne (Option.some.inj e))
  intro j hj
  have := h j hj
  exact ⟨by rw [World.cell?_of_block (w := w) (a := ⟨b, o + j, none⟩) hk]; exact this.1, by rw [World.frozen?_of_block (w := w) (a := ⟨b, o + j, none⟩) hk]; exact this.2⟩
theorem DRow.grown {w w' : World} {a : Option Addr} {n g : Nat} {ls : List (List UInt8)} (h : DRow w a n ls) (hg : w.grownBy w' (some g)) (hne : 0 < n → ∀ ad, a = some ad → ad.block ≠ g) : DRow w' a n ls := by
  have h32 := h.len
  obtain ⟨h1, h2, h3⟩ := h
  refine ⟨h1, h2, ?_⟩
  rcases h3 with h3 | ⟨b, o, ha, hc⟩
  · exact .inl h3
  · exact .inr ⟨b, o, ha, fun i hi => dat_gr (hc i hi) hg (cell_block ((hc i hi).cell 0 (by rw [h32 i hi]; omega))) (hne (by omega) _ ha)⟩
theorem gr_alloc (w : World) (o : Obj) (r : Option Nat) : w.grownBy (w.alloc o) r := World.grownBy_alloc w o r
theorem gr_new {w w' : World} {g b : Nat} {vs : List Value} {o : Nat} (h1 : w.grownBy w' (some g)) (hb : w.heap.size ≤ b) : w.grownBy (w'.setCells b o vs) (some g) := by
  have h2 : Below w.heap.size w' (w'.setCells b o vs) := below_setCells _ hb _ _ _ (Below.refl _ _)
  exact ⟨h2.os.trans h1.os, h2.tape.trans h1.tape, h2.output.trans h1.output, Nat.le_trans h1.size h2.size, fun i hi hne => (h2.block i hi).trans (h1.block i hi hne)⟩
set_option maxRecDepth 100000 in
set_option maxHeartbeats 1000000 in
theorem wtake_none (P c : Nat) (a : Option Addr) (w : World) (HP : Pile w P (.slice a 0 c)) :
    Calls Tryd.prog 41 #[.pointer (some ⟨P, 0, none⟩)] w fun e w' => e = .panicked [{ v := .iface 25 (.int .i64 3), recovered := false }] ∧ w.grownBy w' (some P) := by
  obtain ⟨w1, hw1⟩ : ∃ w1, w.alloc (.cells (cellsB zD).toArray 24) = w1 := ⟨_, rfl⟩
  have hc1 : w1.cell? ⟨P, 0, none⟩ = some (.slice a 0 c) := by rw [← hw1]; exact (HP.below ((Below.refl _ _).alloc (Nat.le_refl _) _) HP.block).1
  have HG : Hid (w.grownBy w1 (some P)) := by rw [← hw1]; exact gr_alloc _ _ _
  clear HP
  go_enter Tryd.func41, Tryd.ntmps41
  go_wp2_with (refine wpList_allocE (by rfl) 24 (by rfl) (cellsB zD).toArray Tryd.zeroDg w.heap.size rfl w1 hw1 ?_)
  exact ⟨rfl, rfl, HG.out⟩
set_option maxRecDepth 100000 in
set_option maxHeartbeats 1000000 in
theorem wtake_any (P b o q c : Nat) (pf : List (List UInt8)) (w : World) (HP : Pile w P (.slice (some ⟨b, o, none⟩) (q + 1) c)) (R : DRow w (some ⟨b, o, none⟩) (q + 1) pf) (hne : b ≠ P) (hc : q + 1 ≤ c) (hq : q ≤ 140737488351232) :
    Calls Tryd.prog 41 #[.pointer (some ⟨P, 0, none⟩)] w fun e w' => e = .returned (digestV (pf.getD q [])) ∧ Pile w' P (.slice (some ⟨b, o, none⟩) q c) ∧ w.grownBy w' (some P) := by
  have hlen : (pf.getD q []).length = 32 := R.len q (by omega)
  have hd : DAt w b (o + q * 32) (pf.getD q []) := R.at q (by omega)
  have hbb : b < w.heap.size := cell_block (hd.cell 0 (by omega))
  have HPB : Hid (P < w.heap.size) := HP.block
  obtain ⟨w1, hw1⟩ : ∃ w1, w.alloc (.cells (cellsB zD).toArray 24) = w1 := ⟨_, rfl⟩
  have hB1 : Below w.heap.size w w1 := by rw [← hw1]; exact (Below.refl _ _).alloc (Nat.le_refl _) _
  have HS1 : Hid (w1.heap.size = w.heap.size + 1) := by unfold Hid; rw [← hw1]; simp
  have hT1 : w1.there w.heap.size 0 32 := by rw [← hw1]; exact alloc_thereAt _ _ _ 32 _ rfl zD_size.symm
  have hP1 : Pile w1 P (.slice (some ⟨b, o, none⟩) (q + 1) c) := HP.below hB1 HP.block
  have HX1 : Hid (w1.rangeAt b (o + q * 32) (cellsB (pf.getD q []))) := hd.below hB1 hbb
  obtain ⟨g1, hg1⟩ : ∃ g1, w1.heap.size = g1 := ⟨_, rfl⟩
  obtain ⟨w2, hw2⟩ : ∃ w2, w1.alloc (.cells (cellsB zD).toArray 24) = w2 := ⟨_, rfl⟩
  have hB2 : Below w1.heap.size w1 w2 := by rw [← hw2]; exact (Below.refl _ _).alloc (Nat.le_refl _) _
  have hT2 : w2.there g1 0 32 := by rw [← hw2]; exact alloc_thereAt _ _ _ 32 _ hg1 zD_size.symm
  generalize pf.getD q [] = D at *
  have hB3 : Below w1.heap.size w1 (w2.setCells g1 0 (cellsB D)) := below_setCells _ (by rw [hg1]; exact Nat.le_refl _) _ _ _ hB2
  have HX3 : Hid (DAt (w2.setCells g1 0 (cellsB D)) g1 0 D) := dat_stored hT2 hlen
  have hP3 : Pile (w2.setCells g1 0 (cellsB D)) P (.slice (some ⟨b, o, none⟩) (q + 1) c) := hP1.below hB3 (by have := HS1.out; have := HPB.out; omega)
  have HT3 : Hid ((w2.setCells g1 0 (cellsB D)).there w.heap.size 0 32) := there_below hT1 hB3 (by have := HS1.out; omega)
  have HT2 : Hid (w2.there g1 0 32) := hT2
  have hGP : g1 ≠ P := by have := HS1.out; have := HPB.out; omega
  have HP4 : Hid (Pile ((w2.setCells g1 0 (cellsB D)).setCell ⟨P, 0, none⟩ (.slice (some ⟨b, o, none⟩) q c)) P (.slice (some ⟨b, o, none⟩) q c)) := hP3.set _
  have HX4 : Hid (((w2.setCells g1 0 (cellsB D)).setCell ⟨P, 0, none⟩ (.slice (some ⟨b, o, none⟩) q c)).rangeAt g1 0 (cellsB D)) := range_set HX3.out P 0 _ hGP
  have HT4 : Hid (((w2.setCells g1 0 (cellsB D)).setCell ⟨P, 0, none⟩ (.slice (some ⟨b, o, none⟩) q c)).there w.heap.size 0 32) := there_set HT3.out _ _ _
  have HG4 : Hid (w.grownBy ((w2.setCells g1 0 (cellsB D)).setCell ⟨P, 0, none⟩ (.slice (some ⟨b, o, none⟩) q c)) (some P)) := gr_trans (gr_trans (gr_below hB1 _) (gr_below hB3 _)) (gr_setCell _ _ _ _)
  have hc1 : w1.cell? ⟨P, 0, none⟩ = some (.slice (some ⟨b, o, none⟩) (q + 1) c) := hP1.1
  have hc3 : (w2.setCells g1 0 (cellsB D)).cell? ⟨P, 0, none⟩ = some (.slice (some ⟨b, o, none⟩) (q + 1) c) := hP3.1
  have hf3 : (w2.setCells g1 0 (cellsB D)).frozen? ⟨P, 0, none⟩ = false := hP3.2
  clear hd hbb HP R hB1 hT1 hP1 hB2 hT2 hB3 HX3 hP3 HT3 HS1
  have q0 : (0 : Int) ≤ (q : Int) := by omega
  have q1 : (q : Int) < (q : Int) + 1 := by omega
  have q2 : (q : Int) ≤ (c : Int) := by omega
  have q3 : (q : Int) + 1 - 1 = (q : Int) := by omega
  go_enter Tryd.func41, Tryd.ntmps41
  go_wp2_with (first
    | (refine wpList_allocE (by rfl) 24 (by rfl) (cellsB zD).toArray Tryd.zeroDg w.heap.size rfl w1 hw1 ?_)
    | (refine wpList_allocE (by rfl) 24 (by rfl) (cellsB zD).toArray Tryd.zeroDg g1 hg1 w2 hw2 ?_)
    | (refine wpList_load_mid (by rfl) 24 (.tmp 17) (by rfl) b (o + q * 32) (by rfl) (cellsB D) _ HX1.out Tryd.underlying24 (by rfl) (by rw [cellsB_length, hlen]; exact Tryd.sizeDg) ?_)
    | (refine wpList_store_mid (by rfl) 24 (.tmp 4) (.tmp 18) (by rfl) g1 0 (cellsB D).toArray (by rfl) (by rfl) (by rw [cellsB_size, hlen]; exact HT2.out) (by rw [cellsB_size, hlen]; exact Tryd.sizeDg) (all_oneCell_toArray (cellsB_one _)) ?_)
    | (refine wpList_load_mid (by rfl) 24 (.tmp 4) (by rfl) g1 0 (by rfl) (cellsB D) _ HX4.out Tryd.underlying24 (by rfl) (by rw [cellsB_length, hlen]; exact Tryd.sizeDg) ?_)
    | (refine wpList_store_mid (by rfl) 24 (.tmp 2) (.tmp 26) (by rfl) w.heap.size 0 (cellsB D).toArray (by rfl) (by rfl) (by rw [cellsB_size, hlen]; exact HT4.out) (by rw [cellsB_size, hlen]; exact Tryd.sizeDg) (all_oneCell_toArray (cellsB_one _)) ?_))
  refine bodyPost_ret (v := digestV D) (run_results_row Tryd.results41 _ _ w.heap.size 0 (by rfl) (cellsB D) (World.rangeAt_setCells_same _ _ _ _ (by rw [cellsB_length, hlen]; exact HT4.out)) _ Tryd.underlying24 (by rfl) (by rw [cellsB_length, hlen]; exact Tryd.sizeDg)) rfl ⟨rfl, ?_, ?_⟩
  · exact HP4.out.other (gr_setCells _ _ _ _) (by have := HPB.out; omega)
  · exact gr_new HG4.out (Nat.le_refl _)
end Go.Proofs.YtdldkhhcicjbmabDoor
/- Plain definitions for proofs that only more came: no theorem of the program yet. -/
namespace Go.Proofs.YtdldkhhcicjbmabDoor
set_option linter.unusedVariables false
set_option linter.unusedSimpArgs false

/-- A power of 2 below m, whose double is not, is the greatest one. -/
theorem halfT_is {m k : Nat} (hp : ∃ e, k = 2 ^ e) (h1 : k < m) (h2 : m ≤ 2 * k) (hm : 2 ≤ m) : halfT m = k := by
  obtain ⟨e, rfl⟩ := hp
  obtain ⟨f, hf⟩ := halfT_pow m
  have g1 := halfT_lt hm
  have g2 := halfT_two m
  rw [hf] at g1 g2 ⊢
  have mono : ∀ a b : Nat, a < b → 2 * 2 ^ a ≤ 2 ^ b := fun a b h => by
    have := Nat.pow_le_pow_right (n := 2) (by omega) (show a + 1 ≤ b by omega)
    rw [Nat.pow_succ] at this
    omega
  rcases Nat.lt_trichotomy e f with h | h | h
  · have := mono e f h; omega
  · rw [h]
  · have := mono f e h; omega
/-- The proof that the first m are there. -/
def proofT (ls : List (List UInt8)) (m : Nat) (own : Bool) : List (List UInt8) :=
  if h : 2 ≤ ls.length ∧ m < ls.length then
    if m ≤ halfT ls.length then proofT (ls.take (halfT ls.length)) m own ++ [rootT (ls.drop (halfT ls.length))]
    else proofT (ls.drop (halfT ls.length)) (m - halfT ls.length) false ++ [rootT (ls.take (halfT ls.length))]
  else if own then [] else [rootT ls]
termination_by ls.length
decreasing_by
  · have := halfT_lt h.1
    rw [List.length_take]; omega
  · have := halfT_pos ls.length
    rw [List.length_drop]; omega
theorem proofT_lo {ls : List (List UInt8)} {m : Nat} {own : Bool} (h : 2 ≤ ls.length) (hm : m < ls.length) (hk : m ≤ halfT ls.length) : proofT ls m own = proofT (ls.take (halfT ls.length)) m own ++ [rootT (ls.drop (halfT ls.length))] := by rw [proofT, dif_pos ⟨h, hm⟩, if_pos hk]
theorem proofT_hi {ls : List (List UInt8)} {m : Nat} {own : Bool} (h : 2 ≤ ls.length) (hm : m < ls.length) (hk : ¬ m ≤ halfT ls.length) : proofT ls m own = proofT (ls.drop (halfT ls.length)) (m - halfT ls.length) false ++ [rootT (ls.take (halfT ls.length))] := by rw [proofT, dif_pos ⟨h, hm⟩, if_neg hk]
theorem proofT_own {ls : List (List UInt8)} {m : Nat} (hm : ls.length ≤ m) : proofT ls m true = [] := by rw [proofT, dif_neg (by omega), if_pos rfl]
theorem proofT_all {ls : List (List UInt8)} {m : Nat} (hm : ls.length ≤ m) : proofT ls m false = [rootT ls] := by rw [proofT, dif_neg (by omega)]; rfl
/-- How long it is. -/
def plongT (m n : Nat) (own : Bool) : Nat :=
  if h : 2 ≤ n ∧ m < n then if m ≤ halfT n then 1 + plongT m (halfT n) own else 1 + plongT (m - halfT n) (n - halfT n) false
  else if own then 0 else 1
termination_by n
decreasing_by
  · exact halfT_lt h.1
  · have := halfT_pos n; omega
theorem plongT_lo {m n : Nat} {own : Bool} (h : 2 ≤ n) (hm : m < n) (hk : m ≤ halfT n) : plongT m n own = 1 + plongT m (halfT n) own := by rw [plongT, dif_pos ⟨h, hm⟩, if_pos hk]
theorem plongT_hi {m n : Nat} {own : Bool} (h : 2 ≤ n) (hm : m < n) (hk : ¬ m ≤ halfT n) : plongT m n own = 1 + plongT (m - halfT n) (n - halfT n) false := by rw [plongT, dif_pos ⟨h, hm⟩, if_neg hk]
theorem plongT_own {m n : Nat} (hm : n ≤ m) : plongT m n true = 0 := by rw [plongT, dif_neg (by omega), if_pos rfl]
theorem plongT_all {m n : Nat} (hm : n ≤ m) : plongT m n false = 1 := by rw [plongT, dif_neg (by omega)]; rfl
theorem plongT_pow : ∀ e m n own, n ≤ 2 ^ e → plongT m n own ≤ e + 1
  | 0, m, n, own, h => by
    rw [plongT, dif_neg (by simp at h; omega)]
    cases own <;> simp
  | e + 1, m, n, own, h => by
    by_cases c : 2 ≤ n ∧ m < n
    · obtain ⟨a, ha⟩ := halfT_pow n
      have h1 := halfT_lt c.1
      have h3 := halfT_two n
      have hk : halfT n ≤ 2 ^ e := by
        rw [ha] at h1 ⊢
        have : a < e + 1 := by
          apply Classical.byContradiction
          intro hc
          have := Nat.pow_le_pow_right (n := 2) (by omega) (show e + 1 ≤ a by omega)
          omega
        exact Nat.pow_le_pow_right (by omega) (by omega)
      by_cases d : m ≤ halfT n
      · rw [plongT_lo c.1 c.2 d]; have := plongT_pow e m (halfT n) own hk; omega
      · rw [plongT_hi c.1 c.2 d]; have := plongT_pow e (m - halfT n) (n - halfT n) false (by omega); omega
    · rw [plongT, dif_neg c]
      cases own <;> simp
theorem plongT_256 (m n : Nat) (own : Bool) (h : n ≤ 256) : plongT m n own ≤ 9 := plongT_pow 8 m n own h
/-- The roots that a proof tells: of the first m, and of all. -/
def rootsT (m n : Nat) (own : Bool) (old : List UInt8) (pf : List (List UInt8)) : List UInt8 × List UInt8 :=
  if h : 2 ≤ n ∧ m < n then
    if m ≤ halfT n then ((rootsT m (halfT n) own old (pf.take (pf.length - 1))).1, nodeT (rootsT m (halfT n) own old (pf.take (pf.length - 1))).2 (pf.getD (pf.length - 1) []))
    else (nodeT (pf.getD (pf.length - 1) []) (rootsT (m - halfT n) (n - halfT n) false old (pf.take (pf.length - 1))).1, nodeT (pf.getD (pf.length - 1) []) (rootsT (m - halfT n) (n - halfT n) false old (pf.take (pf.length - 1))).2)
  else if own then (old, old) else (pf.getD (pf.length - 1) [], pf.getD (pf.length - 1) [])
termination_by n
decreasing_by
  · exact halfT_lt h.1
  · have := halfT_pos n; omega
theorem rootsT_lo {m n : Nat} {own : Bool} {old : List UInt8} {pf : List (List UInt8)} (h : 2 ≤ n) (hm : m < n) (hk : m ≤ halfT n) : rootsT m n own old pf = ((rootsT m (halfT n) own old (pf.take (pf.length - 1))).1, nodeT (rootsT m (halfT n) own old (pf.take (pf.length - 1))).2 (pf.getD (pf.length - 1) [])) := by rw [rootsT, dif_pos ⟨h, hm⟩, if_pos hk]
theorem rootsT_hi {m n : Nat} {own : Bool} {old : List UInt8} {pf : List (List UInt8)} (h : 2 ≤ n) (hm : m < n) (hk : ¬ m ≤ halfT n) : rootsT m n own old pf = (nodeT (pf.getD (pf.length - 1) []) (rootsT (m - halfT n) (n - halfT n) false old (pf.take (pf.length - 1))).1, nodeT (pf.getD (pf.length - 1) []) (rootsT (m - halfT n) (n - halfT n) false old (pf.take (pf.length - 1))).2) := by rw [rootsT, dif_pos ⟨h, hm⟩, if_neg hk]
theorem rootsT_own {m n : Nat} {old : List UInt8} {pf : List (List UInt8)} (hm : n ≤ m) : rootsT m n true old pf = (old, old) := by rw [rootsT, dif_neg (by omega), if_pos rfl]
theorem rootsT_all {m n : Nat} {old : List UInt8} {pf : List (List UInt8)} (hm : n ≤ m) : rootsT m n false old pf = (pf.getD (pf.length - 1) [], pf.getD (pf.length - 1) []) := by rw [rootsT, dif_neg (by omega)]; rfl
/-- The root of the first m, m above k. -/
theorem rootT_first {ls : List (List UInt8)} {m : Nat} (h : 2 ≤ ls.length) (hm : m ≤ ls.length) (hk : halfT ls.length < m) : rootT (ls.take m) = nodeT (rootT (ls.take (halfT ls.length))) (rootT ((ls.drop (halfT ls.length)).take (m - halfT ls.length))) := by
  have hl : (ls.take m).length = m := by rw [List.length_take]; omega
  have hp := halfT_pos ls.length
  have ht := halfT_two ls.length
  have e : halfT m = halfT ls.length := halfT_is (halfT_pow ls.length) hk (by omega) (by omega)
  rw [rootT_two (by omega), hl, e, List.take_take, Nat.min_eq_left (by omega), List.drop_take]
/-- A proof that the first leaves were there before tells both roots. -/
theorem grow_ok : ∀ (n : Nat) (ls : List (List UInt8)) (m : Nat) (own : Bool) (old : List UInt8), ls.length = n → 1 ≤ m → m ≤ n → (own = true → old = rootT (ls.take m)) →
    rootsT m n own old (proofT ls m own) = (rootT (ls.take m), rootT ls) ∧ (proofT ls m own).length = plongT m n own := by
  intro n
  induction n using Nat.strongRecOn with
  | ind n ih =>
    intro ls m own old hl h1 hm ho
    subst hl
    by_cases c : m < ls.length
    · have h2 : 2 ≤ ls.length := by omega
      have k1 := halfT_lt h2
      have k2 := halfT_pos ls.length
      by_cases d : m ≤ halfT ls.length
      · have et : (ls.take (halfT ls.length)).take m = ls.take m := by rw [List.take_take, Nat.min_eq_left d]
        obtain ⟨e1, e2⟩ := ih (halfT ls.length) k1 (ls.take (halfT ls.length)) m own old (by rw [List.length_take]; omega) h1 d (fun h => by rw [et]; exact ho h)
        rw [rootsT_lo h2 c d, proofT_lo h2 c d, snoc_last, snoc_init, e1, plongT_lo h2 c d, rootT_two h2, et]
        refine ⟨rfl, ?_⟩
        rw [List.length_append, e2, List.length_singleton]; omega
      · obtain ⟨e1, e2⟩ := ih (ls.length - halfT ls.length) (by omega) (ls.drop (halfT ls.length)) (m - halfT ls.length) false old (by rw [List.length_drop]) (by omega) (by omega) (fun h => by cases h)
        rw [rootsT_hi h2 c d, proofT_hi h2 c d, snoc_last, snoc_init, e1, plongT_hi h2 c d, rootT_first h2 hm (by omega), rootT_two h2]
        refine ⟨rfl, ?_⟩
        rw [List.length_append, e2, List.length_singleton]; omega
    · have em : ls.take m = ls := List.take_of_length_le (by omega)
      cases own with
      | true =>
        rw [rootsT_own (by omega), proofT_own (by omega), plongT_own (by omega), ho rfl, em]
        exact ⟨rfl, rfl⟩
      | false =>
        rw [rootsT_all (by omega), proofT_all (by omega), plongT_all (by omega), em]
        exact ⟨rfl, rfl⟩
/-- Where a proof has the root of all, and not that of the first m: what is seen on the way down. -/
theorem grow_lo {ls : List (List UInt8)} {m : Nat} {own : Bool} {old : List UInt8} {pf : List (List UInt8)} (h2 : 2 ≤ ls.length) (c : m < ls.length) (d : m ≤ halfT ls.length)
    (hr : (rootsT m ls.length own old pf).2 = rootT ls) (hne : (rootsT m ls.length own old pf).1 ≠ rootT (ls.take m)) :
    nodeT (rootsT m (halfT ls.length) own old (pf.take (pf.length - 1))).2 (pf.getD (pf.length - 1) []) = nodeT (rootT (ls.take (halfT ls.length))) (rootT (ls.drop (halfT ls.length))) ∧
    (rootsT m (halfT ls.length) own old (pf.take (pf.length - 1))).1 ≠ rootT ((ls.take (halfT ls.length)).take m) := by
  rw [rootsT_lo h2 c d] at hr hne
  rw [rootT_two h2] at hr
  exact ⟨hr, by rw [List.take_take, Nat.min_eq_left d]; exact hne⟩
theorem grow_hi {ls : List (List UInt8)} {m : Nat} {own : Bool} {old : List UInt8} {pf : List (List UInt8)} (h2 : 2 ≤ ls.length) (c : m < ls.length) (d : ¬ m ≤ halfT ls.length)
    (hr : (rootsT m ls.length own old pf).2 = rootT ls) (hne : (rootsT m ls.length own old pf).1 ≠ rootT (ls.take m)) :
    nodeT (pf.getD (pf.length - 1) []) (rootsT (m - halfT ls.length) (ls.length - halfT ls.length) false old (pf.take (pf.length - 1))).2 = nodeT (rootT (ls.take (halfT ls.length))) (rootT (ls.drop (halfT ls.length))) ∧
    (pf.getD (pf.length - 1) [] = rootT (ls.take (halfT ls.length)) → (rootsT (m - halfT ls.length) (ls.length - halfT ls.length) false old (pf.take (pf.length - 1))).1 ≠ rootT ((ls.drop (halfT ls.length)).take (m - halfT ls.length))) := by
  rw [rootsT_hi h2 c d] at hr hne
  rw [rootT_two h2] at hr
  refine ⟨hr, fun hp h => hne ?_⟩
  rw [rootT_first h2 (by omega) (by omega), hp, h]
/-- Where m is all of them, both are one. -/
theorem grow_end {ls : List (List UInt8)} {m : Nat} {own : Bool} {old : List UInt8} {pf : List (List UInt8)} (c : ls.length ≤ m)
    (hr : (rootsT m ls.length own old pf).2 = rootT ls) : (rootsT m ls.length own old pf).1 = rootT (ls.take m) := by
  rw [List.take_of_length_le c, ← hr]
  cases own with
  | true => rw [rootsT_own c]
  | false => rw [rootsT_all c]
theorem rootsT_length : ∀ (n m : Nat) (own : Bool) (old : List UInt8) (pf : List (List UInt8)), old.length = 32 → (∀ l ∈ pf, l.length = 32) → pf.length = plongT m n own → (rootsT m n own old pf).1.length = 32 ∧ (rootsT m n own old pf).2.length = 32 := by
  intro n
  induction n using Nat.strongRecOn with
  | ind n ih =>
    intro m own old pf ho h32 hl
    by_cases c : 2 ≤ n ∧ m < n
    · have k1 := halfT_lt c.1
      have k2 := halfT_pos n
      have hi : ∀ l ∈ pf.take (pf.length - 1), l.length = 32 := fun l hl => h32 l (List.mem_of_mem_take hl)
      by_cases d : m ≤ halfT n
      · rw [plongT_lo c.1 c.2 d] at hl
        rw [rootsT_lo c.1 c.2 d]
        exact ⟨(ih (halfT n) k1 m own old _ ho hi (by rw [List.length_take]; omega)).1, nodeT_length _ _⟩
      · rw [rootsT_hi c.1 c.2 d]
        exact ⟨nodeT_length _ _, nodeT_length _ _⟩
    · rw [rootsT, dif_neg c]
      cases own with
      | true => exact ⟨ho, ho⟩
      | false =>
        rw [plongT, dif_neg c] at hl
        have hl' : pf.length = 1 := hl
        have : (pf.getD (pf.length - 1) []).length = 32 := by
          rw [List.getD_eq_getElem?_getD, List.getElem?_eq_getElem (by omega)]
          exact h32 _ (List.getElem_mem _)
        exact ⟨this, this⟩
end Go.Proofs.YtdldkhhcicjbmabDoor
