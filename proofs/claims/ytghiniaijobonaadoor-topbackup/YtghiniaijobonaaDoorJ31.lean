/- Texts of this claim, joined: Wstamps, Wfold, Wstampr, Wstamp. -/
import Derived.Test.YtghiniaijobonaaDoorJ29
import Derived.Test.YtghiniaijobonaaDoorJ30
import Derived.Test.YtghiniaijobonaaDoorJ10
import Derived.Deep.DeepCutAuto
import Derived.Deep.RegionHeld3
import Derived.Test.YtghiniaijobonaaDoorYPairs
import Derived.Test.YtghiniaijobonaaDoorJ28
/- The contracts of stamp.Stamp's Left and Sign. -/
namespace Go.Proofs.YtghiniaijobonaaDoor
open Go.RowKit
set_option linter.unusedVariables false
set_option linter.unusedSimpArgs false

set_option maxRecDepth 100000 in
set_option maxHeartbeats 1000000 in
theorem wstamp_left (g : Nat) (seed : List UInt8) (h i : Nat) (w : World) (G : Env w) (H : Stm w g seed h i) :
    Calls Tryd.prog 16 #[.pointer (some ⟨g, 0, none⟩)] w fun e w' => e = .returned (.int .i64 ((2 ^ h - i : Nat) : Int)) ∧ Below w.heap.size w w' := by
  have hgb := H.block
  obtain ⟨lb, c, h1, h2, _, _, h5, _, h7, _⟩ := H
  have hn16 := (Stm.pow h1).2
  obtain ⟨n, hn⟩ : ∃ n, 2 ^ h = n := ⟨_, rfl⟩
  have HN : Hid (2 ^ h = n) := hn
  rw [hn] at h2 h5 hn16
  clear hn G
  have hb : Below w.heap.size w w.drew := below_drewN w 1
  have HC : Hid (w.drew.cell? ⟨g, 32, none⟩ = some (.slice (some ⟨lb, 0, none⟩) n c) ∧ w.drew.cell? ⟨g, 33, none⟩ = some (.int .i64 (i : Int))) := ⟨(hb.cell (p := ⟨g, 32, none⟩) hgb).trans h5, (hb.cell (p := ⟨g, 33, none⟩) hgb).trans h7⟩
  have HB : Hid (Below w.heap.size w w.drew) := hb
  clear h5 h7 hb hgb
  have kw : IntKind.i64.wrap ((n : Int) - (i : Int)) = ((n - i : Nat) : Int) := by rw [IntKind.wrap_i64]; omega
  go_enter Tryd.func16, Tryd.ntmps16
  go_upto_region 1 with fail
  refine wp_region_noPanic ?_
  refine wp_region_held_drew (S := fun wx => wx.cell? ⟨g, 32, none⟩ = some (.slice (some ⟨lb, 0, none⟩) n c) ∧ wx.cell? ⟨g, 33, none⟩ = some (.int .i64 (i : Int))) (by kernel_rfl) HC.out (fun hHeld => ?_)
  try simp only [Act.put, List.setIfInBounds_toArray, List.set_cons_zero, List.set_cons_succ]
  generalize w.drew = wd at *
  refine wpAnyH_take (i := 0) (v := ?_) (by simp only [List.getElem?_toArray, List.getElem?_cons_zero, List.getElem?_cons_succ]; rfl) (by kernel_rfl) (by kernel_rfl) (by kernel_rfl) (fun _ _ _ h => h) (Or.inl ⟨by rfl, ?_⟩) hHeld ?_
  rotate_left
  · intro w hSw
    obtain ⟨hSw0, hSw1⟩ := hSw
    go_simp
    try with_reducible rfl
  try simp only [Act.put, List.setIfInBounds_toArray, List.set_cons_zero, List.set_cons_succ]
  refine wpAnyH_take (i := 1) (v := ?_) (by simp only [List.getElem?_toArray, List.getElem?_cons_zero, List.getElem?_cons_succ]; rfl) (by kernel_rfl) (by kernel_rfl) (by kernel_rfl) (fun _ _ _ h => h) (Or.inl ⟨by rfl, ?_⟩) hHeld ?_
  rotate_left
  · intro w hSw
    obtain ⟨hSw0, hSw1⟩ := hSw
    go_simp
    try with_reducible rfl
  try simp only [Act.put, List.setIfInBounds_toArray, List.set_cons_zero, List.set_cons_succ]
  refine wpAnyH_take (i := 2) (v := ?_) (by simp only [List.getElem?_toArray, List.getElem?_cons_zero, List.getElem?_cons_succ]; rfl) (by kernel_rfl) (by kernel_rfl) (by kernel_rfl) (fun _ _ _ h => h) (Or.inl ⟨by rfl, ?_⟩) hHeld ?_
  rotate_left
  · intro w hSw
    obtain ⟨hSw0, hSw1⟩ := hSw
    go_simp
    try with_reducible rfl
  try simp only [Act.put, List.setIfInBounds_toArray, List.set_cons_zero, List.set_cons_succ]
  refine wpAnyH_take (i := 3) (v := ?_) (by simp only [List.getElem?_toArray, List.getElem?_cons_zero, List.getElem?_cons_succ]; rfl) (by kernel_rfl) (by kernel_rfl) (by kernel_rfl) (fun _ _ _ h => h) (Or.inl ⟨by rfl, ?_⟩) hHeld ?_
  rotate_left
  · intro w hSw
    obtain ⟨hSw0, hSw1⟩ := hSw
    go_simp
    try with_reducible rfl
  try simp only [Act.put, List.setIfInBounds_toArray, List.set_cons_zero, List.set_cons_succ]
  refine wpAnyH_take (i := 4) (v := ?_) (by simp only [List.getElem?_toArray, List.getElem?_cons_zero, List.getElem?_cons_succ]; rfl) (by kernel_rfl) (by kernel_rfl) (by kernel_rfl) (fun _ _ _ h => h) (Or.inl ⟨by rfl, ?_⟩) hHeld ?_
  rotate_left
  · intro w hSw
    obtain ⟨hSw0, hSw1⟩ := hSw
    go_simp
    try with_reducible rfl
  try simp only [Act.put, List.setIfInBounds_toArray, List.set_cons_zero, List.set_cons_succ]
  refine wpAnyH_take (i := 5) (v := ?_) (by simp only [List.getElem?_toArray, List.getElem?_cons_zero, List.getElem?_cons_succ]; rfl) (by kernel_rfl) (by kernel_rfl) (by kernel_rfl) (fun _ _ _ h => h) (Or.inl ⟨by rfl, ?_⟩) hHeld ?_
  rotate_left
  · intro w hSw
    obtain ⟨hSw0, hSw1⟩ := hSw
    go_simp
    try with_reducible rfl
  try simp only [Act.put, List.setIfInBounds_toArray, List.set_cons_zero, List.set_cons_succ]
  refine wpAnyH_take (i := 6) (v := ?_) (by simp only [List.getElem?_toArray, List.getElem?_cons_zero, List.getElem?_cons_succ]; rfl) (by kernel_rfl) (by kernel_rfl) (by kernel_rfl) (fun _ _ _ h => h) (Or.inl ⟨by rfl, ?_⟩) hHeld ?_
  rotate_left
  · intro w hSw
    obtain ⟨hSw0, hSw1⟩ := hSw
    go_simp
    try with_reducible rfl
  try simp only [Act.put, List.setIfInBounds_toArray, List.set_cons_zero, List.set_cons_succ]
  refine wpAnyH_take (i := 7) (v := ?_) (by simp only [List.getElem?_toArray, List.getElem?_cons_zero, List.getElem?_cons_succ]; rfl) (by kernel_rfl) (by kernel_rfl) (by kernel_rfl) (fun _ _ _ h => h) (Or.inl ⟨by rfl, ?_⟩) hHeld ?_
  rotate_left
  · intro w hSw
    obtain ⟨hSw0, hSw1⟩ := hSw
    go_simp
    try with_reducible rfl
  try simp only [Act.put, List.setIfInBounds_toArray, List.set_cons_zero, List.set_cons_succ]
  refine wpAnyH_take (i := 8) (v := ?_) (by simp only [List.getElem?_toArray, List.getElem?_cons_zero, List.getElem?_cons_succ]; rfl) (by kernel_rfl) (by kernel_rfl) (by kernel_rfl) (fun _ _ _ h => h) (Or.inl ⟨by rfl, ?_⟩) hHeld ?_
  rotate_left
  · intro w hSw
    obtain ⟨hSw0, hSw1⟩ := hSw
    go_simp
    try with_reducible rfl
  try simp only [Act.put, List.setIfInBounds_toArray, List.set_cons_zero, List.set_cons_succ]
  refine wpAnyH_take (i := 9) (v := .int .i64 ((n - i : Nat) : Int)) (by simp only [List.getElem?_toArray, List.getElem?_cons_zero, List.getElem?_cons_succ]; rfl) (by kernel_rfl) (by kernel_rfl) (by kernel_rfl) (fun _ _ _ h => h) (Or.inl ⟨by rfl, ?_⟩) hHeld ?_
  · intro w hSw
    obtain ⟨hSw0, hSw1⟩ := hSw
    go_simp
  try simp only [Act.put, List.setIfInBounds_toArray, List.set_cons_zero, List.set_cons_succ]
  refine wpAnyH_take (i := 10) (v := ?_) (by simp only [List.getElem?_toArray, List.getElem?_cons_zero, List.getElem?_cons_succ]; rfl) (by kernel_rfl) (by kernel_rfl) (by kernel_rfl) (fun _ _ _ h => h) (Or.inl ⟨by rfl, ?_⟩) hHeld ?_
  rotate_left
  · intro w hSw
    obtain ⟨hSw0, hSw1⟩ := hSw
    go_simp
    try with_reducible rfl
  try simp only [Act.put, List.setIfInBounds_toArray, List.set_cons_zero, List.set_cons_succ]
  refine wpAnyH_done (by kernel_rfl) (NoPanic.normal ?_) _
  go_wp2_with fail
  go_ret
  exact ⟨by rw [HN.out]; rfl, HB.out⟩
set_option maxRecDepth 100000 in
set_option maxHeartbeats 1000000 in
theorem wstamp_spent (g : Nat) (seed m : List UInt8) (h : Nat) (w : World) (G : Env w) (H : Stm w g seed h (2 ^ h)) (hm : m.length = 32) :
    Calls Tryd.prog 8 #[.pointer (some ⟨g, 0, none⟩), digestV m] w fun e w' => (∃ a1 c1 a2 c2, e = .returned (.tuple #[sigV 0 a1 0 c1 a2 0 c2, .iface 51 (.int .i64 6)]) ∧ Stm w' g seed h (2 ^ h)) ∧ w.grownBy w' (some g) := by
  obtain ⟨i, hi⟩ : ∃ i, 2 ^ h = i := ⟨_, rfl⟩
  rw [hi] at H
  obtain ⟨w2, hw2⟩ : ∃ w2, (w.alloc (.cells (cellsB m).toArray 23)).alloc (.cells #[.int .i64 0, .slice none 0 0, .slice none 0 0] 43) = w2 := ⟨_, rfl⟩
  have hs1 : (w.alloc (.cells (cellsB m).toArray 23)).heap.size = w.heap.size + 1 := by simp
  have HS2 : Hid (w2.heap.size = w.heap.size + 1 + 1) := by unfold Hid; rw [← hw2]; simp
  have HB2 : Hid (Below w.heap.size w w2) := by rw [← hw2]; exact ((Below.refl _ _).alloc (Nat.le_refl _) _).alloc (by simp) _
  have HM2 : Hid (DAt w2 w.heap.size 0 m) := by rw [← hw2]; exact World.rangeAt_alloc (box_dat w m _) _
  have HT2 : Hid (w2.there (w.heap.size + 1) 0 3) := by rw [← hw2]; exact alloc_thereAt _ _ _ 3 _ hs1 rfl
  have HI2 : Hid (Stm w2 g seed h i) := H.below HB2.out
  have HG2 : Hid (Env w2) := G.below HB2.out
  have HGB : Hid (g < w.heap.size) := H.block
  have H0 : Hid (Stm w g seed h i) := H
  clear H G
  go_enter Tryd.func8, Tryd.ntmps8
  go_wp2_with (refine wpList_allocE (by rfl) 43 (by rfl) #[.int .i64 0, .slice none 0 0, .slice none 0 0] Tryd.zeroSg (w.heap.size + 1) hs1 w2 hw2 ?_)
  clear hw2 hs1
  refine (wstamp_left g seed h i w2 HG2.out HI2.out).mono ?_
  rintro e w3 ⟨rfl, hb3⟩
  rw [hi, Nat.sub_self]
  have HB3 : Hid (Below w2.heap.size w2 w3) := hb3
  have HT3 : Hid (w3.there (w.heap.size + 1) 0 3) := there_below HT2.out hb3 (by have := HS2.out; omega)
  have HF : Hid (Stm (w3.setCells (w.heap.size + 1) 0 #[.int .i64 0, .slice none 0 0, .slice none 0 0].toList) g seed h i ∧ w.grownBy (w3.setCells (w.heap.size + 1) 0 #[.int .i64 0, .slice none 0 0, .slice none 0 0].toList) (some g)) := by
    have hb : Below w2.heap.size w2 w3 := hb3
    have b1 : Below w.heap.size w (w3.setCells (w.heap.size + 1) 0 #[.int .i64 0, .slice none 0 0, .slice none 0 0].toList) := below_setCells _ (by omega) _ _ _ (HB2.out.trans (hb.mono (by have := HS2.out; omega)))
    exact ⟨H0.out.below b1, gr_below b1 _⟩
  have HH : Hid (2 ^ h = i) := hi
  clear hb3 hi
  go_wp2_with (first
    | (refine wpList_buildC (by rfl) 43 #[] (by rfl) #[.int .i64 0, .slice none 0 0, .slice none 0 0] (by kernel_rfl) ?_)
    | (refine wpList_store_mid (by rfl) 43 (.tmp 4) (.tmp 12) (by rfl) (w.heap.size + 1) 0 #[.int .i64 0, .slice none 0 0, .slice none 0 0] (by rfl) (by rfl) HT3.out Tryd.sizeSg (sig_one _ _ _ _ _ _ _) ?_))
  refine bodyPost_ret (v := .tuple #[.agg #[.int .i64 0, .slice none 0 0, .slice none 0 0], .iface 51 (.int .i64 6)]) (run_results_row2 Tryd.results8 _ _ (w.heap.size + 1) 0 (by rfl) _ (by rfl) (#[.int .i64 0, .slice none 0 0, .slice none 0 0] : Array Value).toList (World.rangeAt_setCells_same _ _ _ _ HT3.out) _ Tryd.underlying43 (by rfl) Tryd.sizeSg) rfl ⟨⟨_, _, _, _, rfl, ?_⟩, HF.out.2⟩
  rw [HH.out]
  exact HF.out.1
set_option maxRecDepth 100000 in
set_option maxHeartbeats 1000000 in
theorem wtree_path_new (a : Option Addr) (n c i : Nat) (ls : List (List UInt8)) (w : World) (G : Env w) (R : DRow w a n ls) (hc : n ≤ c) (hn : n ≤ 256) (hi : i < n) :
    Calls Tryd.prog 17 #[.slice a n c, .int .i64 (i : Int)] w fun e w' => (∃ a' c', e = .returned (.tuple #[.slice a' (longT i n) c', .nilIface]) ∧ longT i n ≤ c' ∧ OwnD w' w.heap.size (.slice a' (longT i n) c') (pathT ls i)) ∧ Below w.heap.size w w' := by
  have HG : Hid (Env w ∧ DRow w a n ls) := ⟨G, R⟩
  have HL : Hid ((pathT ls i).length = longT i n) := (fold_path n ls i R.1 hi).2
  clear G R
  have g1 : ¬ (256 : Int) < (n : Int) := by omega
  have g2 : ¬ (i : Int) < 0 := by omega
  have g3 : ¬ (n : Int) ≤ (i : Int) := by omega
  go_enter Tryd.func17, Tryd.ntmps17
  go_wp2_with fail
  refine (wpathof_any n a c i ls w HG.out.1 HG.out.2 hc (by omega) hn hi).mono ?_
  rintro e w3 ⟨⟨v3, rfl, ho3⟩, hb3⟩
  obtain ⟨a3, c3, rfl, R3, hc3⟩ := OwnD.form ho3
  rw [HL.out] at R3 hc3 ho3 ⊢
  have HR3 : Hid (OwnD w3 w.heap.size (.slice a3 (longT i n) c3) (pathT ls i) ∧ Below w.heap.size w w3) := ⟨ho3, hb3⟩
  clear R3 hb3 ho3 HG HL
  generalize hY : longT i n = y at *
  have HY : Hid (longT i n = y) := hY
  clear hY
  go_wp2_with fail
  go_ret2
  rw [HY.out]
  exact ⟨⟨_, _, rfl, hc3, HR3.out.1⟩, HR3.out.2⟩
theorem OwnD.grs {w w' : World} {B g : Nat} {v : Value} {ls : List (List UInt8)} (h : OwnD w B v ls) (hg : w.grownBy w' (some g)) (hne : g < B) : OwnD w' B v ls := by
  refine ⟨h.1, ?_⟩
  have h := h.2
  rcases h.2 with ⟨h1, h0⟩ | ⟨gg, cap, cur, e1, e2, e3, e4⟩
  · exact ⟨h.1, .inl ⟨h1, h0⟩⟩
  · have hgl := World.ownsRow.lt h gg (by rw [e1]; rfl)
    exact ⟨h.1, .inr ⟨gg, cap, cur, e1, e2, (hg.block gg hgl.2 (by intro e; have := Option.some.inj e; omega)).trans e3, e4⟩⟩
theorem OwnD.row {w : World} {B n c : Nat} {a : Option Addr} {ls : List (List UInt8)} (h : OwnD w B (.slice a n c) ls) : DRow w a n ls := by
  obtain ⟨a', c', e, R, _⟩ := h.form
  cases e
  exact R
theorem grs_new {w w' : World} {g b : Nat} {vs : List Value} {o : Nat} (h1 : w.grownBy w' (some g)) (hb : w.heap.size ≤ b) : w.grownBy (w'.setCells b o vs) (some g) := by
  have h2 : Below w.heap.size w' (w'.setCells b o vs) := below_setCells _ hb _ _ _ (Below.refl _ _)
  exact ⟨h2.os.trans h1.os, h2.tape.trans h1.tape, h2.output.trans h1.output, Nat.le_trans h1.size h2.size, fun i hi hne => (h2.block i hi).trans (h1.block i hi hne)⟩
set_option maxRecDepth 100000 in
set_option maxHeartbeats 1000000 in
theorem wstamp_signk (g : Nat) (seed m : List UInt8) (h i : Nat) (w : World) (G : Env w) (H : Stm w g seed h i) (hm : m.length = 32) (hi : i < 2 ^ h) :
    Calls Tryd.prog 8 #[.pointer (some ⟨g, 0, none⟩), digestV m] w fun e w' => (∃ a1 c1 a2 c2, e = .returned (.tuple #[sigV (i : Int) a1 67 c1 a2 (longT i (2 ^ h)) c2, .nilIface]) ∧ 67 ≤ c1 ∧ longT i (2 ^ h) ≤ c2 ∧ DRow w' a1 67 (wotsSigL (stampKeyL seed i) m 67) ∧ DRow w' a2 (longT i (2 ^ h)) (pathT (stampLeavesL seed (2 ^ h)) i) ∧ Stm w' g seed h (i + 1) ∧ (∀ wy, w'.grownBy wy (some g) → DRow wy a1 67 (wotsSigL (stampKeyL seed i) m 67) ∧ DRow wy a2 (longT i (2 ^ h)) (pathT (stampLeavesL seed (2 ^ h)) i))) ∧ w.grownBy w' (some g) := by
  obtain ⟨w2, hw2⟩ : ∃ w2, (w.alloc (.cells (cellsB m).toArray 23)).alloc (.cells #[.int .i64 0, .slice none 0 0, .slice none 0 0] 43) = w2 := ⟨_, rfl⟩
  have hs1 : (w.alloc (.cells (cellsB m).toArray 23)).heap.size = w.heap.size + 1 := by simp
  have HS2 : Hid (w2.heap.size = w.heap.size + 1 + 1) := by unfold Hid; rw [← hw2]; simp
  have HB2 : Hid (Below w.heap.size w w2) := by rw [← hw2]; exact ((Below.refl _ _).alloc (Nat.le_refl _) _).alloc (by simp) _
  have HM2 : Hid (DAt w2 w.heap.size 0 m) := by rw [← hw2]; exact World.rangeAt_alloc (box_dat w m _) _
  have HT2 : Hid (w2.there (w.heap.size + 1) 0 3) := by rw [← hw2]; exact alloc_thereAt _ _ _ 3 _ hs1 rfl
  have HI2 : Hid (Stm w2 g seed h i) := H.below HB2.out
  have HG2 : Hid (Env w2) := G.below HB2.out
  have HGB : Hid (g < w.heap.size) := H.block
  obtain ⟨lb, c, HL⟩ := H
  have hh4 : h ≤ 4 := HL.1
  have hs : seed.length = 32 := HL.2.2.1
  have hn16 := (Stm.pow hh4).2
  have hcc := HL.2.2.2.2.2.1
  have HLB : Hid (lb < w.heap.size) := HL.leaves
  have HLL : Hid (StmL w2 g seed h i lb c) := HL.below HB2.out
  clear HL G
  go_enter Tryd.func8, Tryd.ntmps8
  go_wp2_with (refine wpList_allocE (by rfl) 43 (by rfl) #[.int .i64 0, .slice none 0 0, .slice none 0 0] Tryd.zeroSg (w.heap.size + 1) hs1 w2 hw2 ?_)
  clear hw2 hs1
  refine (wstamp_left g seed h i w2 HG2.out HI2.out).mono ?_
  rintro e w3 ⟨rfl, hb3⟩
  have HL3 : Hid (StmL w3 g seed h i lb c) := HLL.out.below hb3
  have HB3 : Hid (Below w2.heap.size w2 w3) := hb3
  have hc33 : w3.cell? ⟨g, 33, none⟩ = some (.int .i64 (i : Int)) := HL3.out.2.2.2.2.2.2.1
  have hf33 : w3.frozen? ⟨g, 33, none⟩ = false := by
    have := (HL3.out.2.2.2.2.2.2.2.1 33 (by omega)).2
    rwa [Nat.zero_add] at this
  have HL4 : Hid (StmL (w3.setCell ⟨g, 33, none⟩ (.int .i64 ((i : Int) + 1))) g seed h (i + 1) lb c) := HL3.out.spend hi
  have HW4 : Hid (w2.grownBy (w3.setCell ⟨g, 33, none⟩ (.int .i64 ((i : Int) + 1))) (some g)) := gr_trans (gr_below HB3.out _) (gr_setCell _ _ _ _)
  obtain ⟨n, hn⟩ : ∃ n, 2 ^ h = n := ⟨_, rfl⟩
  have HN : Hid (2 ^ h = n) := hn
  obtain ⟨k, hk⟩ : ∃ k, 2 ^ h - i = k := ⟨_, rfl⟩
  have hk0 : 0 < k := by omega
  rw [hk]
  rw [hn] at hcc hi hn16
  have hc32 : (w3.setCell ⟨g, 33, none⟩ (.int .i64 ((i : Int) + 1))).cell? ⟨g, 32, none⟩ = some (.slice (some ⟨lb, 0, none⟩) n c) := by rw [← hn]; exact HL4.out.2.2.2.2.1
  have e0 : ((k : Int) == 0) = false := beq_eq_false_iff_ne.2 (by omega)
  have hi16 : i < 16 := by omega
  clear hb3 hk hn HI2
  go_wp2_with fail
  clear hc33 hf33 e0 hk0
  generalize w3.setCell ⟨g, 33, none⟩ (.int .i64 ((i : Int) + 1)) = w4 at *
  have HG4 : Hid (Env w4) := HG2.out.stm HLL.out HW4.out
  refine (wtree_path_new (some ⟨lb, 0, none⟩) n c i (stampLeavesL seed n) w4 HG4.out (by rw [← HN.out]; exact HL4.out.2.2.2.2.2.2.2.2.1) hcc (by omega) hi).mono ?_
  rintro e w5 ⟨⟨a2, c2, rfl, hc2, ho2⟩, hb5⟩
  have HO5 : Hid (OwnD w5 w4.heap.size (.slice a2 (longT i n) c2) (pathT (stampLeavesL seed n) i)) := ho2
  have HSZ : Hid (w2.heap.size ≤ w4.heap.size ∧ w4.heap.size ≤ w5.heap.size ∧ w.heap.size + 2 ≤ w2.heap.size ∧ g < w.heap.size ∧ lb < w.heap.size) := ⟨HW4.out.size, hb5.size, by have := HS2.out; omega, HGB.out, HLB.out⟩
  have HK : Hid (∀ wx, Below w5.heap.size w5 wx → wx.rangeAt g 0 (cellsB seed) ∧ wx.rangeAt w.heap.size 0 (cellsB m) ∧ Env wx ∧ StmL wx g seed h (i + 1) lb c ∧ wx.there (w.heap.size + 1) 0 3 ∧ OwnD wx w4.heap.size (.slice a2 (longT i n) c2) (pathT (stampLeavesL seed n) i) ∧ w.grownBy wx (some g)) := fun wx hx => by
    obtain ⟨z1, z2, z3, z4, z5⟩ := HSZ.out
    have b45 : Below w4.heap.size w4 wx := hb5.trans (hx.mono hb5.size)
    have hL := HL4.out.below b45
    have g4 : w2.grownBy wx (some g) := gr_trans HW4.out (gr_below b45 _)
    have hm2 : DAt wx w.heap.size 0 m := dat_grs HM2.out g4 (by omega) (by omega)
    have ht2 : wx.there (w.heap.size + 1) 0 3 := by
      have hk := g4.block (w.heap.size + 1) (by omega) (by intro e; have := Option.some.inj e; omega)
      intro j hj
      rw [World.cell?_of_block (w := w2) (a := ⟨w.heap.size + 1, 0 + j, none⟩) hk, World.frozen?_of_block (w := w2) (a := ⟨w.heap.size + 1, 0 + j, none⟩) hk]
      exact HT2.out j hj
    exact ⟨hL.2.2.2.1, hm2, HG4.out.below b45, hL, ht2, ho2.below hx, gr_trans (gr_below HB2.out _) g4⟩
  clear hb5 ho2 HG2 HG4 HL4 HW4 HM2 HT2 HB2 HB3 HL3 HLL hc32 HS2
  obtain ⟨y, hy⟩ : ∃ y, longT i n = y := ⟨_, rfl⟩
  have HY : Hid (longT i n = y) := hy
  rw [hy] at HK HO5 hc2
  simp only [hy]
  clear hy
  go_upto_region 6 with fail
  refine wp_region_noPanic ?_
  refine wp_region_held_drew (S := fun wx => wx.rangeAt g 0 (cellsB seed) ∧ wx.rangeAt w.heap.size 0 (cellsB m)) (by kernel_rfl) ⟨(HK.out _ (below_drewN w5 1)).1, (HK.out _ (below_drewN w5 1)).2.1⟩ (fun hHeld => ?_)
  try simp only [Act.put, List.setIfInBounds_toArray, List.set_cons_zero, List.set_cons_succ]
  have HBd : Hid (Below w5.heap.size w5 w5.drew) := below_drewN w5 1
  generalize w5.drew = wd at *
  refine wpAnyH_take (i := 0) (v := ?_) (by simp only [List.getElem?_toArray, List.getElem?_cons_zero, List.getElem?_cons_succ]; rfl) (by kernel_rfl) (by kernel_rfl) (by kernel_rfl) (fun _ _ _ h => h) (Or.inl ⟨by rfl, ?_⟩) hHeld ?_
  rotate_left
  · intro w hSw
    obtain ⟨hSw0, hSw1⟩ := hSw
    go_simp
    try with_reducible rfl
  try simp only [Act.put, List.setIfInBounds_toArray, List.set_cons_zero, List.set_cons_succ]
  refine wpAnyH_take (i := 1) (v := ?_) (by simp only [List.getElem?_toArray, List.getElem?_cons_zero, List.getElem?_cons_succ]; rfl) (by kernel_rfl) (by kernel_rfl) (by kernel_rfl) (fun _ _ _ h => h) (Or.inl ⟨by rfl, ?_⟩) hHeld ?_
  rotate_left
  · intro w hSw
    obtain ⟨hSw0, hSw1⟩ := hSw
    go_simp
    try with_reducible rfl
  try simp only [Act.put, List.setIfInBounds_toArray, List.set_cons_zero, List.set_cons_succ]
  refine wpAnyH_take (i := 2) (v := ?_) (by simp only [List.getElem?_toArray, List.getElem?_cons_zero, List.getElem?_cons_succ]; rfl) (by kernel_rfl) (by kernel_rfl) (by kernel_rfl) (fun _ _ _ h => h) (Or.inl ⟨by rfl, ?_⟩) hHeld ?_
  rotate_left
  · intro w hSw
    obtain ⟨hSw0, hSw1⟩ := hSw
    go_simp
    try with_reducible rfl
  try simp only [Act.put, List.setIfInBounds_toArray, List.set_cons_zero, List.set_cons_succ]
  refine wpAnyH_take (i := 3) (v := ?_) (by simp only [List.getElem?_toArray, List.getElem?_cons_zero, List.getElem?_cons_succ]; rfl) (by kernel_rfl) (by kernel_rfl) (by kernel_rfl) (fun _ _ _ h => h) (Or.inl ⟨by rfl, ?_⟩) hHeld ?_
  rotate_left
  · intro w hSw
    obtain ⟨hSw0, hSw1⟩ := hSw
    go_simp
    try with_reducible rfl
  try simp only [Act.put, List.setIfInBounds_toArray, List.set_cons_zero, List.set_cons_succ]
  refine wpAnyH_take (i := 4) (v := .agg (cellsB seed).toArray) (by simp only [List.getElem?_toArray, List.getElem?_cons_zero, List.getElem?_cons_succ]; rfl) (by kernel_rfl) (by kernel_rfl) (by kernel_rfl) (fun _ _ _ h => h)
    (yieldsIf_load_mid (by rfl) _ _ rfl _ _ rfl _ _ (fun w hw => hw.1) Tryd.underlying23 rfl (by rw [cellsB_length, hs]; exact Tryd.sizeDg)) hHeld ?_
  try simp only [Act.put, List.setIfInBounds_toArray, List.set_cons_zero, List.set_cons_succ]
  refine wpAnyH_take (i := 5) (v := ?_) (by simp only [List.getElem?_toArray, List.getElem?_cons_zero, List.getElem?_cons_succ]; rfl) (by kernel_rfl) (by kernel_rfl) (by kernel_rfl) (fun _ _ _ h => h) (Or.inl ⟨by rfl, ?_⟩) hHeld ?_
  rotate_left
  · intro w hSw
    obtain ⟨hSw0, hSw1⟩ := hSw
    go_simp
    try with_reducible rfl
  try simp only [Act.put, List.setIfInBounds_toArray, List.set_cons_zero, List.set_cons_succ]
  refine wpAnyH_take (i := 7) (v := .agg (cellsB m).toArray) (by simp only [List.getElem?_toArray, List.getElem?_cons_zero, List.getElem?_cons_succ]; rfl) (by kernel_rfl) (by kernel_rfl) (by kernel_rfl) (fun _ _ _ h => h)
    (yieldsIf_load_mid (by rfl) _ _ rfl _ _ rfl _ _ (fun w hw => hw.2) Tryd.underlying23 rfl (by rw [cellsB_length, hm]; exact Tryd.sizeDg)) hHeld ?_
  try simp only [Act.put, List.setIfInBounds_toArray, List.set_cons_zero, List.set_cons_succ]
  refine wpAnyH_take (i := 9) (v := ?_) (by simp only [List.getElem?_toArray, List.getElem?_cons_zero, List.getElem?_cons_succ]; rfl) (by kernel_rfl) (by kernel_rfl) (by kernel_rfl) (fun _ _ _ h => h) (Or.inl ⟨by rfl, ?_⟩) hHeld ?_
  rotate_left
  · intro w hSw
    obtain ⟨hSw0, hSw1⟩ := hSw
    go_simp
    try with_reducible rfl
  try simp only [Act.put, List.setIfInBounds_toArray, List.set_cons_zero, List.set_cons_succ]
  refine wpAnyH_ready (rs := [6]) (by kernel_rfl) (by simp) ?_
  refine AllReadyH.cons (by simp only [List.getElem?_toArray, List.getElem?_cons_zero, List.getElem?_cons_succ]; rfl) (fun K hK => ?_) AllReadyH.nil
  rw [if_pos (by rfl)]
  go_simp
  refine (wkey_any seed i wd (HK.out _ HBd.out).2.2.1 hs (by omega)).mono ?_
  rintro e wn ⟨rfl, hbn⟩
  have HBn : Hid (Below w5.heap.size w5 wn) := HBd.out.trans (hbn.mono HBd.out.size)
  have lX := stampKeyL_length seed i
  have HXE : Hid (∃ X, stampKeyL seed i = X) := ⟨_, rfl⟩
  clear hbn HBd
  generalize hX : stampKeyL seed i = X at *
  have HX : Hid (stampKeyL seed i = X) := hX
  clear hX
  go_wp2_with fail
  refine hK.out _ _ ⟨(HK.out _ HBn.out).1, (HK.out _ HBn.out).2.1⟩ (fun hHeld => ?_)
  clear hK K
  try simp only [Act.put, List.setIfInBounds_toArray, List.set_cons_zero, List.set_cons_succ]
  refine wpAnyH_ready (rs := [8]) (by kernel_rfl) (by simp) ?_
  refine AllReadyH.cons (by simp only [List.getElem?_toArray, List.getElem?_cons_zero, List.getElem?_cons_succ]; rfl) (fun K hK => ?_) AllReadyH.nil
  rw [if_pos (by rfl)]
  go_simp
  refine (wwots_sign_new X m wn (HK.out _ HBn.out).2.2.1 lX hm).mono ?_
  rintro e wo ⟨⟨a1, c1, rfl, hc1, ha1, hr1⟩, hbo⟩
  have HBo : Hid (Below w5.heap.size w5 wo) := HBn.out.trans (hbo.mono HBn.out.size)
  have HR1 : Hid (DRow wo (some ⟨a1, 0, none⟩) 67 (wotsSigL X m 67) ∧ w5.heap.size ≤ a1) := ⟨hr1, Nat.le_trans HBn.out.size ha1⟩
  clear hbo hr1 ha1
  go_wp2_with fail
  refine hK.out _ _ ⟨(HK.out _ HBo.out).1, (HK.out _ HBo.out).2.1⟩ (fun hHeld => ?_)
  clear hK K
  try simp only [Act.put, List.setIfInBounds_toArray, List.set_cons_zero, List.set_cons_succ]
  refine wpAnyH_take (i := 10) (v := ?_) (by simp only [List.getElem?_toArray, List.getElem?_cons_zero, List.getElem?_cons_succ]; rfl) (by kernel_rfl) (by kernel_rfl) (by kernel_rfl) (fun _ _ _ h => h) (Or.inl ⟨by rfl, ?_⟩) hHeld ?_
  rotate_left
  · intro w hSw
    obtain ⟨hSw0, hSw1⟩ := hSw
    go_simp
    try with_reducible rfl
  try simp only [Act.put, List.setIfInBounds_toArray, List.set_cons_zero, List.set_cons_succ]
  refine wpAnyH_ready (rs := [11]) (by kernel_rfl) (by simp) ?_
  refine AllReadyH.cons (by simp only [List.getElem?_toArray, List.getElem?_cons_zero, List.getElem?_cons_succ]; rfl) (fun K hK => ?_) AllReadyH.nil
  rw [if_pos (by rfl)]
  refine wp_store_mid _ _ _ rfl (w.heap.size + 1) 0 #[.int .i64 (i : Int), .slice (some ⟨a1, 0, none⟩) 67 c1, .slice a2 y c2] rfl rfl (HK.out _ HBo.out).2.2.2.2.1 Tryd.sizeSg (sig_one _ _ _ _ _ _ _) ?_
  have HNE : Hid (g ≠ w.heap.size + 1 ∧ w.heap.size ≠ w.heap.size + 1) := by have := HSZ.out; exact ⟨by omega, by omega⟩
  refine hK.out _ _ ⟨World.rangeAt_setCells_apart hHeld.1 _ _ _ (.inl HNE.out.1), World.rangeAt_setCells_apart hHeld.2 _ _ _ (.inl HNE.out.2)⟩ (fun hHeld => ?_)
  clear hK K
  try simp only [Act.put, List.setIfInBounds_toArray, List.set_cons_zero, List.set_cons_succ]
  refine wpAnyH_take (i := 12) (v := ?_) (by simp only [List.getElem?_toArray, List.getElem?_cons_zero, List.getElem?_cons_succ]; rfl) (by kernel_rfl) (by kernel_rfl) (by kernel_rfl) (fun _ _ _ h => h) (Or.inl ⟨by rfl, ?_⟩) hHeld ?_
  rotate_left
  · intro w hSw
    obtain ⟨hSw0, hSw1⟩ := hSw
    go_simp
    try with_reducible rfl
  try simp only [Act.put, List.setIfInBounds_toArray, List.set_cons_zero, List.set_cons_succ]
  refine wpAnyH_done (by kernel_rfl) (NoPanic.normal ?_) _
  have HF : Hid (DRow (wo.setCells (w.heap.size + 1) 0 (#[.int .i64 (i : Int), .slice (some ⟨a1, 0, none⟩) 67 c1, .slice a2 y c2] : Array Value).toList) (some ⟨a1, 0, none⟩) 67 (wotsSigL X m 67) ∧ OwnD (wo.setCells (w.heap.size + 1) 0 (#[.int .i64 (i : Int), .slice (some ⟨a1, 0, none⟩) 67 c1, .slice a2 y c2] : Array Value).toList) w4.heap.size (.slice a2 y c2) (pathT (stampLeavesL seed n) i) ∧ StmL (wo.setCells (w.heap.size + 1) 0 (#[.int .i64 (i : Int), .slice (some ⟨a1, 0, none⟩) 67 c1, .slice a2 y c2] : Array Value).toList) g seed h (i + 1) lb c ∧ w.grownBy (wo.setCells (w.heap.size + 1) 0 (#[.int .i64 (i : Int), .slice (some ⟨a1, 0, none⟩) 67 c1, .slice a2 y c2] : Array Value).toList) (some g)) := by
    obtain ⟨z1, z2, z3, z4, z5⟩ := HSZ.out
    obtain ⟨_, _, _, k4, _, k6, k7⟩ := HK.out _ HBo.out
    have gs := gr_setCells (w.heap.size + 1) (#[.int .i64 (i : Int), .slice (some ⟨a1, 0, none⟩) 67 c1, .slice a2 y c2] : Array Value).toList 0 wo
    have hq := HR1.out.2
    refine ⟨drow_grs HR1.out.1 gs (by omega), k6.grs gs (by omega), k4.other gs (by omega) (by omega), grs_new k7 (by omega)⟩
  have HT : Hid (wo.there (w.heap.size + 1) 0 3) := (HK.out _ HBo.out).2.2.2.2.1
  have HA1 : Hid (w5.heap.size ≤ a1) := HR1.out.2
  clear hHeld HK HO5 HR1 HBn HBo HXE
  go_wp2_with fail
  refine bodyPost_ret (v := .tuple #[.agg #[.int .i64 (i : Int), .slice (some ⟨a1, 0, none⟩) 67 c1, .slice a2 y c2], .nilIface]) (run_results_row2 Tryd.results8 _ _ (w.heap.size + 1) 0 (by rfl) _ (by rfl) (#[.int .i64 (i : Int), .slice (some ⟨a1, 0, none⟩) 67 c1, .slice a2 y c2] : Array Value).toList (World.rangeAt_setCells_same _ _ _ _ HT.out) _ Tryd.underlying43 (by rfl) Tryd.sizeSg) rfl ⟨⟨some ⟨a1, 0, none⟩, c1, a2, c2, ?_, hc1, ?_, ?_, ?_, ⟨lb, c, HF.out.2.2.1⟩, ?_⟩, HF.out.2.2.2⟩
  · rw [HN.out, HY.out]; rfl
  · rw [HN.out, HY.out]; exact hc2
  · rw [HX.out]; exact HF.out.1
  · rw [HN.out, HY.out]; exact HF.out.2.1.row
  · intro wy gy
    obtain ⟨z1, z2, z3, z4, z5⟩ := HSZ.out
    rw [HX.out, HN.out, HY.out]
    exact ⟨drow_grs HF.out.1 gy (by have := HA1.out; omega), (HF.out.2.1.grs gy (by omega)).row⟩
theorem wstamp_sign (g : Nat) (seed m : List UInt8) (h i : Nat) (w : World) (G : Env w) (H : Stm w g seed h i) (hm : m.length = 32) (hi : i < 2 ^ h) :
    Calls Tryd.prog 8 #[.pointer (some ⟨g, 0, none⟩), digestV m] w fun e w' => (∃ a1 c1 a2 c2, e = .returned (.tuple #[sigV (i : Int) a1 67 c1 a2 (longT i (2 ^ h)) c2, .nilIface]) ∧ 67 ≤ c1 ∧ longT i (2 ^ h) ≤ c2 ∧ DRow w' a1 67 (wotsSigL (stampKeyL seed i) m 67) ∧ DRow w' a2 (longT i (2 ^ h)) (pathT (stampLeavesL seed (2 ^ h)) i) ∧ Stm w' g seed h (i + 1)) ∧ w.grownBy w' (some g) := by
  refine (wstamp_signk g seed m h i w G H hm hi).mono ?_
  rintro e w' ⟨⟨a1, c1, a2, c2, k1, k2, k3, k4, k5, k6, _⟩, hg⟩
  exact ⟨⟨a1, c1, a2, c2, k1, k2, k3, k4, k5, k6⟩, hg⟩
end Go.Proofs.YtghiniaijobonaaDoor
/- The contracts of tree.depth, tree.fold and tree.Fold. -/
namespace Go.Proofs.YtghiniaijobonaaDoor
open Go.RowKit
set_option linter.unusedVariables false
set_option linter.unusedSimpArgs false

set_option maxRecDepth 100000 in
set_option maxHeartbeats 1000000 in
theorem wdepth_any : ∀ (n i : Nat) (w : World), 1 ≤ n → n ≤ 256 → i < n →
    Calls Tryd.prog 38 #[.int .i64 (i : Int), .int .i64 (n : Int)] w fun e w' => e = .returned (.int .i64 (longT i n : Int)) ∧ w' = w := by
  intro n
  induction n using Nat.strongRecOn with
  | ind n ih =>
    intro i w h1 hn hi
    have HI : Hid (∀ m, m < n → ∀ (i : Nat) (w : World), 1 ≤ m → m ≤ 256 → i < m → Calls Tryd.prog 38 #[.int .i64 (i : Int), .int .i64 (m : Int)] w fun e w' => e = .returned (.int .i64 (longT i m : Int)) ∧ w' = w) := ih
    clear ih
    go_enter Tryd.func38, Tryd.ntmps38
    by_cases h2 : 2 ≤ n
    · have e1 : ((n : Int) == 1) = false := by simp; omega
      go_wp2_with fail
      refine (wsplit_any n w h2 hn).mono ?_
      rintro e w' ⟨rfl, rfl⟩
      have hk1 := halfT_lt h2
      have hk2 := halfT_pos n
      by_cases c : i < halfT n
      · have HL : Hid (longT i n = 1 + longT i (halfT n)) := longT_lo h2 c
        have hlb := longT_le (halfT n) i
        have HC : Hid (Calls Tryd.prog 38 #[.int .i64 (i : Int), .int .i64 (halfT n : Int)] w' fun e w'' => e = .returned (.int .i64 (longT i (halfT n) : Int)) ∧ w'' = w') := HI.out (halfT n) hk1 i w' (by omega) (by omega) c
        generalize halfT n = k at *
        have g1 : (i : Int) < (k : Int) := by omega
        go_wp2_with fail
        refine HC.out.mono ?_
        rintro e w3 ⟨rfl, rfl⟩
        generalize longT i k = y at *
        go_wp2_with fail
        go_ret
        refine ⟨ret_int ?_, rfl⟩
        rw [HL.out]
        omega
      · have HL : Hid (longT i n = 1 + longT (i - halfT n) (n - halfT n)) := longT_hi h2 c
        have hlb := longT_le (n - halfT n) (i - halfT n)
        have HC : Hid (Calls Tryd.prog 38 #[.int .i64 ((i - halfT n : Nat) : Int), .int .i64 ((n - halfT n : Nat) : Int)] w' fun e w'' => e = .returned (.int .i64 (longT (i - halfT n) (n - halfT n) : Int)) ∧ w'' = w') := HI.out (n - halfT n) (by omega) (i - halfT n) w' (by omega) (by omega) (by omega)
        generalize halfT n = k at *
        have g1 : ¬ (i : Int) < (k : Int) := by omega
        have s1 : (i : Int) - (k : Int) = ((i - k : Nat) : Int) := by omega
        have s2 : (n : Int) - (k : Int) = ((n - k : Nat) : Int) := by omega
        have b1 : i - k ≤ 256 := by omega
        have b2 : n - k ≤ 256 := by omega
        generalize longT (i - k) (n - k) = y at *
        generalize i - k = i' at *
        generalize n - k = n' at *
        go_wp2_with fail
        refine HC.out.mono ?_
        rintro e w3 ⟨rfl, rfl⟩
        go_wp2_with fail
        go_ret
        refine ⟨ret_int ?_, rfl⟩
        rw [HL.out]
        omega
    · obtain rfl : n = 1 := by omega
      have HL : Hid (longT i 1 = 0) := longT_one h2
      go_wp2_with fail
      go_ret
      refine ⟨ret_int ?_, rfl⟩
      rw [HL.out]
      rfl

set_option maxRecDepth 100000 in
set_option maxHeartbeats 1000000 in
theorem wfold_any : ∀ (n : Nat), ∀ (l : List UInt8) (i p c : Nat) (a : Option Addr) (path : List (List UInt8)) (w : World), l.length = 32 → Env w → DRow w a p path → p = longT i n → p ≤ c → 1 ≤ n → n ≤ 256 → i < n →
    Calls Tryd.prog 39 #[digestV l, .int .i64 (i : Int), .int .i64 (n : Int), .slice a p c] w fun e w' => e = .returned (digestV (foldT l i n path)) ∧ Below w.heap.size w w' := by
  intro n
  induction n using Nat.strongRecOn with
  | ind n ih =>
    intro l i p c a path w hl G R hp hc h1 hn hi
    have HI : Hid (∀ m, m < n → ∀ (l : List UInt8) (i p c : Nat) (a : Option Addr) (path : List (List UInt8)) (w : World), l.length = 32 → Env w → DRow w a p path → p = longT i m → p ≤ c → 1 ≤ m → m ≤ 256 → i < m → Calls Tryd.prog 39 #[digestV l, .int .i64 (i : Int), .int .i64 (m : Int), .slice a p c] w fun e w' => e = .returned (digestV (foldT l i m path)) ∧ Below w.heap.size w w') := ih
    clear ih
    obtain ⟨w2, hw2⟩ : ∃ w2, (w.alloc (.cells (cellsB l).toArray 23)).alloc (.cells (cellsB zD).toArray 23) = w2 := ⟨_, rfl⟩
    have hs1 : (w.alloc (.cells (cellsB l).toArray 23)).heap.size = w.heap.size + 1 := by simp
    have HS2 : Hid (w2.heap.size = w.heap.size + 1 + 1) := by unfold Hid; rw [← hw2]; simp
    have HB2 : Hid (Below w.heap.size w w2) := by rw [← hw2]; exact ((Below.refl _ _).alloc (Nat.le_refl _) _).alloc (by simp) _
    have HL2 : Hid (DAt w2 w.heap.size 0 l) := by rw [← hw2]; exact World.rangeAt_alloc (box_dat w l _) _
    have HT2 : Hid (w2.there (w.heap.size + 1) 0 32) := by rw [← hw2]; exact alloc_thereAt _ _ _ 32 _ hs1 zD_size.symm
    have HKT : Hid (∀ wx, Below w2.heap.size w2 wx → wx.rangeAt w.heap.size 0 (cellsB l) ∧ DRow wx a p path ∧ wx.there (w.heap.size + 1) 0 32 ∧ Below w.heap.size w wx) := fun wx hx => by
      have s := HS2.out
      have b : Below w.heap.size w wx := HB2.out.trans (hx.mono (by omega))
      exact ⟨HL2.out.below hx (by omega), R.below b, there_below HT2.out hx (by omega), b⟩
    have HGE : Hid (∀ wx, Below w.heap.size w wx → Env wx) := fun wx hx => G.below hx
    have HPL : Hid (path.length = p) := R.1
    have HP32 : Hid (∀ j, j < p → (path.getD j []).length = 32) := R.len
    have HP : Hid (p = longT i n) := hp
    clear R hp G
    go_enter Tryd.func39, Tryd.ntmps39
    by_cases h2 : 2 ≤ n
    · have e1 : ((n : Int) == 1) = false := by simp; omega
      have hfl := foldT_length hl i n path
      have hk1 := halfT_lt h2
      have hk2 := halfT_pos n
      have H0 : Hid (Below w2.heap.size w2 w2) := Below.refl _ _
      have hp1 : 1 ≤ p := by
        rw [HP.out]
        by_cases hik : i < halfT n
        · rw [longT_lo h2 hik]; omega
        · rw [longT_hi h2 hik]; omega
      obtain ⟨b, o, rfl⟩ := (HKT.out _ H0.out).2.1.addr (by omega)
      obtain ⟨q, hq⟩ : ∃ q : Nat, p - 1 = q := ⟨_, rfl⟩
      have hpq : (p : Int) - 1 = (q : Int) := by omega
      have lP := HP32.out q (by omega)
      have HX : Hid (∀ wx, Below w2.heap.size w2 wx → wx.rangeAt b (o + q * 32) (cellsB (path.getD q []))) := fun wx hx => (HKT.out _ hx).2.1.at q (by omega)
      have hqp : q < p := by omega
      have hqb : q ≤ 256 := by have := longT_le n i; have := HP.out; omega
      have HRQ : Hid (∀ wx, Below w2.heap.size w2 wx → DRow wx (some ⟨b, o, none⟩) q (path.take q)) := fun wx hx => (HKT.out wx hx).2.1.take q (by omega)
      have HFL : Hid (∀ k, halfT n = k → i < k → foldT l i n path = nodeT (foldT l i k (path.take q)) (path.getD q [])) := fun k hk h => by
        have := foldT_lo (l := l) (path := path) h2 (by rw [hk]; exact h)
        rw [HPL.out, hq, hk] at this
        exact this
      have HFH : Hid (∀ k, halfT n = k → ¬ i < k → foldT l i n path = nodeT (path.getD q []) (foldT l (i - k) (n - k) (path.take q))) := fun k hk h => by
        have := foldT_hi (l := l) (path := path) h2 (by rw [hk]; exact h)
        rw [HPL.out, hq, hk] at this
        exact this
      have HQL : Hid (∀ k, halfT n = k → i < k → q = longT i k) := fun k hk h => by
        have := longT_lo (n := n) h2 (by rw [hk]; exact h)
        rw [hk] at this
        have := HP.out
        omega
      have HQH : Hid (∀ k, halfT n = k → ¬ i < k → q = longT (i - k) (n - k)) := fun k hk h => by
        have := longT_hi (n := n) h2 (by rw [hk]; exact h)
        rw [hk] at this
        have := HP.out
        omega
      generalize path.getD q [] = P at *
      generalize path.take q = PT at *
      have HBK : Hid (b < w2.heap.size) := cell_block ((show DAt w2 b (o + q * 32) P from HX.out _ H0.out).cell 0 (by omega))
      have q0 : (0 : Int) ≤ (q : Int) := by omega
      have q1 : (q : Int) < (p : Int) := by omega
      have q2 : (q : Int) ≤ (c : Int) := by omega
      have hpi : (p : Int) ≤ 257 := by omega
      clear hq
      go_wp2_with (refine wpList_allocE (by rfl) 23 (by rfl) (cellsB zD).toArray Tryd.zeroDg (w.heap.size + 1) hs1 w2 hw2 ?_)
      clear hw2 hs1 HL2 HT2
      refine wp_region_noPanic ?_
      refine wp_region_held_drew (S := fun wx => wx.rangeAt b (o + q * 32) (cellsB P)) (by kernel_rfl) (HX.out _ (below_drewN w2 1)) (fun hHeld => ?_)
      try simp only [Act.put, List.setIfInBounds_toArray, List.set_cons_zero, List.set_cons_succ]
      have HBd : Hid (Below w2.heap.size w2 w2.drew) := below_drewN w2 1
      generalize w2.drew = wd at *
      refine wpAnyH_take (i := 0) (v := ?_) (by simp only [List.getElem?_toArray, List.getElem?_cons_zero, List.getElem?_cons_succ]; rfl) (by kernel_rfl) (by kernel_rfl) (by kernel_rfl) (fun _ _ _ h => h) (Or.inl ⟨by rfl, ?_⟩) hHeld ?_
      rotate_left
      · intro w hSw
        go_simp
        try with_reducible rfl
      try simp only [Act.put, List.setIfInBounds_toArray, List.set_cons_zero, List.set_cons_succ]
      refine wpAnyH_take (i := 1) (v := ?_) (by simp only [List.getElem?_toArray, List.getElem?_cons_zero, List.getElem?_cons_succ]; rfl) (by kernel_rfl) (by kernel_rfl) (by kernel_rfl) (fun _ _ _ h => h) (Or.inl ⟨by rfl, ?_⟩) hHeld ?_
      rotate_left
      · intro w hSw
        go_simp
        try with_reducible rfl
      try simp only [Act.put, List.setIfInBounds_toArray, List.set_cons_zero, List.set_cons_succ]
      refine wpAnyH_take (i := 2) (v := .slice (some ⟨b, o, none⟩) q c) (by simp only [List.getElem?_toArray, List.getElem?_cons_zero, List.getElem?_cons_succ]; rfl) (by kernel_rfl) (by kernel_rfl) (by kernel_rfl) (fun _ _ _ h => h) (Or.inl ⟨by rfl, ?_⟩) hHeld ?_
      · intro w hSw
        go_simp
      try simp only [Act.put, List.setIfInBounds_toArray, List.set_cons_zero, List.set_cons_succ]
      refine wpAnyH_take (i := 3) (v := ?_) (by simp only [List.getElem?_toArray, List.getElem?_cons_zero, List.getElem?_cons_succ]; rfl) (by kernel_rfl) (by kernel_rfl) (by kernel_rfl) (fun _ _ _ h => h) (Or.inl ⟨by rfl, ?_⟩) hHeld ?_
      rotate_left
      · intro w hSw
        go_simp
        try with_reducible rfl
      try simp only [Act.put, List.setIfInBounds_toArray, List.set_cons_zero, List.set_cons_succ]
      refine wpAnyH_take (i := 4) (v := ?_) (by simp only [List.getElem?_toArray, List.getElem?_cons_zero, List.getElem?_cons_succ]; rfl) (by kernel_rfl) (by kernel_rfl) (by kernel_rfl) (fun _ _ _ h => h) (Or.inl ⟨by rfl, ?_⟩) hHeld ?_
      rotate_left
      · intro w hSw
        go_simp
        try with_reducible rfl
      try simp only [Act.put, List.setIfInBounds_toArray, List.set_cons_zero, List.set_cons_succ]
      refine wpAnyH_take (i := 5) (v := .pointer (some ⟨b, o + q * 32, none⟩)) (by simp only [List.getElem?_toArray, List.getElem?_cons_zero, List.getElem?_cons_succ]; rfl) (by kernel_rfl) (by kernel_rfl) (by kernel_rfl) (fun _ _ _ h => h) (Or.inl ⟨by rfl, ?_⟩) hHeld ?_
      · intro w hSw
        go_simp
      try simp only [Act.put, List.setIfInBounds_toArray, List.set_cons_zero, List.set_cons_succ]
      refine wpAnyH_take (i := 6) (v := .agg (cellsB P).toArray) (by simp only [List.getElem?_toArray, List.getElem?_cons_zero, List.getElem?_cons_succ]; rfl) (by kernel_rfl) (by kernel_rfl) (by kernel_rfl) (fun _ _ _ h => h)
        (yieldsIf_load_mid (by rfl) _ _ rfl _ _ rfl _ _ (fun w hw => hw) Tryd.underlying23 rfl (by rw [cellsB_length, lP]; exact Tryd.sizeDg)) hHeld ?_
      try simp only [Act.put, List.setIfInBounds_toArray, List.set_cons_zero, List.set_cons_succ]
      refine wpAnyH_ready (rs := [7]) (by kernel_rfl) (by simp) ?_
      refine AllReadyH.cons (by simp only [List.getElem?_toArray, List.getElem?_cons_zero, List.getElem?_cons_succ]; rfl) (fun K hK => ?_) AllReadyH.nil
      rw [if_pos (by rfl)]
      refine wp_allocE 23 (by rfl) (cellsB zD).toArray Tryd.zeroDg ?_
      have HB3 : Hid (Below w2.heap.size w2 (wd.alloc (.cells (cellsB zD).toArray 23))) := Below.alloc HBd.out HBd.out.size _
      have HT3 : Hid ((wd.alloc (.cells (cellsB zD).toArray 23)).there wd.heap.size 0 32) := alloc_thereAt _ _ _ 32 _ rfl zD_size.symm
      have HGG : Hid (w2.heap.size ≤ wd.heap.size) := HBd.out.size
      refine hK.out _ _ (HX.out _ HB3.out) (fun hHeld => ?_)
      clear HBd
      generalize wd.alloc (.cells (cellsB zD).toArray 23) = w3 at *
      generalize wd.heap.size = g at *
      clear hK K
      try simp only [Act.put, List.setIfInBounds_toArray, List.set_cons_zero, List.set_cons_succ]
      refine wpAnyH_take (i := 8) (v := ?_) (by simp only [List.getElem?_toArray, List.getElem?_cons_zero, List.getElem?_cons_succ]; rfl) (by kernel_rfl) (by kernel_rfl) (by kernel_rfl) (fun _ _ _ h => h) (Or.inl ⟨by rfl, ?_⟩) hHeld ?_
      rotate_left
      · intro w hSw
        go_simp
        try with_reducible rfl
      try simp only [Act.put, List.setIfInBounds_toArray, List.set_cons_zero, List.set_cons_succ]
      refine wpAnyH_ready (rs := [9]) (by kernel_rfl) (by simp) ?_
      refine AllReadyH.cons (by simp only [List.getElem?_toArray, List.getElem?_cons_zero, List.getElem?_cons_succ]; rfl) (fun K hK => ?_) AllReadyH.nil
      rw [if_pos (by rfl)]
      refine wp_store_mid _ _ _ rfl g 0 (cellsB P).toArray rfl rfl (by rw [cellsB_size, lP]; exact HT3.out) (by rw [cellsB_size, lP]; exact Tryd.sizeDg) (all_oneCell_toArray (cellsB_one _)) ?_
      have hr : (w3.setCells g 0 (cellsB P)).rangeAt b (o + q * 32) (cellsB P) := World.rangeAt_setCells_apart (HX.out _ HB3.out) _ _ _ (.inl (by have := HBK.out; have := HGG.out; omega))
      have HB4 : Hid (Below w2.heap.size w2 (w3.setCells g 0 (cellsB P))) := below_setCells _ HGG.out _ _ _ HB3.out
      have HX4 : Hid (DAt (w3.setCells g 0 (cellsB P)) g 0 P) := dat_stored HT3.out lP
      refine hK.out _ _ hr (fun hHeld => ?_)
      clear hr
      clear hK K
      try simp only [Act.put, List.setIfInBounds_toArray, List.set_cons_zero, List.set_cons_succ]
      refine wpAnyH_done (by kernel_rfl) (NoPanic.normal ?_) _
      clear hHeld
      generalize w3.setCells g 0 (cellsB P) = wq at *
      have hg4 : g < wq.heap.size := cell_block (HX4.out.cell 0 (by omega))
      have HKQ : Hid (∀ wx, Below wq.heap.size wq wx → (wx.rangeAt w.heap.size 0 (cellsB l) ∧ wx.rangeAt g 0 (cellsB P)) ∧ DRow wx (some ⟨b, o, none⟩) q PT ∧ wx.there (w.heap.size + 1) 0 32 ∧ Below w.heap.size w wx) := fun wx hx => by
        have b1 : Below w2.heap.size w2 wx := HB4.out.trans (hx.mono HB4.out.size)
        have k := HKT.out _ b1
        exact ⟨⟨k.1, HX4.out.below hx hg4⟩, HRQ.out _ b1, k.2.2.1, k.2.2.2⟩
      have HGW : Hid (w.heap.size + 1 < g) := by have := HS2.out; have := HGG.out; unfold Hid; omega
      clear hg4 HX4 H0 HRQ HKT HP HPL HP32 HB4 HB3 HT3 HGG HBK HX
      go_wp2_with fail
      refine (wsplit_any n wq h2 hn).mono ?_
      rintro e w4 ⟨rfl, rfl⟩
      generalize halfT n = k at *
      have GFL : Hid (i < k → foldT l i n path = nodeT (foldT l i k PT) P) := HFL.out k rfl
      have GFH : Hid (¬ i < k → foldT l i n path = nodeT P (foldT l (i - k) (n - k) PT)) := HFH.out k rfl
      have GQL : Hid (i < k → q = longT i k) := HQL.out k rfl
      have GQH : Hid (¬ i < k → q = longT (i - k) (n - k)) := HQH.out k rfl
      clear HFL HFH HQL HQH
      by_cases hik : i < k
      · have HFL := GFL.out hik
        have HQL := GQL.out hik
        have HC : Hid (∀ wx, Env wx → DRow wx (some ⟨b, o, none⟩) q PT → Calls Tryd.prog 39 #[digestV l, .int .i64 (i : Int), .int .i64 (k : Int), .slice (some ⟨b, o, none⟩) q c] wx fun e w' => e = .returned (digestV (foldT l i k PT)) ∧ Below wx.heap.size wx w') := fun wx hg hr => HI.out k hk1 l i q c _ PT wx hl hg hr HQL (by omega) (by omega) (by omega) hik
        have lF := foldT_length hl i k PT
        have HE : Hid (foldT l i n path = nodeT (foldT l i k PT) P) := HFL
        rw [HFL] at hfl
        clear HFL HQL GFL GQL GFH GQH HI
        generalize foldT l i k PT = F at *
        have g1 : (i : Int) < (k : Int) := by omega
        go_wp2_with fail
        refine wp_region_noPanic ?_
        refine wp_region_held_drew (S := fun wx => wx.rangeAt w.heap.size 0 (cellsB l) ∧ wx.rangeAt g 0 (cellsB P)) (by kernel_rfl) ((HKQ.out _ (below_drewN w4 1)).1) (fun hHeld => ?_)
        try simp only [Act.put, List.setIfInBounds_toArray, List.set_cons_zero, List.set_cons_succ]
        have HBd : Hid (Below w4.heap.size w4 w4.drew) := below_drewN w4 1
        generalize w4.drew = wd at *
        refine wpAnyH_take (i := 0) (v := .agg (cellsB l).toArray) (by simp only [List.getElem?_toArray, List.getElem?_cons_zero, List.getElem?_cons_succ]; rfl) (by kernel_rfl) (by kernel_rfl) (by kernel_rfl) (fun _ _ _ h => h)
          (yieldsIf_load_mid (by rfl) _ _ rfl _ _ rfl _ _ (fun w hw => hw.1) Tryd.underlying23 rfl (by rw [cellsB_length, hl]; exact Tryd.sizeDg)) hHeld ?_
        try simp only [Act.put, List.setIfInBounds_toArray, List.set_cons_zero, List.set_cons_succ]
        refine wpAnyH_take (i := 1) (v := ?_) (by simp only [List.getElem?_toArray, List.getElem?_cons_zero, List.getElem?_cons_succ]; rfl) (by kernel_rfl) (by kernel_rfl) (by kernel_rfl) (fun _ _ _ h => h) (Or.inl ⟨by rfl, ?_⟩) hHeld ?_
        rotate_left
        · intro w hSw
          obtain ⟨hSw0, hSw1⟩ := hSw
          go_simp
          try with_reducible rfl
        try simp only [Act.put, List.setIfInBounds_toArray, List.set_cons_zero, List.set_cons_succ]
        refine wpAnyH_take (i := 2) (v := ?_) (by simp only [List.getElem?_toArray, List.getElem?_cons_zero, List.getElem?_cons_succ]; rfl) (by kernel_rfl) (by kernel_rfl) (by kernel_rfl) (fun _ _ _ h => h) (Or.inl ⟨by rfl, ?_⟩) hHeld ?_
        rotate_left
        · intro w hSw
          obtain ⟨hSw0, hSw1⟩ := hSw
          go_simp
          try with_reducible rfl
        try simp only [Act.put, List.setIfInBounds_toArray, List.set_cons_zero, List.set_cons_succ]
        refine wpAnyH_take (i := 3) (v := ?_) (by simp only [List.getElem?_toArray, List.getElem?_cons_zero, List.getElem?_cons_succ]; rfl) (by kernel_rfl) (by kernel_rfl) (by kernel_rfl) (fun _ _ _ h => h) (Or.inl ⟨by rfl, ?_⟩) hHeld ?_
        rotate_left
        · intro w hSw
          obtain ⟨hSw0, hSw1⟩ := hSw
          go_simp
          try with_reducible rfl
        try simp only [Act.put, List.setIfInBounds_toArray, List.set_cons_zero, List.set_cons_succ]
        refine wpAnyH_take (i := 5) (v := .agg (cellsB P).toArray) (by simp only [List.getElem?_toArray, List.getElem?_cons_zero, List.getElem?_cons_succ]; rfl) (by kernel_rfl) (by kernel_rfl) (by kernel_rfl) (fun _ _ _ h => h)
          (yieldsIf_load_mid (by rfl) _ _ rfl _ _ rfl _ _ (fun w hw => hw.2) Tryd.underlying23 rfl (by rw [cellsB_length, lP]; exact Tryd.sizeDg)) hHeld ?_
        try simp only [Act.put, List.setIfInBounds_toArray, List.set_cons_zero, List.set_cons_succ]
        refine wpAnyH_ready (rs := [4]) (by kernel_rfl) (by simp) ?_
        refine AllReadyH.cons (by simp only [List.getElem?_toArray, List.getElem?_cons_zero, List.getElem?_cons_succ]; rfl) (fun K hK => ?_) AllReadyH.nil
        rw [if_pos (by rfl)]
        go_simp
        refine (HC.out wd (HGE.out _ (HKQ.out _ HBd.out).2.2.2) (HKQ.out _ HBd.out).2.1).mono ?_
        rintro e w5 ⟨rfl, hb5⟩
        have HB5 : Hid (Below w4.heap.size w4 w5) := HBd.out.trans (hb5.mono HBd.out.size)
        clear hb5 HBd HC
        go_wp2_with fail
        refine hK.out _ _ (HKQ.out _ HB5.out).1 (fun hHeld => ?_)
        clear hK K
        try simp only [Act.put, List.setIfInBounds_toArray, List.set_cons_zero, List.set_cons_succ]
        refine wpAnyH_ready (rs := [6]) (by kernel_rfl) (by simp) ?_
        refine AllReadyH.cons (by simp only [List.getElem?_toArray, List.getElem?_cons_zero, List.getElem?_cons_succ]; rfl) (fun K hK => ?_) AllReadyH.nil
        rw [if_pos (by rfl)]
        go_simp
        refine (wtree_node F P w5 (HGE.out _ (HKQ.out _ HB5.out).2.2.2) lF lP).mono ?_
        rintro e w6 ⟨rfl, hb6⟩
        have HB6 : Hid (Below w4.heap.size w4 w6) := HB5.out.trans (hb6.mono HB5.out.size)
        clear hb6 HB5
        generalize nodeT F P = D at *
        go_wp2_with fail
        refine hK.out _ _ (HKQ.out _ HB6.out).1 (fun hHeld => ?_)
        clear hK K
        try simp only [Act.put, List.setIfInBounds_toArray, List.set_cons_zero, List.set_cons_succ]
        refine wpAnyH_ready (rs := [7]) (by kernel_rfl) (by simp) ?_
        refine AllReadyH.cons (by simp only [List.getElem?_toArray, List.getElem?_cons_zero, List.getElem?_cons_succ]; rfl) (fun K hK => ?_) AllReadyH.nil
        rw [if_pos (by rfl)]
        have HT6 : Hid (w6.there (w.heap.size + 1) 0 32) := (HKQ.out _ HB6.out).2.2.1
        refine wp_store_mid _ _ _ rfl (w.heap.size + 1) 0 (cellsB D).toArray rfl rfl (by rw [cellsB_size, hfl]; exact HT6.out) (by rw [cellsB_size, hfl]; exact Tryd.sizeDg) (all_oneCell_toArray (cellsB_one _)) ?_
        have hr : (w6.setCells (w.heap.size + 1) 0 (cellsB D)).rangeAt w.heap.size 0 (cellsB l) ∧ (w6.setCells (w.heap.size + 1) 0 (cellsB D)).rangeAt g 0 (cellsB P) := ⟨World.rangeAt_setCells_apart (HKQ.out _ HB6.out).1.1 _ _ _ (.inl (by omega)), World.rangeAt_setCells_apart (HKQ.out _ HB6.out).1.2 _ _ _ (.inl (by have := HGW.out; omega))⟩
        refine hK.out _ _ hr (fun hHeld => ?_)
        clear hr
        clear hK K
        try simp only [Act.put, List.setIfInBounds_toArray, List.set_cons_zero, List.set_cons_succ]
        refine wpAnyH_done (by kernel_rfl) (NoPanic.normal ?_) _
        clear hHeld
        go_wp2_with fail
        refine bodyPost_ret (v := digestV D) (run_results_row Tryd.results39 _ _ (w.heap.size + 1) 0 (by rfl) (cellsB D) (World.rangeAt_setCells_same _ _ _ _ (by rw [cellsB_length, hfl]; exact HT6.out)) _ Tryd.underlying23 (by rfl) (by rw [cellsB_length, hfl]; exact Tryd.sizeDg)) rfl ⟨by rw [HE.out], ?_⟩
        exact below_setCells _ (by omega) _ _ _ (HKQ.out _ HB6.out).2.2.2
      · have HFH := GFH.out hik
        have HQH := GQH.out hik
        have HC : Hid (∀ wx, Env wx → DRow wx (some ⟨b, o, none⟩) q PT → Calls Tryd.prog 39 #[digestV l, .int .i64 ((i - k : Nat) : Int), .int .i64 ((n - k : Nat) : Int), .slice (some ⟨b, o, none⟩) q c] wx fun e w' => e = .returned (digestV (foldT l (i - k) (n - k) PT)) ∧ Below wx.heap.size wx w') := fun wx hg hr => HI.out (n - k) (by omega) l (i - k) q c _ PT wx hl hg hr HQH (by omega) (by omega) (by omega) (by omega)
        have lF := foldT_length hl (i - k) (n - k) PT
        have HE : Hid (foldT l i n path = nodeT P (foldT l (i - k) (n - k) PT)) := HFH
        rw [HFH] at hfl
        clear HFH HQH GFL GQL GFH GQH HI
        generalize foldT l (i - k) (n - k) PT = F at *
        have s1 : (i : Int) - (k : Int) = ((i - k : Nat) : Int) := by omega
        have s2 : (n : Int) - (k : Int) = ((n - k : Nat) : Int) := by omega
        have b1 : i - k ≤ 256 := by omega
        have b2 : n - k ≤ 256 := by omega
        generalize i - k = i' at *
        generalize n - k = n' at *
        have wi : IntKind.i64.wrap (i' : Int) = (i' : Int) := wrapT i' (by omega)
        have wn : IntKind.i64.wrap (n' : Int) = (n' : Int) := wrapT n' (by omega)
        have g1 : ¬ (i : Int) < (k : Int) := by omega
        go_wp2_with fail
        refine wp_region_noPanic ?_
        refine wp_region_held_drew (S := fun wx => wx.rangeAt w.heap.size 0 (cellsB l) ∧ wx.rangeAt g 0 (cellsB P)) (by kernel_rfl) ((HKQ.out _ (below_drewN w4 1)).1) (fun hHeld => ?_)
        try simp only [Act.put, List.setIfInBounds_toArray, List.set_cons_zero, List.set_cons_succ]
        have HBd : Hid (Below w4.heap.size w4 w4.drew) := below_drewN w4 1
        generalize w4.drew = wd at *
        refine wpAnyH_take (i := 0) (v := .agg (cellsB P).toArray) (by simp only [List.getElem?_toArray, List.getElem?_cons_zero, List.getElem?_cons_succ]; rfl) (by kernel_rfl) (by kernel_rfl) (by kernel_rfl) (fun _ _ _ h => h)
          (yieldsIf_load_mid (by rfl) _ _ rfl _ _ rfl _ _ (fun w hw => hw.2) Tryd.underlying23 rfl (by rw [cellsB_length, lP]; exact Tryd.sizeDg)) hHeld ?_
        try simp only [Act.put, List.setIfInBounds_toArray, List.set_cons_zero, List.set_cons_succ]
        refine wpAnyH_take (i := 1) (v := .agg (cellsB l).toArray) (by simp only [List.getElem?_toArray, List.getElem?_cons_zero, List.getElem?_cons_succ]; rfl) (by kernel_rfl) (by kernel_rfl) (by kernel_rfl) (fun _ _ _ h => h)
          (yieldsIf_load_mid (by rfl) _ _ rfl _ _ rfl _ _ (fun w hw => hw.1) Tryd.underlying23 rfl (by rw [cellsB_length, hl]; exact Tryd.sizeDg)) hHeld ?_
        try simp only [Act.put, List.setIfInBounds_toArray, List.set_cons_zero, List.set_cons_succ]
        refine wpAnyH_take (i := 2) (v := ?_) (by simp only [List.getElem?_toArray, List.getElem?_cons_zero, List.getElem?_cons_succ]; rfl) (by kernel_rfl) (by kernel_rfl) (by kernel_rfl) (fun _ _ _ h => h) (Or.inl ⟨by rfl, ?_⟩) hHeld ?_
        rotate_left
        · intro w hSw
          obtain ⟨hSw0, hSw1⟩ := hSw
          go_simp
          try with_reducible rfl
        try simp only [Act.put, List.setIfInBounds_toArray, List.set_cons_zero, List.set_cons_succ]
        refine wpAnyH_take (i := 3) (v := ?_) (by simp only [List.getElem?_toArray, List.getElem?_cons_zero, List.getElem?_cons_succ]; rfl) (by kernel_rfl) (by kernel_rfl) (by kernel_rfl) (fun _ _ _ h => h) (Or.inl ⟨by rfl, ?_⟩) hHeld ?_
        rotate_left
        · intro w hSw
          obtain ⟨hSw0, hSw1⟩ := hSw
          go_simp
          try with_reducible rfl
        try simp only [Act.put, List.setIfInBounds_toArray, List.set_cons_zero, List.set_cons_succ]
        refine wpAnyH_take (i := 4) (v := .int .i64 (i' : Int)) (by simp only [List.getElem?_toArray, List.getElem?_cons_zero, List.getElem?_cons_succ]; rfl) (by kernel_rfl) (by kernel_rfl) (by kernel_rfl) (fun _ _ _ h => h) (Or.inl ⟨by rfl, ?_⟩) hHeld ?_
        · intro w hSw
          obtain ⟨hSw0, hSw1⟩ := hSw
          go_simp
        try simp only [Act.put, List.setIfInBounds_toArray, List.set_cons_zero, List.set_cons_succ]
        refine wpAnyH_take (i := 5) (v := ?_) (by simp only [List.getElem?_toArray, List.getElem?_cons_zero, List.getElem?_cons_succ]; rfl) (by kernel_rfl) (by kernel_rfl) (by kernel_rfl) (fun _ _ _ h => h) (Or.inl ⟨by rfl, ?_⟩) hHeld ?_
        rotate_left
        · intro w hSw
          obtain ⟨hSw0, hSw1⟩ := hSw
          go_simp
          try with_reducible rfl
        try simp only [Act.put, List.setIfInBounds_toArray, List.set_cons_zero, List.set_cons_succ]
        refine wpAnyH_take (i := 6) (v := ?_) (by simp only [List.getElem?_toArray, List.getElem?_cons_zero, List.getElem?_cons_succ]; rfl) (by kernel_rfl) (by kernel_rfl) (by kernel_rfl) (fun _ _ _ h => h) (Or.inl ⟨by rfl, ?_⟩) hHeld ?_
        rotate_left
        · intro w hSw
          obtain ⟨hSw0, hSw1⟩ := hSw
          go_simp
          try with_reducible rfl
        try simp only [Act.put, List.setIfInBounds_toArray, List.set_cons_zero, List.set_cons_succ]
        refine wpAnyH_take (i := 7) (v := .int .i64 (n' : Int)) (by simp only [List.getElem?_toArray, List.getElem?_cons_zero, List.getElem?_cons_succ]; rfl) (by kernel_rfl) (by kernel_rfl) (by kernel_rfl) (fun _ _ _ h => h) (Or.inl ⟨by rfl, ?_⟩) hHeld ?_
        · intro w hSw
          obtain ⟨hSw0, hSw1⟩ := hSw
          go_simp
        try simp only [Act.put, List.setIfInBounds_toArray, List.set_cons_zero, List.set_cons_succ]
        refine wpAnyH_take (i := 8) (v := ?_) (by simp only [List.getElem?_toArray, List.getElem?_cons_zero, List.getElem?_cons_succ]; rfl) (by kernel_rfl) (by kernel_rfl) (by kernel_rfl) (fun _ _ _ h => h) (Or.inl ⟨by rfl, ?_⟩) hHeld ?_
        rotate_left
        · intro w hSw
          obtain ⟨hSw0, hSw1⟩ := hSw
          go_simp
          try with_reducible rfl
        try simp only [Act.put, List.setIfInBounds_toArray, List.set_cons_zero, List.set_cons_succ]
        refine wpAnyH_ready (rs := [9]) (by kernel_rfl) (by simp) ?_
        refine AllReadyH.cons (by simp only [List.getElem?_toArray, List.getElem?_cons_zero, List.getElem?_cons_succ]; rfl) (fun K hK => ?_) AllReadyH.nil
        rw [if_pos (by rfl)]
        go_simp
        refine (HC.out wd (HGE.out _ (HKQ.out _ HBd.out).2.2.2) (HKQ.out _ HBd.out).2.1).mono ?_
        rintro e w5 ⟨rfl, hb5⟩
        have HB5 : Hid (Below w4.heap.size w4 w5) := HBd.out.trans (hb5.mono HBd.out.size)
        clear hb5 HBd HC
        go_wp2_with fail
        refine hK.out _ _ (HKQ.out _ HB5.out).1 (fun hHeld => ?_)
        clear hK K
        try simp only [Act.put, List.setIfInBounds_toArray, List.set_cons_zero, List.set_cons_succ]
        refine wpAnyH_ready (rs := [10]) (by kernel_rfl) (by simp) ?_
        refine AllReadyH.cons (by simp only [List.getElem?_toArray, List.getElem?_cons_zero, List.getElem?_cons_succ]; rfl) (fun K hK => ?_) AllReadyH.nil
        rw [if_pos (by rfl)]
        go_simp
        refine (wtree_node P F w5 (HGE.out _ (HKQ.out _ HB5.out).2.2.2) lP lF).mono ?_
        rintro e w6 ⟨rfl, hb6⟩
        have HB6 : Hid (Below w4.heap.size w4 w6) := HB5.out.trans (hb6.mono HB5.out.size)
        clear hb6 HB5
        generalize nodeT P F = D at *
        go_wp2_with fail
        refine hK.out _ _ (HKQ.out _ HB6.out).1 (fun hHeld => ?_)
        clear hK K
        try simp only [Act.put, List.setIfInBounds_toArray, List.set_cons_zero, List.set_cons_succ]
        refine wpAnyH_ready (rs := [11]) (by kernel_rfl) (by simp) ?_
        refine AllReadyH.cons (by simp only [List.getElem?_toArray, List.getElem?_cons_zero, List.getElem?_cons_succ]; rfl) (fun K hK => ?_) AllReadyH.nil
        rw [if_pos (by rfl)]
        have HT6 : Hid (w6.there (w.heap.size + 1) 0 32) := (HKQ.out _ HB6.out).2.2.1
        refine wp_store_mid _ _ _ rfl (w.heap.size + 1) 0 (cellsB D).toArray rfl rfl (by rw [cellsB_size, hfl]; exact HT6.out) (by rw [cellsB_size, hfl]; exact Tryd.sizeDg) (all_oneCell_toArray (cellsB_one _)) ?_
        have hr : (w6.setCells (w.heap.size + 1) 0 (cellsB D)).rangeAt w.heap.size 0 (cellsB l) ∧ (w6.setCells (w.heap.size + 1) 0 (cellsB D)).rangeAt g 0 (cellsB P) := ⟨World.rangeAt_setCells_apart (HKQ.out _ HB6.out).1.1 _ _ _ (.inl (by omega)), World.rangeAt_setCells_apart (HKQ.out _ HB6.out).1.2 _ _ _ (.inl (by have := HGW.out; omega))⟩
        refine hK.out _ _ hr (fun hHeld => ?_)
        clear hr
        clear hK K
        try simp only [Act.put, List.setIfInBounds_toArray, List.set_cons_zero, List.set_cons_succ]
        refine wpAnyH_done (by kernel_rfl) (NoPanic.normal ?_) _
        clear hHeld
        go_wp2_with fail
        refine bodyPost_ret (v := digestV D) (run_results_row Tryd.results39 _ _ (w.heap.size + 1) 0 (by rfl) (cellsB D) (World.rangeAt_setCells_same _ _ _ _ (by rw [cellsB_length, hfl]; exact HT6.out)) _ Tryd.underlying23 (by rfl) (by rw [cellsB_length, hfl]; exact Tryd.sizeDg)) rfl ⟨by rw [HE.out], ?_⟩
        exact below_setCells _ (by omega) _ _ _ (HKQ.out _ HB6.out).2.2.2
    · obtain rfl : n = 1 := by omega
      have HE : Hid (foldT l i 1 path = l) := foldT_one h2
      go_wp2_with (first
        | (refine wpList_allocE (by rfl) 23 (by rfl) (cellsB zD).toArray Tryd.zeroDg (w.heap.size + 1) hs1 w2 hw2 ?_)
        | (refine wpList_load_mid (by rfl) 23 (.tmp 4) (by rfl) w.heap.size 0 (by rfl) (cellsB l) _ HL2.out Tryd.underlying23 (by rfl) (by rw [cellsB_length, hl]; exact Tryd.sizeDg) ?_)
        | (refine wpList_store_mid (by rfl) 23 (.tmp 8) (.tmp 15) (by rfl) (w.heap.size + 1) 0 (cellsB l).toArray (by rfl) (by rfl) (by rw [cellsB_size, hl]; exact HT2.out) (by rw [cellsB_size, hl]; exact Tryd.sizeDg) (all_oneCell_toArray (cellsB_one _)) ?_))
      refine bodyPost_ret (v := digestV l) (run_results_row Tryd.results39 _ _ (w.heap.size + 1) 0 (by rfl) (cellsB l) (World.rangeAt_setCells_same _ _ _ _ (by rw [cellsB_length, hl]; exact HT2.out)) _ Tryd.underlying23 (by rfl) (by rw [cellsB_length, hl]; exact Tryd.sizeDg)) rfl ⟨by rw [HE.out], ?_⟩
      exact below_setCells _ (by omega) _ _ _ HB2.out
set_option maxRecDepth 100000 in
set_option maxHeartbeats 1000000 in
theorem wtree_fold (l : List UInt8) (i n p c : Nat) (a : Option Addr) (path : List (List UInt8)) (w : World) (G : Env w) (hl : l.length = 32) (R : DRow w a p path) (hp : p = longT i n) (hc : p ≤ c) (h1 : 1 ≤ n) (hn : n ≤ 256) (hi : i < n) :
    Calls Tryd.prog 22 #[digestV l, .int .i64 (i : Int), .int .i64 (n : Int), .slice a p c] w fun e w' => e = .returned (.tuple #[digestV (foldT l i n path), .nilIface]) ∧ Below w.heap.size w w' := by
  obtain ⟨w2, hw2⟩ : ∃ w2, (w.alloc (.cells (cellsB l).toArray 23)).alloc (.cells (cellsB zD).toArray 23) = w2 := ⟨_, rfl⟩
  have hs1 : (w.alloc (.cells (cellsB l).toArray 23)).heap.size = w.heap.size + 1 := by simp
  have HS2 : Hid (w2.heap.size = w.heap.size + 1 + 1) := by unfold Hid; rw [← hw2]; simp
  have HB2 : Hid (Below w.heap.size w w2) := by rw [← hw2]; exact ((Below.refl _ _).alloc (Nat.le_refl _) _).alloc (by simp) _
  have HL2 : Hid (DAt w2 w.heap.size 0 l) := by rw [← hw2]; exact World.rangeAt_alloc (box_dat w l _) _
  have HT2 : Hid (w2.there (w.heap.size + 1) 0 32) := by rw [← hw2]; exact alloc_thereAt _ _ _ 32 _ hs1 zD_size.symm
  have HG : Hid (Env w2 ∧ DRow w2 a p path) := ⟨G.below HB2.out, R.below HB2.out⟩
  have HP : Hid (p = longT i n) := hp
  have hpb : p ≤ 256 := by have := longT_le n i; omega
  have hfl := foldT_length hl i n path
  clear G R hp
  have g1 : ¬ (n : Int) < 1 := by omega
  have g2 : ¬ (256 : Int) < (n : Int) := by omega
  have g3 : ¬ (i : Int) < 0 := by omega
  have g4 : ¬ (n : Int) ≤ (i : Int) := by omega
  go_enter Tryd.func22, Tryd.ntmps22
  go_wp2_with (refine wpList_allocE (by rfl) 23 (by rfl) (cellsB zD).toArray Tryd.zeroDg (w.heap.size + 1) hs1 w2 hw2 ?_)
  refine (wdepth_any n i w2 h1 hn hi).mono ?_
  rintro e wx ⟨rfl, rfl⟩
  rw [← HP.out]
  go_wp2_with (refine wpList_load_mid (by rfl) 23 (.tmp 4) (by rfl) w.heap.size 0 (by rfl) (cellsB l) _ HL2.out Tryd.underlying23 (by rfl) (by rw [cellsB_length, hl]; exact Tryd.sizeDg) ?_)
  refine (wfold_any n l i p c a path wx hl HG.out.1 HG.out.2 HP.out hc h1 hn hi).mono ?_
  rintro e w3 ⟨rfl, hb3⟩
  have HB3 : Hid (Below w.heap.size w w3) := below_trans HB2.out hb3
  have HT3 : Hid (w3.there (w.heap.size + 1) 0 32) := there_below HT2.out hb3 (by have := HS2.out; omega)
  clear hb3 hw2 HG HL2 HT2
  generalize hD : foldT l i n path = D at *
  have HD : Hid (foldT l i n path = D) := hD
  clear hD
  go_wp2_with (refine wpList_store_mid (by rfl) 23 (.tmp 8) (.tmp 39) (by rfl) (w.heap.size + 1) 0 (cellsB D).toArray (by rfl) (by rfl) (by rw [cellsB_size, hfl]; exact HT3.out) (by rw [cellsB_size, hfl]; exact Tryd.sizeDg) (all_oneCell_toArray (cellsB_one _)) ?_)
  refine bodyPost_ret (v := .tuple #[digestV D, .nilIface]) (run_results_row2 Tryd.results22 _ _ (w.heap.size + 1) 0 (by rfl) _ (by rfl) (cellsB D) (World.rangeAt_setCells_same _ _ _ _ (by rw [cellsB_length, hfl]; exact HT3.out)) _ Tryd.underlying23 (by rfl) (by rw [cellsB_length, hfl]; exact Tryd.sizeDg)) rfl ⟨by rw [HD.out], ?_⟩
  exact below_setCells _ (by omega) _ _ _ HB3.out
set_option maxRecDepth 100000 in
set_option maxHeartbeats 1000000 in
theorem wtree_foldlen (l : List UInt8) (i n p c : Nat) (a : Option Addr) (path : List (List UInt8)) (w : World) (G : Env w) (hl : l.length = 32) (R : DRow w a p path) (hc : p ≤ c) (hp2 : 32 * p ≤ 140737488351232) (h1 : 1 ≤ n) (hn : n ≤ 256) (hi : i < n) (hp : p ≠ longT i n) :
    Calls Tryd.prog 22 #[digestV l, .int .i64 (i : Int), .int .i64 (n : Int), .slice a p c] w fun e w' => e = .returned (.tuple #[digestV zD, .iface 51 (.int .i64 3)]) ∧ Below w.heap.size w w' := by
  obtain ⟨w2, hw2⟩ : ∃ w2, (w.alloc (.cells (cellsB l).toArray 23)).alloc (.cells (cellsB zD).toArray 23) = w2 := ⟨_, rfl⟩
  have hs1 : (w.alloc (.cells (cellsB l).toArray 23)).heap.size = w.heap.size + 1 := by simp
  have HS2 : Hid (w2.heap.size = w.heap.size + 1 + 1) := by unfold Hid; rw [← hw2]; simp
  have HB2 : Hid (Below w.heap.size w w2) := by rw [← hw2]; exact ((Below.refl _ _).alloc (Nat.le_refl _) _).alloc (by simp) _
  have HL2 : Hid (DAt w2 w.heap.size 0 l) := by rw [← hw2]; exact World.rangeAt_alloc (box_dat w l _) _
  have HT2 : Hid (w2.there (w.heap.size + 1) 0 32) := by rw [← hw2]; exact alloc_thereAt _ _ _ 32 _ hs1 zD_size.symm
  have HP : Hid (p ≠ longT i n) := hp
  have hlb := longT_le n i
  clear G R hp
  have g1 : ¬ (n : Int) < 1 := by omega
  have g2 : ¬ (256 : Int) < (n : Int) := by omega
  have g3 : ¬ (i : Int) < 0 := by omega
  have g4 : ¬ (n : Int) ≤ (i : Int) := by omega
  go_enter Tryd.func22, Tryd.ntmps22
  go_wp2_with (refine wpList_allocE (by rfl) 23 (by rfl) (cellsB zD).toArray Tryd.zeroDg (w.heap.size + 1) hs1 w2 hw2 ?_)
  refine (wdepth_any n i w2 h1 hn hi).mono ?_
  rintro e wx ⟨rfl, rfl⟩
  have hp := HP.out
  clear HP hw2
  generalize longT i n = y at *
  have e5 : ((p : Int) == (y : Int)) = false := beq_eq_false_iff_ne.2 (by omega)
  go_wp2_with (first
    | (refine wpList_buildC (by rfl) 23 _ (by rfl) (cellsB zD).toArray (by kernel_rfl) ?_)
    | (refine wpList_store_mid (by rfl) 23 (.tmp 8) (.tmp 33) (by rfl) (w.heap.size + 1) 0 (cellsB zD).toArray (by rfl) (by rfl) (by rw [cellsB_size]; exact HT2.out) (by rw [cellsB_size]; exact Tryd.sizeDg) (all_oneCell_toArray (cellsB_one _)) ?_))
  refine bodyPost_ret (v := .tuple #[digestV zD, .iface 51 (.int .i64 3)]) (run_results_row2 Tryd.results22 _ _ (w.heap.size + 1) 0 (by rfl) _ (by rfl) (cellsB zD) (World.rangeAt_setCells_same _ _ _ _ (by rw [cellsB_length]; exact HT2.out)) _ Tryd.underlying23 (by rfl) (by rw [cellsB_length]; exact Tryd.sizeDg)) rfl ⟨rfl, ?_⟩
  exact below_setCells _ (by omega) _ _ _ HB2.out
set_option maxRecDepth 100000 in
set_option maxHeartbeats 1000000 in
theorem wtree_foldout (l : List UInt8) (i n : Int) (p c : Nat) (a : Option Addr) (path : List (List UInt8)) (w : World) (G : Env w) (hl : l.length = 32) (R : DRow w a p path) (hc : p ≤ c) (hp2 : 32 * p ≤ 140737488351232) (h : n < 1 ∨ 256 < n ∨ i < 0 ∨ n ≤ i) (hi1 : -9223372036854775808 ≤ i) (hi2 : i ≤ 9223372036854775807) (hn1 : -9223372036854775808 ≤ n) (hn2 : n ≤ 9223372036854775807) :
    Calls Tryd.prog 22 #[digestV l, .int .i64 i, .int .i64 n, .slice a p c] w fun e w' => e = .returned (.tuple #[digestV zD, .iface 51 (.int .i64 2)]) ∧ Below w.heap.size w w' := by
  obtain ⟨w2, hw2⟩ : ∃ w2, (w.alloc (.cells (cellsB l).toArray 23)).alloc (.cells (cellsB zD).toArray 23) = w2 := ⟨_, rfl⟩
  have hs1 : (w.alloc (.cells (cellsB l).toArray 23)).heap.size = w.heap.size + 1 := by simp
  have HS2 : Hid (w2.heap.size = w.heap.size + 1 + 1) := by unfold Hid; rw [← hw2]; simp
  have HB2 : Hid (Below w.heap.size w w2) := by rw [← hw2]; exact ((Below.refl _ _).alloc (Nat.le_refl _) _).alloc (by simp) _
  have HL2 : Hid (DAt w2 w.heap.size 0 l) := by rw [← hw2]; exact World.rangeAt_alloc (box_dat w l _) _
  have HT2 : Hid (w2.there (w.heap.size + 1) 0 32) := by rw [← hw2]; exact alloc_thereAt _ _ _ 32 _ hs1 zD_size.symm
  clear G R
  go_enter Tryd.func22, Tryd.ntmps22
  rcases (show n < 1 ∨ (¬ n < 1 ∧ 256 < n) ∨ (¬ n < 1 ∧ ¬ 256 < n ∧ i < 0) ∨ (¬ n < 1 ∧ ¬ 256 < n ∧ ¬ i < 0 ∧ n ≤ i) by omega) with k1 | ⟨k1, k2⟩ | ⟨k1, k2, k3⟩ | ⟨k1, k2, k3, k4⟩
  · clear h
    go_wp2_with (first
      | (refine wpList_allocE (by rfl) 23 (by rfl) (cellsB zD).toArray Tryd.zeroDg (w.heap.size + 1) hs1 w2 hw2 ?_)
      | (refine wpList_buildC (by rfl) 23 _ (by rfl) (cellsB zD).toArray (by kernel_rfl) ?_)
      | (refine wpList_store_mid (by rfl) 23 (.tmp 8) (.tmp 25) (by rfl) (w.heap.size + 1) 0 (cellsB zD).toArray (by rfl) (by rfl) (by rw [cellsB_size]; exact HT2.out) (by rw [cellsB_size]; exact Tryd.sizeDg) (all_oneCell_toArray (cellsB_one _)) ?_))
    refine bodyPost_ret (v := .tuple #[digestV zD, .iface 51 (.int .i64 2)]) (run_results_row2 Tryd.results22 _ _ (w.heap.size + 1) 0 (by rfl) _ (by rfl) (cellsB zD) (World.rangeAt_setCells_same _ _ _ _ (by rw [cellsB_length]; exact HT2.out)) _ Tryd.underlying23 (by rfl) (by rw [cellsB_length]; exact Tryd.sizeDg)) rfl ⟨rfl, ?_⟩
    exact below_setCells _ (by omega) _ _ _ HB2.out
  · clear h
    go_wp2_with (first
      | (refine wpList_allocE (by rfl) 23 (by rfl) (cellsB zD).toArray Tryd.zeroDg (w.heap.size + 1) hs1 w2 hw2 ?_)
      | (refine wpList_buildC (by rfl) 23 _ (by rfl) (cellsB zD).toArray (by kernel_rfl) ?_)
      | (refine wpList_store_mid (by rfl) 23 (.tmp 8) (.tmp 25) (by rfl) (w.heap.size + 1) 0 (cellsB zD).toArray (by rfl) (by rfl) (by rw [cellsB_size]; exact HT2.out) (by rw [cellsB_size]; exact Tryd.sizeDg) (all_oneCell_toArray (cellsB_one _)) ?_))
    refine bodyPost_ret (v := .tuple #[digestV zD, .iface 51 (.int .i64 2)]) (run_results_row2 Tryd.results22 _ _ (w.heap.size + 1) 0 (by rfl) _ (by rfl) (cellsB zD) (World.rangeAt_setCells_same _ _ _ _ (by rw [cellsB_length]; exact HT2.out)) _ Tryd.underlying23 (by rfl) (by rw [cellsB_length]; exact Tryd.sizeDg)) rfl ⟨rfl, ?_⟩
    exact below_setCells _ (by omega) _ _ _ HB2.out
  · clear h
    go_wp2_with (first
      | (refine wpList_allocE (by rfl) 23 (by rfl) (cellsB zD).toArray Tryd.zeroDg (w.heap.size + 1) hs1 w2 hw2 ?_)
      | (refine wpList_buildC (by rfl) 23 _ (by rfl) (cellsB zD).toArray (by kernel_rfl) ?_)
      | (refine wpList_store_mid (by rfl) 23 (.tmp 8) (.tmp 25) (by rfl) (w.heap.size + 1) 0 (cellsB zD).toArray (by rfl) (by rfl) (by rw [cellsB_size]; exact HT2.out) (by rw [cellsB_size]; exact Tryd.sizeDg) (all_oneCell_toArray (cellsB_one _)) ?_))
    refine bodyPost_ret (v := .tuple #[digestV zD, .iface 51 (.int .i64 2)]) (run_results_row2 Tryd.results22 _ _ (w.heap.size + 1) 0 (by rfl) _ (by rfl) (cellsB zD) (World.rangeAt_setCells_same _ _ _ _ (by rw [cellsB_length]; exact HT2.out)) _ Tryd.underlying23 (by rfl) (by rw [cellsB_length]; exact Tryd.sizeDg)) rfl ⟨rfl, ?_⟩
    exact below_setCells _ (by omega) _ _ _ HB2.out
  · clear h
    go_wp2_with (first
      | (refine wpList_allocE (by rfl) 23 (by rfl) (cellsB zD).toArray Tryd.zeroDg (w.heap.size + 1) hs1 w2 hw2 ?_)
      | (refine wpList_buildC (by rfl) 23 _ (by rfl) (cellsB zD).toArray (by kernel_rfl) ?_)
      | (refine wpList_store_mid (by rfl) 23 (.tmp 8) (.tmp 25) (by rfl) (w.heap.size + 1) 0 (cellsB zD).toArray (by rfl) (by rfl) (by rw [cellsB_size]; exact HT2.out) (by rw [cellsB_size]; exact Tryd.sizeDg) (all_oneCell_toArray (cellsB_one _)) ?_))
    refine bodyPost_ret (v := .tuple #[digestV zD, .iface 51 (.int .i64 2)]) (run_results_row2 Tryd.results22 _ _ (w.heap.size + 1) 0 (by rfl) _ (by rfl) (cellsB zD) (World.rangeAt_setCells_same _ _ _ _ (by rw [cellsB_length]; exact HT2.out)) _ Tryd.underlying23 (by rfl) (by rw [cellsB_length]; exact Tryd.sizeDg)) rfl ⟨rfl, ?_⟩
    exact below_setCells _ (by omega) _ _ _ HB2.out
end Go.Proofs.YtghiniaijobonaaDoor
/- The contracts of stamp.Recover. -/
namespace Go.Proofs.YtghiniaijobonaaDoor
open Go.RowKit
set_option linter.unusedVariables false
set_option linter.unusedSimpArgs false

set_option maxRecDepth 100000 in
set_option maxHeartbeats 1000000 in
theorem wstamp_recout (m : List UInt8) (h i : Int) (a1 : Option Addr) (n1 c1 : Nat) (a2 : Option Addr) (n2 c2 : Nat) (sig path : List (List UInt8)) (w : World) (G : Env w) (hm : m.length = 32) (hh : h < 0 ∨ 4 < h) (h1 : -9223372036854775808 ≤ h) (h2 : h ≤ 9223372036854775807) (i1 : -9223372036854775808 ≤ i) (i2 : i ≤ 9223372036854775807) (R1 : DRow w a1 n1 sig) (hc1 : n1 ≤ c1) (z1 : 32 * n1 ≤ 140737488351232) (R2 : DRow w a2 n2 path) (hc2 : n2 ≤ c2) (z2 : 32 * n2 ≤ 140737488351232) :
    Calls Tryd.prog 9 #[digestV m, .int .i64 h, sigV i a1 n1 c1 a2 n2 c2] w fun e w' => e = .returned (.tuple #[digestV zD, .iface 51 (.int .i64 2)]) ∧ Below w.heap.size w w' := by
  obtain ⟨w2, hw2⟩ : ∃ w2, ((w.alloc (.cells (cellsB m).toArray 23)).alloc (.cells #[.int .i64 i, .slice a1 n1 c1, .slice a2 n2 c2] 43)).alloc (.cells (cellsB zD).toArray 23) = w2 := ⟨_, rfl⟩
  have hs1 : (w.alloc (.cells (cellsB m).toArray 23)).heap.size = w.heap.size + 1 := by simp
  have hs2 : ((w.alloc (.cells (cellsB m).toArray 23)).alloc (.cells #[.int .i64 i, .slice a1 n1 c1, .slice a2 n2 c2] 43)).heap.size = w.heap.size + 1 + 1 := by simp
  have HS2 : Hid (w2.heap.size = w.heap.size + 1 + 1 + 1) := by unfold Hid; rw [← hw2]; simp
  have HB2 : Hid (Below w.heap.size w w2) := by rw [← hw2]; exact (((Below.refl _ _).alloc (Nat.le_refl _) _).alloc (by simp) _).alloc (by simp; omega) _
  have HM2 : Hid (DAt w2 w.heap.size 0 m) := by rw [← hw2]; exact World.rangeAt_alloc (World.rangeAt_alloc (box_dat w m _) _) _
  have HR2 : Hid (w2.rangeAt (w.heap.size + 1) 0 (#[.int .i64 i, .slice a1 n1 c1, .slice a2 n2 c2] : Array Value).toList) := by rw [← hw2]; exact World.rangeAt_alloc (box_rangeAt _ (#[.int .i64 i, .slice a1 n1 c1, .slice a2 n2 c2] : Array Value).toList _ _ hs1) _
  have HT2 : Hid (w2.there (w.heap.size + 1 + 1) 0 32) := by rw [← hw2]; exact alloc_thereAt _ _ _ 32 _ hs2 zD_size.symm
  clear G R1 R2
  unfold sigV
  go_enter Tryd.func9, Tryd.ntmps9
  go_wp2_with (refine wpList_allocE (by rfl) 23 (by rfl) (cellsB zD).toArray Tryd.zeroDg (w.heap.size + 1 + 1) hs2 w2 hw2 ?_)
  clear hw2 hs1 hs2
  refine (wheight_out h w2 hh h1 h2).mono ?_
  rintro e wq ⟨rfl, hq⟩
  have hq' : w2 = wq := hq.symm
  subst hq'
  clear hh
  have lZ : zD.length = 32 := rfl
  have hbu : Tryd.prog.built 23 [] = some (cellsB zD).toArray := by kernel_rfl
  obtain ⟨Z, hZ⟩ : ∃ Z, zD = Z := ⟨_, rfl⟩
  have HZ : Hid (zD = Z) := hZ
  rw [hZ] at lZ hbu
  have HBU : Hid (Tryd.prog.built 23 [] = some (cellsB Z).toArray) := hbu
  clear hZ hbu
  go_wp2_with (first
    | (refine wpList_buildC (by rfl) 23 #[] (by rfl) (cellsB Z).toArray (by simpa using HBU.out) ?_)
    | (refine wpList_store_mid (by rfl) 23 (.tmp 6) (.tmp 13) (by rfl) (w.heap.size + 1 + 1) 0 (cellsB Z).toArray (by rfl) (by rfl) (by rw [cellsB_size, lZ]; exact HT2.out) (by rw [cellsB_size, lZ]; exact Tryd.sizeDg) (all_oneCell_toArray (cellsB_one _)) ?_))
  refine bodyPost_ret (v := .tuple #[digestV Z, .iface 51 (.int .i64 2)]) (run_results_row2 Tryd.results9 _ _ (w.heap.size + 1 + 1) 0 (by rfl) _ (by rfl) (cellsB Z) (World.rangeAt_setCells_same _ _ _ _ (by rw [cellsB_length, lZ]; exact HT2.out)) _ Tryd.underlying23 (by rfl) (by rw [cellsB_length, lZ]; exact Tryd.sizeDg)) rfl ⟨by rw [HZ.out], ?_⟩
  exact below_setCells _ (by omega) _ _ _ HB2.out
set_option maxRecDepth 100000 in
set_option maxHeartbeats 1000000 in
theorem wrec_short (m : List UInt8) (h : Nat) (i : Int) (a1 : Option Addr) (n1 c1 : Nat) (a2 : Option Addr) (n2 c2 : Nat) (sig path : List (List UInt8)) (w : World) (G : Env w) (hm : m.length = 32) (hh : h ≤ 4) (i1 : -9223372036854775808 ≤ i) (i2 : i ≤ 9223372036854775807) (R1 : DRow w a1 n1 sig) (hc1 : n1 ≤ c1) (z1 : 32 * n1 ≤ 140737488351232) (R2 : DRow w a2 n2 path) (hc2 : n2 ≤ c2) (z2 : 32 * n2 ≤ 140737488351232) (hn : n1 ≠ 67) :
    Calls Tryd.prog 9 #[digestV m, .int .i64 (h : Int), sigV i a1 n1 c1 a2 n2 c2] w fun e w' => e = .returned (.tuple #[digestV zD, .iface 51 (.int .i64 3)]) ∧ Below w.heap.size w w' := by
  obtain ⟨w2, hw2⟩ : ∃ w2, ((w.alloc (.cells (cellsB m).toArray 23)).alloc (.cells #[.int .i64 i, .slice a1 n1 c1, .slice a2 n2 c2] 43)).alloc (.cells (cellsB zD).toArray 23) = w2 := ⟨_, rfl⟩
  have hs1 : (w.alloc (.cells (cellsB m).toArray 23)).heap.size = w.heap.size + 1 := by simp
  have hs2 : ((w.alloc (.cells (cellsB m).toArray 23)).alloc (.cells #[.int .i64 i, .slice a1 n1 c1, .slice a2 n2 c2] 43)).heap.size = w.heap.size + 1 + 1 := by simp
  have HS2 : Hid (w2.heap.size = w.heap.size + 1 + 1 + 1) := by unfold Hid; rw [← hw2]; simp
  have HB2 : Hid (Below w.heap.size w w2) := by rw [← hw2]; exact (((Below.refl _ _).alloc (Nat.le_refl _) _).alloc (by simp) _).alloc (by simp; omega) _
  have HM2 : Hid (DAt w2 w.heap.size 0 m) := by rw [← hw2]; exact World.rangeAt_alloc (World.rangeAt_alloc (box_dat w m _) _) _
  have HR2 : Hid (w2.rangeAt (w.heap.size + 1) 0 (#[.int .i64 i, .slice a1 n1 c1, .slice a2 n2 c2] : Array Value).toList) := by rw [← hw2]; exact World.rangeAt_alloc (box_rangeAt _ (#[.int .i64 i, .slice a1 n1 c1, .slice a2 n2 c2] : Array Value).toList _ _ hs1) _
  have HT2 : Hid (w2.there (w.heap.size + 1 + 1) 0 32) := by rw [← hw2]; exact alloc_thereAt _ _ _ 32 _ hs2 zD_size.symm
  have HCS : Hid (∀ wx, Below w2.heap.size w2 wx → wx.cell? ⟨w.heap.size + 1, 0, none⟩ = some (.int .i64 i) ∧ wx.cell? ⟨w.heap.size + 1, 1, none⟩ = some (.slice a1 n1 c1) ∧ wx.cell? ⟨w.heap.size + 1, 2, none⟩ = some (.slice a2 n2 c2) ∧ wx.rangeAt w.heap.size 0 (cellsB m) ∧ wx.there (w.heap.size + 1 + 1) 0 32 ∧ Env wx ∧ DRow wx a1 n1 sig ∧ DRow wx a2 n2 path ∧ Below w.heap.size w wx) := fun wx hx => by
    have s := HS2.out
    have b : Below w.heap.size w wx := HB2.out.trans (hx.mono (by omega))
    have r := range_three (range_below HR2.out hx (by omega))
    exact ⟨r.1, r.2.1, r.2.2, range_below HM2.out hx (by omega), there_below HT2.out hx (by omega), G.below b, R1.below b, R2.below b, b⟩
  clear G R1 R2 HM2 HR2 HT2
  have hcw : w2.cell? ⟨w.heap.size + 1, 1, none⟩ = some (.slice a1 n1 c1) := (HCS.out w2 (Below.refl _ _)).2.1
  have HMX : Hid (w2.rangeAt w.heap.size 0 (cellsB m)) := (HCS.out w2 (Below.refl _ _)).2.2.2.1
  unfold sigV
  go_enter Tryd.func9, Tryd.ntmps9
  go_wp2_with (refine wpList_allocE (by rfl) 23 (by rfl) (cellsB zD).toArray Tryd.zeroDg (w.heap.size + 1 + 1) hs2 w2 hw2 ?_)
  clear hw2 hs1 hs2
  refine (wheight_in h w2 hh).mono ?_
  rintro e wq ⟨rfl, hq⟩
  have hq' : w2 = wq := hq.symm
  subst hq'
  go_wp2_with (refine wpList_load_mid (by rfl) 23 (.tmp 3) (by rfl) w.heap.size 0 (by rfl) (cellsB m) _ HMX.out Tryd.underlying23 (by rfl) (by rw [cellsB_length, hm]; exact Tryd.sizeDg) ?_)
  refine (wwots_short m a1 n1 c1 w2 (HCS.out w2 (Below.refl _ _)).2.2.2.2.2.1 hm hn (by omega)).mono ?_
  rintro e w3 ⟨rfl, hb3⟩
  have HB3 : Hid (Below w2.heap.size w2 w3) := hb3
  clear hb3 hcw
  have lZ : zD.length = 32 := rfl
  have hbu : Tryd.prog.built 23 [] = some (cellsB zD).toArray := by kernel_rfl
  obtain ⟨Z, hZ⟩ : ∃ Z, zD = Z := ⟨_, rfl⟩
  have HZ : Hid (zD = Z) := hZ
  rw [hZ] at lZ hbu
  have HBU : Hid (Tryd.prog.built 23 [] = some (cellsB Z).toArray) := hbu
  rw [hZ]
  clear hZ hbu
  obtain ⟨g3, hg3⟩ : ∃ g3, w3.heap.size = g3 := ⟨_, rfl⟩
  obtain ⟨w4, hw4⟩ : ∃ w4, w3.alloc (.cells (cellsB zD).toArray 23) = w4 := ⟨_, rfl⟩
  have HT4 : Hid (w4.there g3 0 32) := by rw [← hw4]; exact alloc_thereAt _ _ _ 32 _ hg3 zD_size.symm
  have HB4 : Hid (Below w2.heap.size w2 (w4.setCells g3 0 (cellsB Z))) := below_setCells _ (by rw [← hg3]; exact HB3.out.size) _ _ _ (by rw [← hw4]; exact HB3.out.alloc HB3.out.size _)
  have HT5 : Hid ((w4.setCells g3 0 (cellsB Z)).there (w.heap.size + 1 + 1) 0 32) := (HCS.out _ HB4.out).2.2.2.2.1
  have HBB : Hid (Below w.heap.size w (w4.setCells g3 0 (cellsB Z))) := (HCS.out _ HB4.out).2.2.2.2.2.2.2.2
  go_wp2_with (first
    | (refine wpList_allocE (by rfl) 23 (by rfl) (cellsB zD).toArray Tryd.zeroDg g3 hg3 w4 hw4 ?_)
    | (refine wpList_store_mid (by rfl) 23 (.tmp 8) (.tmp 20) (by rfl) g3 0 (cellsB Z).toArray (by rfl) (by rfl) (by rw [cellsB_size, lZ]; exact HT4.out) (by rw [cellsB_size, lZ]; exact Tryd.sizeDg) (all_oneCell_toArray (cellsB_one _)) ?_)
    | (refine wpList_buildC (by rfl) 23 #[] (by rfl) (cellsB Z).toArray (by simpa using HBU.out) ?_)
    | (refine wpList_store_mid (by rfl) 23 (.tmp 6) (.tmp 24) (by rfl) (w.heap.size + 1 + 1) 0 (cellsB Z).toArray (by rfl) (by rfl) (by rw [cellsB_size, lZ]; exact HT5.out) (by rw [cellsB_size, lZ]; exact Tryd.sizeDg) (all_oneCell_toArray (cellsB_one _)) ?_))
  refine bodyPost_ret (v := .tuple #[digestV Z, .iface 51 (.int .i64 3)]) (run_results_row2 Tryd.results9 _ _ (w.heap.size + 1 + 1) 0 (by rfl) _ (by rfl) (cellsB Z) (World.rangeAt_setCells_same _ _ _ _ (by rw [cellsB_length, lZ]; exact HT5.out)) _ Tryd.underlying23 (by rfl) (by rw [cellsB_length, lZ]; exact Tryd.sizeDg)) rfl ⟨by rw [HZ.out], ?_⟩
  exact below_setCells _ (by omega) _ _ _ HBB.out
set_option maxRecDepth 100000 in
set_option maxHeartbeats 1000000 in
theorem wrec_fold (m : List UInt8) (h : Nat) (i : Int) (a1 : Option Addr) (n1 c1 : Nat) (a2 : Option Addr) (n2 c2 : Nat) (sig path : List (List UInt8)) (w : World) (G : Env w) (hm : m.length = 32) (hh : h ≤ 4) (i1 : -9223372036854775808 ≤ i) (i2 : i ≤ 9223372036854775807) (R1 : DRow w a1 n1 sig) (hc1 : n1 ≤ c1) (z1 : 32 * n1 ≤ 140737488351232) (R2 : DRow w a2 n2 path) (hc2 : n2 ≤ c2) (z2 : 32 * n2 ≤ 140737488351232) (hn : n1 = 67) (D : List UInt8) (ev : Value) (hD : D.length = 32) (hF : ∀ wx, Env wx → DRow wx a2 n2 path → Calls Tryd.prog 22 #[digestV (wotsKeyL m sig), .int .i64 i, .int .i64 ((2 ^ h : Nat) : Int), .slice a2 n2 c2] wx fun e w' => e = .returned (.tuple #[digestV D, ev]) ∧ Below wx.heap.size wx w') :
    Calls Tryd.prog 9 #[digestV m, .int .i64 (h : Int), sigV i a1 n1 c1 a2 n2 c2] w fun e w' => e = .returned (.tuple #[digestV D, ev]) ∧ Below w.heap.size w w' := by
  subst hn
  obtain ⟨w2, hw2⟩ : ∃ w2, ((w.alloc (.cells (cellsB m).toArray 23)).alloc (.cells #[.int .i64 i, .slice a1 67 c1, .slice a2 n2 c2] 43)).alloc (.cells (cellsB zD).toArray 23) = w2 := ⟨_, rfl⟩
  have hs1 : (w.alloc (.cells (cellsB m).toArray 23)).heap.size = w.heap.size + 1 := by simp
  have hs2 : ((w.alloc (.cells (cellsB m).toArray 23)).alloc (.cells #[.int .i64 i, .slice a1 67 c1, .slice a2 n2 c2] 43)).heap.size = w.heap.size + 1 + 1 := by simp
  have HS2 : Hid (w2.heap.size = w.heap.size + 1 + 1 + 1) := by unfold Hid; rw [← hw2]; simp
  have HB2 : Hid (Below w.heap.size w w2) := by rw [← hw2]; exact (((Below.refl _ _).alloc (Nat.le_refl _) _).alloc (by simp) _).alloc (by simp; omega) _
  have HM2 : Hid (DAt w2 w.heap.size 0 m) := by rw [← hw2]; exact World.rangeAt_alloc (World.rangeAt_alloc (box_dat w m _) _) _
  have HR2 : Hid (w2.rangeAt (w.heap.size + 1) 0 (#[.int .i64 i, .slice a1 67 c1, .slice a2 n2 c2] : Array Value).toList) := by rw [← hw2]; exact World.rangeAt_alloc (box_rangeAt _ (#[.int .i64 i, .slice a1 67 c1, .slice a2 n2 c2] : Array Value).toList _ _ hs1) _
  have HT2 : Hid (w2.there (w.heap.size + 1 + 1) 0 32) := by rw [← hw2]; exact alloc_thereAt _ _ _ 32 _ hs2 zD_size.symm
  have HCS : Hid (∀ wx, Below w2.heap.size w2 wx → wx.cell? ⟨w.heap.size + 1, 0, none⟩ = some (.int .i64 i) ∧ wx.cell? ⟨w.heap.size + 1, 1, none⟩ = some (.slice a1 67 c1) ∧ wx.cell? ⟨w.heap.size + 1, 2, none⟩ = some (.slice a2 n2 c2) ∧ wx.rangeAt w.heap.size 0 (cellsB m) ∧ wx.there (w.heap.size + 1 + 1) 0 32 ∧ Env wx ∧ DRow wx a1 67 sig ∧ DRow wx a2 n2 path ∧ Below w.heap.size w wx) := fun wx hx => by
    have s := HS2.out
    have b : Below w.heap.size w wx := HB2.out.trans (hx.mono (by omega))
    have r := range_three (range_below HR2.out hx (by omega))
    exact ⟨r.1, r.2.1, r.2.2, range_below HM2.out hx (by omega), there_below HT2.out hx (by omega), G.below b, R1.below b, R2.below b, b⟩
  clear G R1 R2 HM2 HR2 HT2
  have hcw : w2.cell? ⟨w.heap.size + 1, 1, none⟩ = some (.slice a1 67 c1) := (HCS.out w2 (Below.refl _ _)).2.1
  have HMX : Hid (w2.rangeAt w.heap.size 0 (cellsB m)) := (HCS.out w2 (Below.refl _ _)).2.2.2.1
  have HFF : Hid (∀ wx, Env wx → DRow wx a2 n2 path → Calls Tryd.prog 22 #[digestV (wotsKeyL m sig), .int .i64 i, .int .i64 ((2 ^ h : Nat) : Int), .slice a2 n2 c2] wx fun e w' => e = .returned (.tuple #[digestV D, ev]) ∧ Below wx.heap.size wx w') := hF
  clear hF
  obtain ⟨n, hn'⟩ : ∃ n, 2 ^ h = n := ⟨_, rfl⟩
  have hn1 : 1 ≤ n := by rw [← hn']; exact (Stm.pow hh).1
  have hn16 : n ≤ 16 := by rw [← hn']; exact (Stm.pow hh).2
  have key : wrap64 ((2 : Int) ^ h) = (n : Int) := by
    have e : ((2 : Int) ^ h) = ((2 ^ h : Nat) : Int) := by simp
    rw [e, hn']
    simp only [wrap64]
    omega
  have HN : Hid (2 ^ h = n) := hn'
  clear key
  have key : IntKind.i64.wrap ((2 : Int) ^ h) = (n : Int) := by
    have e : ((2 : Int) ^ h) = ((2 ^ h : Nat) : Int) := by simp
    rw [e, hn', IntKind.wrap_i64]; omega
  rw [hn'] at HFF
  clear hn'
  unfold sigV
  go_enter Tryd.func9, Tryd.ntmps9
  go_wp2_with (refine wpList_allocE (by rfl) 23 (by rfl) (cellsB zD).toArray Tryd.zeroDg (w.heap.size + 1 + 1) hs2 w2 hw2 ?_)
  clear hw2 hs1 hs2
  refine (wheight_in h w2 hh).mono ?_
  rintro e wq ⟨rfl, hq⟩
  have hq' : w2 = wq := hq.symm
  subst hq'
  go_wp2_with (refine wpList_load_mid (by rfl) 23 (.tmp 3) (by rfl) w.heap.size 0 (by rfl) (cellsB m) _ HMX.out Tryd.underlying23 (by rfl) (by rw [cellsB_length, hm]; exact Tryd.sizeDg) ?_)
  refine (wwots_recover m a1 c1 sig w2 (HCS.out w2 (Below.refl _ _)).2.2.2.2.2.1 hm (HCS.out w2 (Below.refl _ _)).2.2.2.2.2.2.1).mono ?_
  rintro e w3 ⟨rfl, hb3⟩
  have HB3 : Hid (Below w2.heap.size w2 w3) := hb3
  have lK := wotsKeyL_length m sig
  clear hb3 hcw
  generalize wotsKeyL m sig = K' at *
  obtain ⟨g3, hg3⟩ : ∃ g3, w3.heap.size = g3 := ⟨_, rfl⟩
  obtain ⟨w4, hw4⟩ : ∃ w4, w3.alloc (.cells (cellsB zD).toArray 23) = w4 := ⟨_, rfl⟩
  have HT4 : Hid (w4.there g3 0 32) := by rw [← hw4]; exact alloc_thereAt _ _ _ 32 _ hg3 zD_size.symm
  have HB4 : Hid (Below w2.heap.size w2 (w4.setCells g3 0 (cellsB K'))) := below_setCells _ (by rw [← hg3]; exact HB3.out.size) _ _ _ (by rw [← hw4]; exact HB3.out.alloc HB3.out.size _)
  have HK4 : Hid ((w4.setCells g3 0 (cellsB K')).rangeAt g3 0 (cellsB K')) := dat_stored HT4.out lK
  have HG3 : Hid (w2.heap.size ≤ g3) := by rw [← hg3]; exact HB3.out.size
  go_upto_region 6 with (first
    | (refine wpList_allocE (by rfl) 23 (by rfl) (cellsB zD).toArray Tryd.zeroDg g3 hg3 w4 hw4 ?_)
    | (refine wpList_store_mid (by rfl) 23 (.tmp 8) (.tmp 20) (by rfl) g3 0 (cellsB K').toArray (by rfl) (by rfl) (by rw [cellsB_size, lK]; exact HT4.out) (by rw [cellsB_size, lK]; exact Tryd.sizeDg) (all_oneCell_toArray (cellsB_one _)) ?_))
  clear hw4 hg3 HB3 HT4
  generalize w4.setCells g3 0 (cellsB K') = w5 at *
  have HKX : Hid (∀ wx, Below w5.heap.size w5 wx → wx.rangeAt g3 0 (cellsB K') ∧ Below w2.heap.size w2 wx) := fun wx hx => ⟨range_below HK4.out hx (cell_block ((show DAt w5 g3 0 K' from HK4.out).cell 0 (by omega))), HB4.out.trans (hx.mono HB4.out.size)⟩
  refine wp_region_noPanic ?_
  refine wp_region_held_drew (S := fun wx => wx.rangeAt g3 0 (cellsB K') ∧ wx.cell? ⟨w.heap.size + 1, 0, none⟩ = some (.int .i64 i) ∧ wx.cell? ⟨w.heap.size + 1, 2, none⟩ = some (.slice a2 n2 c2)) (by kernel_rfl) (by have k := HKX.out _ (below_drewN w5 1); have q := HCS.out _ k.2; exact ⟨k.1, q.1, q.2.2.1⟩) (fun hHeld => ?_)
  try simp only [Act.put, List.setIfInBounds_toArray, List.set_cons_zero, List.set_cons_succ]
  have HBd : Hid (Below w5.heap.size w5 w5.drew) := below_drewN w5 1
  generalize w5.drew = wd at *
  refine wpAnyH_take (i := 0) (v := .agg (cellsB K').toArray) (by simp only [List.getElem?_toArray, List.getElem?_cons_zero, List.getElem?_cons_succ]; rfl) (by kernel_rfl) (by kernel_rfl) (by kernel_rfl) (fun _ _ _ h => h)
    (yieldsIf_load_mid (by rfl) _ _ rfl _ _ rfl _ _ (fun w hw => hw.1) Tryd.underlying23 rfl (by rw [cellsB_length, lK]; exact Tryd.sizeDg)) hHeld ?_
  try simp only [Act.put, List.setIfInBounds_toArray, List.set_cons_zero, List.set_cons_succ]
  refine wpAnyH_take (i := 1) (v := ?_) (by simp only [List.getElem?_toArray, List.getElem?_cons_zero, List.getElem?_cons_succ]; rfl) (by kernel_rfl) (by kernel_rfl) (by kernel_rfl) (fun _ _ _ h => h) (Or.inl ⟨by rfl, ?_⟩) hHeld ?_
  rotate_left
  · intro w hSw
    obtain ⟨hSw0, hSw1, hSw2⟩ := hSw
    go_simp
    try with_reducible rfl
  try simp only [Act.put, List.setIfInBounds_toArray, List.set_cons_zero, List.set_cons_succ]
  refine wpAnyH_take (i := 2) (v := ?_) (by simp only [List.getElem?_toArray, List.getElem?_cons_zero, List.getElem?_cons_succ]; rfl) (by kernel_rfl) (by kernel_rfl) (by kernel_rfl) (fun _ _ _ h => h) (Or.inl ⟨by rfl, ?_⟩) hHeld ?_
  rotate_left
  · intro w hSw
    obtain ⟨hSw0, hSw1, hSw2⟩ := hSw
    go_simp
    try with_reducible rfl
  try simp only [Act.put, List.setIfInBounds_toArray, List.set_cons_zero, List.set_cons_succ]
  refine wpAnyH_take (i := 3) (v := ?_) (by simp only [List.getElem?_toArray, List.getElem?_cons_zero, List.getElem?_cons_succ]; rfl) (by kernel_rfl) (by kernel_rfl) (by kernel_rfl) (fun _ _ _ h => h) (Or.inl ⟨by rfl, ?_⟩) hHeld ?_
  rotate_left
  · intro w hSw
    obtain ⟨hSw0, hSw1, hSw2⟩ := hSw
    go_simp
    try with_reducible rfl
  try simp only [Act.put, List.setIfInBounds_toArray, List.set_cons_zero, List.set_cons_succ]
  refine wpAnyH_take (i := 4) (v := .int .i64 (n : Int)) (by simp only [List.getElem?_toArray, List.getElem?_cons_zero, List.getElem?_cons_succ]; rfl) (by kernel_rfl) (by kernel_rfl) (by kernel_rfl) (fun _ _ _ h => h) (Or.inl ⟨by rfl, ?_⟩) hHeld ?_
  · intro w hSw
    obtain ⟨hSw0, hSw1, hSw2⟩ := hSw
    go_simp
  try simp only [Act.put, List.setIfInBounds_toArray, List.set_cons_zero, List.set_cons_succ]
  refine wpAnyH_take (i := 5) (v := ?_) (by simp only [List.getElem?_toArray, List.getElem?_cons_zero, List.getElem?_cons_succ]; rfl) (by kernel_rfl) (by kernel_rfl) (by kernel_rfl) (fun _ _ _ h => h) (Or.inl ⟨by rfl, ?_⟩) hHeld ?_
  rotate_left
  · intro w hSw
    obtain ⟨hSw0, hSw1, hSw2⟩ := hSw
    go_simp
    try with_reducible rfl
  try simp only [Act.put, List.setIfInBounds_toArray, List.set_cons_zero, List.set_cons_succ]
  refine wpAnyH_take (i := 6) (v := ?_) (by simp only [List.getElem?_toArray, List.getElem?_cons_zero, List.getElem?_cons_succ]; rfl) (by kernel_rfl) (by kernel_rfl) (by kernel_rfl) (fun _ _ _ h => h) (Or.inl ⟨by rfl, ?_⟩) hHeld ?_
  rotate_left
  · intro w hSw
    obtain ⟨hSw0, hSw1, hSw2⟩ := hSw
    go_simp
    try with_reducible rfl
  try simp only [Act.put, List.setIfInBounds_toArray, List.set_cons_zero, List.set_cons_succ]
  refine wpAnyH_ready (rs := [7]) (by kernel_rfl) (by simp) ?_
  refine AllReadyH.cons (by simp only [List.getElem?_toArray, List.getElem?_cons_zero, List.getElem?_cons_succ]; rfl) (fun K hK => ?_) AllReadyH.nil
  rw [if_pos (by rfl)]
  go_simp
  refine (HFF.out wd (HCS.out _ (HKX.out _ HBd.out).2).2.2.2.2.2.1 (HCS.out _ (HKX.out _ HBd.out).2).2.2.2.2.2.2.2.1).mono ?_
  rintro e wn ⟨rfl, hbn⟩
  have HBn : Hid (Below w5.heap.size w5 wn) := HBd.out.trans (hbn.mono HBd.out.size)
  clear hbn HBd
  go_wp2_with fail
  refine hK.out _ _ (by have k := HKX.out _ HBn.out; have q := HCS.out _ k.2; exact ⟨k.1, q.1, q.2.2.1⟩) (fun hHeld => ?_)
  clear hK K
  try simp only [Act.put, List.setIfInBounds_toArray, List.set_cons_zero, List.set_cons_succ]
  refine wpAnyH_take (i := 8) (v := ?_) (by simp only [List.getElem?_toArray, List.getElem?_cons_zero, List.getElem?_cons_succ]; rfl) (by kernel_rfl) (by kernel_rfl) (by kernel_rfl) (fun _ _ _ h => h) (Or.inl ⟨by rfl, ?_⟩) hHeld ?_
  rotate_left
  · intro w hSw
    obtain ⟨hSw0, hSw1, hSw2⟩ := hSw
    go_simp
    try with_reducible rfl
  try simp only [Act.put, List.setIfInBounds_toArray, List.set_cons_zero, List.set_cons_succ]
  refine wpAnyH_take (i := 9) (v := ?_) (by simp only [List.getElem?_toArray, List.getElem?_cons_zero, List.getElem?_cons_succ]; rfl) (by kernel_rfl) (by kernel_rfl) (by kernel_rfl) (fun _ _ _ h => h) (Or.inl ⟨by rfl, ?_⟩) hHeld ?_
  rotate_left
  · intro w hSw
    obtain ⟨hSw0, hSw1, hSw2⟩ := hSw
    go_simp
    try with_reducible rfl
  try simp only [Act.put, List.setIfInBounds_toArray, List.set_cons_zero, List.set_cons_succ]
  refine wpAnyH_ready (rs := [10]) (by kernel_rfl) (by simp) ?_
  refine AllReadyH.cons (by simp only [List.getElem?_toArray, List.getElem?_cons_zero, List.getElem?_cons_succ]; rfl) (fun K hK => ?_) AllReadyH.nil
  rw [if_pos (by rfl)]
  have HTn : Hid (wn.there (w.heap.size + 1 + 1) 0 32) := (HCS.out _ (HKX.out _ HBn.out).2).2.2.2.2.1
  have HNE : Hid (g3 ≠ w.heap.size + 1 + 1 ∧ w.heap.size + 1 ≠ w.heap.size + 1 + 1) := by have := HG3.out; have := HS2.out; exact ⟨by omega, by omega⟩
  refine wp_store_mid _ _ _ rfl (w.heap.size + 1 + 1) 0 (cellsB D).toArray rfl rfl (by rw [cellsB_size, hD]; exact HTn.out) (by rw [cellsB_size, hD]; exact Tryd.sizeDg) (all_oneCell_toArray (cellsB_one _)) ?_
  refine hK.out _ _ ⟨World.rangeAt_setCells_apart hHeld.1 _ _ _ (.inl HNE.out.1), ?_, ?_⟩ (fun hHeld => ?_)
  · rw [World.cell?_setCells_out _ _ _ _ _ (fun hh _ => absurd hh HNE.out.2)]; exact hHeld.2.1
  · rw [World.cell?_setCells_out _ _ _ _ _ (fun hh _ => absurd hh HNE.out.2)]; exact hHeld.2.2
  clear hK K
  try simp only [Act.put, List.setIfInBounds_toArray, List.set_cons_zero, List.set_cons_succ]
  refine wpAnyH_take (i := 11) (v := ?_) (by simp only [List.getElem?_toArray, List.getElem?_cons_zero, List.getElem?_cons_succ]; rfl) (by kernel_rfl) (by kernel_rfl) (by kernel_rfl) (fun _ _ _ h => h) (Or.inl ⟨by rfl, ?_⟩) hHeld ?_
  rotate_left
  · intro w hSw
    obtain ⟨hSw0, hSw1, hSw2⟩ := hSw
    go_simp
    try with_reducible rfl
  try simp only [Act.put, List.setIfInBounds_toArray, List.set_cons_zero, List.set_cons_succ]
  refine wpAnyH_done (by kernel_rfl) (NoPanic.normal ?_) _
  have HBB : Hid (Below w.heap.size w (wn.setCells (w.heap.size + 1 + 1) 0 (cellsB D))) := below_setCells _ (by omega) _ _ _ (HCS.out _ (HKX.out _ HBn.out).2).2.2.2.2.2.2.2.2
  clear hHeld HKX HCS HBn
  go_wp2_with fail
  refine bodyPost_ret (v := .tuple #[digestV D, ev]) (run_results_row2 Tryd.results9 _ _ (w.heap.size + 1 + 1) 0 (by rfl) _ (by rfl) (cellsB D) (World.rangeAt_setCells_same _ _ _ _ (by rw [cellsB_length, hD]; exact HTn.out)) _ Tryd.underlying23 (by rfl) (by rw [cellsB_length, hD]; exact Tryd.sizeDg)) rfl ⟨rfl, HBB.out⟩
theorem wstamp_recover (m : List UInt8) (h i n : Nat) (a1 : Option Addr) (c1 : Nat) (a2 : Option Addr) (p c2 : Nat) (sig path : List (List UInt8)) (w : World) (G : Env w) (hm : m.length = 32) (hh : h ≤ 4) (hn : n = 2 ^ h) (hi : i < n) (R1 : DRow w a1 67 sig) (hc1 : 67 ≤ c1) (R2 : DRow w a2 p path) (hc2 : p ≤ c2) (hp : p = longT i n) :
    Calls Tryd.prog 9 #[digestV m, .int .i64 (h : Int), sigV (i : Int) a1 67 c1 a2 p c2] w fun e w' => e = .returned (.tuple #[digestV (stampTellL m i n sig path), .nilIface]) ∧ Below w.heap.size w w' := by
  have hn16 := Stm.pow hh
  have hl := longT_le n i
  subst hn
  exact wrec_fold m h (i : Int) a1 67 c1 a2 p c2 sig path w G hm hh (by omega) (by omega) R1 hc1 (by omega) R2 hc2 (by omega) rfl (stampTellL m i (2 ^ h) sig path) .nilIface (foldT_length (wotsKeyL_length m sig) _ _ _) (fun wx Gx Rx => wtree_fold (wotsKeyL m sig) i (2 ^ h) p c2 a2 path wx Gx (wotsKeyL_length m sig) Rx hp hc2 hn16.1 (by omega) hi)
theorem wstamp_recerr (m : List UInt8) (h : Nat) (i : Int) (a1 : Option Addr) (n1 c1 : Nat) (a2 : Option Addr) (n2 c2 : Nat) (sig path : List (List UInt8)) (w : World) (G : Env w) (hm : m.length = 32) (hh : h ≤ 4) (i1 : -9223372036854775808 ≤ i) (i2 : i ≤ 9223372036854775807) (R1 : DRow w a1 n1 sig) (hc1 : n1 ≤ c1) (z1 : 32 * n1 ≤ 140737488351232) (R2 : DRow w a2 n2 path) (hc2 : n2 ≤ c2) (z2 : 32 * n2 ≤ 140737488351232) (k : Int) (hk : recE n1 i (2 ^ h) n2 = k) (hk0 : k ≠ 0) :
    Calls Tryd.prog 9 #[digestV m, .int .i64 (h : Int), sigV i a1 n1 c1 a2 n2 c2] w fun e w' => e = .returned (.tuple #[digestV zD, .iface 51 (.int .i64 k)]) ∧ Below w.heap.size w w' := by
  have hn16 := Stm.pow hh
  by_cases q1 : n1 = 67
  · by_cases q2 : i < 0 ∨ ((2 ^ h : Nat) : Int) ≤ i
    · have hk2 : k = 2 := by rw [← hk, q1]; exact recE_at q2
      subst hk2
      exact wrec_fold m h i a1 n1 c1 a2 n2 c2 sig path w G hm hh i1 i2 R1 hc1 z1 R2 hc2 z2 q1 zD _ rfl (fun wx Gx Rx => wtree_foldout (wotsKeyL m sig) i ((2 ^ h : Nat) : Int) n2 c2 a2 path wx Gx (wotsKeyL_length m sig) Rx hc2 z2 (.inr (.inr q2)) i1 i2 (by omega) (by omega))
    · obtain ⟨j, rfl⟩ : ∃ j : Nat, i = (j : Int) := ⟨i.toNat, by omega⟩
      have hj : j < 2 ^ h := by omega
      have q3 : n2 ≠ longT j (2 ^ h) := fun e => hk0 (by rw [← hk, q1]; exact recE_ok hj e)
      have hk3 : k = 3 := by rw [← hk, q1]; exact recE_path hj q3
      subst hk3
      exact wrec_fold m h (j : Int) a1 n1 c1 a2 n2 c2 sig path w G hm hh i1 i2 R1 hc1 z1 R2 hc2 z2 q1 zD _ rfl (fun wx Gx Rx => wtree_foldlen (wotsKeyL m sig) j (2 ^ h) n2 c2 a2 path wx Gx (wotsKeyL_length m sig) Rx hc2 z2 hn16.1 (by omega) hj q3)
  · have hk3 : k = 3 := by rw [← hk]; exact recE_sig q1
    subst hk3
    exact wrec_short m h i a1 n1 c1 a2 n2 c2 sig path w G hm hh i1 i2 R1 hc1 z1 R2 hc2 z2 q1
end Go.Proofs.YtghiniaijobonaaDoor
/- The contracts of package stamp. -/
