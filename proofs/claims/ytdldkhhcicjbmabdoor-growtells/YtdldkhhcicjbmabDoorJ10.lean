/- Texts of this claim, joined: Roots2, Wsplit, Wgfold, Wapart. -/
import Derived.Test.YtdldkhhcicjbmabDoorJ08
import Derived.Test.YtdldkhhcicjbmabDoorJ07
import Derived.Test.YtdldkhhcicjbmabDoorJ09
import Derived.Test.YtdldkhhcicjbmabDoorYPairs
import Derived.Test.YtdldkhhcicjbmabDoorJ01
import Derived.Test.YtdldkhhcicjbmabDoorJ06
import Derived.Lib.BitFns
import Derived.Defers
import Derived.Recover
/- The struct of two digests, as a value and in memory; how long the roots of a proof are. -/
namespace Go.Proofs.YtdldkhhcicjbmabDoor
open Go.RowKit
set_option linter.unusedVariables false
set_option linter.unusedSimpArgs false

/-- A new variable for two digests. -/
def zR : List UInt8 := zD ++ zD
theorem zR_len : zR.length = 64 := rfl
theorem zR_size : (cellsB zR).toArray.size = 64 := by rw [cellsB_size]; rfl
theorem Tryd.zeroRt : (Tryd.prog.info? 50).map (·.zero) = some (some (.agg (cellsB zR).toArray)) := by kernel_rfl
theorem Tryd.sizeRt : (Tryd.prog.info? 50).map (·.size) = some 64 := by kernel_rfl
theorem Tryd.placesRt : (match Tryd.prog.underlying 50 with | some (.struct fields) => fields.toList.mapM (fun f => (Tryd.prog.info? f.type).map fun i => (f.offset, i.size)) | _ => none) = some [(0, 32), (32, 32)] := by kernel_rfl
theorem Tryd.builtRt (X Y : List UInt8) (hX : X.length = 32) (hY : Y.length = 32) : Tryd.prog.built 50 [(0, digestV X), (1, digestV Y)] = some (cellsB (X ++ Y)).toArray := by
  obtain ⟨r, hr, hrl⟩ := fill_digests [X, Y] 0 (cellsB zR).toArray (by intro q hq; simp only [List.mem_cons, List.not_mem_nil, or_false] at hq; rcases hq with rfl | rfl <;> assumption) (by rw [zR_size]; rfl)
  have hr' : r = (cellsB (X ++ Y)).toArray := by
    rw [← Array.toArray_toList (xs := r), hrl]
    simp
  subst hr'
  unfold Program.built
  cases hi : Tryd.prog.info? 50 with
  | none => have := Tryd.zeroRt; rw [hi] at this; cases this
  | some it =>
    have hz : it.zero = some (.agg (cellsB zR).toArray) := by have := Tryd.zeroRt; rw [hi] at this; simpa using this
    have hp := Tryd.placesRt
    cases hu : Tryd.prog.underlying 50 with
    | none => rw [hu] at hp; cases hp
    | some d =>
      rw [hu] at hp
      cases d <;> try (cases hp; done)
      case struct fs =>
        have hp' : fs.toList.mapM (fun f => (Tryd.prog.info? f.type).map fun i => (f.offset, i.size)) = some [(0, 32), (32, 32)] := hp
        show (match it.zero, fs.toList.mapM (fun f => (Tryd.prog.info? f.type).map fun i => (f.offset, i.size)) with | some z, some places => Instr.fill (places.toArray[·]?) z.cells [(0, digestV X), (1, digestV Y)] | _, _ => none) = _
        rw [hz, hp']
        exact hr
theorem wpList_buildR {ops : Array Oper} {rest : List Oper} {o : Oper} {a : Act} {w : World} {Q : Exit → Act → World → Prop} (hg : o.guard = none) (x y : Operand) (ho : o.op = .build 50 #[(0, x), (1, y)]) (X Y : List UInt8) (hX : X.length = 32) (hY : Y.length = 32) (hx : a.eval x = digestV X) (hy : a.eval y = digestV Y)
    (h : wpList Tryd.prog ops Q rest (a.put o.dst (digestV (X ++ Y))) w) : wpList Tryd.prog ops Q (o :: rest) a w :=
  wpList_buildC hg 50 _ ho (cellsB (X ++ Y)).toArray (by simp only [List.map_toArray, List.map_cons, List.map_nil, hx, hy]; exact Tryd.builtRt X Y hX hY) h
theorem wp_buildR {o : Oper} {a : Act} {w : World} {K : Act → World → Prop} {Q : Exit → Act → World → Prop} (x y : Operand) (ho : o.op = .build 50 #[(0, x), (1, y)]) (X Y : List UInt8) (hX : X.length = 32) (hY : Y.length = 32) (hx : a.eval x = digestV X) (hy : a.eval y = digestV Y)
    (h : K (a.put o.dst (digestV (X ++ Y))) w) : o.wp Tryd.prog a w K Q := by
  have hrun : (Instr.build 50 #[(0, digestV X), (1, digestV Y)]).run Tryd.prog w = .ok (.agg (cellsB (X ++ Y)).toArray) w := run_build w 50 _ _ (Tryd.builtRt X Y hX hY)
  unfold Oper.wp
  simp [execOp, ho, hx, hy, hrun, Result.andThen]
  exact h
theorem range_two {w : World} {b o : Nat} {X Y : List UInt8} (h : w.rangeAt b o (cellsB (X ++ Y))) (hX : X.length = 32) : w.rangeAt b o (cellsB X) ∧ w.rangeAt b (o + 32) (cellsB Y) := by
  rw [cellsB_append] at h
  refine ⟨fun j v hj => h j v ?_, fun j v hj => ?_⟩
  · rw [List.getElem?_append_left (List.getElem?_eq_some_iff.1 hj).1]; exact hj
  · have := h (32 + j) v (by rw [List.getElem?_append_right (by rw [cellsB_length, hX]; omega), cellsB_length, hX, show 32 + j - 32 = j by omega]; exact hj)
    rwa [show o + 32 + j = o + (32 + j) by omega]
theorem two_len {X Y : List UInt8} (hX : X.length = 32) (hY : Y.length = 32) : (X ++ Y).length = 64 := by rw [List.length_append, hX, hY]
theorem rootsT_len : ∀ (n m : Nat) (own : Bool) (old : List UInt8) (pf : List (List UInt8)), old.length = 32 → (∀ l ∈ pf, l.length = 32) → plongT m n own ≤ pf.length → (rootsT m n own old pf).1.length = 32 ∧ (rootsT m n own old pf).2.length = 32 := by
  intro n
  induction n using Nat.strongRecOn with
  | ind n ih =>
    intro m own old pf ho h32 hl
    by_cases c : 2 ≤ n ∧ m < n
    · have k1 := halfT_lt c.1
      have k2 := halfT_pos n
      have hi : ∀ l ∈ pf.take (pf.length - 1), l.length = 32 := fun l hl => h32 l (List.mem_of_mem_take hl)
      by_cases d : m ≤ halfT n
      · rw [plongT_lo c.1 c.2 d] at hl
        rw [rootsT_lo c.1 c.2 d]
        exact ⟨(ih (halfT n) k1 m own old _ ho hi (by rw [List.length_take]; omega)).1, nodeT_length _ _⟩
      · rw [rootsT_hi c.1 c.2 d]
        exact ⟨nodeT_length _ _, nodeT_length _ _⟩
    · rw [rootsT, dif_neg c]
      cases own with
      | true => exact ⟨ho, ho⟩
      | false =>
        rw [plongT, dif_neg c] at hl
        have hl' : 1 ≤ pf.length := hl
        have : (pf.getD (pf.length - 1) []).length = 32 := by
          rw [List.getD_eq_getElem?_getD, List.getElem?_eq_getElem (by omega)]
          exact h32 _ (List.getElem_mem _)
        exact ⟨this, this⟩
theorem plongT_pos {m n : Nat} {own : Bool} (h : m < n) (h1 : 1 ≤ m) : 0 < plongT m n own := by
  by_cases d : m ≤ halfT n
  · rw [plongT_lo (by omega) h d]; omega
  · rw [plongT_hi (by omega) h d]; omega
end Go.Proofs.YtdldkhhcicjbmabDoor
/- The contracts of math/bits.Len64 and Len (numbers below 256) and of tree.Split. -/
namespace Go.Proofs.YtdldkhhcicjbmabDoor
open Go.RowKit
set_option linter.unusedVariables false
set_option linter.unusedSimpArgs false

theorem half_len : ∀ n, n < 257 → 2 ≤ n → halfT n = 2 ^ (Lib.bitLen (n - 1) - 1) ∧ 1 ≤ Lib.bitLen (n - 1) ∧ Lib.bitLen (n - 1) ≤ 8 := by decide +kernel
set_option maxRecDepth 100000 in
set_option maxHeartbeats 1000000 in
theorem wlen64_any (x : Int) (w : World) (h0 : 0 ≤ x) (h1 : x < 256) :
    Calls Tryd.prog 46 #[.int .u64 x] w fun e w' => e = .returned (.int .i64 (Lib.bitLen x.toNat : Int)) ∧ w' = w := by
  have l := Lib.bitLen_le8' x h0 (by omega)
  have HE : Hid (Lib.len8 x = (Lib.bitLen x.toNat : Int)) := Lib.len8_of x h0 (by omega)
  go_enter Tryd.func46, Tryd.ntmps46
  go_wp2
  go_ret
  refine ⟨ret_int ?_, rfl⟩
  have hE := HE.out
  unfold Lib.len8 at hE
  have hg : ∀ h, ((Lib.len8tab[x.toNat]'h).toNat : Int) = (Lib.bitLen x.toNat : Int) := fun h => by
    rw [getElem?_pos Lib.len8tab x.toNat h] at hE
    exact hE
  rw [hg]
  generalize Lib.bitLen x.toNat = L at *
  unfold wrap64
  omega
set_option maxRecDepth 100000 in
set_option maxHeartbeats 1000000 in
theorem wlen_any (x : Int) (w : World) (h0 : 0 ≤ x) (h1 : x < 256) :
    Calls Tryd.prog 36 #[.int .u64 x] w fun e w' => e = .returned (.int .i64 (Lib.bitLen x.toNat : Int)) ∧ w' = w := by
  go_enter Tryd.func36, Tryd.ntmps36
  go_wp2_with fail
  refine (wlen64_any x w h0 h1).mono ?_
  rintro e w' ⟨rfl, rfl⟩
  go_wp2
  go_ret
  exact ⟨rfl, rfl⟩
set_option maxRecDepth 100000 in
set_option maxHeartbeats 1000000 in
theorem wsplit_any (n : Nat) (w : World) (h2 : 2 ≤ n) (hn : n ≤ 256) :
    Calls Tryd.prog 26 #[.int .i64 (n : Int)] w fun e w' => e = .returned (.int .i64 (halfT n : Int)) ∧ w' = w := by
  obtain ⟨hE, hl1, hl8⟩ := half_len n (by omega) h2
  have HE : Hid (halfT n = 2 ^ (Lib.bitLen (n - 1) - 1)) := hE
  clear hE
  have g0 : ¬ (n : Int) < 2 := by omega
  have s1 : (n : Int) - 1 = ((n - 1 : Nat) : Int) := by omega
  have b1 : n - 1 < 256 := by omega
  generalize n - 1 = m at *
  have hm : ((m : Int)).toNat = m := by omega
  go_enter Tryd.func26, Tryd.ntmps26
  go_wp2_with fail
  refine (wlen_any (m : Int) w (by omega) (by omega)).mono ?_
  rintro e w' ⟨rfl, rfl⟩
  rw [hm]
  generalize Lib.bitLen m = L at *
  have : L = 1 ∨ L = 2 ∨ L = 3 ∨ L = 4 ∨ L = 5 ∨ L = 6 ∨ L = 7 ∨ L = 8 := by omega
  rcases this with rfl | rfl | rfl | rfl | rfl | rfl | rfl | rfl <;>
  · go_wp2_with fail
    go_ret
    refine ⟨ret_int ?_, rfl⟩
    rw [HE.out]
    rfl
end Go.Proofs.YtdldkhhcicjbmabDoor
/- The contract of pile.fold: it calls itself, and panics where the pile is too small. -/
namespace Go.Proofs.YtdldkhhcicjbmabDoor
open Go.RowKit
set_option linter.unusedVariables false
set_option linter.unusedSimpArgs false

set_option maxRecDepth 100000 in
set_option maxHeartbeats 4000000 in
theorem wgfold_any : ∀ (n : Nat), ∀ (m q c : Nat) (own : Bool) (old : List UInt8) (a : Option Addr) (pf : List (List UInt8)) (P : Nat) (w : World), old.length = 32 → Tab w → P ≠ 1 → Pile w P (.slice a q c) → DRow w a q pf → (0 < q → ∀ ad, a = some ad → ad.block ≠ P) → q ≤ c → q ≤ 140737488351232 → 1 ≤ m → m ≤ n → n ≤ 256 →
    Calls Tryd.prog 30 #[.pointer (some ⟨P, 0, none⟩), .int .i64 (m : Int), .int .i64 (n : Int), digestV old, .bool own] w fun e w' => w.grownBy w' (some P) ∧ ((plongT m n own ≤ q ∧ e = .returned (digestV ((rootsT m n own old pf).1 ++ (rootsT m n own old pf).2)) ∧ Pile w' P (.slice a (q - plongT m n own) c)) ∨ (q < plongT m n own ∧ e = .panicked [{ v := .iface 25 (.int .i64 3), recovered := false }])) := by
  intro n
  induction n using Nat.strongRecOn with
  | ind n ih =>
    intro m q c own old a pf P w ho G hPt HP R hne hc hq h1 hm hn
    have HI : Hid (∀ j, j < n → ∀ (m q c : Nat) (own : Bool) (old : List UInt8) (a : Option Addr) (pf : List (List UInt8)) (P : Nat) (w : World), old.length = 32 → Tab w → P ≠ 1 → Pile w P (.slice a q c) → DRow w a q pf → (0 < q → ∀ ad, a = some ad → ad.block ≠ P) → q ≤ c → q ≤ 140737488351232 → 1 ≤ m → m ≤ j → j ≤ 256 → Calls Tryd.prog 30 #[.pointer (some ⟨P, 0, none⟩), .int .i64 (m : Int), .int .i64 (j : Int), digestV old, .bool own] w fun e w' => w.grownBy w' (some P) ∧ ((plongT m j own ≤ q ∧ e = .returned (digestV ((rootsT m j own old pf).1 ++ (rootsT m j own old pf).2)) ∧ Pile w' P (.slice a (q - plongT m j own) c)) ∨ (q < plongT m j own ∧ e = .panicked [{ v := .iface 25 (.int .i64 3), recovered := false }]))) := ih
    clear ih
    obtain ⟨w2, hw2⟩ : ∃ w2, (w.alloc (.cells (cellsB old).toArray 24)).alloc (.cells (cellsB zR).toArray 50) = w2 := ⟨_, rfl⟩
    have hs1 : (w.alloc (.cells (cellsB old).toArray 24)).heap.size = w.heap.size + 1 := by simp
    have HS2 : Hid (w2.heap.size = w.heap.size + 1 + 1) := by unfold Hid; rw [← hw2]; simp
    have HB2 : Hid (Below w.heap.size w w2) := by rw [← hw2]; exact ((Below.refl _ _).alloc (Nat.le_refl _) _).alloc (by simp) _
    have HL2 : Hid (DAt w2 w.heap.size 0 old) := by rw [← hw2]; exact World.rangeAt_alloc (box_dat w old _) _
    have HT2 : Hid (w2.there (w.heap.size + 1) 0 64) := by rw [← hw2]; exact alloc_thereAt _ _ _ 64 _ hs1 zR_size.symm
    have HTO : Hid (w2.there w.heap.size 0 32) := by rw [← hw2]; exact there_below (alloc_thereAt _ _ _ 32 _ rfl (by rw [cellsB_size, ho])) ((Below.refl _ _).alloc (Nat.le_refl _) _) (by simp)
    have HPB : Hid (P < w.heap.size) := HP.block
    have HKT : Hid (∀ wx, w2.grownBy wx (some P) → wx.rangeAt w.heap.size 0 (cellsB old) ∧ wx.there (w.heap.size + 1) 0 64 ∧ Tab wx ∧ DRow wx a q pf ∧ w.grownBy wx (some P)) := fun wx hx => by
      have s := HS2.out
      have p := HPB.out
      have b : w.grownBy wx (some P) := gr_trans (gr_below HB2.out _) hx
      exact ⟨dat_gr HL2.out hx (by omega) (by omega), there_gr HT2.out hx (by omega) (by omega), G.grown b hPt, R.grown b hne, b⟩
    have H0 : Hid (w2.grownBy w2 (some P)) := World.grownBy.refl _ _
    have HP2 : Hid (Pile w2 P (.slice a q c)) := HP.below HB2.out HP.block
    have HP32 : Hid (∀ j, j < q → (pf.getD j []).length = 32) := R.len
    have HPM : Hid (∀ l ∈ pf, l.length = 32) := R.2.1
    have HPL : Hid (pf.length = q) := R.1
    have HNE : Hid (0 < q → ∀ ad, a = some ad → ad.block ≠ P) := hne
    have HPT : Hid (P ≠ 1) := hPt
    clear R G HP hne hPt
    go_enter Tryd.func30, Tryd.ntmps30
    by_cases cmn : m < n
    · have h2 : 2 ≤ n := by omega
      have e1 : ((m : Int) == (n : Int)) = false := by simp; omega
      by_cases hq0 : q = 0
      · subst hq0
        have HPP : Hid (0 < plongT m n own) := plongT_pos cmn h1
        go_wp2_with (refine wpList_allocE (by rfl) 50 (by rfl) (cellsB zR).toArray Tryd.zeroRt (w.heap.size + 1) hs1 w2 hw2 ?_)
        refine (wtake_none P c a w2 HP2.out).mono ?_
        rintro e w3 ⟨rfl, hg3⟩
        exact ⟨rfl, gr_trans (gr_below HB2.out _) hg3, .inr ⟨HPP.out, rfl⟩⟩
      · obtain ⟨q', rfl⟩ : ∃ q' : Nat, q = q' + 1 := ⟨q - 1, by omega⟩
        obtain ⟨b, o, rfl⟩ := (HKT.out _ H0.out).2.2.2.1.addr (by omega)
        have hk1 := halfT_lt h2
        have hk2 := halfT_pos n
        have lD := HP32.out q' (by omega)
        have HPM' : Hid (∀ l ∈ pf.take q', l.length = 32) := fun l hl => HPM.out l (List.mem_of_mem_take hl)
        have HPTL : Hid ((pf.take q').length = q') := by unfold Hid; rw [List.length_take, HPL.out]; omega
        have HFL : Hid (∀ k, halfT n = k → m ≤ k → rootsT m n own old pf = ((rootsT m k own old (pf.take q')).1, nodeT (rootsT m k own old (pf.take q')).2 (pf.getD q' [])) ∧ plongT m n own = 1 + plongT m k own) := fun k hk h => by
          have t1 := rootsT_lo (own := own) (old := old) (pf := pf) h2 cmn (by rw [hk]; exact h)
          have t2 := plongT_lo (own := own) h2 cmn (by rw [hk]; exact h)
          rw [HPL.out, show q' + 1 - 1 = q' by omega, hk] at t1
          rw [hk] at t2
          exact ⟨t1, t2⟩
        have HFH : Hid (∀ k, halfT n = k → ¬ m ≤ k → rootsT m n own old pf = (nodeT (pf.getD q' []) (rootsT (m - k) (n - k) false old (pf.take q')).1, nodeT (pf.getD q' []) (rootsT (m - k) (n - k) false old (pf.take q')).2) ∧ plongT m n own = 1 + plongT (m - k) (n - k) false) := fun k hk h => by
          have t1 := rootsT_hi (own := own) (old := old) (pf := pf) h2 cmn (by rw [hk]; exact h)
          have t2 := plongT_hi (own := own) h2 cmn (by rw [hk]; exact h)
          rw [HPL.out, show q' + 1 - 1 = q' by omega, hk] at t1
          rw [hk] at t2
          exact ⟨t1, t2⟩
        have HRT : Hid (∀ wx, w2.grownBy wx (some P) → DRow wx (some ⟨b, o, none⟩) q' (pf.take q')) := fun wx hx => (HKT.out wx hx).2.2.2.1.take q' (by omega)
        go_wp2_with (refine wpList_allocE (by rfl) 50 (by rfl) (cellsB zR).toArray Tryd.zeroRt (w.heap.size + 1) hs1 w2 hw2 ?_)
        refine (wtake_any P b o q' c pf w2 HP2.out (HKT.out _ H0.out).2.2.2.1 (HNE.out (by omega) _ rfl) hc (by omega)).mono ?_
        rintro e w3 ⟨rfl, hP3, hg3⟩
        have HG3 : Hid (w2.grownBy w3 (some P)) := hg3
        have HP3 : Hid (Pile w3 P (.slice (some ⟨b, o, none⟩) q' c)) := hP3
        clear hg3 hP3 hw2 HP2 H0
        generalize pf.getD q' [] = D at *
        generalize pf.take q' = PT at *
        obtain ⟨g3, hg3⟩ : ∃ g3, w3.heap.size = g3 := ⟨_, rfl⟩
        obtain ⟨w4, hw4⟩ : ∃ w4, w3.alloc (.cells (cellsB zD).toArray 24) = w4 := ⟨_, rfl⟩
        have HN3 : Hid (w2.heap.size ≤ g3) := by rw [← hg3]; exact HG3.out.size
        have HT4 : Hid (w4.there g3 0 32) := by rw [← hw4]; exact alloc_thereAt _ _ _ 32 _ hg3 zD_size.symm
        have hB5 : Below w3.heap.size w3 (w4.setCells g3 0 (cellsB D)) := below_setCells _ (by rw [hg3]; exact Nat.le_refl _) _ _ _ (by rw [← hw4]; exact (Below.refl _ _).alloc (Nat.le_refl _) _)
        have HG5 : Hid (w2.grownBy (w4.setCells g3 0 (cellsB D)) (some P)) := gr_trans HG3.out (gr_below hB5 _)
        have HX5 : Hid (DAt (w4.setCells g3 0 (cellsB D)) g3 0 D) := dat_stored HT4.out lD
        have HP5 : Hid (Pile (w4.setCells g3 0 (cellsB D)) P (.slice (some ⟨b, o, none⟩) q' c)) := HP3.out.below hB5 HP3.out.block
        clear hB5
        go_wp2_with (first
          | (refine wpList_allocE (by rfl) 24 (by rfl) (cellsB zD).toArray Tryd.zeroDg g3 hg3 w4 hw4 ?_)
          | (refine wpList_store_mid (by rfl) 24 (.tmp 11) (.tmp 26) (by rfl) g3 0 (cellsB D).toArray (by rfl) (by rfl) (by rw [cellsB_size, lD]; exact HT4.out) (by rw [cellsB_size, lD]; exact Tryd.sizeDg) (all_oneCell_toArray (cellsB_one _)) ?_))
        generalize w4.setCells g3 0 (cellsB D) = w5 at *
        clear hw4 hg3 HT4 HG3 HP3
        have HK5 : Hid (∀ wx, w5.grownBy wx (some P) → wx.rangeAt g3 0 (cellsB D) ∧ wx.rangeAt w.heap.size 0 (cellsB old) ∧ wx.there (w.heap.size + 1) 0 64 ∧ Tab wx ∧ DRow wx (some ⟨b, o, none⟩) q' PT ∧ w.grownBy wx (some P)) := fun wx hx => by
          have b1 : w2.grownBy wx (some P) := gr_trans HG5.out hx
          have k := HKT.out _ b1
          have := HN3.out
          have := HS2.out
          have := HPB.out
          exact ⟨dat_gr HX5.out hx (cell_block (HX5.out.cell 0 (by omega))) (by omega), k.1, k.2.1, k.2.2.1, HRT.out _ b1, k.2.2.2.2⟩
        have HGW : Hid (w.heap.size + 1 < g3) := by have := HS2.out; have := HN3.out; unfold Hid; omega
        clear HG5 HX5 HKT HRT HB2 HL2 HT2 HTO HP32 HPM HPL HN3
        refine (wsplit_any n w5 h2 hn).mono ?_
        rintro e w6 ⟨rfl, rfl⟩
        have H6 : Hid (w6.grownBy w6 (some P)) := World.grownBy.refl _ _
        generalize halfT n = k at *
        have GFL : Hid (m ≤ k → rootsT m n own old pf = ((rootsT m k own old PT).1, nodeT (rootsT m k own old PT).2 D) ∧ plongT m n own = 1 + plongT m k own) := HFL.out k rfl
        have GFH : Hid (¬ m ≤ k → rootsT m n own old pf = (nodeT D (rootsT (m - k) (n - k) false old PT).1, nodeT D (rootsT (m - k) (n - k) false old PT).2) ∧ plongT m n own = 1 + plongT (m - k) (n - k) false) := HFH.out k rfl
        clear HFL HFH
        by_cases d : m ≤ k
        · have t := GFL.out d
          have HE : Hid (rootsT m n own old pf = ((rootsT m k own old PT).1, nodeT (rootsT m k own old PT).2 D)) := t.1
          have HY : Hid (plongT m n own = 1 + plongT m k own) := t.2
          clear t GFL GFH
          have HC : Hid (Calls Tryd.prog 30 #[.pointer (some ⟨P, 0, none⟩), .int .i64 (m : Int), .int .i64 (k : Int), digestV old, .bool own] w6 fun e w' => w6.grownBy w' (some P) ∧ ((plongT m k own ≤ q' ∧ e = .returned (digestV ((rootsT m k own old PT).1 ++ (rootsT m k own old PT).2)) ∧ Pile w' P (.slice (some ⟨b, o, none⟩) (q' - plongT m k own) c)) ∨ (q' < plongT m k own ∧ e = .panicked [{ v := .iface 25 (.int .i64 3), recovered := false }]))) := HI.out k hk1 m q' c own old _ PT P w6 ho (HK5.out _ H6.out).2.2.2.1 HPT.out HP5.out (HK5.out _ H6.out).2.2.2.2.1 (fun _ => HNE.out (by omega)) (by omega) (by omega) h1 d (by omega)
          have HLX : Hid (plongT m k own ≤ q' → (rootsT m k own old PT).1.length = 32 ∧ (rootsT m k own old PT).2.length = 32) := fun h => rootsT_len k m own old PT ho HPM'.out (by rw [HPTL.out]; exact h)
          clear HI HP5
          have g1 : (m : Int) ≤ (k : Int) := by omega
          generalize (rootsT m k own old PT).1 = X at *
          generalize (rootsT m k own old PT).2 = Y at *
          generalize plongT m k own = y at *
          have HX6 : Hid (w6.rangeAt w.heap.size 0 (cellsB old)) := (HK5.out _ H6.out).2.1
          go_wp2_with (refine wpList_load_mid (by rfl) 24 (.tmp 8) (by rfl) w.heap.size 0 (by rfl) (cellsB old) _ HX6.out Tryd.underlying24 (by rfl) (by rw [cellsB_length, ho]; exact Tryd.sizeDg) ?_)
          refine HC.out.mono ?_
          rintro e w7 ⟨hg7, ⟨hy, rfl, hP7⟩ | ⟨hy, rfl⟩⟩
          · obtain ⟨lX, lY⟩ := HLX.out hy
            have l2 := two_len lX lY
            have HG7 : Hid (w6.grownBy w7 (some P)) := hg7
            have HP7 : Hid (Pile w7 P (.slice (some ⟨b, o, none⟩) (q' - y) c)) := hP7
            clear hg7 hP7 HLX HC HX6
            obtain ⟨g7, hg7⟩ : ∃ g7, w7.heap.size = g7 := ⟨_, rfl⟩
            obtain ⟨w8, hw8⟩ : ∃ w8, w7.alloc (.cells (cellsB zR).toArray 50) = w8 := ⟨_, rfl⟩
            have HN7 : Hid (w6.heap.size ≤ g7) := by rw [← hg7]; exact HG7.out.size
            have HT8 : Hid (w8.there g7 0 64) := by rw [← hw8]; exact alloc_thereAt _ _ _ 64 _ hg7 zR_size.symm
            have hB9 : Below w7.heap.size w7 (w8.setCells g7 0 (cellsB (X ++ Y))) := below_setCells _ (by rw [hg7]; exact Nat.le_refl _) _ _ _ (by rw [← hw8]; exact (Below.refl _ _).alloc (Nat.le_refl _) _)
            have HG9 : Hid (w6.grownBy (w8.setCells g7 0 (cellsB (X ++ Y))) (some P)) := gr_trans HG7.out (gr_below hB9 _)
            have HX9 : Hid ((w8.setCells g7 0 (cellsB (X ++ Y))).rangeAt g7 0 (cellsB (X ++ Y))) := World.rangeAt_setCells_same _ _ _ _ (by rw [cellsB_length, l2]; exact HT8.out)
            have HP9 : Hid (Pile (w8.setCells g7 0 (cellsB (X ++ Y))) P (.slice (some ⟨b, o, none⟩) (q' - y) c)) := HP7.out.below hB9 HP7.out.block
            have HBG : Hid (g3 < w6.heap.size) := cell_block ((show DAt w6 g3 0 D from (HK5.out _ H6.out).1).cell 0 (by omega))
            clear hB9
            go_wp2_with (first
              | (refine wpList_allocE (by rfl) 50 (by rfl) (cellsB zR).toArray Tryd.zeroRt g7 hg7 w8 hw8 ?_)
              | (refine wpList_store_mid (by rfl) 50 (.tmp 13) (.tmp 37) (by rfl) g7 0 (cellsB (X ++ Y)).toArray (by rfl) (by rfl) (by rw [cellsB_size, l2]; exact HT8.out) (by rw [cellsB_size, l2]; exact Tryd.sizeRt) (all_oneCell_toArray (cellsB_one _)) ?_))
            generalize w8.setCells g7 0 (cellsB (X ++ Y)) = w9 at *
            have HK9 : Hid (∀ wx, Below w9.heap.size w9 wx → (wx.rangeAt g7 0 (cellsB X) ∧ wx.rangeAt g7 32 (cellsB Y) ∧ wx.rangeAt g3 0 (cellsB D)) ∧ wx.there (w.heap.size + 1) 0 64 ∧ Tab wx ∧ Pile wx P (.slice (some ⟨b, o, none⟩) (q' - y) c) ∧ w.grownBy wx (some P)) := fun wx hx => by
              have b1 : w6.grownBy wx (some P) := gr_trans HG9.out (gr_below hx _)
              have k := HK5.out _ b1
              have r := range_two HX9.out lX
              have hb : g7 < w9.heap.size := cell_block ((show DAt w9 g7 0 X from r.1).cell 0 (by omega))
              exact ⟨⟨range_below r.1 hx hb, range_below (by simpa using r.2) hx hb, k.1⟩, k.2.2.1, k.2.2.2.1, HP9.out.below hx HP9.out.block, k.2.2.2.2.2⟩
            have HGX : Hid (w.heap.size + 1 < g7) := by have := HGW.out; have := HN7.out; have := HBG.out; unfold Hid; omega
            clear hw8 hg7 HT8 HG7 HP7 HG9 HX9 HP9 HK5 H6 HN7 HBG
            refine wp_region_noPanic ?_
            refine wp_region_held_drew (S := fun wx => wx.rangeAt g7 0 (cellsB X) ∧ wx.rangeAt g7 32 (cellsB Y) ∧ wx.rangeAt g3 0 (cellsB D)) (by kernel_rfl) ((HK9.out _ (below_drewN w9 1)).1) (fun hHeld => ?_)
            try simp only [Act.put, List.setIfInBounds_toArray, List.set_cons_zero, List.set_cons_succ]
            have HBd : Hid (Below w9.heap.size w9 w9.drew) := below_drewN w9 1
            generalize w9.drew = wd at *
            refine wpAnyH_take (i := 0) (v := .pointer (some ⟨g7, 0, none⟩)) (by simp only [List.getElem?_toArray, List.getElem?_cons_zero, List.getElem?_cons_succ]; rfl) (by kernel_rfl) (by kernel_rfl) (by kernel_rfl) (fun _ _ _ h => h) (Or.inl ⟨by rfl, ?_⟩) hHeld ?_
            · intro w hSw
              obtain ⟨hSw0, hSw1, hSw2⟩ := hSw
              go_simp
            try simp only [Act.put, List.setIfInBounds_toArray, List.set_cons_zero, List.set_cons_succ]
            refine wpAnyH_take (i := 1) (v := .agg (cellsB X).toArray) (by simp only [List.getElem?_toArray, List.getElem?_cons_zero, List.getElem?_cons_succ]; rfl) (by kernel_rfl) (by kernel_rfl) (by kernel_rfl) (fun _ _ _ h => h)
              (yieldsIf_load_mid (by rfl) _ _ rfl _ _ rfl _ _ (fun w hw => hw.1) Tryd.underlying24 rfl (by rw [cellsB_length, lX]; exact Tryd.sizeDg)) hHeld ?_
            try simp only [Act.put, List.setIfInBounds_toArray, List.set_cons_zero, List.set_cons_succ]
            refine wpAnyH_take (i := 2) (v := .pointer (some ⟨g7, 32, none⟩)) (by simp only [List.getElem?_toArray, List.getElem?_cons_zero, List.getElem?_cons_succ]; rfl) (by kernel_rfl) (by kernel_rfl) (by kernel_rfl) (fun _ _ _ h => h) (Or.inl ⟨by rfl, ?_⟩) hHeld ?_
            · intro w hSw
              obtain ⟨hSw0, hSw1, hSw2⟩ := hSw
              go_simp
            try simp only [Act.put, List.setIfInBounds_toArray, List.set_cons_zero, List.set_cons_succ]
            refine wpAnyH_take (i := 3) (v := .agg (cellsB Y).toArray) (by simp only [List.getElem?_toArray, List.getElem?_cons_zero, List.getElem?_cons_succ]; rfl) (by kernel_rfl) (by kernel_rfl) (by kernel_rfl) (fun _ _ _ h => h)
              (yieldsIf_load_mid (by rfl) _ _ rfl _ _ rfl _ _ (fun w hw => hw.2.1) Tryd.underlying24 rfl (by rw [cellsB_length, lY]; exact Tryd.sizeDg)) hHeld ?_
            try simp only [Act.put, List.setIfInBounds_toArray, List.set_cons_zero, List.set_cons_succ]
            refine wpAnyH_take (i := 4) (v := .agg (cellsB D).toArray) (by simp only [List.getElem?_toArray, List.getElem?_cons_zero, List.getElem?_cons_succ]; rfl) (by kernel_rfl) (by kernel_rfl) (by kernel_rfl) (fun _ _ _ h => h)
              (yieldsIf_load_mid (by rfl) _ _ rfl _ _ rfl _ _ (fun w hw => hw.2.2) Tryd.underlying24 rfl (by rw [cellsB_length, lD]; exact Tryd.sizeDg)) hHeld ?_
            try simp only [Act.put, List.setIfInBounds_toArray, List.set_cons_zero, List.set_cons_succ]
            refine wpAnyH_ready (rs := [5]) (by kernel_rfl) (by simp) ?_
            refine AllReadyH.cons (by simp only [List.getElem?_toArray, List.getElem?_cons_zero, List.getElem?_cons_succ]; rfl) (fun K hK => ?_) AllReadyH.nil
            rw [if_pos (by rfl)]
            go_simp
            refine (wtree_node Y D wd (HK9.out _ HBd.out).2.2.1 lY lD).mono ?_
            rintro e wn ⟨rfl, hbn⟩
            have HBwn : Hid (Below w9.heap.size w9 wn) := HBd.out.trans (hbn.mono HBd.out.size)
            have lN := nodeT_length Y D
            clear hbn HBd
            generalize nodeT Y D = N at *
            go_wp2_with fail
            refine hK.out _ _ (HK9.out _ HBwn.out).1 (fun hHeld => ?_)
            clear hK K
            try simp only [Act.put, List.setIfInBounds_toArray, List.set_cons_zero, List.set_cons_succ]
            refine wpAnyH_ready (rs := [6]) (by kernel_rfl) (by simp) ?_
            refine AllReadyH.cons (by simp only [List.getElem?_toArray, List.getElem?_cons_zero, List.getElem?_cons_succ]; rfl) (fun K hK => ?_) AllReadyH.nil
            rw [if_pos (by rfl)]
            refine wp_buildR _ _ rfl X N lX lN rfl rfl ?_
            refine hK.out _ _ (HK9.out _ HBwn.out).1 (fun hHeld => ?_)
            clear hK K
            try simp only [Act.put, List.setIfInBounds_toArray, List.set_cons_zero, List.set_cons_succ]
            refine wpAnyH_ready (rs := [7]) (by kernel_rfl) (by simp) ?_
            refine AllReadyH.cons (by simp only [List.getElem?_toArray, List.getElem?_cons_zero, List.getElem?_cons_succ]; rfl) (fun K hK => ?_) AllReadyH.nil
            rw [if_pos (by rfl)]
            have l3 := two_len lX lN
            have HTn : Hid (wn.there (w.heap.size + 1) 0 64) := (HK9.out _ HBwn.out).2.1
            refine wp_store_mid _ _ _ rfl (w.heap.size + 1) 0 (cellsB (X ++ N)).toArray rfl rfl (by rw [cellsB_size, l3]; exact HTn.out) (by rw [cellsB_size, l3]; exact Tryd.sizeRt) (all_oneCell_toArray (cellsB_one _)) ?_
            have hr : (wn.setCells (w.heap.size + 1) 0 (cellsB (X ++ N))).rangeAt g7 0 (cellsB X) ∧ (wn.setCells (w.heap.size + 1) 0 (cellsB (X ++ N))).rangeAt g7 32 (cellsB Y) ∧ (wn.setCells (w.heap.size + 1) 0 (cellsB (X ++ N))).rangeAt g3 0 (cellsB D) := by
              have k := (HK9.out _ HBwn.out).1
              have := HGW.out
              have := HGX.out
              exact ⟨World.rangeAt_setCells_apart k.1 _ _ _ (.inl (by omega)), World.rangeAt_setCells_apart k.2.1 _ _ _ (.inl (by omega)), World.rangeAt_setCells_apart k.2.2 _ _ _ (.inl (by omega))⟩
            refine hK.out _ _ hr (fun hHeld => ?_)
            clear hr
            clear hK K
            try simp only [Act.put, List.setIfInBounds_toArray, List.set_cons_zero, List.set_cons_succ]
            refine wpAnyH_done (by kernel_rfl) (NoPanic.normal ?_) _
            clear hHeld
            go_wp2_with fail
            refine bodyPost_ret (v := digestV (X ++ N)) (run_results_row Tryd.results30 _ _ (w.heap.size + 1) 0 (by rfl) (cellsB (X ++ N)) (World.rangeAt_setCells_same _ _ _ _ (by rw [cellsB_length, l3]; exact HTn.out)) _ Tryd.underlying50 (by rfl) (by rw [cellsB_length, l3]; exact Tryd.sizeRt)) rfl ⟨gr_new (HK9.out _ HBwn.out).2.2.2.2 (by omega), .inl ⟨by rw [HY.out]; omega, by rw [HE.out], ?_⟩⟩
            have := (HK9.out _ HBwn.out).2.2.2.1.other (gr_setCells (w.heap.size + 1) (cellsB (X ++ N)) 0 wn) (by have := HPB.out; omega)
            rw [HY.out, show q' + 1 - (1 + y) = q' - y by omega]
            exact this
          · have HG7 : Hid (w6.grownBy w7 (some P)) := hg7
            exact ⟨rfl, (HK5.out _ HG7.out).2.2.2.2.2, .inr ⟨by rw [HY.out]; omega, rfl⟩⟩
        · have t := GFH.out d
          have HE : Hid (rootsT m n own old pf = (nodeT D (rootsT (m - k) (n - k) false old PT).1, nodeT D (rootsT (m - k) (n - k) false old PT).2)) := t.1
          have HY : Hid (plongT m n own = 1 + plongT (m - k) (n - k) false) := t.2
          clear t GFL GFH
          have HC : Hid (Calls Tryd.prog 30 #[.pointer (some ⟨P, 0, none⟩), .int .i64 ((m - k : Nat) : Int), .int .i64 ((n - k : Nat) : Int), digestV old, .bool false] w6 fun e w' => w6.grownBy w' (some P) ∧ ((plongT (m - k) (n - k) false ≤ q' ∧ e = .returned (digestV ((rootsT (m - k) (n - k) false old PT).1 ++ (rootsT (m - k) (n - k) false old PT).2)) ∧ Pile w' P (.slice (some ⟨b, o, none⟩) (q' - plongT (m - k) (n - k) false) c)) ∨ (q' < plongT (m - k) (n - k) false ∧ e = .panicked [{ v := .iface 25 (.int .i64 3), recovered := false }]))) := HI.out (n - k) (by omega) (m - k) q' c false old _ PT P w6 ho (HK5.out _ H6.out).2.2.2.1 HPT.out HP5.out (HK5.out _ H6.out).2.2.2.2.1 (fun _ => HNE.out (by omega)) (by omega) (by omega) (by omega) (by omega) (by omega)
          have HLX : Hid (plongT (m - k) (n - k) false ≤ q' → (rootsT (m - k) (n - k) false old PT).1.length = 32 ∧ (rootsT (m - k) (n - k) false old PT).2.length = 32) := fun h => rootsT_len (n - k) (m - k) false old PT ho HPM'.out (by rw [HPTL.out]; exact h)
          clear HI HP5
          have s1 : (m : Int) - (k : Int) = ((m - k : Nat) : Int) := by omega
          have s2 : (n : Int) - (k : Int) = ((n - k : Nat) : Int) := by omega
          have b1 : m - k ≤ 256 := by omega
          have b2 : n - k ≤ 256 := by omega
          have g1 : ¬ (m : Int) ≤ (k : Int) := by omega
          generalize (rootsT (m - k) (n - k) false old PT).1 = X at *
          generalize (rootsT (m - k) (n - k) false old PT).2 = Y at *
          generalize plongT (m - k) (n - k) false = y at *
          generalize m - k = m' at *
          generalize n - k = n' at *
          have HX6 : Hid (w6.rangeAt w.heap.size 0 (cellsB old)) := (HK5.out _ H6.out).2.1
          go_wp2_with (refine wpList_load_mid (by rfl) 24 (.tmp 8) (by rfl) w.heap.size 0 (by rfl) (cellsB old) _ HX6.out Tryd.underlying24 (by rfl) (by rw [cellsB_length, ho]; exact Tryd.sizeDg) ?_)
          refine HC.out.mono ?_
          rintro e w7 ⟨hg7, ⟨hy, rfl, hP7⟩ | ⟨hy, rfl⟩⟩
          · obtain ⟨lX, lY⟩ := HLX.out hy
            have l2 := two_len lX lY
            have HG7 : Hid (w6.grownBy w7 (some P)) := hg7
            have HP7 : Hid (Pile w7 P (.slice (some ⟨b, o, none⟩) (q' - y) c)) := hP7
            clear hg7 hP7 HLX HC HX6
            obtain ⟨g7, hg7⟩ : ∃ g7, w7.heap.size = g7 := ⟨_, rfl⟩
            obtain ⟨w8, hw8⟩ : ∃ w8, w7.alloc (.cells (cellsB zR).toArray 50) = w8 := ⟨_, rfl⟩
            have HN7 : Hid (w6.heap.size ≤ g7) := by rw [← hg7]; exact HG7.out.size
            have HT8 : Hid (w8.there g7 0 64) := by rw [← hw8]; exact alloc_thereAt _ _ _ 64 _ hg7 zR_size.symm
            have hB9 : Below w7.heap.size w7 (w8.setCells g7 0 (cellsB (X ++ Y))) := below_setCells _ (by rw [hg7]; exact Nat.le_refl _) _ _ _ (by rw [← hw8]; exact (Below.refl _ _).alloc (Nat.le_refl _) _)
            have HG9 : Hid (w6.grownBy (w8.setCells g7 0 (cellsB (X ++ Y))) (some P)) := gr_trans HG7.out (gr_below hB9 _)
            have HX9 : Hid ((w8.setCells g7 0 (cellsB (X ++ Y))).rangeAt g7 0 (cellsB (X ++ Y))) := World.rangeAt_setCells_same _ _ _ _ (by rw [cellsB_length, l2]; exact HT8.out)
            have HP9 : Hid (Pile (w8.setCells g7 0 (cellsB (X ++ Y))) P (.slice (some ⟨b, o, none⟩) (q' - y) c)) := HP7.out.below hB9 HP7.out.block
            have HBG : Hid (g3 < w6.heap.size) := cell_block ((show DAt w6 g3 0 D from (HK5.out _ H6.out).1).cell 0 (by omega))
            clear hB9
            go_wp2_with (first
              | (refine wpList_allocE (by rfl) 50 (by rfl) (cellsB zR).toArray Tryd.zeroRt g7 hg7 w8 hw8 ?_)
              | (refine wpList_store_mid (by rfl) 50 (.tmp 14) (.tmp 53) (by rfl) g7 0 (cellsB (X ++ Y)).toArray (by rfl) (by rfl) (by rw [cellsB_size, l2]; exact HT8.out) (by rw [cellsB_size, l2]; exact Tryd.sizeRt) (all_oneCell_toArray (cellsB_one _)) ?_))
            generalize w8.setCells g7 0 (cellsB (X ++ Y)) = w9 at *
            have HK9 : Hid (∀ wx, Below w9.heap.size w9 wx → (wx.rangeAt g7 0 (cellsB X) ∧ wx.rangeAt g7 32 (cellsB Y) ∧ wx.rangeAt g3 0 (cellsB D)) ∧ wx.there (w.heap.size + 1) 0 64 ∧ Tab wx ∧ Pile wx P (.slice (some ⟨b, o, none⟩) (q' - y) c) ∧ w.grownBy wx (some P)) := fun wx hx => by
              have b1 : w6.grownBy wx (some P) := gr_trans HG9.out (gr_below hx _)
              have k := HK5.out _ b1
              have r := range_two HX9.out lX
              have hb : g7 < w9.heap.size := cell_block ((show DAt w9 g7 0 X from r.1).cell 0 (by omega))
              exact ⟨⟨range_below r.1 hx hb, range_below (by simpa using r.2) hx hb, k.1⟩, k.2.2.1, k.2.2.2.1, HP9.out.below hx HP9.out.block, k.2.2.2.2.2⟩
            have HGX : Hid (w.heap.size + 1 < g7) := by have := HGW.out; have := HN7.out; have := HBG.out; unfold Hid; omega
            clear hw8 hg7 HT8 HG7 HP7 HG9 HX9 HP9 HK5 H6 HN7 HBG
            refine wp_region_noPanic ?_
            refine wp_region_held_drew (S := fun wx => wx.rangeAt g7 0 (cellsB X) ∧ wx.rangeAt g7 32 (cellsB Y) ∧ wx.rangeAt g3 0 (cellsB D)) (by kernel_rfl) ((HK9.out _ (below_drewN w9 1)).1) (fun hHeld => ?_)
            try simp only [Act.put, List.setIfInBounds_toArray, List.set_cons_zero, List.set_cons_succ]
            have HBd : Hid (Below w9.heap.size w9 w9.drew) := below_drewN w9 1
            generalize w9.drew = wd at *
            refine wpAnyH_take (i := 0) (v := .agg (cellsB D).toArray) (by simp only [List.getElem?_toArray, List.getElem?_cons_zero, List.getElem?_cons_succ]; rfl) (by kernel_rfl) (by kernel_rfl) (by kernel_rfl) (fun _ _ _ h => h)
              (yieldsIf_load_mid (by rfl) _ _ rfl _ _ rfl _ _ (fun w hw => hw.2.2) Tryd.underlying24 rfl (by rw [cellsB_length, lD]; exact Tryd.sizeDg)) hHeld ?_
            try simp only [Act.put, List.setIfInBounds_toArray, List.set_cons_zero, List.set_cons_succ]
            refine wpAnyH_take (i := 1) (v := .pointer (some ⟨g7, 0, none⟩)) (by simp only [List.getElem?_toArray, List.getElem?_cons_zero, List.getElem?_cons_succ]; rfl) (by kernel_rfl) (by kernel_rfl) (by kernel_rfl) (fun _ _ _ h => h) (Or.inl ⟨by rfl, ?_⟩) hHeld ?_
            · intro w hSw
              obtain ⟨hSw0, hSw1, hSw2⟩ := hSw
              go_simp
            try simp only [Act.put, List.setIfInBounds_toArray, List.set_cons_zero, List.set_cons_succ]
            refine wpAnyH_take (i := 2) (v := .agg (cellsB X).toArray) (by simp only [List.getElem?_toArray, List.getElem?_cons_zero, List.getElem?_cons_succ]; rfl) (by kernel_rfl) (by kernel_rfl) (by kernel_rfl) (fun _ _ _ h => h)
              (yieldsIf_load_mid (by rfl) _ _ rfl _ _ rfl _ _ (fun w hw => hw.1) Tryd.underlying24 rfl (by rw [cellsB_length, lX]; exact Tryd.sizeDg)) hHeld ?_
            try simp only [Act.put, List.setIfInBounds_toArray, List.set_cons_zero, List.set_cons_succ]
            refine wpAnyH_take (i := 4) (v := .agg (cellsB D).toArray) (by simp only [List.getElem?_toArray, List.getElem?_cons_zero, List.getElem?_cons_succ]; rfl) (by kernel_rfl) (by kernel_rfl) (by kernel_rfl) (fun _ _ _ h => h)
              (yieldsIf_load_mid (by rfl) _ _ rfl _ _ rfl _ _ (fun w hw => hw.2.2) Tryd.underlying24 rfl (by rw [cellsB_length, lD]; exact Tryd.sizeDg)) hHeld ?_
            try simp only [Act.put, List.setIfInBounds_toArray, List.set_cons_zero, List.set_cons_succ]
            refine wpAnyH_take (i := 5) (v := .pointer (some ⟨g7, 32, none⟩)) (by simp only [List.getElem?_toArray, List.getElem?_cons_zero, List.getElem?_cons_succ]; rfl) (by kernel_rfl) (by kernel_rfl) (by kernel_rfl) (fun _ _ _ h => h) (Or.inl ⟨by rfl, ?_⟩) hHeld ?_
            · intro w hSw
              obtain ⟨hSw0, hSw1, hSw2⟩ := hSw
              go_simp
            try simp only [Act.put, List.setIfInBounds_toArray, List.set_cons_zero, List.set_cons_succ]
            refine wpAnyH_take (i := 6) (v := .agg (cellsB Y).toArray) (by simp only [List.getElem?_toArray, List.getElem?_cons_zero, List.getElem?_cons_succ]; rfl) (by kernel_rfl) (by kernel_rfl) (by kernel_rfl) (fun _ _ _ h => h)
              (yieldsIf_load_mid (by rfl) _ _ rfl _ _ rfl _ _ (fun w hw => hw.2.1) Tryd.underlying24 rfl (by rw [cellsB_length, lY]; exact Tryd.sizeDg)) hHeld ?_
            try simp only [Act.put, List.setIfInBounds_toArray, List.set_cons_zero, List.set_cons_succ]
            refine wpAnyH_ready (rs := [3]) (by kernel_rfl) (by simp) ?_
            refine AllReadyH.cons (by simp only [List.getElem?_toArray, List.getElem?_cons_zero, List.getElem?_cons_succ]; rfl) (fun K hK => ?_) AllReadyH.nil
            rw [if_pos (by rfl)]
            go_simp
            refine (wtree_node D X wd (HK9.out _ HBd.out).2.2.1 lD lX).mono ?_
            rintro e wm ⟨rfl, hbn⟩
            have HBwm : Hid (Below w9.heap.size w9 wm) := HBd.out.trans (hbn.mono HBd.out.size)
            have lM := nodeT_length D X
            clear hbn HBd
            generalize nodeT D X = M at *
            go_wp2_with fail
            refine hK.out _ _ (HK9.out _ HBwm.out).1 (fun hHeld => ?_)
            clear hK K
            try simp only [Act.put, List.setIfInBounds_toArray, List.set_cons_zero, List.set_cons_succ]
            refine wpAnyH_ready (rs := [7]) (by kernel_rfl) (by simp) ?_
            refine AllReadyH.cons (by simp only [List.getElem?_toArray, List.getElem?_cons_zero, List.getElem?_cons_succ]; rfl) (fun K hK => ?_) AllReadyH.nil
            rw [if_pos (by rfl)]
            go_simp
            refine (wtree_node D Y wm (HK9.out _ HBwm.out).2.2.1 lD lY).mono ?_
            rintro e wn ⟨rfl, hbn⟩
            have HBwn : Hid (Below w9.heap.size w9 wn) := HBwm.out.trans (hbn.mono HBwm.out.size)
            have lN := nodeT_length D Y
            clear hbn HBwm
            generalize nodeT D Y = N at *
            go_wp2_with fail
            refine hK.out _ _ (HK9.out _ HBwn.out).1 (fun hHeld => ?_)
            clear hK K
            try simp only [Act.put, List.setIfInBounds_toArray, List.set_cons_zero, List.set_cons_succ]
            refine wpAnyH_ready (rs := [8]) (by kernel_rfl) (by simp) ?_
            refine AllReadyH.cons (by simp only [List.getElem?_toArray, List.getElem?_cons_zero, List.getElem?_cons_succ]; rfl) (fun K hK => ?_) AllReadyH.nil
            rw [if_pos (by rfl)]
            refine wp_buildR _ _ rfl M N lM lN rfl rfl ?_
            refine hK.out _ _ (HK9.out _ HBwn.out).1 (fun hHeld => ?_)
            clear hK K
            try simp only [Act.put, List.setIfInBounds_toArray, List.set_cons_zero, List.set_cons_succ]
            refine wpAnyH_ready (rs := [9]) (by kernel_rfl) (by simp) ?_
            refine AllReadyH.cons (by simp only [List.getElem?_toArray, List.getElem?_cons_zero, List.getElem?_cons_succ]; rfl) (fun K hK => ?_) AllReadyH.nil
            rw [if_pos (by rfl)]
            have l3 := two_len lM lN
            have HTn : Hid (wn.there (w.heap.size + 1) 0 64) := (HK9.out _ HBwn.out).2.1
            refine wp_store_mid _ _ _ rfl (w.heap.size + 1) 0 (cellsB (M ++ N)).toArray rfl rfl (by rw [cellsB_size, l3]; exact HTn.out) (by rw [cellsB_size, l3]; exact Tryd.sizeRt) (all_oneCell_toArray (cellsB_one _)) ?_
            have hr : (wn.setCells (w.heap.size + 1) 0 (cellsB (M ++ N))).rangeAt g7 0 (cellsB X) ∧ (wn.setCells (w.heap.size + 1) 0 (cellsB (M ++ N))).rangeAt g7 32 (cellsB Y) ∧ (wn.setCells (w.heap.size + 1) 0 (cellsB (M ++ N))).rangeAt g3 0 (cellsB D) := by
              have k := (HK9.out _ HBwn.out).1
              have := HGW.out
              have := HGX.out
              exact ⟨World.rangeAt_setCells_apart k.1 _ _ _ (.inl (by omega)), World.rangeAt_setCells_apart k.2.1 _ _ _ (.inl (by omega)), World.rangeAt_setCells_apart k.2.2 _ _ _ (.inl (by omega))⟩
            refine hK.out _ _ hr (fun hHeld => ?_)
            clear hr
            clear hK K
            try simp only [Act.put, List.setIfInBounds_toArray, List.set_cons_zero, List.set_cons_succ]
            refine wpAnyH_done (by kernel_rfl) (NoPanic.normal ?_) _
            clear hHeld
            go_wp2_with fail
            refine bodyPost_ret (v := digestV (M ++ N)) (run_results_row Tryd.results30 _ _ (w.heap.size + 1) 0 (by rfl) (cellsB (M ++ N)) (World.rangeAt_setCells_same _ _ _ _ (by rw [cellsB_length, l3]; exact HTn.out)) _ Tryd.underlying50 (by rfl) (by rw [cellsB_length, l3]; exact Tryd.sizeRt)) rfl ⟨gr_new (HK9.out _ HBwn.out).2.2.2.2 (by omega), .inl ⟨by rw [HY.out]; omega, by rw [HE.out], ?_⟩⟩
            have := (HK9.out _ HBwn.out).2.2.2.1.other (gr_setCells (w.heap.size + 1) (cellsB (M ++ N)) 0 wn) (by have := HPB.out; omega)
            rw [HY.out, show q' + 1 - (1 + y) = q' - y by omega]
            exact this
          · have HG7 : Hid (w6.grownBy w7 (some P)) := hg7
            exact ⟨rfl, (HK5.out _ HG7.out).2.2.2.2.2, .inr ⟨by rw [HY.out]; omega, rfl⟩⟩
    · obtain rfl : m = n := by omega
      cases own with
      | true =>
        have HE : Hid (rootsT m m true old pf = (old, old)) := rootsT_own (Nat.le_refl _)
        have HY : Hid (plongT m m true = 0) := plongT_own (Nat.le_refl _)
        have l2 := two_len ho ho
        go_wp2_with (first
          | (refine wpList_allocE (by rfl) 50 (by rfl) (cellsB zR).toArray Tryd.zeroRt (w.heap.size + 1) hs1 w2 hw2 ?_)
          | (refine wpList_load_mid (by rfl) 24 (.tmp 8) (by rfl) w.heap.size 0 (by rfl) (cellsB old) _ HL2.out Tryd.underlying24 (by rfl) (by rw [cellsB_length, ho]; exact Tryd.sizeDg) ?_)
          | (refine wpList_buildR (by rfl) (.tmp 22) (.tmp 23) (by rfl) old old ho ho (by rfl) (by rfl) ?_)
          | (refine wpList_store_mid (by rfl) 50 (.tmp 10) (.tmp 24) (by rfl) (w.heap.size + 1) 0 (cellsB (old ++ old)).toArray (by rfl) (by rfl) (by rw [cellsB_size, l2]; exact HT2.out) (by rw [cellsB_size, l2]; exact Tryd.sizeRt) (all_oneCell_toArray (cellsB_one _)) ?_))
        refine bodyPost_ret (v := digestV (old ++ old)) (run_results_row Tryd.results30 _ _ (w.heap.size + 1) 0 (by rfl) (cellsB (old ++ old)) (World.rangeAt_setCells_same _ _ _ _ (by rw [cellsB_length, l2]; exact HT2.out)) _ Tryd.underlying50 (by rfl) (by rw [cellsB_length, l2]; exact Tryd.sizeRt)) rfl ⟨gr_new (gr_below HB2.out _) (by omega), .inl ⟨by rw [HY.out]; omega, by rw [HE.out], ?_⟩⟩
        rw [HY.out, Nat.sub_zero]
        exact HP2.out.other (gr_setCells _ _ _ _) (by have := HPB.out; omega)
      | false =>
        have HY : Hid (plongT m m false = 1) := plongT_all (Nat.le_refl _)
        by_cases hq0 : q = 0
        · subst hq0
          go_wp2_with (refine wpList_allocE (by rfl) 50 (by rfl) (cellsB zR).toArray Tryd.zeroRt (w.heap.size + 1) hs1 w2 hw2 ?_)
          refine (wtake_none P c a w2 HP2.out).mono ?_
          rintro e w3 ⟨rfl, hg3⟩
          exact ⟨rfl, gr_trans (gr_below HB2.out _) hg3, .inr ⟨by rw [HY.out]; omega, rfl⟩⟩
        · obtain ⟨q', rfl⟩ : ∃ q' : Nat, q = q' + 1 := ⟨q - 1, by omega⟩
          obtain ⟨b, o, rfl⟩ := (HKT.out _ H0.out).2.2.2.1.addr (by omega)
          have lD := HP32.out q' (by omega)
          have HE : Hid (rootsT m m false old pf = (pf.getD q' [], pf.getD q' [])) := by
            have := rootsT_all (m := m) (n := m) (old := old) (pf := pf) (Nat.le_refl _)
            rw [HPL.out, show q' + 1 - 1 = q' by omega] at this
            exact this
          go_wp2_with (refine wpList_allocE (by rfl) 50 (by rfl) (cellsB zR).toArray Tryd.zeroRt (w.heap.size + 1) hs1 w2 hw2 ?_)
          refine (wtake_any P b o q' c pf w2 HP2.out (HKT.out _ H0.out).2.2.2.1 (HNE.out (by omega) _ rfl) hc (by omega)).mono ?_
          rintro e w3 ⟨rfl, hP3, hg3⟩
          have HG3 : Hid (w2.grownBy w3 (some P)) := hg3
          have HP3 : Hid (Pile w3 P (.slice (some ⟨b, o, none⟩) q' c)) := hP3
          clear hg3 hP3 hw2 HP2 H0
          generalize pf.getD q' [] = D at *
          have l2 := two_len lD lD
          have HTO3 : Hid (w3.there w.heap.size 0 32) := there_gr HTO.out HG3.out (by have := HS2.out; omega) (by have := HPB.out; omega)
          have HX4 : Hid ((w3.setCells w.heap.size 0 (cellsB D)).rangeAt w.heap.size 0 (cellsB D)) := dat_stored HTO3.out lD
          have HT4 : Hid ((w3.setCells w.heap.size 0 (cellsB D)).there (w.heap.size + 1) 0 64) := World.there_setCells (HKT.out _ HG3.out).2.1 _ _ _
          have HP4 : Hid (Pile (w3.setCells w.heap.size 0 (cellsB D)) P (.slice (some ⟨b, o, none⟩) q' c)) := HP3.out.other (gr_setCells _ _ _ _) (by have := HPB.out; omega)
          have HG4 : Hid (w.grownBy (w3.setCells w.heap.size 0 (cellsB D)) (some P)) := gr_new (HKT.out _ HG3.out).2.2.2.2 (Nat.le_refl _)
          go_wp2_with (first
            | (refine wpList_store_mid (by rfl) 24 (.tmp 8) (.tmp 21) (by rfl) w.heap.size 0 (cellsB D).toArray (by rfl) (by rfl) (by rw [cellsB_size, lD]; exact HTO3.out) (by rw [cellsB_size, lD]; exact Tryd.sizeDg) (all_oneCell_toArray (cellsB_one _)) ?_)
            | (refine wpList_load_mid (by rfl) 24 (.tmp 8) (by rfl) w.heap.size 0 (by rfl) (cellsB D) _ HX4.out Tryd.underlying24 (by rfl) (by rw [cellsB_length, lD]; exact Tryd.sizeDg) ?_)
            | (refine wpList_buildR (by rfl) (.tmp 22) (.tmp 23) (by rfl) D D lD lD (by rfl) (by rfl) ?_)
            | (refine wpList_store_mid (by rfl) 50 (.tmp 10) (.tmp 24) (by rfl) (w.heap.size + 1) 0 (cellsB (D ++ D)).toArray (by rfl) (by rfl) (by rw [cellsB_size, l2]; exact HT4.out) (by rw [cellsB_size, l2]; exact Tryd.sizeRt) (all_oneCell_toArray (cellsB_one _)) ?_))
          refine bodyPost_ret (v := digestV (D ++ D)) (run_results_row Tryd.results30 _ _ (w.heap.size + 1) 0 (by rfl) (cellsB (D ++ D)) (World.rangeAt_setCells_same _ _ _ _ (by rw [cellsB_length, l2]; exact HT4.out)) _ Tryd.underlying50 (by rfl) (by rw [cellsB_length, l2]; exact Tryd.sizeRt)) rfl ⟨gr_new HG4.out (by omega), .inl ⟨by rw [HY.out]; omega, by rw [HE.out], ?_⟩⟩
          rw [HY.out, show q' + 1 - 1 = q' by omega]
          exact HP4.out.other (gr_setCells _ _ _ _) (by have := HPB.out; omega)
end Go.Proofs.YtdldkhhcicjbmabDoor
/- The contracts of grow.takeApart and of what it defers. -/
namespace Go.Proofs.YtdldkhhcicjbmabDoor
open Go.RowKit
set_option linter.unusedVariables false
set_option linter.unusedSimpArgs false

theorem pile_new (w : World) (v : Value) (t : TypeId) : Pile (w.alloc (.cells #[v] t)) w.heap.size v := by
  have h : (w.alloc (.cells #[v] t)).heap[w.heap.size]? = some (.cells #[v] t) := by
    show (w.heap.push _)[w.heap.size]? = _
    simp
  refine ⟨?_, ?_⟩
  · unfold World.cell?
    rw [h]
    simp
  · unfold World.frozen?
    rw [h]
    simp
theorem run_loadErr (w : World) (g : Nat) (v : Value) (hv : w.cell? ⟨g, 0, none⟩ = some v) : (loadVar 28 ⟨g, 0, none⟩).run Tryd.prog w = .ok v w := by
  simp [loadVar, isAgg, run_underlying Tryd.underlying28, run_load, hv, Sem.run_bind, Result.andThen]
/-- An answer of two: digests that lie in a variable, and an error that lies in one. -/
theorem run_results_two {fn : Func} {p q : Tmp} {ty : TypeId} (h : fn.results = #[.cell p ty, .cell q 28]) (tmps : Array Value) (w : World) (b o g : Nat) (hp : tmps.getD p undef = .pointer (some ⟨b, o, none⟩)) (hq : tmps.getD q undef = .pointer (some ⟨g, 0, none⟩)) (v : Value) (hv : w.cell? ⟨g, 0, none⟩ = some v)
    (cs : List Value) (hc : w.rangeAt b o cs) (d : TypeDesc) (hu : Tryd.prog.underlying ty = some d) (hd : d.isRow = true) (hi : (Tryd.prog.info? ty).map (·.size) = some cs.length) :
    (results fn tmps).run Tryd.prog w = .ok (.tuple #[.agg cs.toArray, v]) w := by
  have hp' : tmps[p]?.getD undef = .pointer (some ⟨b, o, none⟩) := by simpa using hp
  have hq' : tmps[q]?.getD undef = .pointer (some ⟨g, 0, none⟩) := by simpa using hq
  simp only [results, h]
  simp [Sem.run_bind, Result.andThen, hp', hq', asAddr, run_loadVar_mid w b o ty cs d hc hu hd hi, run_loadErr w g v hv]
set_option maxRecDepth 100000 in
set_option maxHeartbeats 1000000 in
theorem wcatch_idle (g h : Nat) (w : World) :
    CallsD Tryd.prog 29 #[.pointer (some ⟨g, 0, none⟩), .pointer (some ⟨h, 0, none⟩)] .returning w fun e u' w' => e = .returned (.tuple #[]) ∧ u' = .returning ∧ w' = w := by
  refine callsD_of_wpS Tryd.func29 rfl fun c₀ cs hu => ?_
  apply wpS_seq
  apply wpS_region
  simp [wpOpsS, go_sem, recoverD, hu, Tryd.ntmps29, Exit.thenS]
  refine wpS_of_wp ?_
  go_wp2
  cases c₀
  simp_all [bodyPostS, results, Tryd.results29, Exit.thenS]
set_option maxRecDepth 100000 in
set_option maxHeartbeats 1000000 in
theorem wcatch_panic (g h : Nat) (v0 : Value) (w : World) (HT : w.there g 0 64) (HE : Pile w h v0) (hne : h ≠ g) :
    CallsD Tryd.prog 29 #[.pointer (some ⟨g, 0, none⟩), .pointer (some ⟨h, 0, none⟩)] (.panicking [{ v := .iface 25 (.int .i64 3), recovered := false }]) w fun e u' w' => e = .returned (.tuple #[]) ∧ settle u' = .returning ∧ w' = (w.setCells g 0 (cellsB zR)).setCell ⟨h, 0, none⟩ (.iface 25 (.int .i64 3)) := by
  refine callsD_of_wpS Tryd.func29 rfl fun c₀ cs hu => ?_
  have HT' : Hid (w.there g 0 64) := HT
  have hE := HE.other (gr_setCells g (cellsB zR) 0 w) hne
  have hc := hE.1
  have hf := hE.2
  clear HT HE hE
  apply wpS_seq
  apply wpS_region
  simp [wpOpsS, go_sem, recoverD, hu, Tryd.ntmps29, Exit.thenS]
  refine wpS_of_wp ?_
  have hta : (#[Value.pointer (some ⟨g, 0, none⟩), Value.pointer (some ⟨h, 0, none⟩)] ++ (Array.replicate 12 undef).setIfInBounds 3 (.iface 25 (.int .i64 3)) : Array Value) = #[Value.pointer (some ⟨g, 0, none⟩), Value.pointer (some ⟨h, 0, none⟩), undef, undef, undef, .iface 25 (.int .i64 3), undef, undef, undef, undef, undef, undef, undef, undef] := by rfl
  rw [hta]
  clear hta
  have hta : ∀ wx : World, (Instr.typeAssert (.iface 25 (.int .i64 3)) 20 25 true).run Tryd.prog wx = .ok (.tuple #[.int .i64 3, .bool true]) wx := fun wx => by kernel_rfl
  go_wp2_with (first
    | (refine wpList_buildC (by rfl) 50 _ (by rfl) (cellsB zR).toArray (by kernel_rfl) ?_)
    | (refine wpList_store_mid (by rfl) 50 (.tmp 0) (.tmp 11) (by rfl) g 0 (cellsB zR).toArray (by rfl) (by rfl) (by rw [cellsB_size, show zR.length = 64 from rfl]; exact HT'.out) (by rw [cellsB_size, show zR.length = 64 from rfl]; exact Tryd.sizeRt) (all_oneCell_toArray (cellsB_one _)) ?_))
  cases c₀
  simp_all [bodyPostS, results, Tryd.results29, Exit.thenS]
  rfl
set_option maxRecDepth 100000 in
set_option maxHeartbeats 4000000 in
theorem wapart_any (m n p c : Nat) (old : List UInt8) (a : Option Addr) (pf : List (List UInt8)) (w : World) (G : Tab w) (ho : old.length = 32) (R : DRow w a p pf) (hc : p ≤ c) (hp2 : 32 * p ≤ 140737488351232) (h1 : 1 ≤ m) (hm : m ≤ n) (hn : n ≤ 256) :
    Calls Tryd.prog 22 #[.int .i64 (m : Int), .int .i64 (n : Int), digestV old, .slice a p c] w fun e w' => ((p = plongT m n true ∧ e = .returned (.tuple #[digestV ((rootsT m n true old pf).1 ++ (rootsT m n true old pf).2), .nilIface])) ∨ (p ≠ plongT m n true ∧ e = .returned (.tuple #[digestV zR, .iface 25 (.int .i64 3)]))) ∧ Below w.heap.size w w' := by
  obtain ⟨w2, hw2⟩ : ∃ w2, (w.alloc (.cells (cellsB old).toArray 24)).alloc (.cells (cellsB zR).toArray 50) = w2 := ⟨_, rfl⟩
  have hs1 : (w.alloc (.cells (cellsB old).toArray 24)).heap.size = w.heap.size + 1 := by simp
  have HS2 : Hid (w2.heap.size = w.heap.size + 1 + 1) := by unfold Hid; rw [← hw2]; simp
  have hB2 : Below w.heap.size w w2 := by rw [← hw2]; exact ((Below.refl _ _).alloc (Nat.le_refl _) _).alloc (by simp) _
  have hL2 : DAt w2 w.heap.size 0 old := by rw [← hw2]; exact World.rangeAt_alloc (box_dat w old _) _
  have hT2 : w2.there (w.heap.size + 1) 0 64 := by rw [← hw2]; exact alloc_thereAt _ _ _ 64 _ hs1 zR_size.symm
  have hB3 : Below w2.heap.size w2 (w2.alloc (.cells #[.nilIface] 28)) := (Below.refl _ _).alloc (Nat.le_refl _) _
  have hB4 : Below w2.heap.size w2 ((w2.alloc (.cells #[.nilIface] 28)).alloc (.cells #[.slice a p c] 57)) := hB3.alloc (by simp) _
  have hE3 : Pile (w2.alloc (.cells #[.nilIface] 28)) w2.heap.size .nilIface := pile_new _ _ _
  have hE4 : Pile ((w2.alloc (.cells #[.nilIface] 28)).alloc (.cells #[.slice a p c] 57)) w2.heap.size .nilIface := hE3.below ((Below.refl _ _).alloc (Nat.le_refl _) _) hE3.block
  have hP4 : Pile ((w2.alloc (.cells #[.nilIface] 28)).alloc (.cells #[.slice a p c] 57)) (w2.heap.size + 1) (.slice a p c) := by
    have := pile_new (w2.alloc (.cells #[.nilIface] 28)) (.slice a p c) 57
    rwa [show (w2.alloc (.cells #[.nilIface] 28)).heap.size = w2.heap.size + 1 by simp] at this
  have hBw : Below w.heap.size w ((w2.alloc (.cells #[.nilIface] 28)).alloc (.cells #[.slice a p c] 57)) := hB2.trans (hB4.mono (by have := HS2.out; omega))
  have HX4 : Hid (((w2.alloc (.cells #[.nilIface] 28)).alloc (.cells #[.slice a p c] 57)).rangeAt w.heap.size 0 (cellsB old)) := hL2.below hB4 (by have := HS2.out; omega)
  have HKT : Hid (∀ wx, ((w2.alloc (.cells #[.nilIface] 28)).alloc (.cells #[.slice a p c] 57)).grownBy wx (some (w2.heap.size + 1)) → wx.there (w.heap.size + 1) 0 64 ∧ Pile wx w2.heap.size .nilIface ∧ Below w.heap.size w wx) := fun wx hx => by
    have s := HS2.out
    have t4 : ((w2.alloc (.cells #[.nilIface] 28)).alloc (.cells #[.slice a p c] 57)).there (w.heap.size + 1) 0 64 := there_below hT2 hB4 (by omega)
    exact ⟨there_gr t4 hx (there_block t4 (by omega)) (by omega), hE4.other hx (by omega), below_gr hBw hx hBw.size (by omega)⟩
  have HRB : 0 < p → ∀ ad, a = some ad → ad.block ≠ w2.heap.size + 1 := fun hp ad hx => by
    obtain ⟨b, o, rfl⟩ := R.addr hp
    cases hx
    have d := (R.at 0 hp).cell 0 (by rw [R.len 0 hp]; omega)
    have := cell_block d
    have s := HS2.out
    show b ≠ _
    have : b < w.heap.size := this
    omega
  have HTB : w2.heap.size + 1 ≠ 1 := by
    have := cell_block (G 0 (by omega))
    have s := HS2.out
    have : 1 < w.heap.size := this
    omega
  have HC : Hid (Calls Tryd.prog 30 #[.pointer (some ⟨w2.heap.size + 1, 0, none⟩), .int .i64 (m : Int), .int .i64 (n : Int), digestV old, .bool true] ((w2.alloc (.cells #[.nilIface] 28)).alloc (.cells #[.slice a p c] 57)) fun e w' => ((w2.alloc (.cells #[.nilIface] 28)).alloc (.cells #[.slice a p c] 57)).grownBy w' (some (w2.heap.size + 1)) ∧ ((plongT m n true ≤ p ∧ e = .returned (digestV ((rootsT m n true old pf).1 ++ (rootsT m n true old pf).2)) ∧ Pile w' (w2.heap.size + 1) (.slice a (p - plongT m n true) c)) ∨ (p < plongT m n true ∧ e = .panicked [{ v := .iface 25 (.int .i64 3), recovered := false }]))) := wgfold_any n m p c true old a pf (w2.heap.size + 1) _ ho (G.below hBw) HTB hP4 (R.below hBw) HRB hc (by omega) h1 hm hn
  have HLX : Hid (plongT m n true ≤ p → (rootsT m n true old pf).1.length = 32 ∧ (rootsT m n true old pf).2.length = 32) := fun h => rootsT_len n m true old pf ho R.2.1 (by rw [R.1]; exact h)
  clear hB2 hL2 hT2 hB3 hB4 hE3 hE4 hP4 hBw HRB HTB R G
  have hmf : ∀ (fn : Fn) (first cap : Array Value) (w : World), (Instr.makeFunc fn first cap).run Tryd.prog w = .ok (.func fn first cap) w := fun _ _ _ _ => rfl
  go_enter_defers Tryd.func22, Tryd.ntmps22
  go_wp2_with (first
    | (refine wpList_allocE (by rfl) 50 (by rfl) (cellsB zR).toArray Tryd.zeroRt (w.heap.size + 1) hs1 w2 hw2 ?_)
    | (refine wpList_load_mid (by rfl) 24 (.tmp 6) (by rfl) w.heap.size 0 (by rfl) (cellsB old) _ HX4.out Tryd.underlying24 (by rfl) (by rw [cellsB_length, ho]; exact Tryd.sizeDg) ?_))
  refine HC.out.mono ?_
  rintro e w5 ⟨hg5, ⟨hy, rfl, hP5⟩ | ⟨hy, rfl⟩⟩
  · obtain ⟨lX, lY⟩ := HLX.out hy
    have l2 := two_len lX lY
    have HK := HKT.out _ hg5
    have HG5 : Hid (w5.there (w.heap.size + 1) 0 64) := HK.1
    have HE5 : Hid (Pile w5 w2.heap.size .nilIface) := HK.2.1
    have HB5 : Hid (Below w.heap.size w w5) := HK.2.2
    have hP6 : Pile (w5.setCells (w.heap.size + 1) 0 (cellsB ((rootsT m n true old pf).1 ++ (rootsT m n true old pf).2))) (w2.heap.size + 1) (.slice a (p - plongT m n true) c) := hP5.other (gr_setCells _ _ _ _) (by have := HS2.out; omega)
    have hc6 := hP6.1
    clear hg5 hP5 HK hP6 HC HKT HX4 HLX hw2 hmf
    generalize hX : (rootsT m n true old pf).1 = X at *
    generalize hY : (rootsT m n true old pf).2 = Y at *
    generalize hZ : plongT m n true = y at *
    have HE : Hid ((rootsT m n true old pf).1 = X ∧ (rootsT m n true old pf).2 = Y ∧ plongT m n true = y) := ⟨hX, hY, hZ⟩
    clear hX hY hZ
    by_cases hpy : p = y
    · subst hpy
      rw [Nat.sub_self] at hc6
      have HX6 : Hid ((w5.setCells (w.heap.size + 1) 0 (cellsB (X ++ Y))).rangeAt (w.heap.size + 1) 0 (cellsB (X ++ Y))) := World.rangeAt_setCells_same _ _ _ _ (by rw [cellsB_length, l2]; exact HG5.out)
      have HT6 : Hid ((w5.setCells (w.heap.size + 1) 0 (cellsB (X ++ Y))).there (w.heap.size + 1) 0 64) := World.there_setCells HG5.out _ _ _
      have hE7 : Pile ((w5.setCells (w.heap.size + 1) 0 (cellsB (X ++ Y))).setCells (w.heap.size + 1) 0 (cellsB (X ++ Y))) w2.heap.size .nilIface := (HE5.out.other (gr_setCells _ _ _ _) (by have := HS2.out; omega)).other (gr_setCells _ _ _ _) (by have := HS2.out; omega)
      have hX7 : ((w5.setCells (w.heap.size + 1) 0 (cellsB (X ++ Y))).setCells (w.heap.size + 1) 0 (cellsB (X ++ Y))).rangeAt (w.heap.size + 1) 0 (cellsB (X ++ Y)) := World.rangeAt_setCells_same _ _ _ _ (by rw [cellsB_length, l2]; exact HT6.out)
      have HX8 : Hid ((((w5.setCells (w.heap.size + 1) 0 (cellsB (X ++ Y))).setCells (w.heap.size + 1) 0 (cellsB (X ++ Y))).setCell ⟨w2.heap.size, 0, none⟩ .nilIface).rangeAt (w.heap.size + 1) 0 (cellsB (X ++ Y))) := range_set hX7 _ _ _ (by have := HS2.out; omega)
      have HE8 : Hid (Pile (((w5.setCells (w.heap.size + 1) 0 (cellsB (X ++ Y))).setCells (w.heap.size + 1) 0 (cellsB (X ++ Y))).setCell ⟨w2.heap.size, 0, none⟩ .nilIface) w2.heap.size .nilIface) := hE7.set _
      have HB8 : Hid (Below w.heap.size w (((w5.setCells (w.heap.size + 1) 0 (cellsB (X ++ Y))).setCells (w.heap.size + 1) 0 (cellsB (X ++ Y))).setCell ⟨w2.heap.size, 0, none⟩ .nilIface)) := Below.setCell (below_setCells (w.heap.size + 1) (by omega) _ _ _ (below_setCells (w.heap.size + 1) (by omega) _ _ _ HB5.out)) (p := ⟨w2.heap.size, 0, none⟩) (by have := HS2.out; show w.heap.size ≤ w2.heap.size; omega) _
      have hc7 := hE7.1
      have hf7 := hE7.2
      clear hE7 hX7
      go_wp2_with (first
        | (refine wpList_store_mid (by rfl) 50 (.tmp 8) (.tmp 16) (by rfl) (w.heap.size + 1) 0 (cellsB (X ++ Y)).toArray (by rfl) (by rfl) (by rw [cellsB_size, l2]; exact HG5.out) (by rw [cellsB_size, l2]; exact Tryd.sizeRt) (all_oneCell_toArray (cellsB_one _)) ?_)
        | (refine wpList_load_mid (by rfl) 50 (.tmp 8) (by rfl) (w.heap.size + 1) 0 (by rfl) (cellsB (X ++ Y)) _ HX6.out Tryd.underlying50 (by rfl) (by rw [cellsB_length, l2]; exact Tryd.sizeRt) ?_)
        | (refine wpList_store_mid (by rfl) 50 (.tmp 8) (.tmp 22) (by rfl) (w.heap.size + 1) 0 (cellsB (X ++ Y)).toArray (by rfl) (by rfl) (by rw [cellsB_size, l2]; exact HT6.out) (by rw [cellsB_size, l2]; exact Tryd.sizeRt) (all_oneCell_toArray (cellsB_one _)) ?_))
      refine leaves_cons (f := 29) (args := #[.pointer (some ⟨w.heap.size + 1, 0, none⟩), .pointer (some ⟨w2.heap.size, 0, none⟩)]) (by simp) (by simp [go_sem]) ?_
      refine (wcatch_idle (w.heap.size + 1) w2.heap.size _).mono ?_
      rintro e u' w'' ⟨rfl, rfl, rfl⟩
      exact ⟨_, run_results_two Tryd.results22 _ _ (w.heap.size + 1) 0 w2.heap.size (by rfl) (by rfl) _ HE8.out.1 (cellsB (X ++ Y)) HX8.out _ Tryd.underlying50 (by rfl) (by rw [cellsB_length, l2]; exact Tryd.sizeRt), .inl ⟨HE.out.2.2.symm, by rw [HE.out.1, HE.out.2.1]⟩, HB8.out⟩
    · have g1 : (0 : Int) < ((p - y : Nat) : Int) := by omega
      have g2 : ((p - y : Nat) : Int) ≤ 140737488351232 := by omega
      generalize p - y = z at *
      have lZ := zR_len
      have hbu : Tryd.prog.built 50 [] = some (cellsB zR).toArray := by kernel_rfl
      obtain ⟨Z, hZ⟩ : ∃ Z, zR = Z := ⟨_, rfl⟩
      have HZ : Hid (zR = Z) := hZ
      rw [hZ] at lZ hbu
      have HBU : Hid (Tryd.prog.built 50 [] = some (cellsB Z).toArray) := hbu
      clear hZ hbu
      have HT6 : Hid ((w5.setCells (w.heap.size + 1) 0 (cellsB (X ++ Y))).there (w.heap.size + 1) 0 64) := World.there_setCells HG5.out _ _ _
      have hE7 : Pile ((w5.setCells (w.heap.size + 1) 0 (cellsB (X ++ Y))).setCells (w.heap.size + 1) 0 (cellsB Z)) w2.heap.size .nilIface := (HE5.out.other (gr_setCells _ _ _ _) (by have := HS2.out; omega)).other (gr_setCells _ _ _ _) (by have := HS2.out; omega)
      have hX7 : ((w5.setCells (w.heap.size + 1) 0 (cellsB (X ++ Y))).setCells (w.heap.size + 1) 0 (cellsB Z)).rangeAt (w.heap.size + 1) 0 (cellsB Z) := World.rangeAt_setCells_same _ _ _ _ (by rw [cellsB_length, lZ]; exact HT6.out)
      have HX8 : Hid ((((w5.setCells (w.heap.size + 1) 0 (cellsB (X ++ Y))).setCells (w.heap.size + 1) 0 (cellsB Z)).setCell ⟨w2.heap.size, 0, none⟩ (.iface 25 (.int .i64 3))).rangeAt (w.heap.size + 1) 0 (cellsB Z)) := range_set hX7 _ _ _ (by have := HS2.out; omega)
      have HE8 : Hid (Pile (((w5.setCells (w.heap.size + 1) 0 (cellsB (X ++ Y))).setCells (w.heap.size + 1) 0 (cellsB Z)).setCell ⟨w2.heap.size, 0, none⟩ (.iface 25 (.int .i64 3))) w2.heap.size (.iface 25 (.int .i64 3))) := hE7.set _
      have HB8 : Hid (Below w.heap.size w (((w5.setCells (w.heap.size + 1) 0 (cellsB (X ++ Y))).setCells (w.heap.size + 1) 0 (cellsB Z)).setCell ⟨w2.heap.size, 0, none⟩ (.iface 25 (.int .i64 3)))) := Below.setCell (below_setCells (w.heap.size + 1) (by omega) _ _ _ (below_setCells (w.heap.size + 1) (by omega) _ _ _ HB5.out)) (p := ⟨w2.heap.size, 0, none⟩) (by have := HS2.out; show w.heap.size ≤ w2.heap.size; omega) _
      have hc7 := hE7.1
      have hf7 := hE7.2
      clear hE7 hX7
      go_wp2_with (first
        | (refine wpList_store_mid (by rfl) 50 (.tmp 8) (.tmp 16) (by rfl) (w.heap.size + 1) 0 (cellsB (X ++ Y)).toArray (by rfl) (by rfl) (by rw [cellsB_size, l2]; exact HG5.out) (by rw [cellsB_size, l2]; exact Tryd.sizeRt) (all_oneCell_toArray (cellsB_one _)) ?_)
        | (refine wpList_buildC (by rfl) 50 #[] (by rfl) (cellsB Z).toArray (by simpa using HBU.out) ?_)
        | (refine wpList_store_mid (by rfl) 50 (.tmp 8) (.tmp 20) (by rfl) (w.heap.size + 1) 0 (cellsB Z).toArray (by rfl) (by rfl) (by rw [cellsB_size, lZ]; exact HT6.out) (by rw [cellsB_size, lZ]; exact Tryd.sizeRt) (all_oneCell_toArray (cellsB_one _)) ?_))
      refine leaves_cons (f := 29) (args := #[.pointer (some ⟨w.heap.size + 1, 0, none⟩), .pointer (some ⟨w2.heap.size, 0, none⟩)]) (by simp) (by simp [go_sem]) ?_
      refine (wcatch_idle (w.heap.size + 1) w2.heap.size _).mono ?_
      rintro e u' w'' ⟨rfl, rfl, rfl⟩
      exact ⟨_, run_results_two Tryd.results22 _ _ (w.heap.size + 1) 0 w2.heap.size (by rfl) (by rfl) _ HE8.out.1 (cellsB Z) HX8.out _ Tryd.underlying50 (by rfl) (by rw [cellsB_length, lZ]; exact Tryd.sizeRt), .inr ⟨by rw [HE.out.2.2]; exact hpy, by rw [HZ.out]⟩, HB8.out⟩
  · have HK := HKT.out _ hg5
    have HX8 : Hid (((w5.setCells (w.heap.size + 1) 0 (cellsB zR)).setCell ⟨w2.heap.size, 0, none⟩ (.iface 25 (.int .i64 3))).rangeAt (w.heap.size + 1) 0 (cellsB zR)) := range_set (World.rangeAt_setCells_same _ _ _ _ (by rw [cellsB_length, zR_len]; exact HK.1)) _ _ _ (by have := HS2.out; omega)
    have HE8 : Hid (Pile ((w5.setCells (w.heap.size + 1) 0 (cellsB zR)).setCell ⟨w2.heap.size, 0, none⟩ (.iface 25 (.int .i64 3))) w2.heap.size (.iface 25 (.int .i64 3))) := (HK.2.1.other (gr_setCells _ _ _ _) (by have := HS2.out; omega)).set _
    have HB8 : Hid (Below w.heap.size w ((w5.setCells (w.heap.size + 1) 0 (cellsB zR)).setCell ⟨w2.heap.size, 0, none⟩ (.iface 25 (.int .i64 3)))) := Below.setCell (below_setCells (w.heap.size + 1) (by omega) _ _ _ HK.2.2) (p := ⟨w2.heap.size, 0, none⟩) (by have := HS2.out; show w.heap.size ≤ w2.heap.size; omega) _
    refine leaves_cons (f := 29) (args := #[.pointer (some ⟨w.heap.size + 1, 0, none⟩), .pointer (some ⟨w2.heap.size, 0, none⟩)]) (by simp) (by simp [go_sem]) ?_
    refine (wcatch_panic (w.heap.size + 1) w2.heap.size .nilIface _ HK.1 HK.2.1 (by have := HS2.out; omega)).mono ?_
    rintro e u' w'' ⟨rfl, hu', rfl⟩
    show Leaves _ _ _ _ [] (settle u') _
    rw [hu']
    exact ⟨_, run_results_two Tryd.results22 _ _ (w.heap.size + 1) 0 w2.heap.size (by rfl) (by rfl) _ HE8.out.1 (cellsB zR) HX8.out _ Tryd.underlying50 (by rfl) (by rw [cellsB_length, zR_len]; exact Tryd.sizeRt), .inr ⟨by omega, rfl⟩, HB8.out⟩
end Go.Proofs.YtdldkhhcicjbmabDoor
