/- Texts of this claim, joined: Facttr, Lgrown, Rgrow2, Ldiffers. -/
import Derived.Test.YtdldkhhcicjbmabDoorJ14
import Derived.Test.YtdldkhhcicjbmabDoorJ06
import Derived.Test.YtdldkhhcicjbmabDoorJ07
import Derived.Deep.RegionHeld3
/- What the root of two leaves, {1} and {2}, is: not bytes 0. -/
namespace Go.Proofs.YtdldkhhcicjbmabDoor
open Go.RowKit
set_option linter.unusedVariables false
set_option linter.unusedSimpArgs false
def dOne : List UInt8 := 1 :: List.replicate 31 0
def dTwo : List UInt8 := 2 :: List.replicate 31 0
theorem tree_word : shaK (fun h => at' h 0) 65 (nums (1 :: (dOne ++ dTwo))) = 2135979342 := by decide +kernel
theorem tree_word2 : at' (shaW (1 :: (dOne ++ dTwo))) 0 = 2135979342 := by
  rw [← tree_word]
  exact (shaK_eq (fun h => at' h 0) (1 :: (dOne ++ dTwo)) 65 rfl).symm
theorem tree_ne : nodeT dOne dTwo ≠ zD := by
  intro h
  have e : nodeT dOne dTwo = outL (shaW (1 :: (dOne ++ dTwo))) := rfl
  have hn := nth_outL (shaW (1 :: (dOne ++ dTwo))) 0 (by omega)
  rw [← e, h] at hn
  have e0 : at' (shaW (1 :: (dOne ++ dTwo))) (0 / 4) = at' (shaW (1 :: (dOne ++ dTwo))) 0 := rfl
  rw [e0, tree_word2] at hn
  exact absurd hn (by decide)
theorem root_two : rootT [dOne, dTwo] = nodeT dOne dTwo := by
  have h2 : halfT 2 = 1 := by decide
  rw [rootT_two (by simp)]
  rw [show [dOne, dTwo].length = 2 from rfl, h2]
  rw [rootT_one (by rfl), rootT_one (by rfl)]
  rfl
end Go.Proofs.YtdldkhhcicjbmabDoor
/- The laws' grown: the proof of one of two leaves is the other one. -/
namespace Go.Proofs.YtdldkhhcicjbmabDoor
open Go.RowKit
set_option linter.unusedVariables false
set_option linter.unusedSimpArgs false

theorem proof_two : proofT [dOne, dTwo] 1 true = [dTwo] := by
  have h : halfT 2 = 1 := by decide
  rw [proofT_lo (by simp) (by simp) (by show 1 ≤ halfT 2; omega)]
  show proofT (List.take (halfT 2) [dOne, dTwo]) 1 true ++ [rootT (List.drop (halfT 2) [dOne, dTwo])] = [dTwo]
  rw [h, proofT_own (by simp), rootT_one (by simp)]
  rfl
theorem plong_two : plongT 1 2 true = 1 := by
  have h : halfT 2 = 1 := by decide
  rw [plongT_lo (by omega) (by omega) (by omega), h, plongT_own (by omega)]
set_option maxRecDepth 100000 in
set_option maxHeartbeats 1000000 in
theorem lgrown_any (w : World) (G : Env w) :
    Calls Tryd.prog 14 #[] w fun e w' => e = .returned (.bool true) ∧ Below w.heap.size w w' := by
  obtain ⟨iD, hiD, hzD0, hzD1, hzD2⟩ := info_parts Tryd.infoDg
  have l1 : dOne.length = 32 := rfl
  have l2 : dTwo.length = 32 := rfl
  have HB2 : Hid (Below w.heap.size w (w.alloc (.cells (cellsB (dOne ++ dTwo)).toArray 24))) := (Below.refl _ _).alloc (Nat.le_refl _) _
  have HCP : Hid (Calls Tryd.prog 7 #[.slice (some ⟨w.heap.size, 0, none⟩) 2 2, .int .i64 1] (w.alloc (.cells (cellsB (dOne ++ dTwo)).toArray 24)) fun e w' => (∃ a' c', e = .returned (.tuple #[.slice a' 1 c', .nilIface]) ∧ 1 ≤ c' ∧ DRow w' a' 1 [dTwo]) ∧ Below (w.alloc (.cells (cellsB (dOne ++ dTwo)).toArray 24)).heap.size (w.alloc (.cells (cellsB (dOne ++ dTwo)).toArray 24)) w') := by
    have := wgrow_proof _ 2 2 1 _ _ (G.below HB2.out) (DRow.lit2 w dOne dTwo 24 l1 l2) (Nat.le_refl _) (by omega) (by omega) (by omega)
    rw [proof_two, plong_two] at this
    exact this
  clear G
  go_enter Tryd.func14, Tryd.ntmps14
  go_wp2_with (first
    | (refine wpList_buildC (by rfl) 24 #[(0, .const (.int .u8 1))] (by rfl) (cellsB dOne).toArray (by kernel_rfl) ?_)
    | (refine wpList_buildC (by rfl) 24 #[(0, .const (.int .u8 2))] (by rfl) (cellsB dTwo).toArray (by kernel_rfl) ?_)
    | (refine wpList_build2 (by rfl) (.tmp 4) (.tmp 5) 22 (by rfl) 24 (.agg zeros32) iD dOne dTwo l1 l2 (by rfl) (by rfl) Tryd.underlying22 hiD hzD0 (by rfl) hzD1 ?_))
  refine HCP.out.mono ?_
  rintro e w3 ⟨⟨a', c', rfl, hc', R3⟩, hb3⟩
  have HB3 : Hid (Below w.heap.size w w3) := below_trans HB2.out hb3
  obtain ⟨b, o, rfl⟩ := R3.addr (by omega)
  have hX0 : DAt w3 b o dTwo := by have := R3.at 0 (by omega); simpa using this
  have HX : Hid (DAt w3 b o dTwo) := hX0
  clear hb3 HB2 HCP R3 hX0
  go_wp2_with (first
    | (refine wpList_load_midG (by rfl) 24 (.tmp 19) (by rfl) b o (by rfl) (cellsB dTwo) _ HX.out Tryd.underlying24 (by rfl) (by rw [cellsB_length, l2]; exact Tryd.sizeDg) ?_)
    | (refine wpList_eqD (.tmp 20) (.tmp 21) (by rfl) (by rfl) dTwo dTwo l2 l2 (by rfl) (by rfl) true (decide_eq_true rfl) ?_))
  go_ret
  exact ⟨rfl, HB3.out⟩
end Go.Proofs.YtdldkhhcicjbmabDoor
/- The contract of oathbookref1.Roots: it calls itself. -/
namespace Go.Proofs.YtdldkhhcicjbmabDoor
open Go.RowKit
set_option linter.unusedVariables false
set_option linter.unusedSimpArgs false

theorem wp_buildD2 {w : World} {o : Oper} {a : Act} {K : Act → World → Prop} {Q : Exit → Act → World → Prop} (x y : Operand) (ho : o.op = .buildSlice 22 2 #[(0, x), (1, y)])
    (l r : List UInt8) (hl : l.length = 32) (hr : r.length = 32) (hx : a.eval x = digestV l) (hy : a.eval y = digestV r)
    (h : K (a.put o.dst (.slice (some ⟨w.heap.size, 0, none⟩) 2 2)) (w.alloc (.cells (cellsB (l ++ r)).toArray 24))) : o.wp Tryd.prog a w K Q := by
  obtain ⟨i0, hi, hz0, hz1, hz2⟩ := info_parts Tryd.infoDg
  have hrun := run_buildD (P := Tryd.prog) w 22 24 (.agg zeros32) i0 [l, r] (by intro q hq; simp only [List.mem_cons, List.not_mem_nil, or_false] at hq; rcases hq with rfl | rfl <;> assumption) (by simp) (by simp) Tryd.underlying22 hi hz0 (by rfl) hz1
  simp only [List.length_cons, List.length_nil, List.zipIdx_cons, List.zipIdx_nil, List.map_cons, List.map_nil, List.flatten_cons, List.flatten_nil, List.append_nil, Nat.zero_add, Nat.reduceAdd] at hrun
  unfold Oper.wp
  simp [execOp, ho, hx, hy, hrun, Result.andThen]
  exact h
theorem DRow.two {w : World} {g : Nat} {A B : List UInt8} (h : DRow w (some ⟨g, 0, none⟩) 2 [A, B]) : DAt w g 0 A ∧ DAt w g 32 B ∧ A.length = 32 ∧ B.length = 32 := by
  have h0 := h.at 0 (by omega)
  have h1 := h.at 1 (by omega)
  refine ⟨by simpa using h0, by simpa using h1, h.2.1 A (by simp), h.2.1 B (by simp)⟩
set_option maxRecDepth 100000 in
set_option maxHeartbeats 1000000 in
theorem rroots_any : ∀ (n : Nat), ∀ (m p c : Nat) (own : Bool) (old : List UInt8) (a : Option Addr) (pf : List (List UInt8)) (w : World), old.length = 32 → DRow w a p pf → p = plongT m n own → p ≤ c → 1 ≤ m → m ≤ n → n ≤ 100000 →
    Calls Tryd.prog 11 #[.int .i64 (m : Int), .int .i64 (n : Int), .bool own, digestV old, .slice a p c] w fun e w' => (∃ g, e = .returned (.slice (some ⟨g, 0, none⟩) 2 2) ∧ DRow w' (some ⟨g, 0, none⟩) 2 [(rootsT m n own old pf).1, (rootsT m n own old pf).2]) ∧ Below w.heap.size w w' := by
  intro n
  induction n using Nat.strongRecOn with
  | ind n ih =>
    intro m p c own old a pf w ho R hp hc h1 hm hn
    have HI : Hid (∀ j, j < n → ∀ (m p c : Nat) (own : Bool) (old : List UInt8) (a : Option Addr) (pf : List (List UInt8)) (w : World), old.length = 32 → DRow w a p pf → p = plongT m j own → p ≤ c → 1 ≤ m → m ≤ j → j ≤ 100000 → Calls Tryd.prog 11 #[.int .i64 (m : Int), .int .i64 (j : Int), .bool own, digestV old, .slice a p c] w fun e w' => (∃ g, e = .returned (.slice (some ⟨g, 0, none⟩) 2 2) ∧ DRow w' (some ⟨g, 0, none⟩) 2 [(rootsT m j own old pf).1, (rootsT m j own old pf).2]) ∧ Below w.heap.size w w') := ih
    clear ih
    obtain ⟨iD, hiD, hzD0, hzD1, hzD2⟩ := info_parts Tryd.infoDg
    obtain ⟨w2, hw2⟩ : ∃ w2, w.alloc (.cells (cellsB old).toArray 24) = w2 := ⟨_, rfl⟩
    have HS2 : Hid (w2.heap.size = w.heap.size + 1) := by unfold Hid; rw [← hw2]; simp
    have HB2 : Hid (Below w.heap.size w w2) := by rw [← hw2]; exact (Below.refl _ _).alloc (Nat.le_refl _) _
    have HL2 : Hid (DAt w2 w.heap.size 0 old) := by rw [← hw2]; exact box_dat w old _
    have HKT : Hid (∀ wx, Below w2.heap.size w2 wx → wx.rangeAt w.heap.size 0 (cellsB old) ∧ DRow wx a p pf ∧ Below w.heap.size w wx) := fun wx hx => by
      have s := HS2.out
      have b : Below w.heap.size w wx := HB2.out.trans (hx.mono (by omega))
      exact ⟨HL2.out.below hx (by omega), R.below b, b⟩
    have H0 : Hid (Below w2.heap.size w2 w2) := Below.refl _ _
    have HPL : Hid (pf.length = p) := R.1
    have HP32 : Hid (∀ j, j < p → (pf.getD j []).length = 32) := R.len
    have HP : Hid (p = plongT m n own) := hp
    have HL1 : Hid (DAt (w.alloc (.cells (cellsB old).toArray 24)) w.heap.size 0 old) := box_dat w old _
    have hs1 : (w.alloc (.cells (cellsB old).toArray 24)).heap.size = w.heap.size + 1 := by simp
    have HW2 : Hid (w.alloc (.cells (cellsB old).toArray 24) = w2) := hw2
    clear R hp HL2 hw2
    by_cases cown : m = n ∧ own = true
    · obtain ⟨rfl, rfl⟩ := cown
      have HE : Hid (rootsT m m true old pf = (old, old)) := rootsT_own (Nat.le_refl _)
      have HR9 : Hid (DRow ((w.alloc (.cells (cellsB old).toArray 24)).alloc (.cells (cellsB (old ++ old)).toArray 24)) (some ⟨w.heap.size + 1, 0, none⟩) 2 [old, old]) := by
        have := DRow.lit2 (w.alloc (.cells (cellsB old).toArray 24)) old old 24 ho ho
        rwa [show (w.alloc (.cells (cellsB old).toArray 24)).heap.size = w.heap.size + 1 by simp] at this
      have HB9 : Hid (Below w.heap.size w ((w.alloc (.cells (cellsB old).toArray 24)).alloc (.cells (cellsB (old ++ old)).toArray 24))) := ((Below.refl _ _).alloc (Nat.le_refl _) _).alloc (by simp) _
      go_enter Tryd.func11, Tryd.ntmps11
      go_wp2_with (first
        | (refine wpList_load_mid (by rfl) 24 (.tmp 8) (by rfl) w.heap.size 0 (by rfl) (cellsB old) _ HL1.out Tryd.underlying24 (by rfl) (by rw [cellsB_length, ho]; exact Tryd.sizeDg) ?_)
        | (refine wpList_build2 (by rfl) (.tmp 22) (.tmp 23) 22 (by rfl) 24 (.agg zeros32) iD old old ho ho (by rfl) (by rfl) Tryd.underlying22 hiD hzD0 (by rfl) hzD1 ?_))
      go_ret
      refine ⟨⟨_, rfl, by rw [HE.out]; exact HR9.out⟩, HB9.out⟩
    · have hp1 : 1 ≤ p := by
        rw [HP.out]
        by_cases c1 : m < n
        · by_cases d : m ≤ halfT n
          · rw [plongT_lo (by omega) c1 d]; omega
          · rw [plongT_hi (by omega) c1 d]; omega
        · cases own with
          | true => exact absurd ⟨by omega, rfl⟩ cown
          | false => rw [plongT_all (by omega)]; omega
      obtain ⟨b, o, rfl⟩ := (HKT.out _ H0.out).2.1.addr (by omega)
      obtain ⟨q, hq⟩ : ∃ q : Nat, p - 1 = q := ⟨_, rfl⟩
      have hpq : (p : Int) - 1 = (q : Int) := by omega
      have lP := HP32.out q (by omega)
      have HX : Hid (DAt w2 b (o + q * 32) (pf.getD q [])) := (HKT.out _ H0.out).2.1.at q (by omega)
      have hqp : q < p := by omega
      have hqb : q ≤ 100001 := by have := plongT_le m n own; have := HP.out; omega
      have HRQ : Hid (∀ wx, Below w2.heap.size w2 wx → DRow wx (some ⟨b, o, none⟩) q (pf.take q)) := fun wx hx => (HKT.out wx hx).2.1.take q (by omega)
      have HFA : Hid (m = n → own = false → rootsT m n own old pf = (pf.getD q [], pf.getD q [])) := fun h h' => by
        subst h'
        have := rootsT_all (m := m) (n := n) (old := old) (pf := pf) (by omega)
        rw [HPL.out, hq] at this
        exact this
      have HFL : Hid (∀ k, halfT n = k → m < n → m ≤ k → rootsT m n own old pf = ((rootsT m k own old (pf.take q)).1, nodeT (rootsT m k own old (pf.take q)).2 (pf.getD q [])) ∧ q = plongT m k own) := fun k hk hmn h => by
        have e1 := rootsT_lo (own := own) (old := old) (pf := pf) (show 2 ≤ n by omega) hmn (by rw [hk]; exact h)
        rw [HPL.out, hq, hk] at e1
        have e2 := plongT_lo (own := own) (show 2 ≤ n by omega) hmn (by rw [hk]; exact h)
        rw [hk] at e2
        exact ⟨e1, by have := HP.out; omega⟩
      have HFH : Hid (∀ k, halfT n = k → m < n → ¬ m ≤ k → rootsT m n own old pf = (nodeT (pf.getD q []) (rootsT (m - k) (n - k) false old (pf.take q)).1, nodeT (pf.getD q []) (rootsT (m - k) (n - k) false old (pf.take q)).2) ∧ q = plongT (m - k) (n - k) false) := fun k hk hmn h => by
        have e1 := rootsT_hi (own := own) (old := old) (pf := pf) (show 2 ≤ n by omega) hmn (by rw [hk]; exact h)
        rw [HPL.out, hq, hk] at e1
        have e2 := plongT_hi (own := own) (show 2 ≤ n by omega) hmn (by rw [hk]; exact h)
        rw [hk] at e2
        exact ⟨e1, by have := HP.out; omega⟩
      generalize pf.getD q [] = P at *
      generalize pf.take q = PT at *
      have q0 : (0 : Int) ≤ (q : Int) := by omega
      have q1 : (q : Int) < (p : Int) := by omega
      have q2 : (q : Int) ≤ (c : Int) := by omega
      clear hq
      obtain ⟨w3, hw3⟩ : ∃ w3, w2.alloc (.cells (cellsB zD).toArray 24) = w3 := ⟨_, rfl⟩
      have HT3 : Hid (w3.there (w.heap.size + 1) 0 32) := by rw [← hw3]; exact alloc_thereAt _ _ _ 32 _ HS2.out zD_size.symm
      have hb4 : Below w2.heap.size w2 (w3.setCells (w.heap.size + 1) 0 (cellsB P)) := by rw [← HS2.out, ← hw3]; exact new_stored _ _ _
      have HX4 : Hid (DAt (w3.setCells (w.heap.size + 1) 0 (cellsB P)) (w.heap.size + 1) 0 P) := dat_stored HT3.out lP
      have hw3' : (w.alloc (.cells (cellsB old).toArray 24)).alloc (.cells (cellsB zD).toArray 24) = w3 := by rw [HW2.out]; exact hw3
      have HX' : Hid (DAt (w.alloc (.cells (cellsB old).toArray 24)) b (o + q * 32) P) := by rw [HW2.out]; exact HX.out
      obtain ⟨w4, hw4⟩ : ∃ w4, w3.setCells (w.heap.size + 1) 0 (cellsB P) = w4 := ⟨_, rfl⟩
      rw [hw4] at hb4 HX4
      have hg4 : w.heap.size + 1 < w4.heap.size := cell_block (HX4.out.cell 0 (by omega))
      have HKQ : Hid (∀ wx, Below w4.heap.size w4 wx → (wx.rangeAt w.heap.size 0 (cellsB old) ∧ wx.rangeAt (w.heap.size + 1) 0 (cellsB P)) ∧ DRow wx (some ⟨b, o, none⟩) q PT ∧ Below w.heap.size w wx) := fun wx hx => by
        have b1 : Below w2.heap.size w2 wx := hb4.trans (hx.mono hb4.size)
        have k := HKT.out _ b1
        exact ⟨⟨k.1, HX4.out.below hx hg4⟩, HRQ.out _ b1, k.2.2⟩
      have H4 : Hid (Below w4.heap.size w4 w4) := Below.refl _ _
      clear hb4 hg4 HX4 H0 HRQ HKT HP HPL HP32
      by_cases cmn : m < n
      · have h2 : 2 ≤ n := by omega
        have e1 : ((m : Int) == (n : Int)) = false := by simp; omega
        have hk1 := halfT_lt h2
        have hk2 := halfT_pos n
        go_enter Tryd.func11, Tryd.ntmps11
        go_wp2_with (first
          | (refine wpList_load_mid (by rfl) 24 (.tmp 29) (by rfl) b (o + q * 32) (by rfl) (cellsB P) _ HX'.out Tryd.underlying24 (by rfl) (by rw [cellsB_length, lP]; exact Tryd.sizeDg) ?_)
          | (refine wpList_allocE (by rfl) 24 (by rfl) (cellsB zD).toArray Tryd.zeroDg (w.heap.size + 1) hs1 w3 hw3' ?_)
          | (refine wpList_store_mid (by rfl) 24 (.tmp 11) (.tmp 30) (by rfl) (w.heap.size + 1) 0 (cellsB P).toArray (by rfl) (by rfl) (by rw [cellsB_size, lP]; exact HT3.out) (by rw [cellsB_size, lP]; exact Tryd.sizeDg) (all_oneCell_toArray (cellsB_one _)) ?_; rw [show (cellsB P).toArray.toList = cellsB P from rfl, hw4]))
        clear hw3 hw3' hw4 HT3 HX HX' HW2 hs1 HL1
        refine (rhalf_any n w4 h2 (by omega)).mono ?_
        rintro e w' ⟨rfl, rfl⟩
        generalize halfT n = k at *
        have GFL : Hid (m ≤ k → rootsT m n own old pf = ((rootsT m k own old PT).1, nodeT (rootsT m k own old PT).2 P) ∧ q = plongT m k own) := HFL.out k rfl cmn
        have GFH : Hid (¬ m ≤ k → rootsT m n own old pf = (nodeT P (rootsT (m - k) (n - k) false old PT).1, nodeT P (rootsT (m - k) (n - k) false old PT).2) ∧ q = plongT (m - k) (n - k) false) := HFH.out k rfl cmn
        clear HFL HFH HFA
        by_cases d : m ≤ k
        · obtain ⟨hE, hQ⟩ := GFL.out d
          have HC : Hid (∀ wx, DRow wx (some ⟨b, o, none⟩) q PT → Calls Tryd.prog 11 #[.int .i64 (m : Int), .int .i64 (k : Int), .bool own, digestV old, .slice (some ⟨b, o, none⟩) q c] wx fun e w' => (∃ g, e = .returned (.slice (some ⟨g, 0, none⟩) 2 2) ∧ DRow w' (some ⟨g, 0, none⟩) 2 [(rootsT m k own old PT).1, (rootsT m k own old PT).2]) ∧ Below wx.heap.size wx w') := fun wx hr => HI.out k hk1 m q c own old _ PT wx ho hr hQ (by omega) h1 d (by omega)
          have HE : Hid (rootsT m n own old pf = ((rootsT m k own old PT).1, nodeT (rootsT m k own old PT).2 P)) := hE
          clear hE hQ GFL GFH HI
          have g1 : (m : Int) ≤ (k : Int) := by omega
          generalize (rootsT m k own old PT).1 = A at *
          generalize (rootsT m k own old PT).2 = B at *
          go_wp2_with (refine wpList_load_mid (by rfl) 24 (.tmp 8) (by rfl) w.heap.size 0 (by rfl) (cellsB old) _ (HKQ.out _ H4.out).1.1 Tryd.underlying24 (by rfl) (by rw [cellsB_length, ho]; exact Tryd.sizeDg) ?_)
          refine (HC.out w' (HKQ.out _ H4.out).2.1).mono ?_
          rintro e w5 ⟨⟨g, rfl, hr5⟩, hb5⟩
          have HB5 : Hid (Below w'.heap.size w' w5) := hb5
          obtain ⟨x1, x2, lA, lB⟩ := hr5.two
          have HSB : Hid (∀ wx, Below w5.heap.size w5 wx → wx.rangeAt g 0 (cellsB A) ∧ wx.rangeAt g 32 (cellsB B) ∧ wx.rangeAt (w.heap.size + 1) 0 (cellsB P) ∧ Below w.heap.size w wx) := fun wx hx => by
            have b1 : Below w'.heap.size w' wx := HB5.out.trans (hx.mono HB5.out.size)
            have hg : g < w5.heap.size := cell_block (x1.cell 0 (by omega))
            exact ⟨DAt.below (l := A) x1 hx hg, DAt.below (l := B) x2 hx hg, (HKQ.out _ b1).1.2, (HKQ.out _ b1).2.2⟩
          clear hr5 hb5 x1 x2 HC
          go_wp2_with fail
          refine wp_region_noPanic ?_
          refine wp_region_held_drew (S := fun wx => wx.rangeAt g 0 (cellsB A) ∧ wx.rangeAt g 32 (cellsB B) ∧ wx.rangeAt (w.heap.size + 1) 0 (cellsB P)) (by kernel_rfl) (⟨(HSB.out _ (below_drewN w5 1)).1, (HSB.out _ (below_drewN w5 1)).2.1, (HSB.out _ (below_drewN w5 1)).2.2.1⟩) (fun hHeld => ?_)
          try simp only [Act.put, List.setIfInBounds_toArray, List.set_cons_zero, List.set_cons_succ]
          have HBd : Hid (Below w5.heap.size w5 w5.drew) := below_drewN w5 1
          generalize w5.drew = wd at *
          refine wpAnyH_take (i := 0) (v := ?_) (by simp only [List.getElem?_toArray, List.getElem?_cons_zero, List.getElem?_cons_succ]; rfl) (by kernel_rfl) (by kernel_rfl) (by kernel_rfl) (fun _ _ _ h => h) (Or.inl ⟨by rfl, ?_⟩) hHeld ?_
          rotate_left
          · intro w hSw
            obtain ⟨hSw0, hSw1, hSw2⟩ := hSw
            go_simp
            try with_reducible rfl
          try simp only [Act.put, List.setIfInBounds_toArray, List.set_cons_zero, List.set_cons_succ]
          refine wpAnyH_take (i := 1) (v := ?_) (by simp only [List.getElem?_toArray, List.getElem?_cons_zero, List.getElem?_cons_succ]; rfl) (by kernel_rfl) (by kernel_rfl) (by kernel_rfl) (fun _ _ _ h => h) (Or.inl ⟨by rfl, ?_⟩) hHeld ?_
          rotate_left
          · intro w hSw
            obtain ⟨hSw0, hSw1, hSw2⟩ := hSw
            go_simp
            try with_reducible rfl
          try simp only [Act.put, List.setIfInBounds_toArray, List.set_cons_zero, List.set_cons_succ]
          refine wpAnyH_take (i := 2) (v := .agg (cellsB A).toArray) (by simp only [List.getElem?_toArray, List.getElem?_cons_zero, List.getElem?_cons_succ]; rfl) (by kernel_rfl) (by kernel_rfl) (by kernel_rfl) (fun _ _ _ h => h)
            (yieldsIf_load_mid (by rfl) _ _ rfl _ _ rfl _ _ (fun w hw => hw.1) Tryd.underlying24 rfl (by rw [cellsB_length, lA]; exact Tryd.sizeDg)) hHeld ?_
          try simp only [Act.put, List.setIfInBounds_toArray, List.set_cons_zero, List.set_cons_succ]
          refine wpAnyH_take (i := 3) (v := ?_) (by simp only [List.getElem?_toArray, List.getElem?_cons_zero, List.getElem?_cons_succ]; rfl) (by kernel_rfl) (by kernel_rfl) (by kernel_rfl) (fun _ _ _ h => h) (Or.inl ⟨by rfl, ?_⟩) hHeld ?_
          rotate_left
          · intro w hSw
            obtain ⟨hSw0, hSw1, hSw2⟩ := hSw
            go_simp
            try with_reducible rfl
          try simp only [Act.put, List.setIfInBounds_toArray, List.set_cons_zero, List.set_cons_succ]
          refine wpAnyH_take (i := 4) (v := ?_) (by simp only [List.getElem?_toArray, List.getElem?_cons_zero, List.getElem?_cons_succ]; rfl) (by kernel_rfl) (by kernel_rfl) (by kernel_rfl) (fun _ _ _ h => h) (Or.inl ⟨by rfl, ?_⟩) hHeld ?_
          rotate_left
          · intro w hSw
            obtain ⟨hSw0, hSw1, hSw2⟩ := hSw
            go_simp
            try with_reducible rfl
          try simp only [Act.put, List.setIfInBounds_toArray, List.set_cons_zero, List.set_cons_succ]
          refine wpAnyH_take (i := 5) (v := .agg (cellsB B).toArray) (by simp only [List.getElem?_toArray, List.getElem?_cons_zero, List.getElem?_cons_succ]; rfl) (by kernel_rfl) (by kernel_rfl) (by kernel_rfl) (fun _ _ _ h => h)
            (yieldsIf_load_mid (by rfl) _ _ rfl _ _ rfl _ _ (fun w hw => hw.2.1) Tryd.underlying24 rfl (by rw [cellsB_length, lB]; exact Tryd.sizeDg)) hHeld ?_
          try simp only [Act.put, List.setIfInBounds_toArray, List.set_cons_zero, List.set_cons_succ]
          refine wpAnyH_take (i := 6) (v := .agg (cellsB P).toArray) (by simp only [List.getElem?_toArray, List.getElem?_cons_zero, List.getElem?_cons_succ]; rfl) (by kernel_rfl) (by kernel_rfl) (by kernel_rfl) (fun _ _ _ h => h)
            (yieldsIf_load_mid (by rfl) _ _ rfl _ _ rfl _ _ (fun w hw => hw.2.2) Tryd.underlying24 rfl (by rw [cellsB_length, lP]; exact Tryd.sizeDg)) hHeld ?_
          try simp only [Act.put, List.setIfInBounds_toArray, List.set_cons_zero, List.set_cons_succ]
          refine wpAnyH_ready (rs := [7]) (by kernel_rfl) (by simp) ?_
          refine AllReadyH.cons (by simp only [List.getElem?_toArray, List.getElem?_cons_zero, List.getElem?_cons_succ]; rfl) (fun K hK => ?_) AllReadyH.nil
          rw [if_pos (by rfl)]
          go_simp
          refine (rnode_any B P wd lB lP).mono ?_
          rintro e w6 ⟨rfl, hb6⟩
          have HB6 : Hid (Below w5.heap.size w5 w6) := HBd.out.trans (hb6.mono HBd.out.size)
          have lD1 := nodeT_length B P
          clear hb6 HBd
          generalize nodeT B P = D1 at *
          go_wp2_with fail
          refine hK.out _ _ ⟨(HSB.out _ HB6.out).1, (HSB.out _ HB6.out).2.1, (HSB.out _ HB6.out).2.2.1⟩ (fun hHeld => ?_)
          clear hK K
          try simp only [Act.put, List.setIfInBounds_toArray, List.set_cons_zero, List.set_cons_succ]
          refine wpAnyH_ready (rs := [8]) (by kernel_rfl) (by simp) ?_
          refine AllReadyH.cons (by simp only [List.getElem?_toArray, List.getElem?_cons_zero, List.getElem?_cons_succ]; rfl) (fun K hK => ?_) AllReadyH.nil
          rw [if_pos (by rfl)]
          refine wp_buildD2 _ _ rfl A D1 lA lD1 rfl rfl ?_
          have HB9 : Hid (Below w5.heap.size w5 (w6.alloc (.cells (cellsB (A ++ D1)).toArray 24))) := Below.alloc HB6.out HB6.out.size _
          have HR9 : Hid (DRow (w6.alloc (.cells (cellsB (A ++ D1)).toArray 24)) (some ⟨w6.heap.size, 0, none⟩) 2 [A, D1]) := DRow.lit2 w6 A D1 _ lA lD1
          refine hK.out _ _ ⟨(HSB.out _ HB9.out).1, (HSB.out _ HB9.out).2.1, (HSB.out _ HB9.out).2.2.1⟩ (fun hHeld => ?_)
          generalize w6.alloc (.cells (cellsB (A ++ D1)).toArray 24) = w9 at *
          clear hK K
          try simp only [Act.put, List.setIfInBounds_toArray, List.set_cons_zero, List.set_cons_succ]
          refine wpAnyH_take (i := 9) (v := ?_) (by simp only [List.getElem?_toArray, List.getElem?_cons_zero, List.getElem?_cons_succ]; rfl) (by kernel_rfl) (by kernel_rfl) (by kernel_rfl) (fun _ _ _ h => h) (Or.inl ⟨by rfl, ?_⟩) hHeld ?_
          rotate_left
          · intro w hSw
            obtain ⟨hSw0, hSw1, hSw2⟩ := hSw
            go_simp
            try with_reducible rfl
          try simp only [Act.put, List.setIfInBounds_toArray, List.set_cons_zero, List.set_cons_succ]
          refine wpAnyH_done (by kernel_rfl) (NoPanic.normal ?_) _
          clear hHeld
          go_wp2_with fail
          go_ret
          exact ⟨⟨_, rfl, by rw [HE.out]; exact HR9.out⟩, (HSB.out _ HB9.out).2.2.2⟩
        · obtain ⟨hE, hQ⟩ := GFH.out d
          have HC : Hid (∀ wx, DRow wx (some ⟨b, o, none⟩) q PT → Calls Tryd.prog 11 #[.int .i64 ((m - k : Nat) : Int), .int .i64 ((n - k : Nat) : Int), .bool false, digestV old, .slice (some ⟨b, o, none⟩) q c] wx fun e w' => (∃ g, e = .returned (.slice (some ⟨g, 0, none⟩) 2 2) ∧ DRow w' (some ⟨g, 0, none⟩) 2 [(rootsT (m - k) (n - k) false old PT).1, (rootsT (m - k) (n - k) false old PT).2]) ∧ Below wx.heap.size wx w') := fun wx hr => HI.out (n - k) (by omega) (m - k) q c false old _ PT wx ho hr hQ (by omega) (by omega) (by omega) (by omega)
          have HE : Hid (rootsT m n own old pf = (nodeT P (rootsT (m - k) (n - k) false old PT).1, nodeT P (rootsT (m - k) (n - k) false old PT).2)) := hE
          clear hE hQ GFL GFH HI
          generalize (rootsT (m - k) (n - k) false old PT).1 = A at *
          generalize (rootsT (m - k) (n - k) false old PT).2 = B at *
          have g1 : ¬ (m : Int) ≤ (k : Int) := by omega
          have s1 : (m : Int) - (k : Int) = ((m - k : Nat) : Int) := by omega
          have s2 : (n : Int) - (k : Int) = ((n - k : Nat) : Int) := by omega
          have b1 : m - k ≤ 100000 := by omega
          have b2 : n - k ≤ 100000 := by omega
          generalize m - k = m' at *
          generalize n - k = n' at *
          go_wp2_with (refine wpList_load_mid (by rfl) 24 (.tmp 8) (by rfl) w.heap.size 0 (by rfl) (cellsB old) _ (HKQ.out _ H4.out).1.1 Tryd.underlying24 (by rfl) (by rw [cellsB_length, ho]; exact Tryd.sizeDg) ?_)
          refine (HC.out w' (HKQ.out _ H4.out).2.1).mono ?_
          rintro e w5 ⟨⟨g, rfl, hr5⟩, hb5⟩
          have HB5 : Hid (Below w'.heap.size w' w5) := hb5
          obtain ⟨x1, x2, lA, lB⟩ := hr5.two
          have HSB : Hid (∀ wx, Below w5.heap.size w5 wx → wx.rangeAt g 0 (cellsB A) ∧ wx.rangeAt g 32 (cellsB B) ∧ wx.rangeAt (w.heap.size + 1) 0 (cellsB P) ∧ Below w.heap.size w wx) := fun wx hx => by
            have b1 : Below w'.heap.size w' wx := HB5.out.trans (hx.mono HB5.out.size)
            have hg : g < w5.heap.size := cell_block (x1.cell 0 (by omega))
            exact ⟨DAt.below (l := A) x1 hx hg, DAt.below (l := B) x2 hx hg, (HKQ.out _ b1).1.2, (HKQ.out _ b1).2.2⟩
          clear hr5 hb5 x1 x2 HC
          go_wp2_with fail
          refine wp_region_noPanic ?_
          refine wp_region_held_drew (S := fun wx => wx.rangeAt g 0 (cellsB A) ∧ wx.rangeAt g 32 (cellsB B) ∧ wx.rangeAt (w.heap.size + 1) 0 (cellsB P)) (by kernel_rfl) (⟨(HSB.out _ (below_drewN w5 1)).1, (HSB.out _ (below_drewN w5 1)).2.1, (HSB.out _ (below_drewN w5 1)).2.2.1⟩) (fun hHeld => ?_)
          try simp only [Act.put, List.setIfInBounds_toArray, List.set_cons_zero, List.set_cons_succ]
          have HBd : Hid (Below w5.heap.size w5 w5.drew) := below_drewN w5 1
          generalize w5.drew = wd at *
          refine wpAnyH_take (i := 0) (v := .agg (cellsB P).toArray) (by simp only [List.getElem?_toArray, List.getElem?_cons_zero, List.getElem?_cons_succ]; rfl) (by kernel_rfl) (by kernel_rfl) (by kernel_rfl) (fun _ _ _ h => h)
            (yieldsIf_load_mid (by rfl) _ _ rfl _ _ rfl _ _ (fun w hw => hw.2.2) Tryd.underlying24 rfl (by rw [cellsB_length, lP]; exact Tryd.sizeDg)) hHeld ?_
          try simp only [Act.put, List.setIfInBounds_toArray, List.set_cons_zero, List.set_cons_succ]
          refine wpAnyH_take (i := 1) (v := ?_) (by simp only [List.getElem?_toArray, List.getElem?_cons_zero, List.getElem?_cons_succ]; rfl) (by kernel_rfl) (by kernel_rfl) (by kernel_rfl) (fun _ _ _ h => h) (Or.inl ⟨by rfl, ?_⟩) hHeld ?_
          rotate_left
          · intro w hSw
            obtain ⟨hSw0, hSw1, hSw2⟩ := hSw
            go_simp
            try with_reducible rfl
          try simp only [Act.put, List.setIfInBounds_toArray, List.set_cons_zero, List.set_cons_succ]
          refine wpAnyH_take (i := 2) (v := ?_) (by simp only [List.getElem?_toArray, List.getElem?_cons_zero, List.getElem?_cons_succ]; rfl) (by kernel_rfl) (by kernel_rfl) (by kernel_rfl) (fun _ _ _ h => h) (Or.inl ⟨by rfl, ?_⟩) hHeld ?_
          rotate_left
          · intro w hSw
            obtain ⟨hSw0, hSw1, hSw2⟩ := hSw
            go_simp
            try with_reducible rfl
          try simp only [Act.put, List.setIfInBounds_toArray, List.set_cons_zero, List.set_cons_succ]
          refine wpAnyH_take (i := 3) (v := .agg (cellsB A).toArray) (by simp only [List.getElem?_toArray, List.getElem?_cons_zero, List.getElem?_cons_succ]; rfl) (by kernel_rfl) (by kernel_rfl) (by kernel_rfl) (fun _ _ _ h => h)
            (yieldsIf_load_mid (by rfl) _ _ rfl _ _ rfl _ _ (fun w hw => hw.1) Tryd.underlying24 rfl (by rw [cellsB_length, lA]; exact Tryd.sizeDg)) hHeld ?_
          try simp only [Act.put, List.setIfInBounds_toArray, List.set_cons_zero, List.set_cons_succ]
          refine wpAnyH_take (i := 5) (v := .agg (cellsB P).toArray) (by simp only [List.getElem?_toArray, List.getElem?_cons_zero, List.getElem?_cons_succ]; rfl) (by kernel_rfl) (by kernel_rfl) (by kernel_rfl) (fun _ _ _ h => h)
            (yieldsIf_load_mid (by rfl) _ _ rfl _ _ rfl _ _ (fun w hw => hw.2.2) Tryd.underlying24 rfl (by rw [cellsB_length, lP]; exact Tryd.sizeDg)) hHeld ?_
          try simp only [Act.put, List.setIfInBounds_toArray, List.set_cons_zero, List.set_cons_succ]
          refine wpAnyH_take (i := 6) (v := ?_) (by simp only [List.getElem?_toArray, List.getElem?_cons_zero, List.getElem?_cons_succ]; rfl) (by kernel_rfl) (by kernel_rfl) (by kernel_rfl) (fun _ _ _ h => h) (Or.inl ⟨by rfl, ?_⟩) hHeld ?_
          rotate_left
          · intro w hSw
            obtain ⟨hSw0, hSw1, hSw2⟩ := hSw
            go_simp
            try with_reducible rfl
          try simp only [Act.put, List.setIfInBounds_toArray, List.set_cons_zero, List.set_cons_succ]
          refine wpAnyH_take (i := 7) (v := ?_) (by simp only [List.getElem?_toArray, List.getElem?_cons_zero, List.getElem?_cons_succ]; rfl) (by kernel_rfl) (by kernel_rfl) (by kernel_rfl) (fun _ _ _ h => h) (Or.inl ⟨by rfl, ?_⟩) hHeld ?_
          rotate_left
          · intro w hSw
            obtain ⟨hSw0, hSw1, hSw2⟩ := hSw
            go_simp
            try with_reducible rfl
          try simp only [Act.put, List.setIfInBounds_toArray, List.set_cons_zero, List.set_cons_succ]
          refine wpAnyH_take (i := 8) (v := .agg (cellsB B).toArray) (by simp only [List.getElem?_toArray, List.getElem?_cons_zero, List.getElem?_cons_succ]; rfl) (by kernel_rfl) (by kernel_rfl) (by kernel_rfl) (fun _ _ _ h => h)
            (yieldsIf_load_mid (by rfl) _ _ rfl _ _ rfl _ _ (fun w hw => hw.2.1) Tryd.underlying24 rfl (by rw [cellsB_length, lB]; exact Tryd.sizeDg)) hHeld ?_
          try simp only [Act.put, List.setIfInBounds_toArray, List.set_cons_zero, List.set_cons_succ]
          refine wpAnyH_ready (rs := [4]) (by kernel_rfl) (by simp) ?_
          refine AllReadyH.cons (by simp only [List.getElem?_toArray, List.getElem?_cons_zero, List.getElem?_cons_succ]; rfl) (fun K hK => ?_) AllReadyH.nil
          rw [if_pos (by rfl)]
          go_simp
          refine (rnode_any P A wd lP lA).mono ?_
          rintro e w6 ⟨rfl, hb6⟩
          have HB6 : Hid (Below w5.heap.size w5 w6) := HBd.out.trans (hb6.mono HBd.out.size)
          have lD1 := nodeT_length P A
          clear hb6 HBd
          generalize nodeT P A = D1 at *
          go_wp2_with fail
          refine hK.out _ _ ⟨(HSB.out _ HB6.out).1, (HSB.out _ HB6.out).2.1, (HSB.out _ HB6.out).2.2.1⟩ (fun hHeld => ?_)
          clear hK K
          try simp only [Act.put, List.setIfInBounds_toArray, List.set_cons_zero, List.set_cons_succ]
          refine wpAnyH_ready (rs := [9]) (by kernel_rfl) (by simp) ?_
          refine AllReadyH.cons (by simp only [List.getElem?_toArray, List.getElem?_cons_zero, List.getElem?_cons_succ]; rfl) (fun K hK => ?_) AllReadyH.nil
          rw [if_pos (by rfl)]
          go_simp
          refine (rnode_any P B w6 lP lB).mono ?_
          rintro e w7 ⟨rfl, hb6⟩
          have HB7 : Hid (Below w5.heap.size w5 w7) := HB6.out.trans (hb6.mono HB6.out.size)
          have lD2 := nodeT_length P B
          clear hb6 HB6
          generalize nodeT P B = D2 at *
          go_wp2_with fail
          refine hK.out _ _ ⟨(HSB.out _ HB7.out).1, (HSB.out _ HB7.out).2.1, (HSB.out _ HB7.out).2.2.1⟩ (fun hHeld => ?_)
          clear hK K
          try simp only [Act.put, List.setIfInBounds_toArray, List.set_cons_zero, List.set_cons_succ]
          refine wpAnyH_ready (rs := [10]) (by kernel_rfl) (by simp) ?_
          refine AllReadyH.cons (by simp only [List.getElem?_toArray, List.getElem?_cons_zero, List.getElem?_cons_succ]; rfl) (fun K hK => ?_) AllReadyH.nil
          rw [if_pos (by rfl)]
          refine wp_buildD2 _ _ rfl D1 D2 lD1 lD2 rfl rfl ?_
          have HB9 : Hid (Below w5.heap.size w5 (w7.alloc (.cells (cellsB (D1 ++ D2)).toArray 24))) := Below.alloc HB7.out HB7.out.size _
          have HR9 : Hid (DRow (w7.alloc (.cells (cellsB (D1 ++ D2)).toArray 24)) (some ⟨w7.heap.size, 0, none⟩) 2 [D1, D2]) := DRow.lit2 w7 D1 D2 _ lD1 lD2
          refine hK.out _ _ ⟨(HSB.out _ HB9.out).1, (HSB.out _ HB9.out).2.1, (HSB.out _ HB9.out).2.2.1⟩ (fun hHeld => ?_)
          generalize w7.alloc (.cells (cellsB (D1 ++ D2)).toArray 24) = w9 at *
          clear hK K
          try simp only [Act.put, List.setIfInBounds_toArray, List.set_cons_zero, List.set_cons_succ]
          refine wpAnyH_take (i := 11) (v := ?_) (by simp only [List.getElem?_toArray, List.getElem?_cons_zero, List.getElem?_cons_succ]; rfl) (by kernel_rfl) (by kernel_rfl) (by kernel_rfl) (fun _ _ _ h => h) (Or.inl ⟨by rfl, ?_⟩) hHeld ?_
          rotate_left
          · intro w hSw
            obtain ⟨hSw0, hSw1, hSw2⟩ := hSw
            go_simp
            try with_reducible rfl
          try simp only [Act.put, List.setIfInBounds_toArray, List.set_cons_zero, List.set_cons_succ]
          refine wpAnyH_done (by kernel_rfl) (NoPanic.normal ?_) _
          clear hHeld
          go_wp2_with fail
          go_ret
          exact ⟨⟨_, rfl, by rw [HE.out]; exact HR9.out⟩, (HSB.out _ HB9.out).2.2.2⟩
      · obtain rfl : m = n := by omega
        have how : own = false := by cases own with
          | true => exact absurd ⟨rfl, rfl⟩ cown
          | false => rfl
        have HE := HFA.out rfl how
        have HE' : Hid (rootsT m m own old pf = (P, P)) := HE
        clear HE HFA HFL HFH
        subst how
        go_enter Tryd.func11, Tryd.ntmps11
        go_wp2_with (first
          | (refine wpList_load_mid (by rfl) 24 (.tmp 29) (by rfl) b (o + q * 32) (by rfl) (cellsB P) _ HX'.out Tryd.underlying24 (by rfl) (by rw [cellsB_length, lP]; exact Tryd.sizeDg) ?_)
          | (refine wpList_allocE (by rfl) 24 (by rfl) (cellsB zD).toArray Tryd.zeroDg (w.heap.size + 1) hs1 w3 hw3' ?_)
          | (refine wpList_store_mid (by rfl) 24 (.tmp 11) (.tmp 30) (by rfl) (w.heap.size + 1) 0 (cellsB P).toArray (by rfl) (by rfl) (by rw [cellsB_size, lP]; exact HT3.out) (by rw [cellsB_size, lP]; exact Tryd.sizeDg) (all_oneCell_toArray (cellsB_one _)) ?_; rw [show (cellsB P).toArray.toList = cellsB P from rfl, hw4])
          | (refine wpList_load_mid (by rfl) 24 (.tmp 11) (by rfl) (w.heap.size + 1) 0 (by rfl) (cellsB P) _ (HKQ.out _ H4.out).1.2 Tryd.underlying24 (by rfl) (by rw [cellsB_length, lP]; exact Tryd.sizeDg) ?_)
          | (refine wpList_build2 (by rfl) (.tmp 39) (.tmp 40) 22 (by rfl) 24 (.agg zeros32) iD P P lP lP (by rfl) (by rfl) Tryd.underlying22 hiD hzD0 (by rfl) hzD1 ?_))
        go_ret
        refine ⟨⟨_, rfl, by rw [HE'.out]; exact DRow.lit2 w4 P P _ lP lP⟩, Below.alloc (HKQ.out _ H4.out).2.2 (HKQ.out _ H4.out).2.2.size _⟩
end Go.Proofs.YtdldkhhcicjbmabDoor
/- The laws' differs: a proof that has the root of all, and another one of the first, has two unlike pairs with one Node. -/
namespace Go.Proofs.YtdldkhhcicjbmabDoor
open Go.RowKit
set_option linter.unusedVariables false
set_option linter.unusedSimpArgs false

set_option maxRecDepth 100000 in
set_option maxHeartbeats 4000000 in
theorem ldiffers_any : ∀ (n : Nat), ∀ (m p c pc : Nat) (own : Bool) (old : List UInt8) (a pa : Option Addr) (ls pf : List (List UInt8)) (w : World), old.length = 32 → DRow w a n ls → DRow w pa p pf → p = plongT m n own → n ≤ c → p ≤ pc → 1 ≤ m → m ≤ n → n ≤ 100000 → (rootsT m n own old pf).2 = rootT ls → (rootsT m n own old pf).1 ≠ rootT (ls.take m) →
    Calls Tryd.prog 16 #[.slice a n c, .int .i64 (m : Int), .bool own, digestV old, .slice pa p pc] w fun e w' => e = .returned (.bool true) ∧ Below w.heap.size w w' := by
  intro n
  induction n using Nat.strongRecOn with
  | ind n ih =>
    intro m p c pc own old a pa ls pf w ho R1 R2 hp hc hpc h1 hm hn hr hne
    have HI : Hid (∀ j, j < n → ∀ (m p c pc : Nat) (own : Bool) (old : List UInt8) (a pa : Option Addr) (ls pf : List (List UInt8)) (w : World), old.length = 32 → DRow w a j ls → DRow w pa p pf → p = plongT m j own → j ≤ c → p ≤ pc → 1 ≤ m → m ≤ j → j ≤ 100000 → (rootsT m j own old pf).2 = rootT ls → (rootsT m j own old pf).1 ≠ rootT (ls.take m) → Calls Tryd.prog 16 #[.slice a j c, .int .i64 (m : Int), .bool own, digestV old, .slice pa p pc] w fun e w' => e = .returned (.bool true) ∧ Below w.heap.size w w') := ih
    clear ih
    have hl1 : ls.length = n := R1.1
    have hl2 : pf.length = p := R2.1
    have cmn : m < n := by
      apply Classical.byContradiction
      intro h
      subst hl1
      exact hne (grow_end (by omega) hr)
    have h2 : 2 ≤ n := by omega
    obtain ⟨w2, hw2⟩ : ∃ w2, w.alloc (.cells (cellsB old).toArray 24) = w2 := ⟨_, rfl⟩
    have HS2 : Hid (w2.heap.size = w.heap.size + 1) := by unfold Hid; rw [← hw2]; simp
    have HB2 : Hid (Below w.heap.size w w2) := by rw [← hw2]; exact (Below.refl _ _).alloc (Nat.le_refl _) _
    have HK : Hid (∀ wx, Below w2.heap.size w2 wx → wx.rangeAt w.heap.size 0 (cellsB old) ∧ (DRow wx a n ls ∧ DRow wx pa p pf) ∧ Below w.heap.size w wx) := fun wx hx => by
      have s := HS2.out
      have b : Below w.heap.size w wx := HB2.out.trans (hx.mono (by omega))
      refine ⟨?_, ⟨R1.below b, R2.below b⟩, b⟩
      refine DAt.below (l := old) ?_ hx (by omega)
      rw [← hw2]; exact box_dat w old _
    have H0 : Hid (Below w2.heap.size w2 w2) := Below.refl _ _
    have hk1 := halfT_lt h2
    have hk2 := halfT_pos n
    have hp1 : 1 ≤ p := by
      rw [hp]
      by_cases d : m ≤ halfT n
      · rw [plongT_lo h2 cmn d]; omega
      · rw [plongT_hi h2 cmn d]; omega
    obtain ⟨b1, o1, rfl⟩ := R1.addr (by omega)
    obtain ⟨b2, o2, rfl⟩ := R2.addr (by omega)
    obtain ⟨q, hq⟩ : ∃ q : Nat, p - 1 = q := ⟨_, rfl⟩
    have lP := R2.len q (by omega)
    have hqb : q ≤ 100001 := by have := plongT_le m n own; omega
    have hT := (R1.take (halfT n) (by omega)).2.1
    have hD := (R1.drop (halfT n) (by omega)).2.1
    have lL := rootT_length hT
    have lR := rootT_length hD
    have HX : Hid (∀ wx, Below w2.heap.size w2 wx → wx.rangeAt b2 (o2 + q * 32) (cellsB (pf.getD q [])) ∧ DRow wx (some ⟨b2, o2, none⟩) q (pf.take q) ∧ DRow wx (some ⟨b1, o1, none⟩) (halfT n) (ls.take (halfT n)) ∧ DRow wx (some ⟨b1, o1 + halfT n * 32, none⟩) (n - halfT n) (ls.drop (halfT n))) := fun wx hx => ⟨(HK.out _ hx).2.1.2.at q (by omega), (HK.out _ hx).2.1.2.take q (by omega), (HK.out _ hx).2.1.1.take _ (by omega), (HK.out _ hx).2.1.1.drop _ (by omega)⟩
    have HLO : Hid (m ≤ halfT n → nodeT (rootsT m (halfT n) own old (pf.take q)).2 (pf.getD q []) = nodeT (rootT (ls.take (halfT n))) (rootT (ls.drop (halfT n))) ∧ (rootsT m (halfT n) own old (pf.take q)).1 ≠ rootT ((ls.take (halfT n)).take m) ∧ q = plongT m (halfT n) own) := fun h => by
      have e2 := plongT_lo (own := own) h2 cmn h
      subst hl1
      have e1 := grow_lo h2 cmn h hr hne
      rw [hl2, hq] at e1
      exact ⟨e1.1, e1.2, by omega⟩
    have HHI : Hid (¬ m ≤ halfT n → nodeT (pf.getD q []) (rootsT (m - halfT n) (n - halfT n) false old (pf.take q)).2 = nodeT (rootT (ls.take (halfT n))) (rootT (ls.drop (halfT n))) ∧ (pf.getD q [] = rootT (ls.take (halfT n)) → (rootsT (m - halfT n) (n - halfT n) false old (pf.take q)).1 ≠ rootT ((ls.drop (halfT n)).take (m - halfT n))) ∧ q = plongT (m - halfT n) (n - halfT n) false) := fun h => by
      have e2 := plongT_hi (own := own) h2 cmn h
      subst hl1
      have e1 := grow_hi h2 cmn h hr hne
      rw [hl2, hq] at e1
      exact ⟨e1.1, e1.2, by omega⟩
    have HCL : Hid (∀ wx, DRow wx (some ⟨b1, o1, none⟩) (halfT n) (ls.take (halfT n)) → Calls Tryd.prog 17 #[.slice (some ⟨b1, o1, none⟩) (halfT n) c] wx fun e w' => e = .returned (digestV (rootT (ls.take (halfT n)))) ∧ Below wx.heap.size wx w') := fun wx hr => rroot_any (halfT n) _ c _ wx hr (by omega) (by omega)
    have HCH : Hid (∀ wx, DRow wx (some ⟨b1, o1 + halfT n * 32, none⟩) (n - halfT n) (ls.drop (halfT n)) → Calls Tryd.prog 17 #[.slice (some ⟨b1, o1 + halfT n * 32, none⟩) (n - halfT n) (c - halfT n)] wx fun e w' => e = .returned (digestV (rootT (ls.drop (halfT n)))) ∧ Below wx.heap.size wx w') := fun wx hr => rroot_any (n - halfT n) _ (c - halfT n) _ wx hr (by omega) (by omega)
    have hpq : (p : Int) - 1 = (q : Int) := by omega
    have hqp : q < p := by omega
    have q0 : (0 : Int) ≤ (q : Int) := by omega
    have q1 : (q : Int) < (p : Int) := by omega
    have q2 : (q : Int) ≤ (pc : Int) := by omega
    have e1 : ((m : Int) == (n : Int)) = false := by simp; omega
    have HHC : Hid (Calls Tryd.prog 18 #[.int .i64 (n : Int)] w2 fun e w' => e = .returned (.int .i64 (halfT n : Int)) ∧ w' = w2) := rhalf_any n w2 h2 (by omega)
    clear R1 R2 hp hr hne hl1 hl2 hq hT hD
    generalize pf.getD q [] = P at *
    generalize pf.take q = PT at *
    generalize halfT n = k at *
    have k0 : (0 : Int) ≤ (k : Int) := by omega
    have k1 : (k : Int) ≤ (n : Int) := by omega
    have k2 : (k : Int) ≤ (c : Int) := by omega
    have n1 : (n : Int) ≤ (c : Int) := by omega
    go_enter Tryd.func16, Tryd.ntmps16
    go_wp2_with fail
    try rw [hw2]
    clear hw2
    refine HHC.out.mono ?_
    rintro e w' ⟨rfl, hw'⟩
    subst hw'
    clear HHC
    by_cases d : m ≤ k
    · obtain ⟨hE, hN, hQ⟩ := HLO.out d
      have HCR : Hid (∀ wx, DRow wx (some ⟨b2, o2, none⟩) q PT → Calls Tryd.prog 11 #[.int .i64 (m : Int), .int .i64 (k : Int), .bool own, digestV old, .slice (some ⟨b2, o2, none⟩) q pc] wx fun e w' => (∃ g, e = .returned (.slice (some ⟨g, 0, none⟩) 2 2) ∧ DRow w' (some ⟨g, 0, none⟩) 2 [(rootsT m k own old PT).1, (rootsT m k own old PT).2]) ∧ Below wx.heap.size wx w') := fun wx hr => rroots_any k m q pc own old _ PT wx ho hr hQ (by omega) h1 d (by omega)
      have HCD : Hid ((rootsT m k own old PT).2 = rootT (ls.take k) → ∀ wx, DRow wx (some ⟨b1, o1, none⟩) k (ls.take k) → DRow wx (some ⟨b2, o2, none⟩) q PT → Calls Tryd.prog 16 #[.slice (some ⟨b1, o1, none⟩) k c, .int .i64 (m : Int), .bool own, digestV old, .slice (some ⟨b2, o2, none⟩) q pc] wx fun e w' => e = .returned (.bool true) ∧ Below wx.heap.size wx w') := fun h wx hr1 hr2 => HI.out k hk1 m q c pc own old _ _ _ PT wx ho hr1 hr2 hQ (by omega) (by omega) h1 d (by omega) h hN
      have HE : Hid (nodeT (rootsT m k own old PT).2 P = nodeT (rootT (ls.take k)) (rootT (ls.drop k))) := hE
      clear hE hN hQ HLO HHI HI
      have g1 : (m : Int) ≤ (k : Int) := by omega
      generalize (rootsT m k own old PT).1 = A at *
      generalize (rootsT m k own old PT).2 = B at *
      generalize rootT (ls.take k) = L at *
      generalize rootT (ls.drop k) = R at *
      obtain ⟨w3, hw3⟩ : ∃ w3, w'.alloc (.cells (cellsB zD).toArray 24) = w3 := ⟨_, rfl⟩
      have HTw3 : Hid (w3.there w'.heap.size 0 32) := by rw [← hw3]; exact alloc_thereAt _ _ _ 32 _ rfl zD_size.symm
      have hbw4 : Below w'.heap.size w' (w3.setCells w'.heap.size 0 (cellsB P)) := by rw [← hw3]; exact new_stored _ _ _
      have HVPw4 : Hid (DAt (w3.setCells w'.heap.size 0 (cellsB P)) w'.heap.size 0 P) := dat_stored HTw3.out lP
      have HBw4 : Hid (Below w'.heap.size w' (w3.setCells w'.heap.size 0 (cellsB P))) := H0.out.trans (hbw4.mono H0.out.size)
      clear hbw4
      obtain ⟨w4, hw4⟩ : ∃ w4, w3.setCells w'.heap.size 0 (cellsB P) = w4 := ⟨_, rfl⟩
      rw [hw4] at HVPw4 HBw4
      have gPw4 : w'.heap.size < w4.heap.size := cell_block (HVPw4.out.cell 0 (by omega))
      go_wp2_with (first
        | (refine wpList_load_mid (by rfl) 24 (.tmp 32) (by rfl) b2 (o2 + q * 32) (by rfl) (cellsB P) _ (HX.out _ H0.out).1 Tryd.underlying24 (by rfl) (by rw [cellsB_length, lP]; exact Tryd.sizeDg) ?_)
        | (refine wpList_allocE (by rfl) 24 (by rfl) (cellsB zD).toArray Tryd.zeroDg w'.heap.size rfl w3 hw3 ?_)
        | (refine wpList_store_mid (by rfl) 24 (.tmp 13) (.tmp 33) (by rfl) w'.heap.size 0 (cellsB P).toArray (by rfl) (by rfl) (by rw [cellsB_size, lP]; exact HTw3.out) (by rw [cellsB_size, lP]; exact Tryd.sizeDg) (all_oneCell_toArray (cellsB_one _)) ?_; rw [show (cellsB P).toArray.toList = cellsB P from rfl, hw4])
        | (refine wpList_load_mid (by rfl) 24 (.tmp 8) (by rfl) w.heap.size 0 (by rfl) (cellsB old) _ (HK.out _ HBw4.out).1 Tryd.underlying24 (by rfl) (by rw [cellsB_length, ho]; exact Tryd.sizeDg) ?_))
      clear hw3 hw4 HTw3
      refine (HCR.out w4 (HX.out _ HBw4.out).2.1).mono ?_
      rintro e w5 ⟨⟨g, rfl, hr5⟩, hb5⟩
      obtain ⟨_, x2, _, lB⟩ := hr5.two
      have HXB : Hid (DAt w5 g 32 B) := x2
      clear hr5 x2 HCR
      have HBw5 : Hid (Below w'.heap.size w' w5) := HBw4.out.trans (hb5.mono HBw4.out.size)
      have HVPw5 : Hid (DAt w5 w'.heap.size 0 P) := HVPw4.out.below hb5 gPw4
      have gPw5 : w'.heap.size < w5.heap.size := cell_block (HVPw5.out.cell 0 (by omega))
      clear HVPw4 gPw4
      clear hb5
      obtain ⟨w6, hw6⟩ : ∃ w6, w5.alloc (.cells (cellsB zD).toArray 24) = w6 := ⟨_, rfl⟩
      have HTw6 : Hid (w6.there w5.heap.size 0 32) := by rw [← hw6]; exact alloc_thereAt _ _ _ 32 _ rfl zD_size.symm
      have hbw7 : Below w5.heap.size w5 (w6.setCells w5.heap.size 0 (cellsB B)) := by rw [← hw6]; exact new_stored _ _ _
      have HVBw7 : Hid (DAt (w6.setCells w5.heap.size 0 (cellsB B)) w5.heap.size 0 B) := dat_stored HTw6.out lB
      have HBw7 : Hid (Below w'.heap.size w' (w6.setCells w5.heap.size 0 (cellsB B))) := HBw5.out.trans (hbw7.mono HBw5.out.size)
      have HVPw7 : Hid (DAt (w6.setCells w5.heap.size 0 (cellsB B)) w'.heap.size 0 P) := HVPw5.out.below hbw7 gPw5
      clear hbw7
      obtain ⟨w7, hw7⟩ : ∃ w7, w6.setCells w5.heap.size 0 (cellsB B) = w7 := ⟨_, rfl⟩
      rw [hw7] at HVBw7 HBw7 HVPw7
      have gPw7 : w'.heap.size < w7.heap.size := cell_block (HVPw7.out.cell 0 (by omega))
      have gBw7 : w5.heap.size < w7.heap.size := cell_block (HVBw7.out.cell 0 (by omega))
      clear HVPw5 gPw5
      go_wp2_with (first
        | (refine wpList_load_mid (by rfl) 24 (.tmp 48) (by rfl) g 32 (by rfl) (cellsB B) _ HXB.out Tryd.underlying24 (by rfl) (by rw [cellsB_length, lB]; exact Tryd.sizeDg) ?_)
        | (refine wpList_allocE (by rfl) 24 (by rfl) (cellsB zD).toArray Tryd.zeroDg w5.heap.size rfl w6 hw6 ?_)
        | (refine wpList_store_mid (by rfl) 24 (.tmp 15) (.tmp 49) (by rfl) w5.heap.size 0 (cellsB B).toArray (by rfl) (by rfl) (by rw [cellsB_size, lB]; exact HTw6.out) (by rw [cellsB_size, lB]; exact Tryd.sizeDg) (all_oneCell_toArray (cellsB_one _)) ?_; rw [show (cellsB B).toArray.toList = cellsB B from rfl, hw7]))
      clear hw6 hw7 HTw6 HXB
      refine (HCL.out w7 (HX.out _ HBw7.out).2.2.1).mono ?_
      rintro e w8 ⟨rfl, hb8⟩
      have HBw8 : Hid (Below w'.heap.size w' w8) := HBw7.out.trans (hb8.mono HBw7.out.size)
      have HVPw8 : Hid (DAt w8 w'.heap.size 0 P) := HVPw7.out.below hb8 gPw7
      have gPw8 : w'.heap.size < w8.heap.size := cell_block (HVPw8.out.cell 0 (by omega))
      have HVBw8 : Hid (DAt w8 w5.heap.size 0 B) := HVBw7.out.below hb8 gBw7
      have gBw8 : w5.heap.size < w8.heap.size := cell_block (HVBw8.out.cell 0 (by omega))
      clear HVPw7 gPw7 HVBw7 gBw7
      clear hb8 HCL
      obtain ⟨w9, hw9⟩ : ∃ w9, w8.alloc (.cells (cellsB zD).toArray 24) = w9 := ⟨_, rfl⟩
      have HTw9 : Hid (w9.there w8.heap.size 0 32) := by rw [← hw9]; exact alloc_thereAt _ _ _ 32 _ rfl zD_size.symm
      have hbwA : Below w8.heap.size w8 (w9.setCells w8.heap.size 0 (cellsB L)) := by rw [← hw9]; exact new_stored _ _ _
      have HVLwA : Hid (DAt (w9.setCells w8.heap.size 0 (cellsB L)) w8.heap.size 0 L) := dat_stored HTw9.out lL
      have HBwA : Hid (Below w'.heap.size w' (w9.setCells w8.heap.size 0 (cellsB L))) := HBw8.out.trans (hbwA.mono HBw8.out.size)
      have HVPwA : Hid (DAt (w9.setCells w8.heap.size 0 (cellsB L)) w'.heap.size 0 P) := HVPw8.out.below hbwA gPw8
      have HVBwA : Hid (DAt (w9.setCells w8.heap.size 0 (cellsB L)) w5.heap.size 0 B) := HVBw8.out.below hbwA gBw8
      clear hbwA
      obtain ⟨wA, hwA⟩ : ∃ wA, w9.setCells w8.heap.size 0 (cellsB L) = wA := ⟨_, rfl⟩
      rw [hwA] at HVLwA HBwA HVPwA HVBwA
      have gPwA : w'.heap.size < wA.heap.size := cell_block (HVPwA.out.cell 0 (by omega))
      have gBwA : w5.heap.size < wA.heap.size := cell_block (HVBwA.out.cell 0 (by omega))
      have gLwA : w8.heap.size < wA.heap.size := cell_block (HVLwA.out.cell 0 (by omega))
      clear HVPw8 gPw8 HVBw8 gBw8
      go_wp2_with (first
        | (refine wpList_allocE (by rfl) 24 (by rfl) (cellsB zD).toArray Tryd.zeroDg w8.heap.size rfl w9 hw9 ?_)
        | (refine wpList_store_mid (by rfl) 24 (.tmp 16) (.tmp 53) (by rfl) w8.heap.size 0 (cellsB L).toArray (by rfl) (by rfl) (by rw [cellsB_size, lL]; exact HTw9.out) (by rw [cellsB_size, lL]; exact Tryd.sizeDg) (all_oneCell_toArray (cellsB_one _)) ?_; rw [show (cellsB L).toArray.toList = cellsB L from rfl, hwA]))
      clear hw9 hwA HTw9
      refine (HCH.out wA (HX.out _ HBwA.out).2.2.2).mono ?_
      rintro e wB ⟨rfl, hbB⟩
      have HBwB : Hid (Below w'.heap.size w' wB) := HBwA.out.trans (hbB.mono HBwA.out.size)
      have HVPwB : Hid (DAt wB w'.heap.size 0 P) := HVPwA.out.below hbB gPwA
      have gPwB : w'.heap.size < wB.heap.size := cell_block (HVPwB.out.cell 0 (by omega))
      have HVBwB : Hid (DAt wB w5.heap.size 0 B) := HVBwA.out.below hbB gBwA
      have gBwB : w5.heap.size < wB.heap.size := cell_block (HVBwB.out.cell 0 (by omega))
      have HVLwB : Hid (DAt wB w8.heap.size 0 L) := HVLwA.out.below hbB gLwA
      have gLwB : w8.heap.size < wB.heap.size := cell_block (HVLwB.out.cell 0 (by omega))
      clear HVPwA gPwA HVBwA gBwA HVLwA gLwA
      clear hbB HCH
      obtain ⟨wC, hwC⟩ : ∃ wC, wB.alloc (.cells (cellsB zD).toArray 24) = wC := ⟨_, rfl⟩
      have HTwC : Hid (wC.there wB.heap.size 0 32) := by rw [← hwC]; exact alloc_thereAt _ _ _ 32 _ rfl zD_size.symm
      have hbwD : Below wB.heap.size wB (wC.setCells wB.heap.size 0 (cellsB R)) := by rw [← hwC]; exact new_stored _ _ _
      have HVRwD : Hid (DAt (wC.setCells wB.heap.size 0 (cellsB R)) wB.heap.size 0 R) := dat_stored HTwC.out lR
      have HBwD : Hid (Below w'.heap.size w' (wC.setCells wB.heap.size 0 (cellsB R))) := HBwB.out.trans (hbwD.mono HBwB.out.size)
      have HVPwD : Hid (DAt (wC.setCells wB.heap.size 0 (cellsB R)) w'.heap.size 0 P) := HVPwB.out.below hbwD gPwB
      have HVBwD : Hid (DAt (wC.setCells wB.heap.size 0 (cellsB R)) w5.heap.size 0 B) := HVBwB.out.below hbwD gBwB
      have HVLwD : Hid (DAt (wC.setCells wB.heap.size 0 (cellsB R)) w8.heap.size 0 L) := HVLwB.out.below hbwD gLwB
      clear hbwD
      obtain ⟨wD, hwD⟩ : ∃ wD, wC.setCells wB.heap.size 0 (cellsB R) = wD := ⟨_, rfl⟩
      rw [hwD] at HVRwD HBwD HVPwD HVBwD HVLwD
      have gPwD : w'.heap.size < wD.heap.size := cell_block (HVPwD.out.cell 0 (by omega))
      have gBwD : w5.heap.size < wD.heap.size := cell_block (HVBwD.out.cell 0 (by omega))
      have gLwD : w8.heap.size < wD.heap.size := cell_block (HVLwD.out.cell 0 (by omega))
      have gRwD : wB.heap.size < wD.heap.size := cell_block (HVRwD.out.cell 0 (by omega))
      clear HVPwB gPwB HVBwB gBwB HVLwB gLwB
      have HSx : Hid (∀ wx, Below wD.heap.size wD wx → wx.rangeAt w5.heap.size 0 (cellsB B) ∧ wx.rangeAt w'.heap.size 0 (cellsB P) ∧ wx.rangeAt w8.heap.size 0 (cellsB L) ∧ wx.rangeAt wB.heap.size 0 (cellsB R)) := fun wx hx => ⟨HVBwD.out.below hx gBwD, HVPwD.out.below hx gPwD, HVLwD.out.below hx gLwD, HVRwD.out.below hx gRwD⟩
      have HD0 : Hid (Below wD.heap.size wD wD) := Below.refl _ _
      clear HVBwD gBwD HVPwD gPwD HVLwD gLwD HVRwD gRwD
      by_cases h11 : B = L
      · by_cases h22 : P = R
        · have hd1 : (!decide (B = L)) = false := by simp [h11]
          have hd2 : (!decide (P = R)) = false := by simp [h22]
          have HCX := HCD.out h11
          have HCX : Hid _ := HCX
          clear HCD h11 h22
          go_wp2_with (first
            | (refine wpList_allocE (by rfl) 24 (by rfl) (cellsB zD).toArray Tryd.zeroDg wB.heap.size rfl wC hwC ?_)
            | (refine wpList_store_mid (by rfl) 24 (.tmp 17) (.tmp 57) (by rfl) wB.heap.size 0 (cellsB R).toArray (by rfl) (by rfl) (by rw [cellsB_size, lR]; exact HTwC.out) (by rw [cellsB_size, lR]; exact Tryd.sizeDg) (all_oneCell_toArray (cellsB_one _)) ?_; rw [show (cellsB R).toArray.toList = cellsB R from rfl, hwD])
            | (refine wpList_load_midG (by rfl) 24 (.tmp 15) (by rfl) w5.heap.size 0 (by rfl) (cellsB B) _ (HSx.out _ HD0.out).1 Tryd.underlying24 (by rfl) (by rw [cellsB_length, lB]; exact Tryd.sizeDg) ?_)
            | (refine wpList_load_midG (by rfl) 24 (.tmp 13) (by rfl) w'.heap.size 0 (by rfl) (cellsB P) _ (HSx.out _ HD0.out).2.1 Tryd.underlying24 (by rfl) (by rw [cellsB_length, lP]; exact Tryd.sizeDg) ?_)
            | (refine wpList_load_midG (by rfl) 24 (.tmp 16) (by rfl) w8.heap.size 0 (by rfl) (cellsB L) _ (HSx.out _ HD0.out).2.2.1 Tryd.underlying24 (by rfl) (by rw [cellsB_length, lL]; exact Tryd.sizeDg) ?_)
            | (refine wpList_load_midG (by rfl) 24 (.tmp 17) (by rfl) wB.heap.size 0 (by rfl) (cellsB R) _ (HSx.out _ HD0.out).2.2.2 Tryd.underlying24 (by rfl) (by rw [cellsB_length, lR]; exact Tryd.sizeDg) ?_)
            | (refine wpList_neqD (.tmp 58) (.tmp 59) (by rfl) (by rfl) B L lB lL (by rfl) (by rfl) false hd1 ?_)
            | (refine wpList_neqD (.tmp 62) (.tmp 63) (by rfl) (by rfl) P R lP lR (by rfl) (by rfl) false hd2 ?_))
          clear hwC hwD HTwC HE
          refine wp_region_noPanic ?_
          refine wp_region_held_drew (S := fun wx => wx.rangeAt w.heap.size 0 (cellsB old)) (by kernel_rfl) ((HK.out _ (HBwD.out.trans ((below_drewN wD 1).mono HBwD.out.size))).1) (fun hHeld => ?_)
          try simp only [Act.put, List.setIfInBounds_toArray, List.set_cons_zero, List.set_cons_succ]
          have HBd : Hid (Below w'.heap.size w' wD.drew) := HBwD.out.trans ((below_drewN wD 1).mono HBwD.out.size)
          generalize wD.drew = wd at *
          refine wpAnyH_take (i := 0) (v := ?_) (by simp only [List.getElem?_toArray, List.getElem?_cons_zero, List.getElem?_cons_succ]; rfl) (by kernel_rfl) (by kernel_rfl) (by kernel_rfl) (fun _ _ _ h => h) (Or.inl ⟨by rfl, ?_⟩) hHeld ?_
          rotate_left
          · intro w hSw
            go_simp
            try with_reducible rfl
          try simp only [Act.put, List.setIfInBounds_toArray, List.set_cons_zero, List.set_cons_succ]
          refine wpAnyH_take (i := 1) (v := ?_) (by simp only [List.getElem?_toArray, List.getElem?_cons_zero, List.getElem?_cons_succ]; rfl) (by kernel_rfl) (by kernel_rfl) (by kernel_rfl) (fun _ _ _ h => h) (Or.inl ⟨by rfl, ?_⟩) hHeld ?_
          rotate_left
          · intro w hSw
            go_simp
            try with_reducible rfl
          try simp only [Act.put, List.setIfInBounds_toArray, List.set_cons_zero, List.set_cons_succ]
          refine wpAnyH_take (i := 2) (v := .slice (some ⟨b1, o1, none⟩) k c) (by simp only [List.getElem?_toArray, List.getElem?_cons_zero, List.getElem?_cons_succ]; rfl) (by kernel_rfl) (by kernel_rfl) (by kernel_rfl) (fun _ _ _ h => h) (Or.inl ⟨by rfl, ?_⟩) hHeld ?_
          · intro w hSw
            go_simp
          try simp only [Act.put, List.setIfInBounds_toArray, List.set_cons_zero, List.set_cons_succ]
          refine wpAnyH_take (i := 3) (v := ?_) (by simp only [List.getElem?_toArray, List.getElem?_cons_zero, List.getElem?_cons_succ]; rfl) (by kernel_rfl) (by kernel_rfl) (by kernel_rfl) (fun _ _ _ h => h) (Or.inl ⟨by rfl, ?_⟩) hHeld ?_
          rotate_left
          · intro w hSw
            go_simp
            try with_reducible rfl
          try simp only [Act.put, List.setIfInBounds_toArray, List.set_cons_zero, List.set_cons_succ]
          refine wpAnyH_take (i := 4) (v := ?_) (by simp only [List.getElem?_toArray, List.getElem?_cons_zero, List.getElem?_cons_succ]; rfl) (by kernel_rfl) (by kernel_rfl) (by kernel_rfl) (fun _ _ _ h => h) (Or.inl ⟨by rfl, ?_⟩) hHeld ?_
          rotate_left
          · intro w hSw
            go_simp
            try with_reducible rfl
          try simp only [Act.put, List.setIfInBounds_toArray, List.set_cons_zero, List.set_cons_succ]
          refine wpAnyH_take (i := 5) (v := .agg (cellsB old).toArray) (by simp only [List.getElem?_toArray, List.getElem?_cons_zero, List.getElem?_cons_succ]; rfl) (by kernel_rfl) (by kernel_rfl) (by kernel_rfl) (fun _ _ _ h => h)
            (yieldsIf_load_mid (by rfl) _ _ rfl _ _ rfl _ _ (fun w hw => hw) Tryd.underlying24 rfl (by rw [cellsB_length, ho]; exact Tryd.sizeDg)) hHeld ?_
          try simp only [Act.put, List.setIfInBounds_toArray, List.set_cons_zero, List.set_cons_succ]
          refine wpAnyH_take (i := 6) (v := ?_) (by simp only [List.getElem?_toArray, List.getElem?_cons_zero, List.getElem?_cons_succ]; rfl) (by kernel_rfl) (by kernel_rfl) (by kernel_rfl) (fun _ _ _ h => h) (Or.inl ⟨by rfl, ?_⟩) hHeld ?_
          rotate_left
          · intro w hSw
            go_simp
            try with_reducible rfl
          try simp only [Act.put, List.setIfInBounds_toArray, List.set_cons_zero, List.set_cons_succ]
          refine wpAnyH_ready (rs := [7]) (by kernel_rfl) (by simp) ?_
          refine AllReadyH.cons (by simp only [List.getElem?_toArray, List.getElem?_cons_zero, List.getElem?_cons_succ]; rfl) (fun K hK => ?_) AllReadyH.nil
          rw [if_pos (by rfl)]
          go_simp
          refine (HCX.out wd (HX.out _ HBd.out).2.2.1 (HX.out _ HBd.out).2.1).mono ?_
          rintro e wE ⟨rfl, hbE⟩
          have HBE : Hid (Below w'.heap.size w' wE) := HBd.out.trans (hbE.mono HBd.out.size)
          clear hbE HBd
          go_wp2_with fail
          refine hK.out _ _ (HK.out _ HBE.out).1 (fun hHeld => ?_)
          clear hK K
          try simp only [Act.put, List.setIfInBounds_toArray, List.set_cons_zero, List.set_cons_succ]
          refine wpAnyH_take (i := 8) (v := ?_) (by simp only [List.getElem?_toArray, List.getElem?_cons_zero, List.getElem?_cons_succ]; rfl) (by kernel_rfl) (by kernel_rfl) (by kernel_rfl) (fun _ _ _ h => h) (Or.inl ⟨by rfl, ?_⟩) hHeld ?_
          rotate_left
          · intro w hSw
            go_simp
            try with_reducible rfl
          try simp only [Act.put, List.setIfInBounds_toArray, List.set_cons_zero, List.set_cons_succ]
          refine wpAnyH_done (by kernel_rfl) (NoPanic.normal ?_) _
          clear hHeld
          go_wp2_with fail
          go_ret
          exact ⟨rfl, (HK.out _ HBE.out).2.2⟩
        · have hd1 : (!decide (B = L)) = false := by simp [h11]
          have hd2 : (!decide (P = R)) = true := by simp [h22]
          clear h11 h22 HCD
          go_wp2_with (first
            | (refine wpList_allocE (by rfl) 24 (by rfl) (cellsB zD).toArray Tryd.zeroDg wB.heap.size rfl wC hwC ?_)
            | (refine wpList_store_mid (by rfl) 24 (.tmp 17) (.tmp 57) (by rfl) wB.heap.size 0 (cellsB R).toArray (by rfl) (by rfl) (by rw [cellsB_size, lR]; exact HTwC.out) (by rw [cellsB_size, lR]; exact Tryd.sizeDg) (all_oneCell_toArray (cellsB_one _)) ?_; rw [show (cellsB R).toArray.toList = cellsB R from rfl, hwD])
            | (refine wpList_load_midG (by rfl) 24 (.tmp 15) (by rfl) w5.heap.size 0 (by rfl) (cellsB B) _ (HSx.out _ HD0.out).1 Tryd.underlying24 (by rfl) (by rw [cellsB_length, lB]; exact Tryd.sizeDg) ?_)
            | (refine wpList_load_midG (by rfl) 24 (.tmp 13) (by rfl) w'.heap.size 0 (by rfl) (cellsB P) _ (HSx.out _ HD0.out).2.1 Tryd.underlying24 (by rfl) (by rw [cellsB_length, lP]; exact Tryd.sizeDg) ?_)
            | (refine wpList_load_midG (by rfl) 24 (.tmp 16) (by rfl) w8.heap.size 0 (by rfl) (cellsB L) _ (HSx.out _ HD0.out).2.2.1 Tryd.underlying24 (by rfl) (by rw [cellsB_length, lL]; exact Tryd.sizeDg) ?_)
            | (refine wpList_load_midG (by rfl) 24 (.tmp 17) (by rfl) wB.heap.size 0 (by rfl) (cellsB R) _ (HSx.out _ HD0.out).2.2.2 Tryd.underlying24 (by rfl) (by rw [cellsB_length, lR]; exact Tryd.sizeDg) ?_)
            | (refine wpList_neqD (.tmp 58) (.tmp 59) (by rfl) (by rfl) B L lB lL (by rfl) (by rfl) false hd1 ?_)
            | (refine wpList_neqD (.tmp 62) (.tmp 63) (by rfl) (by rfl) P R lP lR (by rfl) (by rfl) true hd2 ?_))
          clear hwC hwD HTwC
          have lN := nodeT_length B P
          have HN1 : Hid (∀ wx, Calls Tryd.prog 21 #[digestV B, digestV P] wx fun e w' => e = .returned (digestV (nodeT B P)) ∧ Below wx.heap.size wx w') := fun wx => rnode_any B P wx lB lP
          have HN2 : Hid (∀ wx, Calls Tryd.prog 21 #[digestV L, digestV R] wx fun e w' => e = .returned (digestV (nodeT B P)) ∧ Below wx.heap.size wx w') := fun wx => by rw [HE.out]; exact rnode_any L R wx lL lR
          clear HE
          generalize nodeT B P = N at *
          refine wp_region_noPanic ?_
          refine wp_region_held_drew (S := fun wx => wx.rangeAt w5.heap.size 0 (cellsB B) ∧ wx.rangeAt w'.heap.size 0 (cellsB P) ∧ wx.rangeAt w8.heap.size 0 (cellsB L) ∧ wx.rangeAt wB.heap.size 0 (cellsB R)) (by kernel_rfl) (HSx.out _ (below_drewN wD 1)) (fun hHeld => ?_)
          try simp only [Act.put, List.setIfInBounds_toArray, List.set_cons_zero, List.set_cons_succ]
          have HBd : Hid (Below wD.heap.size wD wD.drew) := below_drewN wD 1
          generalize wD.drew = wd at *
          refine wpAnyH_take (i := 0) (v := .agg (cellsB B).toArray) (by simp only [List.getElem?_toArray, List.getElem?_cons_zero, List.getElem?_cons_succ]; rfl) (by kernel_rfl) (by kernel_rfl) (by kernel_rfl) (fun _ _ _ h => h)
            (yieldsIf_load_mid (by rfl) _ _ rfl _ _ rfl _ _ (fun w hw => hw.1) Tryd.underlying24 rfl (by rw [cellsB_length, lB]; exact Tryd.sizeDg)) hHeld ?_
          try simp only [Act.put, List.setIfInBounds_toArray, List.set_cons_zero, List.set_cons_succ]
          refine wpAnyH_take (i := 1) (v := .agg (cellsB P).toArray) (by simp only [List.getElem?_toArray, List.getElem?_cons_zero, List.getElem?_cons_succ]; rfl) (by kernel_rfl) (by kernel_rfl) (by kernel_rfl) (fun _ _ _ h => h)
            (yieldsIf_load_mid (by rfl) _ _ rfl _ _ rfl _ _ (fun w hw => hw.2.1) Tryd.underlying24 rfl (by rw [cellsB_length, lP]; exact Tryd.sizeDg)) hHeld ?_
          try simp only [Act.put, List.setIfInBounds_toArray, List.set_cons_zero, List.set_cons_succ]
          refine wpAnyH_take (i := 3) (v := .agg (cellsB L).toArray) (by simp only [List.getElem?_toArray, List.getElem?_cons_zero, List.getElem?_cons_succ]; rfl) (by kernel_rfl) (by kernel_rfl) (by kernel_rfl) (fun _ _ _ h => h)
            (yieldsIf_load_mid (by rfl) _ _ rfl _ _ rfl _ _ (fun w hw => hw.2.2.1) Tryd.underlying24 rfl (by rw [cellsB_length, lL]; exact Tryd.sizeDg)) hHeld ?_
          try simp only [Act.put, List.setIfInBounds_toArray, List.set_cons_zero, List.set_cons_succ]
          refine wpAnyH_take (i := 4) (v := .agg (cellsB R).toArray) (by simp only [List.getElem?_toArray, List.getElem?_cons_zero, List.getElem?_cons_succ]; rfl) (by kernel_rfl) (by kernel_rfl) (by kernel_rfl) (fun _ _ _ h => h)
            (yieldsIf_load_mid (by rfl) _ _ rfl _ _ rfl _ _ (fun w hw => hw.2.2.2) Tryd.underlying24 rfl (by rw [cellsB_length, lR]; exact Tryd.sizeDg)) hHeld ?_
          try simp only [Act.put, List.setIfInBounds_toArray, List.set_cons_zero, List.set_cons_succ]
          refine wpAnyH_ready (rs := [2]) (by kernel_rfl) (by simp) ?_
          refine AllReadyH.cons (by simp only [List.getElem?_toArray, List.getElem?_cons_zero, List.getElem?_cons_succ]; rfl) (fun K hK => ?_) AllReadyH.nil
          rw [if_pos (by rfl)]
          go_simp
          refine (HN1.out wd).mono ?_
          rintro e wE ⟨rfl, hbE⟩
          have HBE : Hid (Below wD.heap.size wD wE) := HBd.out.trans (hbE.mono HBd.out.size)
          clear hbE HBd
          go_wp2_with fail
          refine hK.out _ _ (HSx.out _ HBE.out) (fun hHeld => ?_)
          clear hK K
          try simp only [Act.put, List.setIfInBounds_toArray, List.set_cons_zero, List.set_cons_succ]
          refine wpAnyH_ready (rs := [5]) (by kernel_rfl) (by simp) ?_
          refine AllReadyH.cons (by simp only [List.getElem?_toArray, List.getElem?_cons_zero, List.getElem?_cons_succ]; rfl) (fun K hK => ?_) AllReadyH.nil
          rw [if_pos (by rfl)]
          go_simp
          refine (HN2.out wE).mono ?_
          rintro e wF ⟨rfl, hbE⟩
          have HBF : Hid (Below wD.heap.size wD wF) := HBE.out.trans (hbE.mono HBE.out.size)
          clear hbE HBE
          go_wp2_with fail
          refine hK.out _ _ (HSx.out _ HBF.out) (fun hHeld => ?_)
          clear hK K
          try simp only [Act.put, List.setIfInBounds_toArray, List.set_cons_zero, List.set_cons_succ]
          refine wpAnyH_take (i := 6) (v := .bool true) (by simp only [List.getElem?_toArray, List.getElem?_cons_zero, List.getElem?_cons_succ]; rfl) (by kernel_rfl) (by kernel_rfl) (by kernel_rfl) (fun _ _ _ h => h)
            (yieldsIf_eqD (by rfl) _ _ rfl N N lN lN rfl rfl true (decide_eq_true rfl)) hHeld ?_
          try simp only [Act.put, List.setIfInBounds_toArray, List.set_cons_zero, List.set_cons_succ]
          refine wpAnyH_take (i := 7) (v := ?_) (by simp only [List.getElem?_toArray, List.getElem?_cons_zero, List.getElem?_cons_succ]; rfl) (by kernel_rfl) (by kernel_rfl) (by kernel_rfl) (fun _ _ _ h => h) (Or.inl ⟨by rfl, ?_⟩) hHeld ?_
          rotate_left
          · intro w hSw
            obtain ⟨hSw0, hSw1, hSw2, hSw3⟩ := hSw
            go_simp
            try with_reducible rfl
          try simp only [Act.put, List.setIfInBounds_toArray, List.set_cons_zero, List.set_cons_succ]
          refine wpAnyH_done (by kernel_rfl) (NoPanic.normal ?_) _
          clear hHeld
          go_wp2_with fail
          go_ret
          exact ⟨rfl, (HK.out _ (HBwD.out.trans (HBF.out.mono HBwD.out.size))).2.2⟩
      · have hd1 : (!decide (B = L)) = true := by simp [h11]
        have hd2 : (!decide (P = R)) = (!decide (P = R)) := rfl
        clear h11 HCD
        go_wp2_with (first
          | (refine wpList_allocE (by rfl) 24 (by rfl) (cellsB zD).toArray Tryd.zeroDg wB.heap.size rfl wC hwC ?_)
          | (refine wpList_store_mid (by rfl) 24 (.tmp 17) (.tmp 57) (by rfl) wB.heap.size 0 (cellsB R).toArray (by rfl) (by rfl) (by rw [cellsB_size, lR]; exact HTwC.out) (by rw [cellsB_size, lR]; exact Tryd.sizeDg) (all_oneCell_toArray (cellsB_one _)) ?_; rw [show (cellsB R).toArray.toList = cellsB R from rfl, hwD])
          | (refine wpList_load_midG (by rfl) 24 (.tmp 15) (by rfl) w5.heap.size 0 (by rfl) (cellsB B) _ (HSx.out _ HD0.out).1 Tryd.underlying24 (by rfl) (by rw [cellsB_length, lB]; exact Tryd.sizeDg) ?_)
          | (refine wpList_load_midG (by rfl) 24 (.tmp 13) (by rfl) w'.heap.size 0 (by rfl) (cellsB P) _ (HSx.out _ HD0.out).2.1 Tryd.underlying24 (by rfl) (by rw [cellsB_length, lP]; exact Tryd.sizeDg) ?_)
          | (refine wpList_load_midG (by rfl) 24 (.tmp 16) (by rfl) w8.heap.size 0 (by rfl) (cellsB L) _ (HSx.out _ HD0.out).2.2.1 Tryd.underlying24 (by rfl) (by rw [cellsB_length, lL]; exact Tryd.sizeDg) ?_)
          | (refine wpList_load_midG (by rfl) 24 (.tmp 17) (by rfl) wB.heap.size 0 (by rfl) (cellsB R) _ (HSx.out _ HD0.out).2.2.2 Tryd.underlying24 (by rfl) (by rw [cellsB_length, lR]; exact Tryd.sizeDg) ?_)
          | (refine wpList_neqD (.tmp 58) (.tmp 59) (by rfl) (by rfl) B L lB lL (by rfl) (by rfl) true hd1 ?_)
          | (refine wpList_neqD (.tmp 62) (.tmp 63) (by rfl) (by rfl) P R lP lR (by rfl) (by rfl) _ hd2 ?_))
        clear hwC hwD HTwC
        have lN := nodeT_length B P
        have HN1 : Hid (∀ wx, Calls Tryd.prog 21 #[digestV B, digestV P] wx fun e w' => e = .returned (digestV (nodeT B P)) ∧ Below wx.heap.size wx w') := fun wx => rnode_any B P wx lB lP
        have HN2 : Hid (∀ wx, Calls Tryd.prog 21 #[digestV L, digestV R] wx fun e w' => e = .returned (digestV (nodeT B P)) ∧ Below wx.heap.size wx w') := fun wx => by rw [HE.out]; exact rnode_any L R wx lL lR
        clear HE
        generalize nodeT B P = N at *
        refine wp_region_noPanic ?_
        refine wp_region_held_drew (S := fun wx => wx.rangeAt w5.heap.size 0 (cellsB B) ∧ wx.rangeAt w'.heap.size 0 (cellsB P) ∧ wx.rangeAt w8.heap.size 0 (cellsB L) ∧ wx.rangeAt wB.heap.size 0 (cellsB R)) (by kernel_rfl) (HSx.out _ (below_drewN wD 1)) (fun hHeld => ?_)
        try simp only [Act.put, List.setIfInBounds_toArray, List.set_cons_zero, List.set_cons_succ]
        have HBd : Hid (Below wD.heap.size wD wD.drew) := below_drewN wD 1
        generalize wD.drew = wd at *
        refine wpAnyH_take (i := 0) (v := .agg (cellsB B).toArray) (by simp only [List.getElem?_toArray, List.getElem?_cons_zero, List.getElem?_cons_succ]; rfl) (by kernel_rfl) (by kernel_rfl) (by kernel_rfl) (fun _ _ _ h => h)
          (yieldsIf_load_mid (by rfl) _ _ rfl _ _ rfl _ _ (fun w hw => hw.1) Tryd.underlying24 rfl (by rw [cellsB_length, lB]; exact Tryd.sizeDg)) hHeld ?_
        try simp only [Act.put, List.setIfInBounds_toArray, List.set_cons_zero, List.set_cons_succ]
        refine wpAnyH_take (i := 1) (v := .agg (cellsB P).toArray) (by simp only [List.getElem?_toArray, List.getElem?_cons_zero, List.getElem?_cons_succ]; rfl) (by kernel_rfl) (by kernel_rfl) (by kernel_rfl) (fun _ _ _ h => h)
          (yieldsIf_load_mid (by rfl) _ _ rfl _ _ rfl _ _ (fun w hw => hw.2.1) Tryd.underlying24 rfl (by rw [cellsB_length, lP]; exact Tryd.sizeDg)) hHeld ?_
        try simp only [Act.put, List.setIfInBounds_toArray, List.set_cons_zero, List.set_cons_succ]
        refine wpAnyH_take (i := 3) (v := .agg (cellsB L).toArray) (by simp only [List.getElem?_toArray, List.getElem?_cons_zero, List.getElem?_cons_succ]; rfl) (by kernel_rfl) (by kernel_rfl) (by kernel_rfl) (fun _ _ _ h => h)
          (yieldsIf_load_mid (by rfl) _ _ rfl _ _ rfl _ _ (fun w hw => hw.2.2.1) Tryd.underlying24 rfl (by rw [cellsB_length, lL]; exact Tryd.sizeDg)) hHeld ?_
        try simp only [Act.put, List.setIfInBounds_toArray, List.set_cons_zero, List.set_cons_succ]
        refine wpAnyH_take (i := 4) (v := .agg (cellsB R).toArray) (by simp only [List.getElem?_toArray, List.getElem?_cons_zero, List.getElem?_cons_succ]; rfl) (by kernel_rfl) (by kernel_rfl) (by kernel_rfl) (fun _ _ _ h => h)
          (yieldsIf_load_mid (by rfl) _ _ rfl _ _ rfl _ _ (fun w hw => hw.2.2.2) Tryd.underlying24 rfl (by rw [cellsB_length, lR]; exact Tryd.sizeDg)) hHeld ?_
        try simp only [Act.put, List.setIfInBounds_toArray, List.set_cons_zero, List.set_cons_succ]
        refine wpAnyH_ready (rs := [2]) (by kernel_rfl) (by simp) ?_
        refine AllReadyH.cons (by simp only [List.getElem?_toArray, List.getElem?_cons_zero, List.getElem?_cons_succ]; rfl) (fun K hK => ?_) AllReadyH.nil
        rw [if_pos (by rfl)]
        go_simp
        refine (HN1.out wd).mono ?_
        rintro e wE ⟨rfl, hbE⟩
        have HBE : Hid (Below wD.heap.size wD wE) := HBd.out.trans (hbE.mono HBd.out.size)
        clear hbE HBd
        go_wp2_with fail
        refine hK.out _ _ (HSx.out _ HBE.out) (fun hHeld => ?_)
        clear hK K
        try simp only [Act.put, List.setIfInBounds_toArray, List.set_cons_zero, List.set_cons_succ]
        refine wpAnyH_ready (rs := [5]) (by kernel_rfl) (by simp) ?_
        refine AllReadyH.cons (by simp only [List.getElem?_toArray, List.getElem?_cons_zero, List.getElem?_cons_succ]; rfl) (fun K hK => ?_) AllReadyH.nil
        rw [if_pos (by rfl)]
        go_simp
        refine (HN2.out wE).mono ?_
        rintro e wF ⟨rfl, hbE⟩
        have HBF : Hid (Below wD.heap.size wD wF) := HBE.out.trans (hbE.mono HBE.out.size)
        clear hbE HBE
        go_wp2_with fail
        refine hK.out _ _ (HSx.out _ HBF.out) (fun hHeld => ?_)
        clear hK K
        try simp only [Act.put, List.setIfInBounds_toArray, List.set_cons_zero, List.set_cons_succ]
        refine wpAnyH_take (i := 6) (v := .bool true) (by simp only [List.getElem?_toArray, List.getElem?_cons_zero, List.getElem?_cons_succ]; rfl) (by kernel_rfl) (by kernel_rfl) (by kernel_rfl) (fun _ _ _ h => h)
          (yieldsIf_eqD (by rfl) _ _ rfl N N lN lN rfl rfl true (decide_eq_true rfl)) hHeld ?_
        try simp only [Act.put, List.setIfInBounds_toArray, List.set_cons_zero, List.set_cons_succ]
        refine wpAnyH_take (i := 7) (v := ?_) (by simp only [List.getElem?_toArray, List.getElem?_cons_zero, List.getElem?_cons_succ]; rfl) (by kernel_rfl) (by kernel_rfl) (by kernel_rfl) (fun _ _ _ h => h) (Or.inl ⟨by rfl, ?_⟩) hHeld ?_
        rotate_left
        · intro w hSw
          obtain ⟨hSw0, hSw1, hSw2, hSw3⟩ := hSw
          go_simp
          try with_reducible rfl
        try simp only [Act.put, List.setIfInBounds_toArray, List.set_cons_zero, List.set_cons_succ]
        refine wpAnyH_done (by kernel_rfl) (NoPanic.normal ?_) _
        clear hHeld
        go_wp2_with fail
        go_ret
        exact ⟨rfl, (HK.out _ (HBwD.out.trans (HBF.out.mono HBwD.out.size))).2.2⟩
    · obtain ⟨hE, hN, hQ⟩ := HHI.out d
      have HCR : Hid (∀ wx, DRow wx (some ⟨b2, o2, none⟩) q PT → Calls Tryd.prog 11 #[.int .i64 ((m - k : Nat) : Int), .int .i64 ((n - k : Nat) : Int), .bool false, digestV old, .slice (some ⟨b2, o2, none⟩) q pc] wx fun e w' => (∃ g, e = .returned (.slice (some ⟨g, 0, none⟩) 2 2) ∧ DRow w' (some ⟨g, 0, none⟩) 2 [(rootsT (m - k) (n - k) false old PT).1, (rootsT (m - k) (n - k) false old PT).2]) ∧ Below wx.heap.size wx w') := fun wx hr => rroots_any (n - k) (m - k) q pc false old _ PT wx ho hr hQ (by omega) (by omega) (by omega) (by omega)
      have HCD : Hid (P = rootT (ls.take k) → (rootsT (m - k) (n - k) false old PT).2 = rootT (ls.drop k) → ∀ wx, DRow wx (some ⟨b1, o1 + k * 32, none⟩) (n - k) (ls.drop k) → DRow wx (some ⟨b2, o2, none⟩) q PT → Calls Tryd.prog 16 #[.slice (some ⟨b1, o1 + k * 32, none⟩) (n - k) (c - k), .int .i64 ((m - k : Nat) : Int), .bool false, digestV old, .slice (some ⟨b2, o2, none⟩) q pc] wx fun e w' => e = .returned (.bool true) ∧ Below wx.heap.size wx w') := fun h' h wx hr1 hr2 => HI.out (n - k) (by omega) (m - k) q (c - k) pc false old _ _ _ PT wx ho hr1 hr2 hQ (by omega) (by omega) (by omega) (by omega) (by omega) h (hN h')
      have HE : Hid (nodeT P (rootsT (m - k) (n - k) false old PT).2 = nodeT (rootT (ls.take k)) (rootT (ls.drop k))) := hE
      clear hE hN hQ HLO HHI HI
      have g1 : ¬ (m : Int) ≤ (k : Int) := by omega
      generalize (rootsT (m - k) (n - k) false old PT).1 = A at *
      generalize (rootsT (m - k) (n - k) false old PT).2 = B at *
      generalize rootT (ls.take k) = L at *
      generalize rootT (ls.drop k) = R at *
      have s1 : (m : Int) - (k : Int) = ((m - k : Nat) : Int) := by omega
      have s2 : (n : Int) - (k : Int) = ((n - k : Nat) : Int) := by omega
      have d1 : m - k ≤ 100000 := by omega
      have d2 : n - k ≤ 100000 := by omega
      obtain ⟨m', hm'⟩ : ∃ m' : Nat, m - k = m' := ⟨_, rfl⟩
      obtain ⟨n', hn'⟩ : ∃ n' : Nat, n - k = n' := ⟨_, rfl⟩
      rw [hm'] at s1 d1 HCR HCD
      rw [hn'] at s2 d2 HCR
      have wi : IntKind.i64.wrap (m' : Int) = (m' : Int) := wrapT m' (by omega)
      clear hm' hn'
      obtain ⟨w3, hw3⟩ : ∃ w3, w'.alloc (.cells (cellsB zD).toArray 24) = w3 := ⟨_, rfl⟩
      have HTw3 : Hid (w3.there w'.heap.size 0 32) := by rw [← hw3]; exact alloc_thereAt _ _ _ 32 _ rfl zD_size.symm
      have hbw4 : Below w'.heap.size w' (w3.setCells w'.heap.size 0 (cellsB P)) := by rw [← hw3]; exact new_stored _ _ _
      have HVPw4 : Hid (DAt (w3.setCells w'.heap.size 0 (cellsB P)) w'.heap.size 0 P) := dat_stored HTw3.out lP
      have HBw4 : Hid (Below w'.heap.size w' (w3.setCells w'.heap.size 0 (cellsB P))) := H0.out.trans (hbw4.mono H0.out.size)
      clear hbw4
      obtain ⟨w4, hw4⟩ : ∃ w4, w3.setCells w'.heap.size 0 (cellsB P) = w4 := ⟨_, rfl⟩
      rw [hw4] at HVPw4 HBw4
      have gPw4 : w'.heap.size < w4.heap.size := cell_block (HVPw4.out.cell 0 (by omega))
      go_wp2_with (first
        | (refine wpList_load_mid (by rfl) 24 (.tmp 32) (by rfl) b2 (o2 + q * 32) (by rfl) (cellsB P) _ (HX.out _ H0.out).1 Tryd.underlying24 (by rfl) (by rw [cellsB_length, lP]; exact Tryd.sizeDg) ?_)
        | (refine wpList_allocE (by rfl) 24 (by rfl) (cellsB zD).toArray Tryd.zeroDg w'.heap.size rfl w3 hw3 ?_)
        | (refine wpList_store_mid (by rfl) 24 (.tmp 13) (.tmp 33) (by rfl) w'.heap.size 0 (cellsB P).toArray (by rfl) (by rfl) (by rw [cellsB_size, lP]; exact HTw3.out) (by rw [cellsB_size, lP]; exact Tryd.sizeDg) (all_oneCell_toArray (cellsB_one _)) ?_; rw [show (cellsB P).toArray.toList = cellsB P from rfl, hw4])
        | (refine wpList_load_mid (by rfl) 24 (.tmp 8) (by rfl) w.heap.size 0 (by rfl) (cellsB old) _ (HK.out _ HBw4.out).1 Tryd.underlying24 (by rfl) (by rw [cellsB_length, ho]; exact Tryd.sizeDg) ?_))
      clear hw3 hw4 HTw3
      refine (HCR.out w4 (HX.out _ HBw4.out).2.1).mono ?_
      rintro e w5 ⟨⟨g, rfl, hr5⟩, hb5⟩
      obtain ⟨_, x2, _, lB⟩ := hr5.two
      have HXB : Hid (DAt w5 g 32 B) := x2
      clear hr5 x2 HCR
      have HBw5 : Hid (Below w'.heap.size w' w5) := HBw4.out.trans (hb5.mono HBw4.out.size)
      have HVPw5 : Hid (DAt w5 w'.heap.size 0 P) := HVPw4.out.below hb5 gPw4
      have gPw5 : w'.heap.size < w5.heap.size := cell_block (HVPw5.out.cell 0 (by omega))
      clear HVPw4 gPw4
      clear hb5
      obtain ⟨w6, hw6⟩ : ∃ w6, w5.alloc (.cells (cellsB zD).toArray 24) = w6 := ⟨_, rfl⟩
      have HTw6 : Hid (w6.there w5.heap.size 0 32) := by rw [← hw6]; exact alloc_thereAt _ _ _ 32 _ rfl zD_size.symm
      have hbw7 : Below w5.heap.size w5 (w6.setCells w5.heap.size 0 (cellsB B)) := by rw [← hw6]; exact new_stored _ _ _
      have HVBw7 : Hid (DAt (w6.setCells w5.heap.size 0 (cellsB B)) w5.heap.size 0 B) := dat_stored HTw6.out lB
      have HBw7 : Hid (Below w'.heap.size w' (w6.setCells w5.heap.size 0 (cellsB B))) := HBw5.out.trans (hbw7.mono HBw5.out.size)
      have HVPw7 : Hid (DAt (w6.setCells w5.heap.size 0 (cellsB B)) w'.heap.size 0 P) := HVPw5.out.below hbw7 gPw5
      clear hbw7
      obtain ⟨w7, hw7⟩ : ∃ w7, w6.setCells w5.heap.size 0 (cellsB B) = w7 := ⟨_, rfl⟩
      rw [hw7] at HVBw7 HBw7 HVPw7
      have gPw7 : w'.heap.size < w7.heap.size := cell_block (HVPw7.out.cell 0 (by omega))
      have gBw7 : w5.heap.size < w7.heap.size := cell_block (HVBw7.out.cell 0 (by omega))
      clear HVPw5 gPw5
      go_wp2_with (first
        | (refine wpList_load_mid (by rfl) 24 (.tmp 90) (by rfl) g 32 (by rfl) (cellsB B) _ HXB.out Tryd.underlying24 (by rfl) (by rw [cellsB_length, lB]; exact Tryd.sizeDg) ?_)
        | (refine wpList_allocE (by rfl) 24 (by rfl) (cellsB zD).toArray Tryd.zeroDg w5.heap.size rfl w6 hw6 ?_)
        | (refine wpList_store_mid (by rfl) 24 (.tmp 18) (.tmp 91) (by rfl) w5.heap.size 0 (cellsB B).toArray (by rfl) (by rfl) (by rw [cellsB_size, lB]; exact HTw6.out) (by rw [cellsB_size, lB]; exact Tryd.sizeDg) (all_oneCell_toArray (cellsB_one _)) ?_; rw [show (cellsB B).toArray.toList = cellsB B from rfl, hw7]))
      clear hw6 hw7 HTw6 HXB
      refine (HCL.out w7 (HX.out _ HBw7.out).2.2.1).mono ?_
      rintro e w8 ⟨rfl, hb8⟩
      have HBw8 : Hid (Below w'.heap.size w' w8) := HBw7.out.trans (hb8.mono HBw7.out.size)
      have HVPw8 : Hid (DAt w8 w'.heap.size 0 P) := HVPw7.out.below hb8 gPw7
      have gPw8 : w'.heap.size < w8.heap.size := cell_block (HVPw8.out.cell 0 (by omega))
      have HVBw8 : Hid (DAt w8 w5.heap.size 0 B) := HVBw7.out.below hb8 gBw7
      have gBw8 : w5.heap.size < w8.heap.size := cell_block (HVBw8.out.cell 0 (by omega))
      clear HVPw7 gPw7 HVBw7 gBw7
      clear hb8 HCL
      obtain ⟨w9, hw9⟩ : ∃ w9, w8.alloc (.cells (cellsB zD).toArray 24) = w9 := ⟨_, rfl⟩
      have HTw9 : Hid (w9.there w8.heap.size 0 32) := by rw [← hw9]; exact alloc_thereAt _ _ _ 32 _ rfl zD_size.symm
      have hbwA : Below w8.heap.size w8 (w9.setCells w8.heap.size 0 (cellsB L)) := by rw [← hw9]; exact new_stored _ _ _
      have HVLwA : Hid (DAt (w9.setCells w8.heap.size 0 (cellsB L)) w8.heap.size 0 L) := dat_stored HTw9.out lL
      have HBwA : Hid (Below w'.heap.size w' (w9.setCells w8.heap.size 0 (cellsB L))) := HBw8.out.trans (hbwA.mono HBw8.out.size)
      have HVPwA : Hid (DAt (w9.setCells w8.heap.size 0 (cellsB L)) w'.heap.size 0 P) := HVPw8.out.below hbwA gPw8
      have HVBwA : Hid (DAt (w9.setCells w8.heap.size 0 (cellsB L)) w5.heap.size 0 B) := HVBw8.out.below hbwA gBw8
      clear hbwA
      obtain ⟨wA, hwA⟩ : ∃ wA, w9.setCells w8.heap.size 0 (cellsB L) = wA := ⟨_, rfl⟩
      rw [hwA] at HVLwA HBwA HVPwA HVBwA
      have gPwA : w'.heap.size < wA.heap.size := cell_block (HVPwA.out.cell 0 (by omega))
      have gBwA : w5.heap.size < wA.heap.size := cell_block (HVBwA.out.cell 0 (by omega))
      have gLwA : w8.heap.size < wA.heap.size := cell_block (HVLwA.out.cell 0 (by omega))
      clear HVPw8 gPw8 HVBw8 gBw8
      go_wp2_with (first
        | (refine wpList_allocE (by rfl) 24 (by rfl) (cellsB zD).toArray Tryd.zeroDg w8.heap.size rfl w9 hw9 ?_)
        | (refine wpList_store_mid (by rfl) 24 (.tmp 19) (.tmp 95) (by rfl) w8.heap.size 0 (cellsB L).toArray (by rfl) (by rfl) (by rw [cellsB_size, lL]; exact HTw9.out) (by rw [cellsB_size, lL]; exact Tryd.sizeDg) (all_oneCell_toArray (cellsB_one _)) ?_; rw [show (cellsB L).toArray.toList = cellsB L from rfl, hwA]))
      clear hw9 hwA HTw9
      refine (HCH.out wA (HX.out _ HBwA.out).2.2.2).mono ?_
      rintro e wB ⟨rfl, hbB⟩
      have HBwB : Hid (Below w'.heap.size w' wB) := HBwA.out.trans (hbB.mono HBwA.out.size)
      have HVPwB : Hid (DAt wB w'.heap.size 0 P) := HVPwA.out.below hbB gPwA
      have gPwB : w'.heap.size < wB.heap.size := cell_block (HVPwB.out.cell 0 (by omega))
      have HVBwB : Hid (DAt wB w5.heap.size 0 B) := HVBwA.out.below hbB gBwA
      have gBwB : w5.heap.size < wB.heap.size := cell_block (HVBwB.out.cell 0 (by omega))
      have HVLwB : Hid (DAt wB w8.heap.size 0 L) := HVLwA.out.below hbB gLwA
      have gLwB : w8.heap.size < wB.heap.size := cell_block (HVLwB.out.cell 0 (by omega))
      clear HVPwA gPwA HVBwA gBwA HVLwA gLwA
      clear hbB HCH
      obtain ⟨wC, hwC⟩ : ∃ wC, wB.alloc (.cells (cellsB zD).toArray 24) = wC := ⟨_, rfl⟩
      have HTwC : Hid (wC.there wB.heap.size 0 32) := by rw [← hwC]; exact alloc_thereAt _ _ _ 32 _ rfl zD_size.symm
      have hbwD : Below wB.heap.size wB (wC.setCells wB.heap.size 0 (cellsB R)) := by rw [← hwC]; exact new_stored _ _ _
      have HVRwD : Hid (DAt (wC.setCells wB.heap.size 0 (cellsB R)) wB.heap.size 0 R) := dat_stored HTwC.out lR
      have HBwD : Hid (Below w'.heap.size w' (wC.setCells wB.heap.size 0 (cellsB R))) := HBwB.out.trans (hbwD.mono HBwB.out.size)
      have HVPwD : Hid (DAt (wC.setCells wB.heap.size 0 (cellsB R)) w'.heap.size 0 P) := HVPwB.out.below hbwD gPwB
      have HVBwD : Hid (DAt (wC.setCells wB.heap.size 0 (cellsB R)) w5.heap.size 0 B) := HVBwB.out.below hbwD gBwB
      have HVLwD : Hid (DAt (wC.setCells wB.heap.size 0 (cellsB R)) w8.heap.size 0 L) := HVLwB.out.below hbwD gLwB
      clear hbwD
      obtain ⟨wD, hwD⟩ : ∃ wD, wC.setCells wB.heap.size 0 (cellsB R) = wD := ⟨_, rfl⟩
      rw [hwD] at HVRwD HBwD HVPwD HVBwD HVLwD
      have gPwD : w'.heap.size < wD.heap.size := cell_block (HVPwD.out.cell 0 (by omega))
      have gBwD : w5.heap.size < wD.heap.size := cell_block (HVBwD.out.cell 0 (by omega))
      have gLwD : w8.heap.size < wD.heap.size := cell_block (HVLwD.out.cell 0 (by omega))
      have gRwD : wB.heap.size < wD.heap.size := cell_block (HVRwD.out.cell 0 (by omega))
      clear HVPwB gPwB HVBwB gBwB HVLwB gLwB
      have HSx : Hid (∀ wx, Below wD.heap.size wD wx → wx.rangeAt w'.heap.size 0 (cellsB P) ∧ wx.rangeAt w5.heap.size 0 (cellsB B) ∧ wx.rangeAt w8.heap.size 0 (cellsB L) ∧ wx.rangeAt wB.heap.size 0 (cellsB R)) := fun wx hx => ⟨HVPwD.out.below hx gPwD, HVBwD.out.below hx gBwD, HVLwD.out.below hx gLwD, HVRwD.out.below hx gRwD⟩
      have HD0 : Hid (Below wD.heap.size wD wD) := Below.refl _ _
      clear HVPwD gPwD HVBwD gBwD HVLwD gLwD HVRwD gRwD
      by_cases h11 : P = L
      · by_cases h22 : B = R
        · have hd1 : (!decide (P = L)) = false := by simp [h11]
          have hd2 : (!decide (B = R)) = false := by simp [h22]
          have HCX := HCD.out h11 h22
          have HCX : Hid _ := HCX
          clear HCD h11 h22
          go_wp2_with (first
            | (refine wpList_allocE (by rfl) 24 (by rfl) (cellsB zD).toArray Tryd.zeroDg wB.heap.size rfl wC hwC ?_)
            | (refine wpList_store_mid (by rfl) 24 (.tmp 20) (.tmp 99) (by rfl) wB.heap.size 0 (cellsB R).toArray (by rfl) (by rfl) (by rw [cellsB_size, lR]; exact HTwC.out) (by rw [cellsB_size, lR]; exact Tryd.sizeDg) (all_oneCell_toArray (cellsB_one _)) ?_; rw [show (cellsB R).toArray.toList = cellsB R from rfl, hwD])
            | (refine wpList_load_midG (by rfl) 24 (.tmp 13) (by rfl) w'.heap.size 0 (by rfl) (cellsB P) _ (HSx.out _ HD0.out).1 Tryd.underlying24 (by rfl) (by rw [cellsB_length, lP]; exact Tryd.sizeDg) ?_)
            | (refine wpList_load_midG (by rfl) 24 (.tmp 18) (by rfl) w5.heap.size 0 (by rfl) (cellsB B) _ (HSx.out _ HD0.out).2.1 Tryd.underlying24 (by rfl) (by rw [cellsB_length, lB]; exact Tryd.sizeDg) ?_)
            | (refine wpList_load_midG (by rfl) 24 (.tmp 19) (by rfl) w8.heap.size 0 (by rfl) (cellsB L) _ (HSx.out _ HD0.out).2.2.1 Tryd.underlying24 (by rfl) (by rw [cellsB_length, lL]; exact Tryd.sizeDg) ?_)
            | (refine wpList_load_midG (by rfl) 24 (.tmp 20) (by rfl) wB.heap.size 0 (by rfl) (cellsB R) _ (HSx.out _ HD0.out).2.2.2 Tryd.underlying24 (by rfl) (by rw [cellsB_length, lR]; exact Tryd.sizeDg) ?_)
            | (refine wpList_neqD (.tmp 100) (.tmp 101) (by rfl) (by rfl) P L lP lL (by rfl) (by rfl) false hd1 ?_)
            | (refine wpList_neqD (.tmp 104) (.tmp 105) (by rfl) (by rfl) B R lB lR (by rfl) (by rfl) false hd2 ?_))
          clear hwC hwD HTwC HE
          refine wp_region_noPanic ?_
          refine wp_region_held_drew (S := fun wx => wx.rangeAt w.heap.size 0 (cellsB old)) (by kernel_rfl) ((HK.out _ (HBwD.out.trans ((below_drewN wD 1).mono HBwD.out.size))).1) (fun hHeld => ?_)
          try simp only [Act.put, List.setIfInBounds_toArray, List.set_cons_zero, List.set_cons_succ]
          have HBd : Hid (Below w'.heap.size w' wD.drew) := HBwD.out.trans ((below_drewN wD 1).mono HBwD.out.size)
          generalize wD.drew = wd at *
          refine wpAnyH_take (i := 0) (v := ?_) (by simp only [List.getElem?_toArray, List.getElem?_cons_zero, List.getElem?_cons_succ]; rfl) (by kernel_rfl) (by kernel_rfl) (by kernel_rfl) (fun _ _ _ h => h) (Or.inl ⟨by rfl, ?_⟩) hHeld ?_
          rotate_left
          · intro w hSw
            go_simp
            try with_reducible rfl
          try simp only [Act.put, List.setIfInBounds_toArray, List.set_cons_zero, List.set_cons_succ]
          refine wpAnyH_take (i := 1) (v := ?_) (by simp only [List.getElem?_toArray, List.getElem?_cons_zero, List.getElem?_cons_succ]; rfl) (by kernel_rfl) (by kernel_rfl) (by kernel_rfl) (fun _ _ _ h => h) (Or.inl ⟨by rfl, ?_⟩) hHeld ?_
          rotate_left
          · intro w hSw
            go_simp
            try with_reducible rfl
          try simp only [Act.put, List.setIfInBounds_toArray, List.set_cons_zero, List.set_cons_succ]
          refine wpAnyH_take (i := 2) (v := .slice (some ⟨b1, o1 + k * 32, none⟩) (n - k) (c - k)) (by simp only [List.getElem?_toArray, List.getElem?_cons_zero, List.getElem?_cons_succ]; rfl) (by kernel_rfl) (by kernel_rfl) (by kernel_rfl) (fun _ _ _ h => h) (Or.inl ⟨by rfl, ?_⟩) hHeld ?_
          · intro w hSw
            go_simp
            omega
          try simp only [Act.put, List.setIfInBounds_toArray, List.set_cons_zero, List.set_cons_succ]
          refine wpAnyH_take (i := 3) (v := ?_) (by simp only [List.getElem?_toArray, List.getElem?_cons_zero, List.getElem?_cons_succ]; rfl) (by kernel_rfl) (by kernel_rfl) (by kernel_rfl) (fun _ _ _ h => h) (Or.inl ⟨by rfl, ?_⟩) hHeld ?_
          rotate_left
          · intro w hSw
            go_simp
            try with_reducible rfl
          try simp only [Act.put, List.setIfInBounds_toArray, List.set_cons_zero, List.set_cons_succ]
          refine wpAnyH_take (i := 4) (v := ?_) (by simp only [List.getElem?_toArray, List.getElem?_cons_zero, List.getElem?_cons_succ]; rfl) (by kernel_rfl) (by kernel_rfl) (by kernel_rfl) (fun _ _ _ h => h) (Or.inl ⟨by rfl, ?_⟩) hHeld ?_
          rotate_left
          · intro w hSw
            go_simp
            try with_reducible rfl
          try simp only [Act.put, List.setIfInBounds_toArray, List.set_cons_zero, List.set_cons_succ]
          refine wpAnyH_take (i := 5) (v := .int .i64 (m' : Int)) (by simp only [List.getElem?_toArray, List.getElem?_cons_zero, List.getElem?_cons_succ]; rfl) (by kernel_rfl) (by kernel_rfl) (by kernel_rfl) (fun _ _ _ h => h) (Or.inl ⟨by rfl, ?_⟩) hHeld ?_
          · intro w hSw
            go_simp
          try simp only [Act.put, List.setIfInBounds_toArray, List.set_cons_zero, List.set_cons_succ]
          refine wpAnyH_take (i := 6) (v := .agg (cellsB old).toArray) (by simp only [List.getElem?_toArray, List.getElem?_cons_zero, List.getElem?_cons_succ]; rfl) (by kernel_rfl) (by kernel_rfl) (by kernel_rfl) (fun _ _ _ h => h)
            (yieldsIf_load_mid (by rfl) _ _ rfl _ _ rfl _ _ (fun w hw => hw) Tryd.underlying24 rfl (by rw [cellsB_length, ho]; exact Tryd.sizeDg)) hHeld ?_
          try simp only [Act.put, List.setIfInBounds_toArray, List.set_cons_zero, List.set_cons_succ]
          refine wpAnyH_take (i := 7) (v := ?_) (by simp only [List.getElem?_toArray, List.getElem?_cons_zero, List.getElem?_cons_succ]; rfl) (by kernel_rfl) (by kernel_rfl) (by kernel_rfl) (fun _ _ _ h => h) (Or.inl ⟨by rfl, ?_⟩) hHeld ?_
          rotate_left
          · intro w hSw
            go_simp
            try with_reducible rfl
          try simp only [Act.put, List.setIfInBounds_toArray, List.set_cons_zero, List.set_cons_succ]
          refine wpAnyH_ready (rs := [8]) (by kernel_rfl) (by simp) ?_
          refine AllReadyH.cons (by simp only [List.getElem?_toArray, List.getElem?_cons_zero, List.getElem?_cons_succ]; rfl) (fun K hK => ?_) AllReadyH.nil
          rw [if_pos (by rfl)]
          go_simp
          refine (HCX.out wd (HX.out _ HBd.out).2.2.2 (HX.out _ HBd.out).2.1).mono ?_
          rintro e wE ⟨rfl, hbE⟩
          have HBE : Hid (Below w'.heap.size w' wE) := HBd.out.trans (hbE.mono HBd.out.size)
          clear hbE HBd
          go_wp2_with fail
          refine hK.out _ _ (HK.out _ HBE.out).1 (fun hHeld => ?_)
          clear hK K
          try simp only [Act.put, List.setIfInBounds_toArray, List.set_cons_zero, List.set_cons_succ]
          refine wpAnyH_take (i := 9) (v := ?_) (by simp only [List.getElem?_toArray, List.getElem?_cons_zero, List.getElem?_cons_succ]; rfl) (by kernel_rfl) (by kernel_rfl) (by kernel_rfl) (fun _ _ _ h => h) (Or.inl ⟨by rfl, ?_⟩) hHeld ?_
          rotate_left
          · intro w hSw
            go_simp
            try with_reducible rfl
          try simp only [Act.put, List.setIfInBounds_toArray, List.set_cons_zero, List.set_cons_succ]
          refine wpAnyH_done (by kernel_rfl) (NoPanic.normal ?_) _
          clear hHeld
          go_wp2_with fail
          go_ret
          exact ⟨rfl, (HK.out _ HBE.out).2.2⟩
        · have hd1 : (!decide (P = L)) = false := by simp [h11]
          have hd2 : (!decide (B = R)) = true := by simp [h22]
          clear h11 h22 HCD
          go_wp2_with (first
            | (refine wpList_allocE (by rfl) 24 (by rfl) (cellsB zD).toArray Tryd.zeroDg wB.heap.size rfl wC hwC ?_)
            | (refine wpList_store_mid (by rfl) 24 (.tmp 20) (.tmp 99) (by rfl) wB.heap.size 0 (cellsB R).toArray (by rfl) (by rfl) (by rw [cellsB_size, lR]; exact HTwC.out) (by rw [cellsB_size, lR]; exact Tryd.sizeDg) (all_oneCell_toArray (cellsB_one _)) ?_; rw [show (cellsB R).toArray.toList = cellsB R from rfl, hwD])
            | (refine wpList_load_midG (by rfl) 24 (.tmp 13) (by rfl) w'.heap.size 0 (by rfl) (cellsB P) _ (HSx.out _ HD0.out).1 Tryd.underlying24 (by rfl) (by rw [cellsB_length, lP]; exact Tryd.sizeDg) ?_)
            | (refine wpList_load_midG (by rfl) 24 (.tmp 18) (by rfl) w5.heap.size 0 (by rfl) (cellsB B) _ (HSx.out _ HD0.out).2.1 Tryd.underlying24 (by rfl) (by rw [cellsB_length, lB]; exact Tryd.sizeDg) ?_)
            | (refine wpList_load_midG (by rfl) 24 (.tmp 19) (by rfl) w8.heap.size 0 (by rfl) (cellsB L) _ (HSx.out _ HD0.out).2.2.1 Tryd.underlying24 (by rfl) (by rw [cellsB_length, lL]; exact Tryd.sizeDg) ?_)
            | (refine wpList_load_midG (by rfl) 24 (.tmp 20) (by rfl) wB.heap.size 0 (by rfl) (cellsB R) _ (HSx.out _ HD0.out).2.2.2 Tryd.underlying24 (by rfl) (by rw [cellsB_length, lR]; exact Tryd.sizeDg) ?_)
            | (refine wpList_neqD (.tmp 100) (.tmp 101) (by rfl) (by rfl) P L lP lL (by rfl) (by rfl) false hd1 ?_)
            | (refine wpList_neqD (.tmp 104) (.tmp 105) (by rfl) (by rfl) B R lB lR (by rfl) (by rfl) true hd2 ?_))
          clear hwC hwD HTwC
          have lN := nodeT_length P B
          have HN1 : Hid (∀ wx, Calls Tryd.prog 21 #[digestV P, digestV B] wx fun e w' => e = .returned (digestV (nodeT P B)) ∧ Below wx.heap.size wx w') := fun wx => rnode_any P B wx lP lB
          have HN2 : Hid (∀ wx, Calls Tryd.prog 21 #[digestV L, digestV R] wx fun e w' => e = .returned (digestV (nodeT P B)) ∧ Below wx.heap.size wx w') := fun wx => by rw [HE.out]; exact rnode_any L R wx lL lR
          clear HE
          generalize nodeT P B = N at *
          refine wp_region_noPanic ?_
          refine wp_region_held_drew (S := fun wx => wx.rangeAt w'.heap.size 0 (cellsB P) ∧ wx.rangeAt w5.heap.size 0 (cellsB B) ∧ wx.rangeAt w8.heap.size 0 (cellsB L) ∧ wx.rangeAt wB.heap.size 0 (cellsB R)) (by kernel_rfl) (HSx.out _ (below_drewN wD 1)) (fun hHeld => ?_)
          try simp only [Act.put, List.setIfInBounds_toArray, List.set_cons_zero, List.set_cons_succ]
          have HBd : Hid (Below wD.heap.size wD wD.drew) := below_drewN wD 1
          generalize wD.drew = wd at *
          refine wpAnyH_take (i := 0) (v := .agg (cellsB P).toArray) (by simp only [List.getElem?_toArray, List.getElem?_cons_zero, List.getElem?_cons_succ]; rfl) (by kernel_rfl) (by kernel_rfl) (by kernel_rfl) (fun _ _ _ h => h)
            (yieldsIf_load_mid (by rfl) _ _ rfl _ _ rfl _ _ (fun w hw => hw.1) Tryd.underlying24 rfl (by rw [cellsB_length, lP]; exact Tryd.sizeDg)) hHeld ?_
          try simp only [Act.put, List.setIfInBounds_toArray, List.set_cons_zero, List.set_cons_succ]
          refine wpAnyH_take (i := 1) (v := .agg (cellsB B).toArray) (by simp only [List.getElem?_toArray, List.getElem?_cons_zero, List.getElem?_cons_succ]; rfl) (by kernel_rfl) (by kernel_rfl) (by kernel_rfl) (fun _ _ _ h => h)
            (yieldsIf_load_mid (by rfl) _ _ rfl _ _ rfl _ _ (fun w hw => hw.2.1) Tryd.underlying24 rfl (by rw [cellsB_length, lB]; exact Tryd.sizeDg)) hHeld ?_
          try simp only [Act.put, List.setIfInBounds_toArray, List.set_cons_zero, List.set_cons_succ]
          refine wpAnyH_take (i := 3) (v := .agg (cellsB L).toArray) (by simp only [List.getElem?_toArray, List.getElem?_cons_zero, List.getElem?_cons_succ]; rfl) (by kernel_rfl) (by kernel_rfl) (by kernel_rfl) (fun _ _ _ h => h)
            (yieldsIf_load_mid (by rfl) _ _ rfl _ _ rfl _ _ (fun w hw => hw.2.2.1) Tryd.underlying24 rfl (by rw [cellsB_length, lL]; exact Tryd.sizeDg)) hHeld ?_
          try simp only [Act.put, List.setIfInBounds_toArray, List.set_cons_zero, List.set_cons_succ]
          refine wpAnyH_take (i := 4) (v := .agg (cellsB R).toArray) (by simp only [List.getElem?_toArray, List.getElem?_cons_zero, List.getElem?_cons_succ]; rfl) (by kernel_rfl) (by kernel_rfl) (by kernel_rfl) (fun _ _ _ h => h)
            (yieldsIf_load_mid (by rfl) _ _ rfl _ _ rfl _ _ (fun w hw => hw.2.2.2) Tryd.underlying24 rfl (by rw [cellsB_length, lR]; exact Tryd.sizeDg)) hHeld ?_
          try simp only [Act.put, List.setIfInBounds_toArray, List.set_cons_zero, List.set_cons_succ]
          refine wpAnyH_ready (rs := [2]) (by kernel_rfl) (by simp) ?_
          refine AllReadyH.cons (by simp only [List.getElem?_toArray, List.getElem?_cons_zero, List.getElem?_cons_succ]; rfl) (fun K hK => ?_) AllReadyH.nil
          rw [if_pos (by rfl)]
          go_simp
          refine (HN1.out wd).mono ?_
          rintro e wE ⟨rfl, hbE⟩
          have HBE : Hid (Below wD.heap.size wD wE) := HBd.out.trans (hbE.mono HBd.out.size)
          clear hbE HBd
          go_wp2_with fail
          refine hK.out _ _ (HSx.out _ HBE.out) (fun hHeld => ?_)
          clear hK K
          try simp only [Act.put, List.setIfInBounds_toArray, List.set_cons_zero, List.set_cons_succ]
          refine wpAnyH_ready (rs := [5]) (by kernel_rfl) (by simp) ?_
          refine AllReadyH.cons (by simp only [List.getElem?_toArray, List.getElem?_cons_zero, List.getElem?_cons_succ]; rfl) (fun K hK => ?_) AllReadyH.nil
          rw [if_pos (by rfl)]
          go_simp
          refine (HN2.out wE).mono ?_
          rintro e wF ⟨rfl, hbE⟩
          have HBF : Hid (Below wD.heap.size wD wF) := HBE.out.trans (hbE.mono HBE.out.size)
          clear hbE HBE
          go_wp2_with fail
          refine hK.out _ _ (HSx.out _ HBF.out) (fun hHeld => ?_)
          clear hK K
          try simp only [Act.put, List.setIfInBounds_toArray, List.set_cons_zero, List.set_cons_succ]
          refine wpAnyH_take (i := 6) (v := .bool true) (by simp only [List.getElem?_toArray, List.getElem?_cons_zero, List.getElem?_cons_succ]; rfl) (by kernel_rfl) (by kernel_rfl) (by kernel_rfl) (fun _ _ _ h => h)
            (yieldsIf_eqD (by rfl) _ _ rfl N N lN lN rfl rfl true (decide_eq_true rfl)) hHeld ?_
          try simp only [Act.put, List.setIfInBounds_toArray, List.set_cons_zero, List.set_cons_succ]
          refine wpAnyH_take (i := 7) (v := ?_) (by simp only [List.getElem?_toArray, List.getElem?_cons_zero, List.getElem?_cons_succ]; rfl) (by kernel_rfl) (by kernel_rfl) (by kernel_rfl) (fun _ _ _ h => h) (Or.inl ⟨by rfl, ?_⟩) hHeld ?_
          rotate_left
          · intro w hSw
            obtain ⟨hSw0, hSw1, hSw2, hSw3⟩ := hSw
            go_simp
            try with_reducible rfl
          try simp only [Act.put, List.setIfInBounds_toArray, List.set_cons_zero, List.set_cons_succ]
          refine wpAnyH_done (by kernel_rfl) (NoPanic.normal ?_) _
          clear hHeld
          go_wp2_with fail
          go_ret
          exact ⟨rfl, (HK.out _ (HBwD.out.trans (HBF.out.mono HBwD.out.size))).2.2⟩
      · have hd1 : (!decide (P = L)) = true := by simp [h11]
        have hd2 : (!decide (B = R)) = (!decide (B = R)) := rfl
        clear h11 HCD
        go_wp2_with (first
          | (refine wpList_allocE (by rfl) 24 (by rfl) (cellsB zD).toArray Tryd.zeroDg wB.heap.size rfl wC hwC ?_)
          | (refine wpList_store_mid (by rfl) 24 (.tmp 20) (.tmp 99) (by rfl) wB.heap.size 0 (cellsB R).toArray (by rfl) (by rfl) (by rw [cellsB_size, lR]; exact HTwC.out) (by rw [cellsB_size, lR]; exact Tryd.sizeDg) (all_oneCell_toArray (cellsB_one _)) ?_; rw [show (cellsB R).toArray.toList = cellsB R from rfl, hwD])
          | (refine wpList_load_midG (by rfl) 24 (.tmp 13) (by rfl) w'.heap.size 0 (by rfl) (cellsB P) _ (HSx.out _ HD0.out).1 Tryd.underlying24 (by rfl) (by rw [cellsB_length, lP]; exact Tryd.sizeDg) ?_)
          | (refine wpList_load_midG (by rfl) 24 (.tmp 18) (by rfl) w5.heap.size 0 (by rfl) (cellsB B) _ (HSx.out _ HD0.out).2.1 Tryd.underlying24 (by rfl) (by rw [cellsB_length, lB]; exact Tryd.sizeDg) ?_)
          | (refine wpList_load_midG (by rfl) 24 (.tmp 19) (by rfl) w8.heap.size 0 (by rfl) (cellsB L) _ (HSx.out _ HD0.out).2.2.1 Tryd.underlying24 (by rfl) (by rw [cellsB_length, lL]; exact Tryd.sizeDg) ?_)
          | (refine wpList_load_midG (by rfl) 24 (.tmp 20) (by rfl) wB.heap.size 0 (by rfl) (cellsB R) _ (HSx.out _ HD0.out).2.2.2 Tryd.underlying24 (by rfl) (by rw [cellsB_length, lR]; exact Tryd.sizeDg) ?_)
          | (refine wpList_neqD (.tmp 100) (.tmp 101) (by rfl) (by rfl) P L lP lL (by rfl) (by rfl) true hd1 ?_)
          | (refine wpList_neqD (.tmp 104) (.tmp 105) (by rfl) (by rfl) B R lB lR (by rfl) (by rfl) _ hd2 ?_))
        clear hwC hwD HTwC
        have lN := nodeT_length P B
        have HN1 : Hid (∀ wx, Calls Tryd.prog 21 #[digestV P, digestV B] wx fun e w' => e = .returned (digestV (nodeT P B)) ∧ Below wx.heap.size wx w') := fun wx => rnode_any P B wx lP lB
        have HN2 : Hid (∀ wx, Calls Tryd.prog 21 #[digestV L, digestV R] wx fun e w' => e = .returned (digestV (nodeT P B)) ∧ Below wx.heap.size wx w') := fun wx => by rw [HE.out]; exact rnode_any L R wx lL lR
        clear HE
        generalize nodeT P B = N at *
        refine wp_region_noPanic ?_
        refine wp_region_held_drew (S := fun wx => wx.rangeAt w'.heap.size 0 (cellsB P) ∧ wx.rangeAt w5.heap.size 0 (cellsB B) ∧ wx.rangeAt w8.heap.size 0 (cellsB L) ∧ wx.rangeAt wB.heap.size 0 (cellsB R)) (by kernel_rfl) (HSx.out _ (below_drewN wD 1)) (fun hHeld => ?_)
        try simp only [Act.put, List.setIfInBounds_toArray, List.set_cons_zero, List.set_cons_succ]
        have HBd : Hid (Below wD.heap.size wD wD.drew) := below_drewN wD 1
        generalize wD.drew = wd at *
        refine wpAnyH_take (i := 0) (v := .agg (cellsB P).toArray) (by simp only [List.getElem?_toArray, List.getElem?_cons_zero, List.getElem?_cons_succ]; rfl) (by kernel_rfl) (by kernel_rfl) (by kernel_rfl) (fun _ _ _ h => h)
          (yieldsIf_load_mid (by rfl) _ _ rfl _ _ rfl _ _ (fun w hw => hw.1) Tryd.underlying24 rfl (by rw [cellsB_length, lP]; exact Tryd.sizeDg)) hHeld ?_
        try simp only [Act.put, List.setIfInBounds_toArray, List.set_cons_zero, List.set_cons_succ]
        refine wpAnyH_take (i := 1) (v := .agg (cellsB B).toArray) (by simp only [List.getElem?_toArray, List.getElem?_cons_zero, List.getElem?_cons_succ]; rfl) (by kernel_rfl) (by kernel_rfl) (by kernel_rfl) (fun _ _ _ h => h)
          (yieldsIf_load_mid (by rfl) _ _ rfl _ _ rfl _ _ (fun w hw => hw.2.1) Tryd.underlying24 rfl (by rw [cellsB_length, lB]; exact Tryd.sizeDg)) hHeld ?_
        try simp only [Act.put, List.setIfInBounds_toArray, List.set_cons_zero, List.set_cons_succ]
        refine wpAnyH_take (i := 3) (v := .agg (cellsB L).toArray) (by simp only [List.getElem?_toArray, List.getElem?_cons_zero, List.getElem?_cons_succ]; rfl) (by kernel_rfl) (by kernel_rfl) (by kernel_rfl) (fun _ _ _ h => h)
          (yieldsIf_load_mid (by rfl) _ _ rfl _ _ rfl _ _ (fun w hw => hw.2.2.1) Tryd.underlying24 rfl (by rw [cellsB_length, lL]; exact Tryd.sizeDg)) hHeld ?_
        try simp only [Act.put, List.setIfInBounds_toArray, List.set_cons_zero, List.set_cons_succ]
        refine wpAnyH_take (i := 4) (v := .agg (cellsB R).toArray) (by simp only [List.getElem?_toArray, List.getElem?_cons_zero, List.getElem?_cons_succ]; rfl) (by kernel_rfl) (by kernel_rfl) (by kernel_rfl) (fun _ _ _ h => h)
          (yieldsIf_load_mid (by rfl) _ _ rfl _ _ rfl _ _ (fun w hw => hw.2.2.2) Tryd.underlying24 rfl (by rw [cellsB_length, lR]; exact Tryd.sizeDg)) hHeld ?_
        try simp only [Act.put, List.setIfInBounds_toArray, List.set_cons_zero, List.set_cons_succ]
        refine wpAnyH_ready (rs := [2]) (by kernel_rfl) (by simp) ?_
        refine AllReadyH.cons (by simp only [List.getElem?_toArray, List.getElem?_cons_zero, List.getElem?_cons_succ]; rfl) (fun K hK => ?_) AllReadyH.nil
        rw [if_pos (by rfl)]
        go_simp
        refine (HN1.out wd).mono ?_
        rintro e wE ⟨rfl, hbE⟩
        have HBE : Hid (Below wD.heap.size wD wE) := HBd.out.trans (hbE.mono HBd.out.size)
        clear hbE HBd
        go_wp2_with fail
        refine hK.out _ _ (HSx.out _ HBE.out) (fun hHeld => ?_)
        clear hK K
        try simp only [Act.put, List.setIfInBounds_toArray, List.set_cons_zero, List.set_cons_succ]
        refine wpAnyH_ready (rs := [5]) (by kernel_rfl) (by simp) ?_
        refine AllReadyH.cons (by simp only [List.getElem?_toArray, List.getElem?_cons_zero, List.getElem?_cons_succ]; rfl) (fun K hK => ?_) AllReadyH.nil
        rw [if_pos (by rfl)]
        go_simp
        refine (HN2.out wE).mono ?_
        rintro e wF ⟨rfl, hbE⟩
        have HBF : Hid (Below wD.heap.size wD wF) := HBE.out.trans (hbE.mono HBE.out.size)
        clear hbE HBE
        go_wp2_with fail
        refine hK.out _ _ (HSx.out _ HBF.out) (fun hHeld => ?_)
        clear hK K
        try simp only [Act.put, List.setIfInBounds_toArray, List.set_cons_zero, List.set_cons_succ]
        refine wpAnyH_take (i := 6) (v := .bool true) (by simp only [List.getElem?_toArray, List.getElem?_cons_zero, List.getElem?_cons_succ]; rfl) (by kernel_rfl) (by kernel_rfl) (by kernel_rfl) (fun _ _ _ h => h)
          (yieldsIf_eqD (by rfl) _ _ rfl N N lN lN rfl rfl true (decide_eq_true rfl)) hHeld ?_
        try simp only [Act.put, List.setIfInBounds_toArray, List.set_cons_zero, List.set_cons_succ]
        refine wpAnyH_take (i := 7) (v := ?_) (by simp only [List.getElem?_toArray, List.getElem?_cons_zero, List.getElem?_cons_succ]; rfl) (by kernel_rfl) (by kernel_rfl) (by kernel_rfl) (fun _ _ _ h => h) (Or.inl ⟨by rfl, ?_⟩) hHeld ?_
        rotate_left
        · intro w hSw
          obtain ⟨hSw0, hSw1, hSw2, hSw3⟩ := hSw
          go_simp
          try with_reducible rfl
        try simp only [Act.put, List.setIfInBounds_toArray, List.set_cons_zero, List.set_cons_succ]
        refine wpAnyH_done (by kernel_rfl) (NoPanic.normal ?_) _
        clear hHeld
        go_wp2_with fail
        go_ret
        exact ⟨rfl, (HK.out _ (HBwD.out.trans (HBF.out.mono HBwD.out.size))).2.2⟩
end Go.Proofs.YtdldkhhcicjbmabDoor
