/- Texts of this claim, joined: Rtree2, StepD, Rtree3, Wpath. -/
import Derived.Test.YtdldkhhcicjbmaaDoorJ10
import Derived.Test.YtdldkhhcicjbmaaDoorJ07
import Derived.Deep.RegionHeld3
import Derived.Test.YtdldkhhcicjbmaaDoorJ08
/- The contracts of oathbookref1.Long and Root: they call themselves. -/
namespace Go.Proofs.YtdldkhhcicjbmaaDoor
open Go.RowKit
set_option linter.unusedVariables false
set_option linter.unusedSimpArgs false

set_option maxRecDepth 100000 in
set_option maxHeartbeats 1000000 in
theorem rlong_any : ∀ (n i : Nat) (w : World), 1 ≤ n → n ≤ 1000000 → i < n →
    Calls Tryd.prog 17 #[.int .i64 (i : Int), .int .i64 (n : Int)] w fun e w' => e = .returned (.int .i64 (longT i n : Int)) ∧ w' = w := by
  intro n
  induction n using Nat.strongRecOn with
  | ind n ih =>
    intro i w h1 hn hi
    have HI : Hid (∀ m, m < n → ∀ (i : Nat) (w : World), 1 ≤ m → m ≤ 1000000 → i < m → Calls Tryd.prog 17 #[.int .i64 (i : Int), .int .i64 (m : Int)] w fun e w' => e = .returned (.int .i64 (longT i m : Int)) ∧ w' = w) := ih
    clear ih
    go_enter Tryd.func17, Tryd.ntmps17
    by_cases h2 : 2 ≤ n
    · have e1 : ((n : Int) == 1) = false := by simp; omega
      go_wp2_with fail
      refine (rhalf_any n w h2 hn).mono ?_
      rintro e w' ⟨rfl, rfl⟩
      have hk1 := halfT_lt h2
      have hk2 := halfT_pos n
      by_cases c : i < halfT n
      · have HL : Hid (longT i n = 1 + longT i (halfT n)) := longT_lo h2 c
        have hlb := longT_le (halfT n) i
        have HC : Hid (Calls Tryd.prog 17 #[.int .i64 (i : Int), .int .i64 (halfT n : Int)] w' fun e w'' => e = .returned (.int .i64 (longT i (halfT n) : Int)) ∧ w'' = w') := HI.out (halfT n) hk1 i w' (by omega) (by omega) c
        generalize halfT n = k at *
        have g1 : (i : Int) < (k : Int) := by omega
        go_wp2_with fail
        refine HC.out.mono ?_
        rintro e w3 ⟨rfl, rfl⟩
        generalize longT i k = y at *
        go_wp2_with fail
        go_ret
        refine ⟨ret_int ?_, rfl⟩
        rw [HL.out]
        omega
      · have HL : Hid (longT i n = 1 + longT (i - halfT n) (n - halfT n)) := longT_hi h2 c
        have hlb := longT_le (n - halfT n) (i - halfT n)
        have HC : Hid (Calls Tryd.prog 17 #[.int .i64 ((i - halfT n : Nat) : Int), .int .i64 ((n - halfT n : Nat) : Int)] w' fun e w'' => e = .returned (.int .i64 (longT (i - halfT n) (n - halfT n) : Int)) ∧ w'' = w') := HI.out (n - halfT n) (by omega) (i - halfT n) w' (by omega) (by omega) (by omega)
        generalize halfT n = k at *
        have g1 : ¬ (i : Int) < (k : Int) := by omega
        have s1 : (i : Int) - (k : Int) = ((i - k : Nat) : Int) := by omega
        have s2 : (n : Int) - (k : Int) = ((n - k : Nat) : Int) := by omega
        have b1 : i - k ≤ 1000000 := by omega
        have b2 : n - k ≤ 1000000 := by omega
        generalize longT (i - k) (n - k) = y at *
        generalize i - k = i' at *
        generalize n - k = n' at *
        go_wp2_with fail
        refine HC.out.mono ?_
        rintro e w3 ⟨rfl, rfl⟩
        go_wp2_with fail
        go_ret
        refine ⟨ret_int ?_, rfl⟩
        rw [HL.out]
        omega
    · obtain rfl : n = 1 := by omega
      have HL : Hid (longT i 1 = 0) := longT_one h2
      go_wp2_with fail
      go_ret
      refine ⟨ret_int ?_, rfl⟩
      rw [HL.out]
      rfl

set_option maxRecDepth 100000 in
set_option maxHeartbeats 1000000 in
theorem rroot_any : ∀ (n : Nat) (a : Option Addr) (c : Nat) (ls : List (List UInt8)) (w : World), DRow w a n ls → n ≤ c → n ≤ 100000 →
    Calls Tryd.prog 9 #[.slice a n c] w fun e w' => e = .returned (digestV (rootT ls)) ∧ Below w.heap.size w w' := by
  intro n
  induction n using Nat.strongRecOn with
  | ind n ih =>
    intro a c ls w R hc hn
    have HI : Hid (∀ m, m < n → ∀ (a : Option Addr) (c : Nat) (ls : List (List UInt8)) (w : World), DRow w a m ls → m ≤ c → m ≤ 100000 → Calls Tryd.prog 9 #[.slice a m c] w fun e w' => e = .returned (digestV (rootT ls)) ∧ Below w.heap.size w w') := ih
    clear ih
    obtain ⟨w2, hw2⟩ : ∃ w2, w.alloc (.cells (cellsB zD).toArray 26) = w2 := ⟨_, rfl⟩
    have HS2 : Hid (w2.heap.size = w.heap.size + 1) := by unfold Hid; rw [← hw2]; simp
    have HB2 : Hid (Below w.heap.size w w2) := by rw [← hw2]; exact (Below.refl _ _).alloc (Nat.le_refl _) _
    have HT2 : Hid (w2.there w.heap.size 0 32) := by rw [← hw2]; exact alloc_thereAt _ _ _ 32 _ rfl zD_size.symm
    have HR2 : Hid (DRow w2 a n ls) := R.below HB2.out
    have HLEN : Hid (ls.length = n) := R.1
    have HKT : Hid (∀ wx, Below w2.heap.size w2 wx → DRow wx a n ls ∧ wx.there w.heap.size 0 32 ∧ Below w.heap.size w wx) := fun wx hx => ⟨HR2.out.below hx, there_below HT2.out hx (by have := HS2.out; omega), HB2.out.trans (hx.mono (by have := HS2.out; omega))⟩
    clear R
    have hlen := rootT_length HR2.out.2.1
    go_enter Tryd.func9, Tryd.ntmps9
    by_cases h2 : 2 ≤ n
    · have e0 : ((n : Int) == 0) = false := by simp; omega
      have e1 : ((n : Int) == 1) = false := by simp; omega
      go_wp2_with (refine wpList_allocE (by rfl) 26 (by rfl) (cellsB zD).toArray Tryd.zeroDg w.heap.size rfl w2 hw2 ?_)
      refine (rhalf_any n w2 h2 (by omega)).mono ?_
      rintro e w' ⟨rfl, rfl⟩
      clear hw2
      have hk1 := halfT_lt h2
      have hk2 := halfT_pos n
      have HE : Hid (rootT ls = nodeT (rootT (ls.take (halfT n))) (rootT (ls.drop (halfT n)))) := by
        have := rootT_two (ls := ls) (by rw [HLEN.out]; exact h2)
        rw [HLEN.out] at this
        exact this
      obtain ⟨b, o, rfl⟩ := HR2.out.addr (by omega)
      have HKL : Hid (∀ wx, Below w'.heap.size w' wx → DRow wx (some ⟨b, o, none⟩) (halfT n) (ls.take (halfT n)) ∧ DRow wx (some ⟨b, o + halfT n * 32, none⟩) (n - halfT n) (ls.drop (halfT n))) := fun wx hx => ⟨(HKT.out wx hx).1.take _ (by omega), (HKT.out wx hx).1.drop _ (by omega)⟩
      have HC1 : Hid (∀ wx, DRow wx (some ⟨b, o, none⟩) (halfT n) (ls.take (halfT n)) → Calls Tryd.prog 9 #[.slice (some ⟨b, o, none⟩) (halfT n) c] wx fun e w' => e = .returned (digestV (rootT (ls.take (halfT n)))) ∧ Below wx.heap.size wx w') := fun wx hr => HI.out (halfT n) hk1 _ c _ wx hr (by omega) (by omega)
      have HC2 : Hid (∀ wx, DRow wx (some ⟨b, o + halfT n * 32, none⟩) (n - halfT n) (ls.drop (halfT n)) → Calls Tryd.prog 9 #[.slice (some ⟨b, o + halfT n * 32, none⟩) (n - halfT n) (c - halfT n)] wx fun e w' => e = .returned (digestV (rootT (ls.drop (halfT n)))) ∧ Below wx.heap.size wx w') := fun wx hr => HI.out (n - halfT n) (by omega) _ (c - halfT n) _ wx hr (by omega) (by omega)
      have lA := rootT_length (HKL.out w' (Below.refl _ _)).1.2.1
      have lB := rootT_length (HKL.out w' (Below.refl _ _)).2.2.1
      rw [HE.out] at hlen
      generalize halfT n = k at *
      generalize rootT (ls.take k) = X at *
      generalize rootT (ls.drop k) = Y at *
      have k0 : (0 : Int) ≤ (k : Int) := by omega
      have k1 : (k : Int) ≤ (n : Int) := by omega
      have k2 : (k : Int) ≤ (c : Int) := by omega
      have n1 : (n : Int) ≤ (c : Int) := by omega
      go_wp2_with fail
      refine wp_region_noPanic ?_
      refine wp_region_held_drew (S := fun _ => True) (by kernel_rfl) True.intro (fun hHeld => ?_)
      try simp only [Act.put, List.setIfInBounds_toArray, List.set_cons_zero, List.set_cons_succ]
      have HBd : Hid (Below w'.heap.size w' w'.drew) := below_drewN w' 1
      generalize w'.drew = wd at *
      refine wpAnyH_take (i := 0) (v := ?_) (by simp only [List.getElem?_toArray, List.getElem?_cons_zero, List.getElem?_cons_succ]; rfl) (by kernel_rfl) (by kernel_rfl) (by kernel_rfl) (fun _ _ _ h => h) (Or.inl ⟨by rfl, ?_⟩) hHeld ?_
      rotate_left
      · intro w hSw
        go_simp
        try with_reducible rfl
      try simp only [Act.put, List.setIfInBounds_toArray, List.set_cons_zero, List.set_cons_succ]
      refine wpAnyH_take (i := 1) (v := ?_) (by simp only [List.getElem?_toArray, List.getElem?_cons_zero, List.getElem?_cons_succ]; rfl) (by kernel_rfl) (by kernel_rfl) (by kernel_rfl) (fun _ _ _ h => h) (Or.inl ⟨by rfl, ?_⟩) hHeld ?_
      rotate_left
      · intro w hSw
        go_simp
        try with_reducible rfl
      try simp only [Act.put, List.setIfInBounds_toArray, List.set_cons_zero, List.set_cons_succ]
      refine wpAnyH_take (i := 2) (v := .slice (some ⟨b, o, none⟩) k c) (by simp only [List.getElem?_toArray, List.getElem?_cons_zero, List.getElem?_cons_succ]; rfl) (by kernel_rfl) (by kernel_rfl) (by kernel_rfl) (fun _ _ _ h => h) (Or.inl ⟨by rfl, ?_⟩) hHeld ?_
      · intro w hSw
        go_simp
      try simp only [Act.put, List.setIfInBounds_toArray, List.set_cons_zero, List.set_cons_succ]
      refine wpAnyH_take (i := 4) (v := ?_) (by simp only [List.getElem?_toArray, List.getElem?_cons_zero, List.getElem?_cons_succ]; rfl) (by kernel_rfl) (by kernel_rfl) (by kernel_rfl) (fun _ _ _ h => h) (Or.inl ⟨by rfl, ?_⟩) hHeld ?_
      rotate_left
      · intro w hSw
        go_simp
        try with_reducible rfl
      try simp only [Act.put, List.setIfInBounds_toArray, List.set_cons_zero, List.set_cons_succ]
      refine wpAnyH_take (i := 5) (v := ?_) (by simp only [List.getElem?_toArray, List.getElem?_cons_zero, List.getElem?_cons_succ]; rfl) (by kernel_rfl) (by kernel_rfl) (by kernel_rfl) (fun _ _ _ h => h) (Or.inl ⟨by rfl, ?_⟩) hHeld ?_
      rotate_left
      · intro w hSw
        go_simp
        try with_reducible rfl
      try simp only [Act.put, List.setIfInBounds_toArray, List.set_cons_zero, List.set_cons_succ]
      refine wpAnyH_take (i := 6) (v := .slice (some ⟨b, o + k * 32, none⟩) (n - k) (c - k)) (by simp only [List.getElem?_toArray, List.getElem?_cons_zero, List.getElem?_cons_succ]; rfl) (by kernel_rfl) (by kernel_rfl) (by kernel_rfl) (fun _ _ _ h => h) (Or.inl ⟨by rfl, ?_⟩) hHeld ?_
      · intro w hSw
        go_simp
        omega
      try simp only [Act.put, List.setIfInBounds_toArray, List.set_cons_zero, List.set_cons_succ]
      refine wpAnyH_ready (rs := [3]) (by kernel_rfl) (by simp) ?_
      refine AllReadyH.cons (by simp only [List.getElem?_toArray, List.getElem?_cons_zero, List.getElem?_cons_succ]; rfl) (fun K hK => ?_) AllReadyH.nil
      rw [if_pos (by rfl)]
      go_simp
      refine (HC1.out wd (HKL.out _ HBd.out).1).mono ?_
      rintro e w3 ⟨rfl, hb3⟩
      have HB3 : Hid (Below w'.heap.size w' w3) := HBd.out.trans (hb3.mono HBd.out.size)
      clear hb3 HBd HC1
      go_wp2_with fail
      refine hK.out _ _ True.intro (fun hHeld => ?_)
      clear hK K
      try simp only [Act.put, List.setIfInBounds_toArray, List.set_cons_zero, List.set_cons_succ]
      refine wpAnyH_ready (rs := [7]) (by kernel_rfl) (by simp) ?_
      refine AllReadyH.cons (by simp only [List.getElem?_toArray, List.getElem?_cons_zero, List.getElem?_cons_succ]; rfl) (fun K hK => ?_) AllReadyH.nil
      rw [if_pos (by rfl)]
      go_simp
      refine (HC2.out w3 (HKL.out _ HB3.out).2).mono ?_
      rintro e w4 ⟨rfl, hb4⟩
      have HB4 : Hid (Below w'.heap.size w' w4) := HB3.out.trans (hb4.mono HB3.out.size)
      clear hb4 HB3 HC2
      go_wp2_with fail
      refine hK.out _ _ True.intro (fun hHeld => ?_)
      clear hK K
      try simp only [Act.put, List.setIfInBounds_toArray, List.set_cons_zero, List.set_cons_succ]
      refine wpAnyH_ready (rs := [8]) (by kernel_rfl) (by simp) ?_
      refine AllReadyH.cons (by simp only [List.getElem?_toArray, List.getElem?_cons_zero, List.getElem?_cons_succ]; rfl) (fun K hK => ?_) AllReadyH.nil
      rw [if_pos (by rfl)]
      go_simp
      refine (rnode_any X Y w4 lA lB).mono ?_
      rintro e w5 ⟨rfl, hb5⟩
      have HB5 : Hid (Below w'.heap.size w' w5) := HB4.out.trans (hb5.mono HB4.out.size)
      clear hb5 HB4
      generalize nodeT X Y = D at *
      go_wp2_with fail
      refine hK.out _ _ True.intro (fun hHeld => ?_)
      clear hK K
      try simp only [Act.put, List.setIfInBounds_toArray, List.set_cons_zero, List.set_cons_succ]
      refine wpAnyH_ready (rs := [9]) (by kernel_rfl) (by simp) ?_
      refine AllReadyH.cons (by simp only [List.getElem?_toArray, List.getElem?_cons_zero, List.getElem?_cons_succ]; rfl) (fun K hK => ?_) AllReadyH.nil
      rw [if_pos (by rfl)]
      refine wp_store_mid _ _ _ rfl w.heap.size 0 (cellsB D).toArray rfl rfl (by rw [cellsB_size, hlen]; exact (HKT.out _ HB5.out).2.1) (by rw [cellsB_size, hlen]; exact Tryd.sizeDg) (all_oneCell_toArray (cellsB_one _)) ?_
      refine hK.out _ _ True.intro (fun hHeld => ?_)
      clear hK K
      try simp only [Act.put, List.setIfInBounds_toArray, List.set_cons_zero, List.set_cons_succ]
      refine wpAnyH_done (by kernel_rfl) (NoPanic.normal ?_) _
      clear hHeld
      go_wp2_with fail
      refine bodyPost_ret (v := digestV D) (run_results_row Tryd.results9 _ _ w.heap.size 0 (by rfl) (cellsB D) (World.rangeAt_setCells_same _ _ _ _ (by rw [cellsB_length, hlen]; exact (HKT.out _ HB5.out).2.1)) _ Tryd.underlying26 (by rfl) (by rw [cellsB_length, hlen]; exact Tryd.sizeDg)) rfl ⟨by rw [HE.out], ?_⟩
      exact below_setCells _ (Nat.le_refl _) _ _ _ (HKT.out _ HB5.out).2.2
    · by_cases h0 : n = 0
      · subst h0
        have HE : Hid (rootT ls = shaL []) := rootT_none HLEN.out
        rw [HE.out] at hlen
        go_wp2_with (refine wpList_allocE (by rfl) 26 (by rfl) (cellsB zD).toArray Tryd.zeroDg w.heap.size rfl w2 hw2 ?_)
        refine (rsum_any none 0 0 [] w2 (Row.nil _) (by omega)).mono ?_
        rintro e w3 ⟨rfl, hb3⟩
        have HB3 : Hid (Below w2.heap.size w2 w3) := hb3
        clear hb3
        generalize shaL [] = D at *
        go_wp2_with (refine wpList_store_mid (by rfl) 26 (.tmp 2) (.tmp 7) (by rfl) w.heap.size 0 (cellsB D).toArray (by rfl) (by rfl) (by rw [cellsB_size, hlen]; exact (HKT.out _ HB3.out).2.1) (by rw [cellsB_size, hlen]; exact Tryd.sizeDg) (all_oneCell_toArray (cellsB_one _)) ?_)
        refine bodyPost_ret (v := digestV D) (run_results_row Tryd.results9 _ _ w.heap.size 0 (by rfl) (cellsB D) (World.rangeAt_setCells_same _ _ _ _ (by rw [cellsB_length, hlen]; exact (HKT.out _ HB3.out).2.1)) _ Tryd.underlying26 (by rfl) (by rw [cellsB_length, hlen]; exact Tryd.sizeDg)) rfl ⟨by rw [HE.out], ?_⟩
        exact below_setCells _ (Nat.le_refl _) _ _ _ (HKT.out _ HB3.out).2.2
      · obtain rfl : n = 1 := by omega
        have HE : Hid (rootT ls = ls.getD 0 []) := rootT_one HLEN.out
        rw [HE.out] at hlen
        obtain ⟨b, o, rfl⟩ := HR2.out.addr (by omega)
        have HX : Hid (DAt w2 b o (ls.getD 0 [])) := by have := HR2.out.at 0 (by omega); rwa [Nat.zero_mul, Nat.add_zero] at this
        generalize ls.getD 0 [] = D at *
        go_wp2_with (first
          | (refine wpList_allocE (by rfl) 26 (by rfl) (cellsB zD).toArray Tryd.zeroDg w.heap.size rfl w2 hw2 ?_)
          | (refine wpList_load_mid (by rfl) 26 (.tmp 12) (by rfl) b o (by rfl) (cellsB D) _ HX.out Tryd.underlying26 (by rfl) (by rw [cellsB_length, hlen]; exact Tryd.sizeDg) ?_)
          | (refine wpList_store_mid (by rfl) 26 (.tmp 2) (.tmp 13) (by rfl) w.heap.size 0 (cellsB D).toArray (by rfl) (by rfl) (by rw [cellsB_size, hlen]; exact HT2.out) (by rw [cellsB_size, hlen]; exact Tryd.sizeDg) (all_oneCell_toArray (cellsB_one _)) ?_))
        refine bodyPost_ret (v := digestV D) (run_results_row Tryd.results9 _ _ w.heap.size 0 (by rfl) (cellsB D) (World.rangeAt_setCells_same _ _ _ _ (by rw [cellsB_length, hlen]; exact HT2.out)) _ Tryd.underlying26 (by rfl) (by rw [cellsB_length, hlen]; exact Tryd.sizeDg)) rfl ⟨by rw [HE.out], ?_⟩
        exact below_setCells _ (Nat.le_refl _) _ _ _ HB2.out
end Go.Proofs.YtdldkhhcicjbmaaDoor
/- A literal of a digest, and digests appended, as steps of a region that draws its order. -/
namespace Go.Proofs.YtdldkhhcicjbmaaDoor
open Go.RowKit
set_option linter.unusedVariables false
set_option linter.unusedSimpArgs false

theorem wp_buildD1 {w : World} {o : Oper} {a : Act} {K : Act → World → Prop} {Q : Exit → Act → World → Prop} (x : Operand) (ho : o.op = .buildSlice 22 1 #[(0, x)])
    (l : List UInt8) (hl : l.length = 32) (hx : a.eval x = digestV l)
    (h : K (a.put o.dst (.slice (some ⟨w.heap.size, 0, none⟩) 1 1)) (w.alloc (.cells (cellsB l).toArray 26))) : o.wp Tryd.prog a w K Q := by
  obtain ⟨i0, hi, hz0, hz1, hz2⟩ := info_parts Tryd.infoDg
  have hrun := run_buildD (P := Tryd.prog) w 22 26 (.agg zeros32) i0 [l] (by intro q hq; rw [List.mem_singleton] at hq; rw [hq]; exact hl) (by simp) (by simp) Tryd.underlying22 hi hz0 (by rfl) hz1
  simp only [List.length_singleton, List.zipIdx_cons, List.zipIdx_nil, List.map_cons, List.map_nil, List.flatten_cons, List.flatten_nil, List.append_nil] at hrun
  unfold Oper.wp
  simp [execOp, ho, hx, hrun, Result.andThen]
  exact h
theorem wp_appendD {w : World} {o : Oper} {a : Act} {K : Act → World → Prop} {Q : Exit → Act → World → Prop} (s x : Operand)
    (ho : o.op = .call { callee := .builtin .append, args := #[s, x], argTypes := #[22, 22] })
    (base : Nat) (v : Value) (ls : List (List UInt8)) (hs : a.eval s = v) (hown : OwnD w base v ls)
    (ad : Addr) (n c : Nat) (ds : List (List UInt8)) (hx : a.eval x = .slice (some ad) n c) (hr : DRow w (some ad) n ds) (hn0 : 0 < n) (h47 : (ls.length + n) * 32 ≤ 140737488355328) (hbase : base ≤ w.heap.size)
    (h : ∀ v' w', OwnD w' base v' (ls ++ ds) → w.grownBy w' v.ownBlock → (v'.ownBlock = v.ownBlock ∨ v'.ownBlock = some w.heap.size) → K (a.put o.dst v') w') : o.wp Tryd.prog a w K Q := by
  obtain ⟨i0, hi, hz0, hz1, hz2⟩ := info_parts Tryd.infoDg
  have hlen := hr.len
  obtain ⟨hl, h32, h1 | ⟨b, off, e1, hc⟩⟩ := hr
  · omega
  cases e1
  have hf := flat_len h32
  have hnews : ∀ j u, (cellsB ds.flatten)[j]? = some u → w.cell? ((⟨b, off, none⟩ : Addr).add j) = some u := by
    intro j u hj
    have hj' : j < ds.flatten.length := by have := (List.getElem?_eq_some_iff.1 hj).1; rwa [cellsB_length] at this
    have hq : j / 32 < n := by omega
    have hm : j % 32 < 32 := Nat.mod_lt _ (by omega)
    have e : j = 32 * (j / 32) + j % 32 := by omega
    rw [Go.WideShapes.add_plain, ← hj, cellsB_at _ j hj']
    have := (hc (j / 32) hq).cell (j % 32) (by rw [hlen _ hq]; exact hm)
    rw [show off + 32 * (j / 32) + j % 32 = off + j by omega] at this
    rw [this]
    have hn := nth_flat h32 (j / 32) (j % 32) (by omega) hm
    rw [← e] at hn
    rw [hn]
  obtain ⟨v', w', hrun, h2, h3, h4, h5⟩ := run_append_own_at (P := Tryd.prog) w base 22 o.type 26 i0 (.agg zeros32) 32 32 Tryd.underlying22 hi hz0 hz1 hz2 rfl (by decide) v ls.length (cellsB ls.flatten) hown.2 ⟨b, off, none⟩ n c (cellsB ds.flatten) (by rw [cellsB_length, hf, hl]; omega) hnews (cellsB_one _) (by unfold maxLen; omega) h47 hbase
  unfold Oper.wp execOp
  simp only [ho, resolve, invoke, builtin, Sem.run_bind, Sem.run_pure, Result.andThen_ok, List.map_toArray, List.map_cons, List.map_nil, hs, hx, hrun]
  refine h v' w' ⟨?_, ?_⟩ h3 h5
  · intro l hl'
    rcases List.mem_append.1 hl' with h' | h'
    · exact hown.1 l h'
    · exact h32 l h'
  · rw [List.length_append, List.flatten_append, cellsB_append, hl]
    exact h2
end Go.Proofs.YtdldkhhcicjbmaaDoor
/- The contracts of oathbookref1.Path and Folded: they call themselves. -/
namespace Go.Proofs.YtdldkhhcicjbmaaDoor
open Go.RowKit
set_option linter.unusedVariables false
set_option linter.unusedSimpArgs false

theorem wrapT (n : Nat) (h : n < 9223372036854775808) : IntKind.i64.wrap (n : Int) = n := by
  simp only [IntKind.wrap, IntKind.bits, IntKind.signed, Bool.true_and]
  rw [if_neg (by simp; omega)]
  omega
theorem OwnD.lower {w : World} {B B' : Nat} {v : Value} {ls : List (List UInt8)} (h : OwnD w B v ls) (hb : B' ≤ B) : OwnD w B' v ls := by
  refine ⟨h.1, ?_⟩
  have h := h.2
  rcases h.2 with ⟨h1, h0⟩ | ⟨g, cap, cur, e1, e2, e3, e4⟩
  · exact ⟨h.1, .inl ⟨h1, h0⟩⟩
  · exact ⟨h.1, .inr ⟨g, cap, cur, e1, Nat.le_trans hb e2, e3, e4⟩⟩

set_option maxRecDepth 100000 in
set_option maxHeartbeats 1000000 in
theorem rpath_any : ∀ (n : Nat), ∀ (a : Option Addr) (c i : Nat) (ls : List (List UInt8)) (w : World), DRow w a n ls → n ≤ c → 1 ≤ n → n ≤ 100000 → i < n →
    Calls Tryd.prog 14 #[.slice a n c, .int .i64 (i : Int)] w fun e w' => (∃ v, e = .returned v ∧ OwnD w' w.heap.size v (pathT ls i)) ∧ Below w.heap.size w w' := by
  intro n
  induction n using Nat.strongRecOn with
  | ind n ih =>
    intro a c i ls w R hc h1 hn hi
    have HI : Hid (∀ m, m < n → ∀ (a : Option Addr) (c i : Nat) (ls : List (List UInt8)) (w : World), DRow w a m ls → m ≤ c → 1 ≤ m → m ≤ 100000 → i < m → Calls Tryd.prog 14 #[.slice a m c, .int .i64 (i : Int)] w fun e w' => (∃ v, e = .returned v ∧ OwnD w' w.heap.size v (pathT ls i)) ∧ Below w.heap.size w w') := ih
    clear ih
    have HLEN : Hid (ls.length = n) := R.1
    have HR : Hid (∀ wx, Below w.heap.size w wx → DRow wx a n ls) := fun wx hx => R.below hx
    have H0 : Hid (Below w.heap.size w w) := Below.refl _ _
    clear R
    go_enter Tryd.func14, Tryd.ntmps14
    by_cases h2 : 2 ≤ n
    · have e1 : ((n : Int) == 1) = false := by simp; omega
      go_wp2_with fail
      refine (rhalf_any n w h2 (by omega)).mono ?_
      rintro e w' ⟨rfl, rfl⟩
      have hk1 := halfT_lt h2
      have hk2 := halfT_pos n
      obtain ⟨b, o, rfl⟩ := (HR.out _ H0.out).addr (by omega)
      have HKL : Hid (∀ wx, Below w'.heap.size w' wx → DRow wx (some ⟨b, o, none⟩) (halfT n) (ls.take (halfT n)) ∧ DRow wx (some ⟨b, o + halfT n * 32, none⟩) (n - halfT n) (ls.drop (halfT n))) := fun wx hx => ⟨(HR.out wx hx).take _ (by omega), (HR.out wx hx).drop _ (by omega)⟩
      have lA := rootT_length (HKL.out w' (Below.refl _ _)).1.2.1
      have lB := rootT_length (HKL.out w' (Below.refl _ _)).2.2.1
      have h2' : 2 ≤ ls.length := by rw [HLEN.out]; exact h2
      have HR1 : Hid (∀ wx, DRow wx (some ⟨b, o, none⟩) (halfT n) (ls.take (halfT n)) → Calls Tryd.prog 9 #[.slice (some ⟨b, o, none⟩) (halfT n) c] wx fun e w' => e = .returned (digestV (rootT (ls.take (halfT n)))) ∧ Below wx.heap.size wx w') := fun wx hr => rroot_any (halfT n) _ c _ wx hr (by omega) (by omega)
      have HR2 : Hid (∀ wx, DRow wx (some ⟨b, o + halfT n * 32, none⟩) (n - halfT n) (ls.drop (halfT n)) → Calls Tryd.prog 9 #[.slice (some ⟨b, o + halfT n * 32, none⟩) (n - halfT n) (c - halfT n)] wx fun e w' => e = .returned (digestV (rootT (ls.drop (halfT n)))) ∧ Below wx.heap.size wx w') := fun wx hr => rroot_any (n - halfT n) _ (c - halfT n) _ wx hr (by omega) (by omega)
      by_cases hik : i < halfT n
      · have HE : Hid (pathT ls i = pathT (ls.take (halfT n)) i ++ [rootT (ls.drop (halfT n))]) := by
          have := pathT_lo (ls := ls) (i := i) h2' (by rw [HLEN.out]; exact hik)
          rw [HLEN.out] at this
          exact this
        have HPL : Hid ((pathT (ls.take (halfT n)) i).length ≤ 100000) := by
          unfold Hid
          rw [(fold_path (halfT n) (ls.take (halfT n)) i (by rw [List.length_take, HLEN.out]; omega) hik).2]
          have := longT_le (halfT n) i
          omega
        have HCP : Hid (∀ wx, DRow wx (some ⟨b, o, none⟩) (halfT n) (ls.take (halfT n)) → Calls Tryd.prog 14 #[.slice (some ⟨b, o, none⟩) (halfT n) c, .int .i64 (i : Int)] wx fun e w' => (∃ v, e = .returned v ∧ OwnD w' wx.heap.size v (pathT (ls.take (halfT n)) i)) ∧ Below wx.heap.size wx w') := fun wx hr => HI.out (halfT n) hk1 _ c i _ wx hr (by omega) (by omega) (by omega) hik
        generalize halfT n = k at *
        generalize rootT (ls.take k) = X at *
        generalize rootT (ls.drop k) = Y at *
        generalize pathT (ls.take k) i = PP at *
        have g1 : (i : Int) < (k : Int) := by omega
        clear HI h2'
        have k0 : (0 : Int) ≤ (k : Int) := by omega
        have k1 : (k : Int) ≤ (n : Int) := by omega
        have k2 : (k : Int) ≤ (c : Int) := by omega
        have n1 : (n : Int) ≤ (c : Int) := by omega
        go_wp2_with fail
        refine wp_region_noPanic ?_
        refine wp_region_held_drew (S := fun _ => True) (by kernel_rfl) True.intro (fun hHeld => ?_)
        try simp only [Act.put, List.setIfInBounds_toArray, List.set_cons_zero, List.set_cons_succ]
        have HBd : Hid (Below w'.heap.size w' w'.drew) := below_drewN w' 1
        generalize w'.drew = wd at *
        refine wpAnyH_take (i := 0) (v := ?_) (by simp only [List.getElem?_toArray, List.getElem?_cons_zero, List.getElem?_cons_succ]; rfl) (by kernel_rfl) (by kernel_rfl) (by kernel_rfl) (fun _ _ _ h => h) (Or.inl ⟨by rfl, ?_⟩) hHeld ?_
        rotate_left
        · intro w hSw
          go_simp
          try with_reducible rfl
        try simp only [Act.put, List.setIfInBounds_toArray, List.set_cons_zero, List.set_cons_succ]
        refine wpAnyH_take (i := 1) (v := ?_) (by simp only [List.getElem?_toArray, List.getElem?_cons_zero, List.getElem?_cons_succ]; rfl) (by kernel_rfl) (by kernel_rfl) (by kernel_rfl) (fun _ _ _ h => h) (Or.inl ⟨by rfl, ?_⟩) hHeld ?_
        rotate_left
        · intro w hSw
          go_simp
          try with_reducible rfl
        try simp only [Act.put, List.setIfInBounds_toArray, List.set_cons_zero, List.set_cons_succ]
        refine wpAnyH_take (i := 2) (v := .slice (some ⟨b, o, none⟩) k c) (by simp only [List.getElem?_toArray, List.getElem?_cons_zero, List.getElem?_cons_succ]; rfl) (by kernel_rfl) (by kernel_rfl) (by kernel_rfl) (fun _ _ _ h => h) (Or.inl ⟨by rfl, ?_⟩) hHeld ?_
        · intro w hSw
          go_simp
        try simp only [Act.put, List.setIfInBounds_toArray, List.set_cons_zero, List.set_cons_succ]
        refine wpAnyH_take (i := 3) (v := ?_) (by simp only [List.getElem?_toArray, List.getElem?_cons_zero, List.getElem?_cons_succ]; rfl) (by kernel_rfl) (by kernel_rfl) (by kernel_rfl) (fun _ _ _ h => h) (Or.inl ⟨by rfl, ?_⟩) hHeld ?_
        rotate_left
        · intro w hSw
          go_simp
          try with_reducible rfl
        try simp only [Act.put, List.setIfInBounds_toArray, List.set_cons_zero, List.set_cons_succ]
        refine wpAnyH_take (i := 5) (v := ?_) (by simp only [List.getElem?_toArray, List.getElem?_cons_zero, List.getElem?_cons_succ]; rfl) (by kernel_rfl) (by kernel_rfl) (by kernel_rfl) (fun _ _ _ h => h) (Or.inl ⟨by rfl, ?_⟩) hHeld ?_
        rotate_left
        · intro w hSw
          go_simp
          try with_reducible rfl
        try simp only [Act.put, List.setIfInBounds_toArray, List.set_cons_zero, List.set_cons_succ]
        refine wpAnyH_take (i := 6) (v := ?_) (by simp only [List.getElem?_toArray, List.getElem?_cons_zero, List.getElem?_cons_succ]; rfl) (by kernel_rfl) (by kernel_rfl) (by kernel_rfl) (fun _ _ _ h => h) (Or.inl ⟨by rfl, ?_⟩) hHeld ?_
        rotate_left
        · intro w hSw
          go_simp
          try with_reducible rfl
        try simp only [Act.put, List.setIfInBounds_toArray, List.set_cons_zero, List.set_cons_succ]
        refine wpAnyH_take (i := 7) (v := .slice (some ⟨b, o + k * 32, none⟩) (n - k) (c - k)) (by simp only [List.getElem?_toArray, List.getElem?_cons_zero, List.getElem?_cons_succ]; rfl) (by kernel_rfl) (by kernel_rfl) (by kernel_rfl) (fun _ _ _ h => h) (Or.inl ⟨by rfl, ?_⟩) hHeld ?_
        · intro w hSw
          go_simp
          omega
        try simp only [Act.put, List.setIfInBounds_toArray, List.set_cons_zero, List.set_cons_succ]
        refine wpAnyH_ready (rs := [4]) (by kernel_rfl) (by simp) ?_
        refine AllReadyH.cons (by simp only [List.getElem?_toArray, List.getElem?_cons_zero, List.getElem?_cons_succ]; rfl) (fun K hK => ?_) AllReadyH.nil
        rw [if_pos (by rfl)]
        go_simp
        refine (HCP.out wd (HKL.out _ HBd.out).1).mono ?_
        rintro e w3 ⟨⟨v3, rfl, ho3⟩, hb3⟩
        have HB3 : Hid (Below w'.heap.size w' w3) := HBd.out.trans (hb3.mono HBd.out.size)
        have HO3 : Hid (OwnD w3 w'.heap.size v3 PP) := ho3.lower HBd.out.size
        clear hb3 HBd HCP ho3
        go_wp2_with fail
        refine hK.out _ _ True.intro (fun hHeld => ?_)
        clear hK K
        try simp only [Act.put, List.setIfInBounds_toArray, List.set_cons_zero, List.set_cons_succ]
        refine wpAnyH_ready (rs := [8]) (by kernel_rfl) (by simp) ?_
        refine AllReadyH.cons (by simp only [List.getElem?_toArray, List.getElem?_cons_zero, List.getElem?_cons_succ]; rfl) (fun K hK => ?_) AllReadyH.nil
        rw [if_pos (by rfl)]
        go_simp
        refine (HR2.out w3 (HKL.out _ HB3.out).2).mono ?_
        rintro e w4 ⟨rfl, hb4⟩
        have HB4 : Hid (Below w'.heap.size w' w4) := HB3.out.trans (hb4.mono HB3.out.size)
        have HO4 : Hid (OwnD w4 w'.heap.size v3 PP) := OwnD.below HO3.out hb4
        clear hb4 HB3 HO3
        go_wp2_with fail
        refine hK.out _ _ True.intro (fun hHeld => ?_)
        clear hK K
        try simp only [Act.put, List.setIfInBounds_toArray, List.set_cons_zero, List.set_cons_succ]
        refine wpAnyH_ready (rs := [9]) (by kernel_rfl) (by simp) ?_
        refine AllReadyH.cons (by simp only [List.getElem?_toArray, List.getElem?_cons_zero, List.getElem?_cons_succ]; rfl) (fun K hK => ?_) AllReadyH.nil
        rw [if_pos (by rfl)]
        refine wp_buildD1 _ rfl Y lB rfl ?_
        have hs5 := HB4.out.size
        have HO5 : Hid (OwnD (w4.alloc (.cells (cellsB Y).toArray 26)) w'.heap.size v3 PP) := OwnD.alloc HO4.out _
        have HB5 : Hid (Below w'.heap.size w' (w4.alloc (.cells (cellsB Y).toArray 26))) := Below.alloc HB4.out hs5 _
        have HY5 : Hid (DRow (w4.alloc (.cells (cellsB Y).toArray 26)) (some ⟨w4.heap.size, 0, none⟩) 1 [Y]) := DRow.lit1 w4 Y _ lB
        refine hK.out _ _ True.intro (fun hHeld => ?_)
        clear HO4 HB4 hs5
        generalize w4.alloc (.cells (cellsB Y).toArray 26) = w5 at *
        clear hK K
        try simp only [Act.put, List.setIfInBounds_toArray, List.set_cons_zero, List.set_cons_succ]
        refine wpAnyH_ready (rs := [10]) (by kernel_rfl) (by simp) ?_
        refine AllReadyH.cons (by simp only [List.getElem?_toArray, List.getElem?_cons_zero, List.getElem?_cons_succ]; rfl) (fun K hK => ?_) AllReadyH.nil
        rw [if_pos (by rfl)]
        refine wp_appendD _ _ rfl w'.heap.size v3 PP rfl HO5.out ⟨w4.heap.size, 0, none⟩ 1 1 [Y] rfl HY5.out (by omega) (by have := HPL.out; omega) HB5.out.size ?_
        intro v7 w7 ho7 hg7 _
        have HB7 : Hid (Below w'.heap.size w' w7) := OwnD.grown HO5.out HB5.out hg7 (Nat.le_refl _) HB5.out.size
        have HO7 : Hid (OwnD w7 w'.heap.size v7 (PP ++ [Y])) := ho7
        refine hK.out _ _ True.intro (fun hHeld => ?_)
        clear HO5 HB5 HY5 hg7 ho7
        clear hK K
        try simp only [Act.put, List.setIfInBounds_toArray, List.set_cons_zero, List.set_cons_succ]
        refine wpAnyH_take (i := 11) (v := ?_) (by simp only [List.getElem?_toArray, List.getElem?_cons_zero, List.getElem?_cons_succ]; rfl) (by kernel_rfl) (by kernel_rfl) (by kernel_rfl) (fun _ _ _ h => h) (Or.inl ⟨by rfl, ?_⟩) hHeld ?_
        rotate_left
        · intro w hSw
          go_simp
          try with_reducible rfl
        try simp only [Act.put, List.setIfInBounds_toArray, List.set_cons_zero, List.set_cons_succ]
        refine wpAnyH_done (by kernel_rfl) (NoPanic.normal ?_) _
        clear hHeld
        go_wp2_with fail
        go_ret
        exact ⟨⟨_, rfl, by rw [HE.out]; exact HO7.out⟩, HB7.out⟩
      · have HE : Hid (pathT ls i = pathT (ls.drop (halfT n)) (i - halfT n) ++ [rootT (ls.take (halfT n))]) := by
          have := pathT_hi (ls := ls) (i := i) h2' (by rw [HLEN.out]; exact hik)
          rw [HLEN.out] at this
          exact this
        have HPL : Hid ((pathT (ls.drop (halfT n)) (i - halfT n)).length ≤ 100000) := by
          unfold Hid
          rw [(fold_path (n - halfT n) (ls.drop (halfT n)) (i - halfT n) (by rw [List.length_drop, HLEN.out]) (by omega)).2]
          have := longT_le (n - halfT n) (i - halfT n)
          omega
        have HCP : Hid (∀ wx, DRow wx (some ⟨b, o + halfT n * 32, none⟩) (n - halfT n) (ls.drop (halfT n)) → Calls Tryd.prog 14 #[.slice (some ⟨b, o + halfT n * 32, none⟩) (n - halfT n) (c - halfT n), .int .i64 ((i - halfT n : Nat) : Int)] wx fun e w' => (∃ v, e = .returned v ∧ OwnD w' wx.heap.size v (pathT (ls.drop (halfT n)) (i - halfT n))) ∧ Below wx.heap.size wx w') := fun wx hr => HI.out (n - halfT n) (by omega) _ (c - halfT n) (i - halfT n) _ wx hr (by omega) (by omega) (by omega) (by omega)
        generalize halfT n = k at *
        generalize rootT (ls.take k) = X at *
        generalize rootT (ls.drop k) = Y at *
        have s1 : (i : Int) - (k : Int) = ((i - k : Nat) : Int) := by omega
        have b1 : i - k ≤ 100000 := by omega
        have HIK : Hid (i - k = i - k) := rfl
        generalize pathT (ls.drop k) (i - k) = PP at *
        generalize i - k = i' at *
        have wi : IntKind.i64.wrap (i' : Int) = (i' : Int) := wrapT i' (by omega)
        have g1 : ¬ (i : Int) < (k : Int) := by omega
        clear HI h2'
        have k0 : (0 : Int) ≤ (k : Int) := by omega
        have k1 : (k : Int) ≤ (n : Int) := by omega
        have k2 : (k : Int) ≤ (c : Int) := by omega
        have n1 : (n : Int) ≤ (c : Int) := by omega
        go_wp2_with fail
        refine wp_region_noPanic ?_
        refine wp_region_held_drew (S := fun _ => True) (by kernel_rfl) True.intro (fun hHeld => ?_)
        try simp only [Act.put, List.setIfInBounds_toArray, List.set_cons_zero, List.set_cons_succ]
        have HBd : Hid (Below w'.heap.size w' w'.drew) := below_drewN w' 1
        generalize w'.drew = wd at *
        refine wpAnyH_take (i := 0) (v := ?_) (by simp only [List.getElem?_toArray, List.getElem?_cons_zero, List.getElem?_cons_succ]; rfl) (by kernel_rfl) (by kernel_rfl) (by kernel_rfl) (fun _ _ _ h => h) (Or.inl ⟨by rfl, ?_⟩) hHeld ?_
        rotate_left
        · intro w hSw
          go_simp
          try with_reducible rfl
        try simp only [Act.put, List.setIfInBounds_toArray, List.set_cons_zero, List.set_cons_succ]
        refine wpAnyH_take (i := 1) (v := ?_) (by simp only [List.getElem?_toArray, List.getElem?_cons_zero, List.getElem?_cons_succ]; rfl) (by kernel_rfl) (by kernel_rfl) (by kernel_rfl) (fun _ _ _ h => h) (Or.inl ⟨by rfl, ?_⟩) hHeld ?_
        rotate_left
        · intro w hSw
          go_simp
          try with_reducible rfl
        try simp only [Act.put, List.setIfInBounds_toArray, List.set_cons_zero, List.set_cons_succ]
        refine wpAnyH_take (i := 2) (v := .slice (some ⟨b, o + k * 32, none⟩) (n - k) (c - k)) (by simp only [List.getElem?_toArray, List.getElem?_cons_zero, List.getElem?_cons_succ]; rfl) (by kernel_rfl) (by kernel_rfl) (by kernel_rfl) (fun _ _ _ h => h) (Or.inl ⟨by rfl, ?_⟩) hHeld ?_
        · intro w hSw
          go_simp
          omega
        try simp only [Act.put, List.setIfInBounds_toArray, List.set_cons_zero, List.set_cons_succ]
        refine wpAnyH_take (i := 3) (v := ?_) (by simp only [List.getElem?_toArray, List.getElem?_cons_zero, List.getElem?_cons_succ]; rfl) (by kernel_rfl) (by kernel_rfl) (by kernel_rfl) (fun _ _ _ h => h) (Or.inl ⟨by rfl, ?_⟩) hHeld ?_
        rotate_left
        · intro w hSw
          go_simp
          try with_reducible rfl
        try simp only [Act.put, List.setIfInBounds_toArray, List.set_cons_zero, List.set_cons_succ]
        refine wpAnyH_take (i := 4) (v := ?_) (by simp only [List.getElem?_toArray, List.getElem?_cons_zero, List.getElem?_cons_succ]; rfl) (by kernel_rfl) (by kernel_rfl) (by kernel_rfl) (fun _ _ _ h => h) (Or.inl ⟨by rfl, ?_⟩) hHeld ?_
        rotate_left
        · intro w hSw
          go_simp
          try with_reducible rfl
        try simp only [Act.put, List.setIfInBounds_toArray, List.set_cons_zero, List.set_cons_succ]
        refine wpAnyH_take (i := 5) (v := .int .i64 (i' : Int)) (by simp only [List.getElem?_toArray, List.getElem?_cons_zero, List.getElem?_cons_succ]; rfl) (by kernel_rfl) (by kernel_rfl) (by kernel_rfl) (fun _ _ _ h => h) (Or.inl ⟨by rfl, ?_⟩) hHeld ?_
        · intro w hSw
          go_simp
        try simp only [Act.put, List.setIfInBounds_toArray, List.set_cons_zero, List.set_cons_succ]
        refine wpAnyH_take (i := 7) (v := ?_) (by simp only [List.getElem?_toArray, List.getElem?_cons_zero, List.getElem?_cons_succ]; rfl) (by kernel_rfl) (by kernel_rfl) (by kernel_rfl) (fun _ _ _ h => h) (Or.inl ⟨by rfl, ?_⟩) hHeld ?_
        rotate_left
        · intro w hSw
          go_simp
          try with_reducible rfl
        try simp only [Act.put, List.setIfInBounds_toArray, List.set_cons_zero, List.set_cons_succ]
        refine wpAnyH_take (i := 8) (v := ?_) (by simp only [List.getElem?_toArray, List.getElem?_cons_zero, List.getElem?_cons_succ]; rfl) (by kernel_rfl) (by kernel_rfl) (by kernel_rfl) (fun _ _ _ h => h) (Or.inl ⟨by rfl, ?_⟩) hHeld ?_
        rotate_left
        · intro w hSw
          go_simp
          try with_reducible rfl
        try simp only [Act.put, List.setIfInBounds_toArray, List.set_cons_zero, List.set_cons_succ]
        refine wpAnyH_take (i := 9) (v := .slice (some ⟨b, o, none⟩) k c) (by simp only [List.getElem?_toArray, List.getElem?_cons_zero, List.getElem?_cons_succ]; rfl) (by kernel_rfl) (by kernel_rfl) (by kernel_rfl) (fun _ _ _ h => h) (Or.inl ⟨by rfl, ?_⟩) hHeld ?_
        · intro w hSw
          go_simp
        try simp only [Act.put, List.setIfInBounds_toArray, List.set_cons_zero, List.set_cons_succ]
        refine wpAnyH_ready (rs := [6]) (by kernel_rfl) (by simp) ?_
        refine AllReadyH.cons (by simp only [List.getElem?_toArray, List.getElem?_cons_zero, List.getElem?_cons_succ]; rfl) (fun K hK => ?_) AllReadyH.nil
        rw [if_pos (by rfl)]
        go_simp
        refine (HCP.out wd (HKL.out _ HBd.out).2).mono ?_
        rintro e w3 ⟨⟨v3, rfl, ho3⟩, hb3⟩
        have HB3 : Hid (Below w'.heap.size w' w3) := HBd.out.trans (hb3.mono HBd.out.size)
        have HO3 : Hid (OwnD w3 w'.heap.size v3 PP) := ho3.lower HBd.out.size
        clear hb3 HBd HCP ho3
        go_wp2_with fail
        refine hK.out _ _ True.intro (fun hHeld => ?_)
        clear hK K
        try simp only [Act.put, List.setIfInBounds_toArray, List.set_cons_zero, List.set_cons_succ]
        refine wpAnyH_ready (rs := [10]) (by kernel_rfl) (by simp) ?_
        refine AllReadyH.cons (by simp only [List.getElem?_toArray, List.getElem?_cons_zero, List.getElem?_cons_succ]; rfl) (fun K hK => ?_) AllReadyH.nil
        rw [if_pos (by rfl)]
        go_simp
        refine (HR1.out w3 (HKL.out _ HB3.out).1).mono ?_
        rintro e w4 ⟨rfl, hb4⟩
        have HB4 : Hid (Below w'.heap.size w' w4) := HB3.out.trans (hb4.mono HB3.out.size)
        have HO4 : Hid (OwnD w4 w'.heap.size v3 PP) := OwnD.below HO3.out hb4
        clear hb4 HB3 HO3
        go_wp2_with fail
        refine hK.out _ _ True.intro (fun hHeld => ?_)
        clear hK K
        try simp only [Act.put, List.setIfInBounds_toArray, List.set_cons_zero, List.set_cons_succ]
        refine wpAnyH_ready (rs := [11]) (by kernel_rfl) (by simp) ?_
        refine AllReadyH.cons (by simp only [List.getElem?_toArray, List.getElem?_cons_zero, List.getElem?_cons_succ]; rfl) (fun K hK => ?_) AllReadyH.nil
        rw [if_pos (by rfl)]
        refine wp_buildD1 _ rfl X lA rfl ?_
        have hs5 := HB4.out.size
        have HO5 : Hid (OwnD (w4.alloc (.cells (cellsB X).toArray 26)) w'.heap.size v3 PP) := OwnD.alloc HO4.out _
        have HB5 : Hid (Below w'.heap.size w' (w4.alloc (.cells (cellsB X).toArray 26))) := Below.alloc HB4.out hs5 _
        have HY5 : Hid (DRow (w4.alloc (.cells (cellsB X).toArray 26)) (some ⟨w4.heap.size, 0, none⟩) 1 [X]) := DRow.lit1 w4 X _ lA
        refine hK.out _ _ True.intro (fun hHeld => ?_)
        clear HO4 HB4 hs5
        generalize w4.alloc (.cells (cellsB X).toArray 26) = w5 at *
        clear hK K
        try simp only [Act.put, List.setIfInBounds_toArray, List.set_cons_zero, List.set_cons_succ]
        refine wpAnyH_ready (rs := [12]) (by kernel_rfl) (by simp) ?_
        refine AllReadyH.cons (by simp only [List.getElem?_toArray, List.getElem?_cons_zero, List.getElem?_cons_succ]; rfl) (fun K hK => ?_) AllReadyH.nil
        rw [if_pos (by rfl)]
        refine wp_appendD _ _ rfl w'.heap.size v3 PP rfl HO5.out ⟨w4.heap.size, 0, none⟩ 1 1 [X] rfl HY5.out (by omega) (by have := HPL.out; omega) HB5.out.size ?_
        intro v7 w7 ho7 hg7 _
        have HB7 : Hid (Below w'.heap.size w' w7) := OwnD.grown HO5.out HB5.out hg7 (Nat.le_refl _) HB5.out.size
        have HO7 : Hid (OwnD w7 w'.heap.size v7 (PP ++ [X])) := ho7
        refine hK.out _ _ True.intro (fun hHeld => ?_)
        clear HO5 HB5 HY5 hg7 ho7
        clear hK K
        try simp only [Act.put, List.setIfInBounds_toArray, List.set_cons_zero, List.set_cons_succ]
        refine wpAnyH_take (i := 13) (v := ?_) (by simp only [List.getElem?_toArray, List.getElem?_cons_zero, List.getElem?_cons_succ]; rfl) (by kernel_rfl) (by kernel_rfl) (by kernel_rfl) (fun _ _ _ h => h) (Or.inl ⟨by rfl, ?_⟩) hHeld ?_
        rotate_left
        · intro w hSw
          go_simp
          try with_reducible rfl
        try simp only [Act.put, List.setIfInBounds_toArray, List.set_cons_zero, List.set_cons_succ]
        refine wpAnyH_done (by kernel_rfl) (NoPanic.normal ?_) _
        clear hHeld
        go_wp2_with fail
        go_ret
        exact ⟨⟨_, rfl, by rw [HE.out]; exact HO7.out⟩, HB7.out⟩
    · obtain rfl : n = 1 := by omega
      have HE : Hid (pathT ls i = []) := pathT_one (by rw [HLEN.out]; omega)
      go_wp2_with fail
      go_ret
      exact ⟨⟨_, rfl, by rw [HE.out]; exact OwnD.nil _ _⟩, H0.out⟩

set_option maxRecDepth 100000 in
set_option maxHeartbeats 1000000 in
theorem rfold_any : ∀ (n : Nat), ∀ (l : List UInt8) (i p c : Nat) (a : Option Addr) (path : List (List UInt8)) (w : World), l.length = 32 → DRow w a p path → p = longT i n → p ≤ c → 1 ≤ n → n ≤ 100000 → i < n →
    Calls Tryd.prog 18 #[digestV l, .int .i64 (i : Int), .int .i64 (n : Int), .slice a p c] w fun e w' => e = .returned (digestV (foldT l i n path)) ∧ Below w.heap.size w w' := by
  intro n
  induction n using Nat.strongRecOn with
  | ind n ih =>
    intro l i p c a path w hl R hp hc h1 hn hi
    have HI : Hid (∀ m, m < n → ∀ (l : List UInt8) (i p c : Nat) (a : Option Addr) (path : List (List UInt8)) (w : World), l.length = 32 → DRow w a p path → p = longT i m → p ≤ c → 1 ≤ m → m ≤ 100000 → i < m → Calls Tryd.prog 18 #[digestV l, .int .i64 (i : Int), .int .i64 (m : Int), .slice a p c] w fun e w' => e = .returned (digestV (foldT l i m path)) ∧ Below w.heap.size w w') := ih
    clear ih
    obtain ⟨w2, hw2⟩ : ∃ w2, (w.alloc (.cells (cellsB l).toArray 26)).alloc (.cells (cellsB zD).toArray 26) = w2 := ⟨_, rfl⟩
    have hs1 : (w.alloc (.cells (cellsB l).toArray 26)).heap.size = w.heap.size + 1 := by simp
    have HS2 : Hid (w2.heap.size = w.heap.size + 1 + 1) := by unfold Hid; rw [← hw2]; simp
    have HB2 : Hid (Below w.heap.size w w2) := by rw [← hw2]; exact ((Below.refl _ _).alloc (Nat.le_refl _) _).alloc (by simp) _
    have HL2 : Hid (DAt w2 w.heap.size 0 l) := by rw [← hw2]; exact World.rangeAt_alloc (box_dat w l _) _
    have HT2 : Hid (w2.there (w.heap.size + 1) 0 32) := by rw [← hw2]; exact alloc_thereAt _ _ _ 32 _ hs1 zD_size.symm
    have HKT : Hid (∀ wx, Below w2.heap.size w2 wx → wx.rangeAt w.heap.size 0 (cellsB l) ∧ DRow wx a p path ∧ wx.there (w.heap.size + 1) 0 32 ∧ Below w.heap.size w wx) := fun wx hx => by
      have s := HS2.out
      have b : Below w.heap.size w wx := HB2.out.trans (hx.mono (by omega))
      exact ⟨HL2.out.below hx (by omega), R.below b, there_below HT2.out hx (by omega), b⟩
    have HPL : Hid (path.length = p) := R.1
    have HP32 : Hid (∀ j, j < p → (path.getD j []).length = 32) := R.len
    have HP : Hid (p = longT i n) := hp
    clear R hp
    go_enter Tryd.func18, Tryd.ntmps18
    by_cases h2 : 2 ≤ n
    · have e1 : ((n : Int) == 1) = false := by simp; omega
      have hfl := foldT_length hl i n path
      go_wp2_with (refine wpList_allocE (by rfl) 26 (by rfl) (cellsB zD).toArray Tryd.zeroDg (w.heap.size + 1) hs1 w2 hw2 ?_)
      refine (rhalf_any n w2 h2 (by omega)).mono ?_
      rintro e w' ⟨rfl, rfl⟩
      clear hw2 hs1 HL2 HT2
      have hk1 := halfT_lt h2
      have hk2 := halfT_pos n
      have H0 : Hid (Below w'.heap.size w' w') := Below.refl _ _
      have hp1 : 1 ≤ p := by
        rw [HP.out]
        by_cases hik : i < halfT n
        · rw [longT_lo h2 hik]; omega
        · rw [longT_hi h2 hik]; omega
      obtain ⟨b, o, rfl⟩ := (HKT.out _ H0.out).2.1.addr (by omega)
      obtain ⟨q, hq⟩ : ∃ q : Nat, p - 1 = q := ⟨_, rfl⟩
      have hpq : (p : Int) - 1 = (q : Int) := by omega
      have lP := HP32.out q (by omega)
      have HX : Hid (DAt w' b (o + q * 32) (path.getD q [])) := (HKT.out _ H0.out).2.1.at q (by omega)
      have hqp : q < p := by omega
      have hqb : q ≤ 100000 := by have := longT_le n i; have := HP.out; omega
      have HRQ : Hid (∀ wx, Below w'.heap.size w' wx → DRow wx (some ⟨b, o, none⟩) q (path.take q)) := fun wx hx => (HKT.out wx hx).2.1.take q (by omega)
      have HFL : Hid (∀ k, halfT n = k → i < k → foldT l i n path = nodeT (foldT l i k (path.take q)) (path.getD q [])) := fun k hk h => by
        have := foldT_lo (l := l) (path := path) h2 (by rw [hk]; exact h)
        rw [HPL.out, hq, hk] at this
        exact this
      have HFH : Hid (∀ k, halfT n = k → ¬ i < k → foldT l i n path = nodeT (path.getD q []) (foldT l (i - k) (n - k) (path.take q))) := fun k hk h => by
        have := foldT_hi (l := l) (path := path) h2 (by rw [hk]; exact h)
        rw [HPL.out, hq, hk] at this
        exact this
      have HQL : Hid (∀ k, halfT n = k → i < k → q = longT i k) := fun k hk h => by
        have := longT_lo (n := n) h2 (by rw [hk]; exact h)
        rw [hk] at this
        have := HP.out
        omega
      have HQH : Hid (∀ k, halfT n = k → ¬ i < k → q = longT (i - k) (n - k)) := fun k hk h => by
        have := longT_hi (n := n) h2 (by rw [hk]; exact h)
        rw [hk] at this
        have := HP.out
        omega
      generalize path.getD q [] = P at *
      generalize path.take q = PT at *
      generalize halfT n = k at *
      have GFL : Hid (i < k → foldT l i n path = nodeT (foldT l i k PT) P) := HFL.out k rfl
      have GFH : Hid (¬ i < k → foldT l i n path = nodeT P (foldT l (i - k) (n - k) PT)) := HFH.out k rfl
      have GQL : Hid (i < k → q = longT i k) := HQL.out k rfl
      have GQH : Hid (¬ i < k → q = longT (i - k) (n - k)) := HQH.out k rfl
      clear HFL HFH HQL HQH
      clear hq
      have q0 : (0 : Int) ≤ (q : Int) := by omega
      have q1 : (q : Int) < (p : Int) := by omega
      have q2 : (q : Int) ≤ (c : Int) := by omega
      obtain ⟨w3, hw3⟩ : ∃ w3, w'.alloc (.cells (cellsB zD).toArray 26) = w3 := ⟨_, rfl⟩
      have HT3 : Hid (w3.there w'.heap.size 0 32) := by rw [← hw3]; exact alloc_thereAt _ _ _ 32 _ rfl zD_size.symm
      have hb4 : Below w'.heap.size w' (w3.setCells w'.heap.size 0 (cellsB P)) := by rw [← hw3]; exact new_stored _ _ _
      have HX4 : Hid (DAt (w3.setCells w'.heap.size 0 (cellsB P)) w'.heap.size 0 P) := dat_stored HT3.out lP
      obtain ⟨w4, hw4⟩ : ∃ w4, w3.setCells w'.heap.size 0 (cellsB P) = w4 := ⟨_, rfl⟩
      rw [hw4] at hb4 HX4
      have hg4 : w'.heap.size < w4.heap.size := cell_block (HX4.out.cell 0 (by omega))
      have HKQ : Hid (∀ wx, Below w4.heap.size w4 wx → (wx.rangeAt w.heap.size 0 (cellsB l) ∧ wx.rangeAt w'.heap.size 0 (cellsB P)) ∧ DRow wx (some ⟨b, o, none⟩) q PT ∧ wx.there (w.heap.size + 1) 0 32 ∧ Below w.heap.size w wx) := fun wx hx => by
        have b1 : Below w'.heap.size w' wx := hb4.trans (hx.mono hb4.size)
        have k := HKT.out _ b1
        exact ⟨⟨k.1, HX4.out.below hx hg4⟩, HRQ.out _ b1, k.2.2.1, k.2.2.2⟩
      clear hb4 hg4 HX4 H0 HRQ HKT HP HPL HP32
      by_cases hik : i < k
      · have HFL := GFL.out hik
        have HQL := GQL.out hik
        have HC : Hid (∀ wx, DRow wx (some ⟨b, o, none⟩) q PT → Calls Tryd.prog 18 #[digestV l, .int .i64 (i : Int), .int .i64 (k : Int), .slice (some ⟨b, o, none⟩) q c] wx fun e w' => e = .returned (digestV (foldT l i k PT)) ∧ Below wx.heap.size wx w') := fun wx hr => HI.out k hk1 l i q c _ PT wx hl hr HQL (by omega) (by omega) (by omega) hik
        have lF := foldT_length hl i k PT
        have HE : Hid (foldT l i n path = nodeT (foldT l i k PT) P) := HFL
        rw [HFL] at hfl
        clear HFL HQL GFL GQL GFH GQH HI
        generalize foldT l i k PT = F at *
        have g1 : (i : Int) < (k : Int) := by omega
        go_wp2_with (first
          | (refine wpList_load_mid (by rfl) 26 (.tmp 21) (by rfl) b (o + q * 32) (by rfl) (cellsB P) _ HX.out Tryd.underlying26 (by rfl) (by rw [cellsB_length, lP]; exact Tryd.sizeDg) ?_)
          | (refine wpList_allocE (by rfl) 26 (by rfl) (cellsB zD).toArray Tryd.zeroDg w'.heap.size rfl w3 hw3 ?_)
          | (refine wpList_store_mid (by rfl) 26 (.tmp 10) (.tmp 22) (by rfl) w'.heap.size 0 (cellsB P).toArray (by rfl) (by rfl) (by rw [cellsB_size, lP]; exact HT3.out) (by rw [cellsB_size, lP]; exact Tryd.sizeDg) (all_oneCell_toArray (cellsB_one _)) ?_; rw [show (cellsB P).toArray.toList = cellsB P from rfl, hw4]))
        clear hw3 hw4 HT3 HX
        refine wp_region_noPanic ?_
        refine wp_region_held_drew (S := fun wx => wx.rangeAt w.heap.size 0 (cellsB l) ∧ wx.rangeAt w'.heap.size 0 (cellsB P)) (by kernel_rfl) ((HKQ.out _ (below_drewN w4 1)).1) (fun hHeld => ?_)
        try simp only [Act.put, List.setIfInBounds_toArray, List.set_cons_zero, List.set_cons_succ]
        have HBd : Hid (Below w4.heap.size w4 w4.drew) := below_drewN w4 1
        generalize w4.drew = wd at *
        refine wpAnyH_take (i := 0) (v := .agg (cellsB l).toArray) (by simp only [List.getElem?_toArray, List.getElem?_cons_zero, List.getElem?_cons_succ]; rfl) (by kernel_rfl) (by kernel_rfl) (by kernel_rfl) (fun _ _ _ h => h)
          (yieldsIf_load_mid (by rfl) _ _ rfl _ _ rfl _ _ (fun w hw => hw.1) Tryd.underlying26 rfl (by rw [cellsB_length, hl]; exact Tryd.sizeDg)) hHeld ?_
        try simp only [Act.put, List.setIfInBounds_toArray, List.set_cons_zero, List.set_cons_succ]
        refine wpAnyH_take (i := 1) (v := ?_) (by simp only [List.getElem?_toArray, List.getElem?_cons_zero, List.getElem?_cons_succ]; rfl) (by kernel_rfl) (by kernel_rfl) (by kernel_rfl) (fun _ _ _ h => h) (Or.inl ⟨by rfl, ?_⟩) hHeld ?_
        rotate_left
        · intro w hSw
          obtain ⟨hSw0, hSw1⟩ := hSw
          go_simp
          try with_reducible rfl
        try simp only [Act.put, List.setIfInBounds_toArray, List.set_cons_zero, List.set_cons_succ]
        refine wpAnyH_take (i := 2) (v := ?_) (by simp only [List.getElem?_toArray, List.getElem?_cons_zero, List.getElem?_cons_succ]; rfl) (by kernel_rfl) (by kernel_rfl) (by kernel_rfl) (fun _ _ _ h => h) (Or.inl ⟨by rfl, ?_⟩) hHeld ?_
        rotate_left
        · intro w hSw
          obtain ⟨hSw0, hSw1⟩ := hSw
          go_simp
          try with_reducible rfl
        try simp only [Act.put, List.setIfInBounds_toArray, List.set_cons_zero, List.set_cons_succ]
        refine wpAnyH_take (i := 3) (v := ?_) (by simp only [List.getElem?_toArray, List.getElem?_cons_zero, List.getElem?_cons_succ]; rfl) (by kernel_rfl) (by kernel_rfl) (by kernel_rfl) (fun _ _ _ h => h) (Or.inl ⟨by rfl, ?_⟩) hHeld ?_
        rotate_left
        · intro w hSw
          obtain ⟨hSw0, hSw1⟩ := hSw
          go_simp
          try with_reducible rfl
        try simp only [Act.put, List.setIfInBounds_toArray, List.set_cons_zero, List.set_cons_succ]
        refine wpAnyH_take (i := 5) (v := .agg (cellsB P).toArray) (by simp only [List.getElem?_toArray, List.getElem?_cons_zero, List.getElem?_cons_succ]; rfl) (by kernel_rfl) (by kernel_rfl) (by kernel_rfl) (fun _ _ _ h => h)
          (yieldsIf_load_mid (by rfl) _ _ rfl _ _ rfl _ _ (fun w hw => hw.2) Tryd.underlying26 rfl (by rw [cellsB_length, lP]; exact Tryd.sizeDg)) hHeld ?_
        try simp only [Act.put, List.setIfInBounds_toArray, List.set_cons_zero, List.set_cons_succ]
        refine wpAnyH_ready (rs := [4]) (by kernel_rfl) (by simp) ?_
        refine AllReadyH.cons (by simp only [List.getElem?_toArray, List.getElem?_cons_zero, List.getElem?_cons_succ]; rfl) (fun K hK => ?_) AllReadyH.nil
        rw [if_pos (by rfl)]
        go_simp
        refine (HC.out wd (HKQ.out _ HBd.out).2.1).mono ?_
        rintro e w5 ⟨rfl, hb5⟩
        have HB5 : Hid (Below w4.heap.size w4 w5) := HBd.out.trans (hb5.mono HBd.out.size)
        clear hb5 HBd HC
        go_wp2_with fail
        refine hK.out _ _ (HKQ.out _ HB5.out).1 (fun hHeld => ?_)
        clear hK K
        try simp only [Act.put, List.setIfInBounds_toArray, List.set_cons_zero, List.set_cons_succ]
        refine wpAnyH_ready (rs := [6]) (by kernel_rfl) (by simp) ?_
        refine AllReadyH.cons (by simp only [List.getElem?_toArray, List.getElem?_cons_zero, List.getElem?_cons_succ]; rfl) (fun K hK => ?_) AllReadyH.nil
        rw [if_pos (by rfl)]
        go_simp
        refine (rnode_any F P w5 lF lP).mono ?_
        rintro e w6 ⟨rfl, hb6⟩
        have HB6 : Hid (Below w4.heap.size w4 w6) := HB5.out.trans (hb6.mono HB5.out.size)
        clear hb6 HB5
        generalize nodeT F P = D at *
        go_wp2_with fail
        refine hK.out _ _ (HKQ.out _ HB6.out).1 (fun hHeld => ?_)
        clear hK K
        try simp only [Act.put, List.setIfInBounds_toArray, List.set_cons_zero, List.set_cons_succ]
        refine wpAnyH_ready (rs := [7]) (by kernel_rfl) (by simp) ?_
        refine AllReadyH.cons (by simp only [List.getElem?_toArray, List.getElem?_cons_zero, List.getElem?_cons_succ]; rfl) (fun K hK => ?_) AllReadyH.nil
        rw [if_pos (by rfl)]
        have HT6 : Hid (w6.there (w.heap.size + 1) 0 32) := (HKQ.out _ HB6.out).2.2.1
        refine wp_store_mid _ _ _ rfl (w.heap.size + 1) 0 (cellsB D).toArray rfl rfl (by rw [cellsB_size, hfl]; exact HT6.out) (by rw [cellsB_size, hfl]; exact Tryd.sizeDg) (all_oneCell_toArray (cellsB_one _)) ?_
        have hr : (w6.setCells (w.heap.size + 1) 0 (cellsB D)).rangeAt w.heap.size 0 (cellsB l) ∧ (w6.setCells (w.heap.size + 1) 0 (cellsB D)).rangeAt w'.heap.size 0 (cellsB P) := ⟨World.rangeAt_setCells_apart (HKQ.out _ HB6.out).1.1 _ _ _ (.inl (by omega)), World.rangeAt_setCells_apart (HKQ.out _ HB6.out).1.2 _ _ _ (.inl (by have := HS2.out; omega))⟩
        refine hK.out _ _ hr (fun hHeld => ?_)
        clear hr
        clear hK K
        try simp only [Act.put, List.setIfInBounds_toArray, List.set_cons_zero, List.set_cons_succ]
        refine wpAnyH_done (by kernel_rfl) (NoPanic.normal ?_) _
        clear hHeld
        go_wp2_with fail
        refine bodyPost_ret (v := digestV D) (run_results_row Tryd.results18 _ _ (w.heap.size + 1) 0 (by rfl) (cellsB D) (World.rangeAt_setCells_same _ _ _ _ (by rw [cellsB_length, hfl]; exact HT6.out)) _ Tryd.underlying26 (by rfl) (by rw [cellsB_length, hfl]; exact Tryd.sizeDg)) rfl ⟨by rw [HE.out], ?_⟩
        exact below_setCells _ (by omega) _ _ _ (HKQ.out _ HB6.out).2.2.2
      · have HFH := GFH.out hik
        have HQH := GQH.out hik
        have HC : Hid (∀ wx, DRow wx (some ⟨b, o, none⟩) q PT → Calls Tryd.prog 18 #[digestV l, .int .i64 ((i - k : Nat) : Int), .int .i64 ((n - k : Nat) : Int), .slice (some ⟨b, o, none⟩) q c] wx fun e w' => e = .returned (digestV (foldT l (i - k) (n - k) PT)) ∧ Below wx.heap.size wx w') := fun wx hr => HI.out (n - k) (by omega) l (i - k) q c _ PT wx hl hr HQH (by omega) (by omega) (by omega) (by omega)
        have lF := foldT_length hl (i - k) (n - k) PT
        have HE : Hid (foldT l i n path = nodeT P (foldT l (i - k) (n - k) PT)) := HFH
        rw [HFH] at hfl
        clear HFH HQH GFL GQL GFH GQH HI
        generalize foldT l (i - k) (n - k) PT = F at *
        have s1 : (i : Int) - (k : Int) = ((i - k : Nat) : Int) := by omega
        have s2 : (n : Int) - (k : Int) = ((n - k : Nat) : Int) := by omega
        have b1 : i - k ≤ 100000 := by omega
        have b2 : n - k ≤ 100000 := by omega
        generalize i - k = i' at *
        generalize n - k = n' at *
        have wi : IntKind.i64.wrap (i' : Int) = (i' : Int) := wrapT i' (by omega)
        have wn : IntKind.i64.wrap (n' : Int) = (n' : Int) := wrapT n' (by omega)
        have g1 : ¬ (i : Int) < (k : Int) := by omega
        go_wp2_with (first
          | (refine wpList_load_mid (by rfl) 26 (.tmp 21) (by rfl) b (o + q * 32) (by rfl) (cellsB P) _ HX.out Tryd.underlying26 (by rfl) (by rw [cellsB_length, lP]; exact Tryd.sizeDg) ?_)
          | (refine wpList_allocE (by rfl) 26 (by rfl) (cellsB zD).toArray Tryd.zeroDg w'.heap.size rfl w3 hw3 ?_)
          | (refine wpList_store_mid (by rfl) 26 (.tmp 10) (.tmp 22) (by rfl) w'.heap.size 0 (cellsB P).toArray (by rfl) (by rfl) (by rw [cellsB_size, lP]; exact HT3.out) (by rw [cellsB_size, lP]; exact Tryd.sizeDg) (all_oneCell_toArray (cellsB_one _)) ?_; rw [show (cellsB P).toArray.toList = cellsB P from rfl, hw4]))
        clear hw3 hw4 HT3 HX
        refine wp_region_noPanic ?_
        refine wp_region_held_drew (S := fun wx => wx.rangeAt w.heap.size 0 (cellsB l) ∧ wx.rangeAt w'.heap.size 0 (cellsB P)) (by kernel_rfl) ((HKQ.out _ (below_drewN w4 1)).1) (fun hHeld => ?_)
        try simp only [Act.put, List.setIfInBounds_toArray, List.set_cons_zero, List.set_cons_succ]
        have HBd : Hid (Below w4.heap.size w4 w4.drew) := below_drewN w4 1
        generalize w4.drew = wd at *
        refine wpAnyH_take (i := 0) (v := .agg (cellsB P).toArray) (by simp only [List.getElem?_toArray, List.getElem?_cons_zero, List.getElem?_cons_succ]; rfl) (by kernel_rfl) (by kernel_rfl) (by kernel_rfl) (fun _ _ _ h => h)
          (yieldsIf_load_mid (by rfl) _ _ rfl _ _ rfl _ _ (fun w hw => hw.2) Tryd.underlying26 rfl (by rw [cellsB_length, lP]; exact Tryd.sizeDg)) hHeld ?_
        try simp only [Act.put, List.setIfInBounds_toArray, List.set_cons_zero, List.set_cons_succ]
        refine wpAnyH_take (i := 1) (v := .agg (cellsB l).toArray) (by simp only [List.getElem?_toArray, List.getElem?_cons_zero, List.getElem?_cons_succ]; rfl) (by kernel_rfl) (by kernel_rfl) (by kernel_rfl) (fun _ _ _ h => h)
          (yieldsIf_load_mid (by rfl) _ _ rfl _ _ rfl _ _ (fun w hw => hw.1) Tryd.underlying26 rfl (by rw [cellsB_length, hl]; exact Tryd.sizeDg)) hHeld ?_
        try simp only [Act.put, List.setIfInBounds_toArray, List.set_cons_zero, List.set_cons_succ]
        refine wpAnyH_take (i := 2) (v := ?_) (by simp only [List.getElem?_toArray, List.getElem?_cons_zero, List.getElem?_cons_succ]; rfl) (by kernel_rfl) (by kernel_rfl) (by kernel_rfl) (fun _ _ _ h => h) (Or.inl ⟨by rfl, ?_⟩) hHeld ?_
        rotate_left
        · intro w hSw
          obtain ⟨hSw0, hSw1⟩ := hSw
          go_simp
          try with_reducible rfl
        try simp only [Act.put, List.setIfInBounds_toArray, List.set_cons_zero, List.set_cons_succ]
        refine wpAnyH_take (i := 3) (v := ?_) (by simp only [List.getElem?_toArray, List.getElem?_cons_zero, List.getElem?_cons_succ]; rfl) (by kernel_rfl) (by kernel_rfl) (by kernel_rfl) (fun _ _ _ h => h) (Or.inl ⟨by rfl, ?_⟩) hHeld ?_
        rotate_left
        · intro w hSw
          obtain ⟨hSw0, hSw1⟩ := hSw
          go_simp
          try with_reducible rfl
        try simp only [Act.put, List.setIfInBounds_toArray, List.set_cons_zero, List.set_cons_succ]
        refine wpAnyH_take (i := 4) (v := .int .i64 (i' : Int)) (by simp only [List.getElem?_toArray, List.getElem?_cons_zero, List.getElem?_cons_succ]; rfl) (by kernel_rfl) (by kernel_rfl) (by kernel_rfl) (fun _ _ _ h => h) (Or.inl ⟨by rfl, ?_⟩) hHeld ?_
        · intro w hSw
          obtain ⟨hSw0, hSw1⟩ := hSw
          go_simp
        try simp only [Act.put, List.setIfInBounds_toArray, List.set_cons_zero, List.set_cons_succ]
        refine wpAnyH_take (i := 5) (v := ?_) (by simp only [List.getElem?_toArray, List.getElem?_cons_zero, List.getElem?_cons_succ]; rfl) (by kernel_rfl) (by kernel_rfl) (by kernel_rfl) (fun _ _ _ h => h) (Or.inl ⟨by rfl, ?_⟩) hHeld ?_
        rotate_left
        · intro w hSw
          obtain ⟨hSw0, hSw1⟩ := hSw
          go_simp
          try with_reducible rfl
        try simp only [Act.put, List.setIfInBounds_toArray, List.set_cons_zero, List.set_cons_succ]
        refine wpAnyH_take (i := 6) (v := ?_) (by simp only [List.getElem?_toArray, List.getElem?_cons_zero, List.getElem?_cons_succ]; rfl) (by kernel_rfl) (by kernel_rfl) (by kernel_rfl) (fun _ _ _ h => h) (Or.inl ⟨by rfl, ?_⟩) hHeld ?_
        rotate_left
        · intro w hSw
          obtain ⟨hSw0, hSw1⟩ := hSw
          go_simp
          try with_reducible rfl
        try simp only [Act.put, List.setIfInBounds_toArray, List.set_cons_zero, List.set_cons_succ]
        refine wpAnyH_take (i := 7) (v := .int .i64 (n' : Int)) (by simp only [List.getElem?_toArray, List.getElem?_cons_zero, List.getElem?_cons_succ]; rfl) (by kernel_rfl) (by kernel_rfl) (by kernel_rfl) (fun _ _ _ h => h) (Or.inl ⟨by rfl, ?_⟩) hHeld ?_
        · intro w hSw
          obtain ⟨hSw0, hSw1⟩ := hSw
          go_simp
        try simp only [Act.put, List.setIfInBounds_toArray, List.set_cons_zero, List.set_cons_succ]
        refine wpAnyH_take (i := 8) (v := ?_) (by simp only [List.getElem?_toArray, List.getElem?_cons_zero, List.getElem?_cons_succ]; rfl) (by kernel_rfl) (by kernel_rfl) (by kernel_rfl) (fun _ _ _ h => h) (Or.inl ⟨by rfl, ?_⟩) hHeld ?_
        rotate_left
        · intro w hSw
          obtain ⟨hSw0, hSw1⟩ := hSw
          go_simp
          try with_reducible rfl
        try simp only [Act.put, List.setIfInBounds_toArray, List.set_cons_zero, List.set_cons_succ]
        refine wpAnyH_ready (rs := [9]) (by kernel_rfl) (by simp) ?_
        refine AllReadyH.cons (by simp only [List.getElem?_toArray, List.getElem?_cons_zero, List.getElem?_cons_succ]; rfl) (fun K hK => ?_) AllReadyH.nil
        rw [if_pos (by rfl)]
        go_simp
        refine (HC.out wd (HKQ.out _ HBd.out).2.1).mono ?_
        rintro e w5 ⟨rfl, hb5⟩
        have HB5 : Hid (Below w4.heap.size w4 w5) := HBd.out.trans (hb5.mono HBd.out.size)
        clear hb5 HBd HC
        go_wp2_with fail
        refine hK.out _ _ (HKQ.out _ HB5.out).1 (fun hHeld => ?_)
        clear hK K
        try simp only [Act.put, List.setIfInBounds_toArray, List.set_cons_zero, List.set_cons_succ]
        refine wpAnyH_ready (rs := [10]) (by kernel_rfl) (by simp) ?_
        refine AllReadyH.cons (by simp only [List.getElem?_toArray, List.getElem?_cons_zero, List.getElem?_cons_succ]; rfl) (fun K hK => ?_) AllReadyH.nil
        rw [if_pos (by rfl)]
        go_simp
        refine (rnode_any P F w5 lP lF).mono ?_
        rintro e w6 ⟨rfl, hb6⟩
        have HB6 : Hid (Below w4.heap.size w4 w6) := HB5.out.trans (hb6.mono HB5.out.size)
        clear hb6 HB5
        generalize nodeT P F = D at *
        go_wp2_with fail
        refine hK.out _ _ (HKQ.out _ HB6.out).1 (fun hHeld => ?_)
        clear hK K
        try simp only [Act.put, List.setIfInBounds_toArray, List.set_cons_zero, List.set_cons_succ]
        refine wpAnyH_ready (rs := [11]) (by kernel_rfl) (by simp) ?_
        refine AllReadyH.cons (by simp only [List.getElem?_toArray, List.getElem?_cons_zero, List.getElem?_cons_succ]; rfl) (fun K hK => ?_) AllReadyH.nil
        rw [if_pos (by rfl)]
        have HT6 : Hid (w6.there (w.heap.size + 1) 0 32) := (HKQ.out _ HB6.out).2.2.1
        refine wp_store_mid _ _ _ rfl (w.heap.size + 1) 0 (cellsB D).toArray rfl rfl (by rw [cellsB_size, hfl]; exact HT6.out) (by rw [cellsB_size, hfl]; exact Tryd.sizeDg) (all_oneCell_toArray (cellsB_one _)) ?_
        have hr : (w6.setCells (w.heap.size + 1) 0 (cellsB D)).rangeAt w.heap.size 0 (cellsB l) ∧ (w6.setCells (w.heap.size + 1) 0 (cellsB D)).rangeAt w'.heap.size 0 (cellsB P) := ⟨World.rangeAt_setCells_apart (HKQ.out _ HB6.out).1.1 _ _ _ (.inl (by omega)), World.rangeAt_setCells_apart (HKQ.out _ HB6.out).1.2 _ _ _ (.inl (by have := HS2.out; omega))⟩
        refine hK.out _ _ hr (fun hHeld => ?_)
        clear hr
        clear hK K
        try simp only [Act.put, List.setIfInBounds_toArray, List.set_cons_zero, List.set_cons_succ]
        refine wpAnyH_done (by kernel_rfl) (NoPanic.normal ?_) _
        clear hHeld
        go_wp2_with fail
        refine bodyPost_ret (v := digestV D) (run_results_row Tryd.results18 _ _ (w.heap.size + 1) 0 (by rfl) (cellsB D) (World.rangeAt_setCells_same _ _ _ _ (by rw [cellsB_length, hfl]; exact HT6.out)) _ Tryd.underlying26 (by rfl) (by rw [cellsB_length, hfl]; exact Tryd.sizeDg)) rfl ⟨by rw [HE.out], ?_⟩
        exact below_setCells _ (by omega) _ _ _ (HKQ.out _ HB6.out).2.2.2
    · obtain rfl : n = 1 := by omega
      have HE : Hid (foldT l i 1 path = l) := foldT_one h2
      go_wp2_with (first
        | (refine wpList_allocE (by rfl) 26 (by rfl) (cellsB zD).toArray Tryd.zeroDg (w.heap.size + 1) hs1 w2 hw2 ?_)
        | (refine wpList_load_mid (by rfl) 26 (.tmp 4) (by rfl) w.heap.size 0 (by rfl) (cellsB l) _ HL2.out Tryd.underlying26 (by rfl) (by rw [cellsB_length, hl]; exact Tryd.sizeDg) ?_)
        | (refine wpList_store_mid (by rfl) 26 (.tmp 8) (.tmp 14) (by rfl) (w.heap.size + 1) 0 (cellsB l).toArray (by rfl) (by rfl) (by rw [cellsB_size, hl]; exact HT2.out) (by rw [cellsB_size, hl]; exact Tryd.sizeDg) (all_oneCell_toArray (cellsB_one _)) ?_))
      refine bodyPost_ret (v := digestV l) (run_results_row Tryd.results18 _ _ (w.heap.size + 1) 0 (by rfl) (cellsB l) (World.rangeAt_setCells_same _ _ _ _ (by rw [cellsB_length, hl]; exact HT2.out)) _ Tryd.underlying26 (by rfl) (by rw [cellsB_length, hl]; exact Tryd.sizeDg)) rfl ⟨by rw [HE.out], ?_⟩
      exact below_setCells _ (by omega) _ _ _ HB2.out
end Go.Proofs.YtdldkhhcicjbmaaDoor
/- The contracts of tree.pathOf and tree.Path. -/
namespace Go.Proofs.YtdldkhhcicjbmaaDoor
open Go.RowKit
set_option linter.unusedVariables false
set_option linter.unusedSimpArgs false

set_option maxRecDepth 100000 in
set_option maxHeartbeats 1000000 in
theorem wpathof_any : ∀ (n : Nat), ∀ (a : Option Addr) (c i : Nat) (ls : List (List UInt8)) (w : World), Env w → DRow w a n ls → n ≤ c → 1 ≤ n → n ≤ 256 → i < n →
    Calls Tryd.prog 29 #[.slice a n c, .int .i64 (i : Int)] w fun e w' => (∃ v, e = .returned v ∧ OwnD w' w.heap.size v (pathT ls i)) ∧ Below w.heap.size w w' := by
  intro n
  induction n using Nat.strongRecOn with
  | ind n ih =>
    intro a c i ls w G R hc h1 hn hi
    have HI : Hid (∀ m, m < n → ∀ (a : Option Addr) (c i : Nat) (ls : List (List UInt8)) (w : World), Env w → DRow w a m ls → m ≤ c → 1 ≤ m → m ≤ 256 → i < m → Calls Tryd.prog 29 #[.slice a m c, .int .i64 (i : Int)] w fun e w' => (∃ v, e = .returned v ∧ OwnD w' w.heap.size v (pathT ls i)) ∧ Below w.heap.size w w') := ih
    clear ih
    have HLEN : Hid (ls.length = n) := R.1
    have HR : Hid (∀ wx, Below w.heap.size w wx → DRow wx a n ls) := fun wx hx => R.below hx
    have H0 : Hid (Below w.heap.size w w) := Below.refl _ _
    have HGE : Hid (∀ wx, Below w.heap.size w wx → Env wx) := fun wx hx => G.below hx
    clear R G
    go_enter Tryd.func29, Tryd.ntmps29
    by_cases h2 : 2 ≤ n
    · have e1 : ((n : Int) == 1) = false := by simp; omega
      go_wp2_with fail
      refine (wsplit_any n w h2 (by omega)).mono ?_
      rintro e w' ⟨rfl, rfl⟩
      have hk1 := halfT_lt h2
      have hk2 := halfT_pos n
      obtain ⟨b, o, rfl⟩ := (HR.out _ H0.out).addr (by omega)
      have HKL : Hid (∀ wx, Below w'.heap.size w' wx → DRow wx (some ⟨b, o, none⟩) (halfT n) (ls.take (halfT n)) ∧ DRow wx (some ⟨b, o + halfT n * 32, none⟩) (n - halfT n) (ls.drop (halfT n))) := fun wx hx => ⟨(HR.out wx hx).take _ (by omega), (HR.out wx hx).drop _ (by omega)⟩
      have lA := rootT_length (HKL.out w' (Below.refl _ _)).1.2.1
      have lB := rootT_length (HKL.out w' (Below.refl _ _)).2.2.1
      have h2' : 2 ≤ ls.length := by rw [HLEN.out]; exact h2
      have HR1 : Hid (∀ wx, Env wx → DRow wx (some ⟨b, o, none⟩) (halfT n) (ls.take (halfT n)) → Calls Tryd.prog 26 #[.slice (some ⟨b, o, none⟩) (halfT n) c] wx fun e w' => e = .returned (digestV (rootT (ls.take (halfT n)))) ∧ Below wx.heap.size wx w') := fun wx hg hr => wroot_any (halfT n) _ c _ wx hg hr (by omega) (by omega)
      have HR2 : Hid (∀ wx, Env wx → DRow wx (some ⟨b, o + halfT n * 32, none⟩) (n - halfT n) (ls.drop (halfT n)) → Calls Tryd.prog 26 #[.slice (some ⟨b, o + halfT n * 32, none⟩) (n - halfT n) (c - halfT n)] wx fun e w' => e = .returned (digestV (rootT (ls.drop (halfT n)))) ∧ Below wx.heap.size wx w') := fun wx hg hr => wroot_any (n - halfT n) _ (c - halfT n) _ wx hg hr (by omega) (by omega)
      by_cases hik : i < halfT n
      · have HE : Hid (pathT ls i = pathT (ls.take (halfT n)) i ++ [rootT (ls.drop (halfT n))]) := by
          have := pathT_lo (ls := ls) (i := i) h2' (by rw [HLEN.out]; exact hik)
          rw [HLEN.out] at this
          exact this
        have HPL : Hid ((pathT (ls.take (halfT n)) i).length ≤ 100000) := by
          unfold Hid
          rw [(fold_path (halfT n) (ls.take (halfT n)) i (by rw [List.length_take, HLEN.out]; omega) hik).2]
          have := longT_le (halfT n) i
          omega
        have HCP : Hid (∀ wx, Env wx → DRow wx (some ⟨b, o, none⟩) (halfT n) (ls.take (halfT n)) → Calls Tryd.prog 29 #[.slice (some ⟨b, o, none⟩) (halfT n) c, .int .i64 (i : Int)] wx fun e w' => (∃ v, e = .returned v ∧ OwnD w' wx.heap.size v (pathT (ls.take (halfT n)) i)) ∧ Below wx.heap.size wx w') := fun wx hg hr => HI.out (halfT n) hk1 _ c i _ wx hg hr (by omega) (by omega) (by omega) hik
        generalize halfT n = k at *
        generalize rootT (ls.take k) = X at *
        generalize rootT (ls.drop k) = Y at *
        generalize pathT (ls.take k) i = PP at *
        have g1 : (i : Int) < (k : Int) := by omega
        clear HI h2'
        have k0 : (0 : Int) ≤ (k : Int) := by omega
        have k1 : (k : Int) ≤ (n : Int) := by omega
        have k2 : (k : Int) ≤ (c : Int) := by omega
        have n1 : (n : Int) ≤ (c : Int) := by omega
        go_wp2_with fail
        refine wp_region_noPanic ?_
        refine wp_region_held_drew (S := fun _ => True) (by kernel_rfl) True.intro (fun hHeld => ?_)
        try simp only [Act.put, List.setIfInBounds_toArray, List.set_cons_zero, List.set_cons_succ]
        have HBd : Hid (Below w'.heap.size w' w'.drew) := below_drewN w' 1
        generalize w'.drew = wd at *
        refine wpAnyH_take (i := 0) (v := ?_) (by simp only [List.getElem?_toArray, List.getElem?_cons_zero, List.getElem?_cons_succ]; rfl) (by kernel_rfl) (by kernel_rfl) (by kernel_rfl) (fun _ _ _ h => h) (Or.inl ⟨by rfl, ?_⟩) hHeld ?_
        rotate_left
        · intro w hSw
          go_simp
          try with_reducible rfl
        try simp only [Act.put, List.setIfInBounds_toArray, List.set_cons_zero, List.set_cons_succ]
        refine wpAnyH_take (i := 1) (v := ?_) (by simp only [List.getElem?_toArray, List.getElem?_cons_zero, List.getElem?_cons_succ]; rfl) (by kernel_rfl) (by kernel_rfl) (by kernel_rfl) (fun _ _ _ h => h) (Or.inl ⟨by rfl, ?_⟩) hHeld ?_
        rotate_left
        · intro w hSw
          go_simp
          try with_reducible rfl
        try simp only [Act.put, List.setIfInBounds_toArray, List.set_cons_zero, List.set_cons_succ]
        refine wpAnyH_take (i := 2) (v := .slice (some ⟨b, o, none⟩) k c) (by simp only [List.getElem?_toArray, List.getElem?_cons_zero, List.getElem?_cons_succ]; rfl) (by kernel_rfl) (by kernel_rfl) (by kernel_rfl) (fun _ _ _ h => h) (Or.inl ⟨by rfl, ?_⟩) hHeld ?_
        · intro w hSw
          go_simp
        try simp only [Act.put, List.setIfInBounds_toArray, List.set_cons_zero, List.set_cons_succ]
        refine wpAnyH_take (i := 3) (v := ?_) (by simp only [List.getElem?_toArray, List.getElem?_cons_zero, List.getElem?_cons_succ]; rfl) (by kernel_rfl) (by kernel_rfl) (by kernel_rfl) (fun _ _ _ h => h) (Or.inl ⟨by rfl, ?_⟩) hHeld ?_
        rotate_left
        · intro w hSw
          go_simp
          try with_reducible rfl
        try simp only [Act.put, List.setIfInBounds_toArray, List.set_cons_zero, List.set_cons_succ]
        refine wpAnyH_take (i := 5) (v := ?_) (by simp only [List.getElem?_toArray, List.getElem?_cons_zero, List.getElem?_cons_succ]; rfl) (by kernel_rfl) (by kernel_rfl) (by kernel_rfl) (fun _ _ _ h => h) (Or.inl ⟨by rfl, ?_⟩) hHeld ?_
        rotate_left
        · intro w hSw
          go_simp
          try with_reducible rfl
        try simp only [Act.put, List.setIfInBounds_toArray, List.set_cons_zero, List.set_cons_succ]
        refine wpAnyH_take (i := 6) (v := ?_) (by simp only [List.getElem?_toArray, List.getElem?_cons_zero, List.getElem?_cons_succ]; rfl) (by kernel_rfl) (by kernel_rfl) (by kernel_rfl) (fun _ _ _ h => h) (Or.inl ⟨by rfl, ?_⟩) hHeld ?_
        rotate_left
        · intro w hSw
          go_simp
          try with_reducible rfl
        try simp only [Act.put, List.setIfInBounds_toArray, List.set_cons_zero, List.set_cons_succ]
        refine wpAnyH_take (i := 7) (v := .slice (some ⟨b, o + k * 32, none⟩) (n - k) (c - k)) (by simp only [List.getElem?_toArray, List.getElem?_cons_zero, List.getElem?_cons_succ]; rfl) (by kernel_rfl) (by kernel_rfl) (by kernel_rfl) (fun _ _ _ h => h) (Or.inl ⟨by rfl, ?_⟩) hHeld ?_
        · intro w hSw
          go_simp
          omega
        try simp only [Act.put, List.setIfInBounds_toArray, List.set_cons_zero, List.set_cons_succ]
        refine wpAnyH_ready (rs := [4]) (by kernel_rfl) (by simp) ?_
        refine AllReadyH.cons (by simp only [List.getElem?_toArray, List.getElem?_cons_zero, List.getElem?_cons_succ]; rfl) (fun K hK => ?_) AllReadyH.nil
        rw [if_pos (by rfl)]
        go_simp
        refine (HCP.out wd (HGE.out _ HBd.out) (HKL.out _ HBd.out).1).mono ?_
        rintro e w3 ⟨⟨v3, rfl, ho3⟩, hb3⟩
        have HB3 : Hid (Below w'.heap.size w' w3) := HBd.out.trans (hb3.mono HBd.out.size)
        have HO3 : Hid (OwnD w3 w'.heap.size v3 PP) := ho3.lower HBd.out.size
        clear hb3 HBd HCP ho3
        go_wp2_with fail
        refine hK.out _ _ True.intro (fun hHeld => ?_)
        clear hK K
        try simp only [Act.put, List.setIfInBounds_toArray, List.set_cons_zero, List.set_cons_succ]
        refine wpAnyH_ready (rs := [8]) (by kernel_rfl) (by simp) ?_
        refine AllReadyH.cons (by simp only [List.getElem?_toArray, List.getElem?_cons_zero, List.getElem?_cons_succ]; rfl) (fun K hK => ?_) AllReadyH.nil
        rw [if_pos (by rfl)]
        go_simp
        refine (HR2.out w3 (HGE.out _ HB3.out) (HKL.out _ HB3.out).2).mono ?_
        rintro e w4 ⟨rfl, hb4⟩
        have HB4 : Hid (Below w'.heap.size w' w4) := HB3.out.trans (hb4.mono HB3.out.size)
        have HO4 : Hid (OwnD w4 w'.heap.size v3 PP) := OwnD.below HO3.out hb4
        clear hb4 HB3 HO3
        go_wp2_with fail
        refine hK.out _ _ True.intro (fun hHeld => ?_)
        clear hK K
        try simp only [Act.put, List.setIfInBounds_toArray, List.set_cons_zero, List.set_cons_succ]
        refine wpAnyH_ready (rs := [9]) (by kernel_rfl) (by simp) ?_
        refine AllReadyH.cons (by simp only [List.getElem?_toArray, List.getElem?_cons_zero, List.getElem?_cons_succ]; rfl) (fun K hK => ?_) AllReadyH.nil
        rw [if_pos (by rfl)]
        refine wp_buildD1 _ rfl Y lB rfl ?_
        have hs5 := HB4.out.size
        have HO5 : Hid (OwnD (w4.alloc (.cells (cellsB Y).toArray 26)) w'.heap.size v3 PP) := OwnD.alloc HO4.out _
        have HB5 : Hid (Below w'.heap.size w' (w4.alloc (.cells (cellsB Y).toArray 26))) := Below.alloc HB4.out hs5 _
        have HY5 : Hid (DRow (w4.alloc (.cells (cellsB Y).toArray 26)) (some ⟨w4.heap.size, 0, none⟩) 1 [Y]) := DRow.lit1 w4 Y _ lB
        refine hK.out _ _ True.intro (fun hHeld => ?_)
        clear HO4 HB4 hs5
        generalize w4.alloc (.cells (cellsB Y).toArray 26) = w5 at *
        clear hK K
        try simp only [Act.put, List.setIfInBounds_toArray, List.set_cons_zero, List.set_cons_succ]
        refine wpAnyH_ready (rs := [10]) (by kernel_rfl) (by simp) ?_
        refine AllReadyH.cons (by simp only [List.getElem?_toArray, List.getElem?_cons_zero, List.getElem?_cons_succ]; rfl) (fun K hK => ?_) AllReadyH.nil
        rw [if_pos (by rfl)]
        refine wp_appendD _ _ rfl w'.heap.size v3 PP rfl HO5.out ⟨w4.heap.size, 0, none⟩ 1 1 [Y] rfl HY5.out (by omega) (by have := HPL.out; omega) HB5.out.size ?_
        intro v7 w7 ho7 hg7 _
        have HB7 : Hid (Below w'.heap.size w' w7) := OwnD.grown HO5.out HB5.out hg7 (Nat.le_refl _) HB5.out.size
        have HO7 : Hid (OwnD w7 w'.heap.size v7 (PP ++ [Y])) := ho7
        refine hK.out _ _ True.intro (fun hHeld => ?_)
        clear HO5 HB5 HY5 hg7 ho7
        clear hK K
        try simp only [Act.put, List.setIfInBounds_toArray, List.set_cons_zero, List.set_cons_succ]
        refine wpAnyH_take (i := 11) (v := ?_) (by simp only [List.getElem?_toArray, List.getElem?_cons_zero, List.getElem?_cons_succ]; rfl) (by kernel_rfl) (by kernel_rfl) (by kernel_rfl) (fun _ _ _ h => h) (Or.inl ⟨by rfl, ?_⟩) hHeld ?_
        rotate_left
        · intro w hSw
          go_simp
          try with_reducible rfl
        try simp only [Act.put, List.setIfInBounds_toArray, List.set_cons_zero, List.set_cons_succ]
        refine wpAnyH_done (by kernel_rfl) (NoPanic.normal ?_) _
        clear hHeld
        go_wp2_with fail
        go_ret
        exact ⟨⟨_, rfl, by rw [HE.out]; exact HO7.out⟩, HB7.out⟩
      · have HE : Hid (pathT ls i = pathT (ls.drop (halfT n)) (i - halfT n) ++ [rootT (ls.take (halfT n))]) := by
          have := pathT_hi (ls := ls) (i := i) h2' (by rw [HLEN.out]; exact hik)
          rw [HLEN.out] at this
          exact this
        have HPL : Hid ((pathT (ls.drop (halfT n)) (i - halfT n)).length ≤ 100000) := by
          unfold Hid
          rw [(fold_path (n - halfT n) (ls.drop (halfT n)) (i - halfT n) (by rw [List.length_drop, HLEN.out]) (by omega)).2]
          have := longT_le (n - halfT n) (i - halfT n)
          omega
        have HCP : Hid (∀ wx, Env wx → DRow wx (some ⟨b, o + halfT n * 32, none⟩) (n - halfT n) (ls.drop (halfT n)) → Calls Tryd.prog 29 #[.slice (some ⟨b, o + halfT n * 32, none⟩) (n - halfT n) (c - halfT n), .int .i64 ((i - halfT n : Nat) : Int)] wx fun e w' => (∃ v, e = .returned v ∧ OwnD w' wx.heap.size v (pathT (ls.drop (halfT n)) (i - halfT n))) ∧ Below wx.heap.size wx w') := fun wx hg hr => HI.out (n - halfT n) (by omega) _ (c - halfT n) (i - halfT n) _ wx hg hr (by omega) (by omega) (by omega) (by omega)
        generalize halfT n = k at *
        generalize rootT (ls.take k) = X at *
        generalize rootT (ls.drop k) = Y at *
        have s1 : (i : Int) - (k : Int) = ((i - k : Nat) : Int) := by omega
        have b1 : i - k ≤ 100000 := by omega
        have HIK : Hid (i - k = i - k) := rfl
        generalize pathT (ls.drop k) (i - k) = PP at *
        generalize i - k = i' at *
        have wi : IntKind.i64.wrap (i' : Int) = (i' : Int) := wrapT i' (by omega)
        have g1 : ¬ (i : Int) < (k : Int) := by omega
        clear HI h2'
        have k0 : (0 : Int) ≤ (k : Int) := by omega
        have k1 : (k : Int) ≤ (n : Int) := by omega
        have k2 : (k : Int) ≤ (c : Int) := by omega
        have n1 : (n : Int) ≤ (c : Int) := by omega
        go_wp2_with fail
        refine wp_region_noPanic ?_
        refine wp_region_held_drew (S := fun _ => True) (by kernel_rfl) True.intro (fun hHeld => ?_)
        try simp only [Act.put, List.setIfInBounds_toArray, List.set_cons_zero, List.set_cons_succ]
        have HBd : Hid (Below w'.heap.size w' w'.drew) := below_drewN w' 1
        generalize w'.drew = wd at *
        refine wpAnyH_take (i := 0) (v := ?_) (by simp only [List.getElem?_toArray, List.getElem?_cons_zero, List.getElem?_cons_succ]; rfl) (by kernel_rfl) (by kernel_rfl) (by kernel_rfl) (fun _ _ _ h => h) (Or.inl ⟨by rfl, ?_⟩) hHeld ?_
        rotate_left
        · intro w hSw
          go_simp
          try with_reducible rfl
        try simp only [Act.put, List.setIfInBounds_toArray, List.set_cons_zero, List.set_cons_succ]
        refine wpAnyH_take (i := 1) (v := ?_) (by simp only [List.getElem?_toArray, List.getElem?_cons_zero, List.getElem?_cons_succ]; rfl) (by kernel_rfl) (by kernel_rfl) (by kernel_rfl) (fun _ _ _ h => h) (Or.inl ⟨by rfl, ?_⟩) hHeld ?_
        rotate_left
        · intro w hSw
          go_simp
          try with_reducible rfl
        try simp only [Act.put, List.setIfInBounds_toArray, List.set_cons_zero, List.set_cons_succ]
        refine wpAnyH_take (i := 2) (v := .slice (some ⟨b, o + k * 32, none⟩) (n - k) (c - k)) (by simp only [List.getElem?_toArray, List.getElem?_cons_zero, List.getElem?_cons_succ]; rfl) (by kernel_rfl) (by kernel_rfl) (by kernel_rfl) (fun _ _ _ h => h) (Or.inl ⟨by rfl, ?_⟩) hHeld ?_
        · intro w hSw
          go_simp
          omega
        try simp only [Act.put, List.setIfInBounds_toArray, List.set_cons_zero, List.set_cons_succ]
        refine wpAnyH_take (i := 3) (v := ?_) (by simp only [List.getElem?_toArray, List.getElem?_cons_zero, List.getElem?_cons_succ]; rfl) (by kernel_rfl) (by kernel_rfl) (by kernel_rfl) (fun _ _ _ h => h) (Or.inl ⟨by rfl, ?_⟩) hHeld ?_
        rotate_left
        · intro w hSw
          go_simp
          try with_reducible rfl
        try simp only [Act.put, List.setIfInBounds_toArray, List.set_cons_zero, List.set_cons_succ]
        refine wpAnyH_take (i := 4) (v := ?_) (by simp only [List.getElem?_toArray, List.getElem?_cons_zero, List.getElem?_cons_succ]; rfl) (by kernel_rfl) (by kernel_rfl) (by kernel_rfl) (fun _ _ _ h => h) (Or.inl ⟨by rfl, ?_⟩) hHeld ?_
        rotate_left
        · intro w hSw
          go_simp
          try with_reducible rfl
        try simp only [Act.put, List.setIfInBounds_toArray, List.set_cons_zero, List.set_cons_succ]
        refine wpAnyH_take (i := 5) (v := .int .i64 (i' : Int)) (by simp only [List.getElem?_toArray, List.getElem?_cons_zero, List.getElem?_cons_succ]; rfl) (by kernel_rfl) (by kernel_rfl) (by kernel_rfl) (fun _ _ _ h => h) (Or.inl ⟨by rfl, ?_⟩) hHeld ?_
        · intro w hSw
          go_simp
        try simp only [Act.put, List.setIfInBounds_toArray, List.set_cons_zero, List.set_cons_succ]
        refine wpAnyH_take (i := 7) (v := ?_) (by simp only [List.getElem?_toArray, List.getElem?_cons_zero, List.getElem?_cons_succ]; rfl) (by kernel_rfl) (by kernel_rfl) (by kernel_rfl) (fun _ _ _ h => h) (Or.inl ⟨by rfl, ?_⟩) hHeld ?_
        rotate_left
        · intro w hSw
          go_simp
          try with_reducible rfl
        try simp only [Act.put, List.setIfInBounds_toArray, List.set_cons_zero, List.set_cons_succ]
        refine wpAnyH_take (i := 8) (v := ?_) (by simp only [List.getElem?_toArray, List.getElem?_cons_zero, List.getElem?_cons_succ]; rfl) (by kernel_rfl) (by kernel_rfl) (by kernel_rfl) (fun _ _ _ h => h) (Or.inl ⟨by rfl, ?_⟩) hHeld ?_
        rotate_left
        · intro w hSw
          go_simp
          try with_reducible rfl
        try simp only [Act.put, List.setIfInBounds_toArray, List.set_cons_zero, List.set_cons_succ]
        refine wpAnyH_take (i := 9) (v := .slice (some ⟨b, o, none⟩) k c) (by simp only [List.getElem?_toArray, List.getElem?_cons_zero, List.getElem?_cons_succ]; rfl) (by kernel_rfl) (by kernel_rfl) (by kernel_rfl) (fun _ _ _ h => h) (Or.inl ⟨by rfl, ?_⟩) hHeld ?_
        · intro w hSw
          go_simp
        try simp only [Act.put, List.setIfInBounds_toArray, List.set_cons_zero, List.set_cons_succ]
        refine wpAnyH_ready (rs := [6]) (by kernel_rfl) (by simp) ?_
        refine AllReadyH.cons (by simp only [List.getElem?_toArray, List.getElem?_cons_zero, List.getElem?_cons_succ]; rfl) (fun K hK => ?_) AllReadyH.nil
        rw [if_pos (by rfl)]
        go_simp
        refine (HCP.out wd (HGE.out _ HBd.out) (HKL.out _ HBd.out).2).mono ?_
        rintro e w3 ⟨⟨v3, rfl, ho3⟩, hb3⟩
        have HB3 : Hid (Below w'.heap.size w' w3) := HBd.out.trans (hb3.mono HBd.out.size)
        have HO3 : Hid (OwnD w3 w'.heap.size v3 PP) := ho3.lower HBd.out.size
        clear hb3 HBd HCP ho3
        go_wp2_with fail
        refine hK.out _ _ True.intro (fun hHeld => ?_)
        clear hK K
        try simp only [Act.put, List.setIfInBounds_toArray, List.set_cons_zero, List.set_cons_succ]
        refine wpAnyH_ready (rs := [10]) (by kernel_rfl) (by simp) ?_
        refine AllReadyH.cons (by simp only [List.getElem?_toArray, List.getElem?_cons_zero, List.getElem?_cons_succ]; rfl) (fun K hK => ?_) AllReadyH.nil
        rw [if_pos (by rfl)]
        go_simp
        refine (HR1.out w3 (HGE.out _ HB3.out) (HKL.out _ HB3.out).1).mono ?_
        rintro e w4 ⟨rfl, hb4⟩
        have HB4 : Hid (Below w'.heap.size w' w4) := HB3.out.trans (hb4.mono HB3.out.size)
        have HO4 : Hid (OwnD w4 w'.heap.size v3 PP) := OwnD.below HO3.out hb4
        clear hb4 HB3 HO3
        go_wp2_with fail
        refine hK.out _ _ True.intro (fun hHeld => ?_)
        clear hK K
        try simp only [Act.put, List.setIfInBounds_toArray, List.set_cons_zero, List.set_cons_succ]
        refine wpAnyH_ready (rs := [11]) (by kernel_rfl) (by simp) ?_
        refine AllReadyH.cons (by simp only [List.getElem?_toArray, List.getElem?_cons_zero, List.getElem?_cons_succ]; rfl) (fun K hK => ?_) AllReadyH.nil
        rw [if_pos (by rfl)]
        refine wp_buildD1 _ rfl X lA rfl ?_
        have hs5 := HB4.out.size
        have HO5 : Hid (OwnD (w4.alloc (.cells (cellsB X).toArray 26)) w'.heap.size v3 PP) := OwnD.alloc HO4.out _
        have HB5 : Hid (Below w'.heap.size w' (w4.alloc (.cells (cellsB X).toArray 26))) := Below.alloc HB4.out hs5 _
        have HY5 : Hid (DRow (w4.alloc (.cells (cellsB X).toArray 26)) (some ⟨w4.heap.size, 0, none⟩) 1 [X]) := DRow.lit1 w4 X _ lA
        refine hK.out _ _ True.intro (fun hHeld => ?_)
        clear HO4 HB4 hs5
        generalize w4.alloc (.cells (cellsB X).toArray 26) = w5 at *
        clear hK K
        try simp only [Act.put, List.setIfInBounds_toArray, List.set_cons_zero, List.set_cons_succ]
        refine wpAnyH_ready (rs := [12]) (by kernel_rfl) (by simp) ?_
        refine AllReadyH.cons (by simp only [List.getElem?_toArray, List.getElem?_cons_zero, List.getElem?_cons_succ]; rfl) (fun K hK => ?_) AllReadyH.nil
        rw [if_pos (by rfl)]
        refine wp_appendD _ _ rfl w'.heap.size v3 PP rfl HO5.out ⟨w4.heap.size, 0, none⟩ 1 1 [X] rfl HY5.out (by omega) (by have := HPL.out; omega) HB5.out.size ?_
        intro v7 w7 ho7 hg7 _
        have HB7 : Hid (Below w'.heap.size w' w7) := OwnD.grown HO5.out HB5.out hg7 (Nat.le_refl _) HB5.out.size
        have HO7 : Hid (OwnD w7 w'.heap.size v7 (PP ++ [X])) := ho7
        refine hK.out _ _ True.intro (fun hHeld => ?_)
        clear HO5 HB5 HY5 hg7 ho7
        clear hK K
        try simp only [Act.put, List.setIfInBounds_toArray, List.set_cons_zero, List.set_cons_succ]
        refine wpAnyH_take (i := 13) (v := ?_) (by simp only [List.getElem?_toArray, List.getElem?_cons_zero, List.getElem?_cons_succ]; rfl) (by kernel_rfl) (by kernel_rfl) (by kernel_rfl) (fun _ _ _ h => h) (Or.inl ⟨by rfl, ?_⟩) hHeld ?_
        rotate_left
        · intro w hSw
          go_simp
          try with_reducible rfl
        try simp only [Act.put, List.setIfInBounds_toArray, List.set_cons_zero, List.set_cons_succ]
        refine wpAnyH_done (by kernel_rfl) (NoPanic.normal ?_) _
        clear hHeld
        go_wp2_with fail
        go_ret
        exact ⟨⟨_, rfl, by rw [HE.out]; exact HO7.out⟩, HB7.out⟩
    · obtain rfl : n = 1 := by omega
      have HE : Hid (pathT ls i = []) := pathT_one (by rw [HLEN.out]; omega)
      go_wp2_with fail
      go_ret
      exact ⟨⟨_, rfl, by rw [HE.out]; exact OwnD.nil _ _⟩, H0.out⟩

set_option maxRecDepth 100000 in
set_option maxHeartbeats 1000000 in
theorem wtree_path (a : Option Addr) (n c i : Nat) (ls : List (List UInt8)) (w : World) (G : Env w) (R : DRow w a n ls) (hc : n ≤ c) (hn : n ≤ 256) (hi : i < n) :
    Calls Tryd.prog 15 #[.slice a n c, .int .i64 (i : Int)] w fun e w' => (∃ a' c', e = .returned (.tuple #[.slice a' (longT i n) c', .nilIface]) ∧ longT i n ≤ c' ∧ DRow w' a' (longT i n) (pathT ls i)) ∧ Below w.heap.size w w' := by
  have HG : Hid (Env w ∧ DRow w a n ls) := ⟨G, R⟩
  have HL : Hid ((pathT ls i).length = longT i n) := (fold_path n ls i R.1 hi).2
  clear G R
  have g1 : ¬ (256 : Int) < (n : Int) := by omega
  have g2 : ¬ (i : Int) < 0 := by omega
  have g3 : ¬ (n : Int) ≤ (i : Int) := by omega
  go_enter Tryd.func15, Tryd.ntmps15
  go_wp2_with fail
  refine (wpathof_any n a c i ls w HG.out.1 HG.out.2 hc (by omega) hn hi).mono ?_
  rintro e w3 ⟨⟨v3, rfl, ho3⟩, hb3⟩
  obtain ⟨a3, c3, rfl, R3, hc3⟩ := OwnD.form ho3
  rw [HL.out] at R3 hc3 ⊢
  have HR3 : Hid (DRow w3 a3 (longT i n) (pathT ls i) ∧ Below w.heap.size w w3) := ⟨R3, hb3⟩
  clear R3 hb3 ho3 HG HL
  generalize hY : longT i n = y at *
  have HY : Hid (longT i n = y) := hY
  clear hY
  go_wp2_with fail
  go_ret2
  rw [HY.out]
  exact ⟨⟨_, _, rfl, hc3, HR3.out.1⟩, HR3.out.2⟩
set_option maxRecDepth 100000 in
set_option maxHeartbeats 1000000 in
theorem wtree_pathfull (a : Option Addr) (n c : Nat) (i : Int) (ls : List (List UInt8)) (w : World) (G : Env w) (R : DRow w a n ls) (hc : n ≤ c) (hn : 256 < n) (hn2 : 32 * n ≤ 140737488351232) (hi1 : -9223372036854775808 ≤ i) (hi2 : i ≤ 9223372036854775807) :
    Calls Tryd.prog 15 #[.slice a n c, .int .i64 i] w fun e w' => (∃ a' c', e = .returned (.tuple #[.slice a' 0 c', .iface 24 (.int .i64 4)])) ∧ Below w.heap.size w w' := by
  clear G R
  have g1 : (256 : Int) < (n : Int) := by omega
  go_enter Tryd.func15, Tryd.ntmps15
  go_wp2_with fail
  go_ret2
  exact ⟨⟨_, _, rfl⟩, Below.refl _ _⟩
set_option maxRecDepth 100000 in
set_option maxHeartbeats 1000000 in
theorem wtree_pathout (a : Option Addr) (n c : Nat) (i : Int) (ls : List (List UInt8)) (w : World) (G : Env w) (R : DRow w a n ls) (hc : n ≤ c) (hn : n ≤ 256) (hi : i < 0 ∨ (n : Int) ≤ i) (hi1 : -9223372036854775808 ≤ i) (hi2 : i ≤ 9223372036854775807) :
    Calls Tryd.prog 15 #[.slice a n c, .int .i64 i] w fun e w' => (∃ a' c', e = .returned (.tuple #[.slice a' 0 c', .iface 24 (.int .i64 2)])) ∧ Below w.heap.size w w' := by
  clear G R
  have g1 : ¬ (256 : Int) < (n : Int) := by omega
  by_cases g2 : i < 0
  · clear hi
    go_enter Tryd.func15, Tryd.ntmps15
    go_wp2_with fail
    go_ret2
    exact ⟨⟨_, _, rfl⟩, Below.refl _ _⟩
  · have g3 : (n : Int) ≤ i := by omega
    clear hi
    go_enter Tryd.func15, Tryd.ntmps15
    go_wp2_with fail
    go_ret2
    exact ⟨⟨_, _, rfl⟩, Below.refl _ _⟩
end Go.Proofs.YtdldkhhcicjbmaaDoor
