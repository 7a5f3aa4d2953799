/- The contracts of clock.Check, numbersOf and told. -/
import Derived.Test.YtanlnfcmmfmofaaNums
import Derived.Test.YtanlnfcmmfmofaaEnv
import Derived.WalkKit
namespace Go.Proofs.Ytanlnfcmmfmofaa
open Go.RowKit
set_option linter.unusedVariables false
set_option linter.unusedSimpArgs false

set_option maxRecDepth 100000 in
set_option maxHeartbeats 2000000 in
theorem wclk1_any (x : Int) (w : World) :
    Calls Try.prog 14 #[.int .i64 x] w fun e w' => e = .returned (.bool (decide (x < 0))) ∧ w' = w := by
  go_enter Try.func14, Try.ntmps14
  go_wp2_with fail
  go_ret
  exact ⟨rfl, by trivial⟩

theorem anyN_iff (l : List Int) : (l.any (fun x => decide (x < 0))) = false ↔ ∀ x ∈ l, 0 ≤ x := by
  rw [List.any_eq_false]
  constructor
  · intro h x hx
    have := h x hx
    simp at this
    omega
  · intro h x hx
    have := h x hx
    simp
    omega

set_option maxRecDepth 100000 in
set_option maxHeartbeats 2000000 in
theorem windexN_any (a : Option Addr) (n c : Nat) (l : List Int) (w : World) (R : IRow w a n l) (hn : n ≤ 16) :
    Calls Try.prog 18 #[.slice a n c, .func (.func 14) #[] #[]] w fun e w' => (∃ r : Int, e = .returned (.int .i64 r) ∧ -1 ≤ r ∧ r ≤ 16 ∧ decide (0 ≤ r) = l.any (fun x => decide (x < 0))) ∧ w' = w := by
  have HR : Hid (n = 0 ∨ ∃ b o, a = some ⟨b, o, none⟩ ∧ ∀ i, i < n → w.cell? ⟨b, o + i, none⟩ = some (.int .i64 (l.getD i 0))) := R.2
  have HL : Hid (l.length = n) := R.1
  clear R
  go_enter Try.func18, Try.ntmps18
  go_wp2_with fail
  go_loopw [8] (fun iv wr => ∃ i : Nat, iv = .int .i64 (i : Int) ∧ i ≤ n ∧ Hid (∀ j, j < i → 0 ≤ l.getD j 0) ∧ Hid (wr = w)) (fun iv _ => n - (intOf iv).toNat)
  case atStart => exact ⟨0, rfl, Nat.zero_le _, (fun j h => by omega), rfl⟩
  case round =>
    obtain ⟨i, rfl, hi, HJ, HW⟩ := hrel
    have hw : w = wr := HW.out.symm
    subst hw
    by_cases hlt : i < n
    · obtain ⟨b, o, rfl, hc'⟩ : ∃ b o, a = some ⟨b, o, none⟩ ∧ ∀ i, i < n → w.cell? ⟨b, o + i, none⟩ = some (.int .i64 (l.getD i 0)) := by
        rcases HR.out with h0 | h
        · omega
        · exact h
      have k0 := hc' i hlt
      have i0 : (0 : Int) ≤ (i : Int) := by omega
      have i1 : (i : Int) < (n : Int) := by omega
      have HLT : Hid (i < n) := hlt
      obtain ⟨z, hz⟩ : ∃ z, l.getD i 0 = z := ⟨_, rfl⟩
      have HZ : Hid (l.getD i 0 = z) := hz
      rw [hz] at k0
      clear hz hc' hlt hi
      have hcall := wclk1_any z w
      by_cases cz : z < 0
      · have HCL : Hid (Calls Try.prog 14 #[.int .i64 z] w fun e w' => e = .returned (.bool true) ∧ w' = w) := by rw [decide_eq_true cz] at hcall; exact hcall
        have HCZ : Hid (z < 0) := cz
        clear hcall cz
        go_wp2_with fail
        refine HCL.out.mono ?_
        rintro e w' ⟨rfl, rfl⟩
        go_wp2_with fail
        go_ret
        refine ⟨⟨(i : Int), rfl, by omega, by omega, ?_⟩, by trivial⟩
        rw [decide_eq_true i0]
        refine (List.any_eq_true.2 ⟨l.getD i 0, seenL_mem (by rw [HL.out]; exact HLT.out), ?_⟩).symm
        rw [HZ.out]
        exact decide_eq_true HCZ.out
      · have HCL : Hid (Calls Try.prog 14 #[.int .i64 z] w fun e w' => e = .returned (.bool false) ∧ w' = w) := by rw [decide_eq_false cz] at hcall; exact hcall
        have HJ2 : Hid (∀ j, j < i + 1 → 0 ≤ l.getD j 0) := fun j hj => by
          by_cases e : j = i
          · rw [e, HZ.out]; omega
          · exact HJ.out j (by omega)
        clear hcall cz
        go_wp2_with fail
        refine HCL.out.mono ?_
        rintro e w' ⟨rfl, rfl⟩
        go_wp2_with fail
        go_roundw
        case rel => exact ⟨i + 1, by go_num, HLT.out, HJ2.out, by first | exact True.intro | exact rfl⟩
        case measure => have := HLT.out; simp [intOf]; omega
    · have hin : i = n := by omega
      subst hin
      have g2 : ¬ (i : Int) < (i : Int) := by omega
      clear hlt
      go_wp2_with fail
      go_ret
      refine ⟨⟨-1, rfl, by omega, by omega, ?_⟩, by trivial⟩
      rw [(anyN_iff l).2 fun x hx => by
        obtain ⟨j, hj, rfl⟩ := List.mem_iff_getElem.1 hx
        have := HJ.out j (by rw [← HL.out]; exact hj)
        rw [List.getD_eq_getElem?_getD, List.getElem?_eq_getElem hj] at this
        exact this]
      decide

set_option maxRecDepth 100000 in
set_option maxHeartbeats 2000000 in
theorem wcontainsN_any (a : Option Addr) (n c : Nat) (l : List Int) (w : World) (R : IRow w a n l) (hn : n ≤ 16) :
    Calls Try.prog 13 #[.slice a n c, .func (.func 14) #[] #[]] w fun e w' => e = .returned (.bool (l.any (fun x => decide (x < 0)))) ∧ w' = w := by
  have hcall := windexN_any a n c l w R hn
  obtain ⟨z, hz⟩ : ∃ z, l.any (fun x => decide (x < 0)) = z := ⟨_, rfl⟩
  rw [hz] at hcall
  rw [hz]
  have HCL : Hid (Calls Try.prog 18 #[.slice a n c, .func (.func 14) #[] #[]] w fun e w' => (∃ r : Int, e = .returned (.int .i64 r) ∧ -1 ≤ r ∧ r ≤ 16 ∧ decide (0 ≤ r) = z) ∧ w' = w) := hcall
  clear hcall hz R
  go_enter Try.func13, Try.ntmps13
  go_wp2_with fail
  refine HCL.out.mono ?_
  rintro e w' ⟨⟨r, rfl, h1, h2, hd⟩, rfl⟩
  go_wp2_with fail
  go_ret
  exact ⟨rfl, by trivial⟩

set_option maxRecDepth 100000 in
set_option maxHeartbeats 2000000 in
theorem wclock_check (a : Option Addr) (n c : Nat) (l : List Int) (w : World) (G : Env w) (R : IRow w a n l) (hc : n ≤ c) (hi : okI l) (hf : clockE l = 0) :
    Calls Try.prog 6 #[.slice a n c] w fun r w' => r = .returned .nilIface ∧ Below w.heap.size w w' := by
  obtain ⟨h16, hpos⟩ := clockE_ok hf
  rw [R.1] at h16
  have hcall := wcontainsN_any a n c l w R h16
  rw [(anyN_iff l).2 hpos] at hcall
  have HCL : Hid (Calls Try.prog 13 #[.slice a n c, .func (.func 14) #[] #[]] w fun e w' => e = .returned (.bool false) ∧ w' = w) := hcall
  have g1 : ¬ (16 : Int) < (n : Int) := by omega
  clear hcall hpos R hi hf G
  go_enter Try.func6, Try.ntmps6
  go_wp2_with fail
  refine HCL.out.mono ?_
  rintro e w' ⟨rfl, rfl⟩
  go_wp2_with fail
  go_ret
  exact ⟨rfl, Below.refl _ _⟩

set_option maxRecDepth 100000 in
set_option maxHeartbeats 2000000 in
theorem wclock_checkout (a : Option Addr) (n c : Nat) (l : List Int) (q : Int) (w : World) (G : Env w) (R : IRow w a n l) (hc : n ≤ c) (hn : n ≤ 140737488351232) (hi : okI l) (hf : clockE l = q) (hq : q ≠ 0) :
    Calls Try.prog 6 #[.slice a n c] w fun r w' => r = .returned (.iface 38 (.int .i64 q)) ∧ Below w.heap.size w w' := by
  have hl := R.1
  by_cases c1 : 16 < n
  · have e : clockE l = 4 := if_pos (by rw [hl]; exact c1)
    rw [e] at hf
    subst hf
    have g1 : (16 : Int) < (n : Int) := by omega
    clear R hi G
    go_enter Try.func6, Try.ntmps6
    go_wp2_with fail
    go_ret
    exact ⟨rfl, Below.refl _ _⟩
  · have e1 : clockE l = if ∀ x ∈ l, 0 ≤ x then 0 else 2 := if_neg (by rw [hl]; exact c1)
    have c2 : ¬ ∀ x ∈ l, 0 ≤ x := fun h => hq (by rw [← hf, e1, if_pos h])
    have e : clockE l = 2 := by rw [e1, if_neg c2]
    rw [e] at hf
    subst hf
    have g1 : ¬ (16 : Int) < (n : Int) := by omega
    have hcall := wcontainsN_any a n c l w R (by omega)
    have ha : (l.any fun x => decide (x < 0)) = true := by
      cases h : (l.any fun x => decide (x < 0)) with
      | true => rfl
      | false => exact absurd ((anyN_iff l).1 h) c2
    rw [ha] at hcall
    have HCL : Hid (Calls Try.prog 13 #[.slice a n c, .func (.func 14) #[] #[]] w fun e w' => e = .returned (.bool true) ∧ w' = w) := hcall
    clear hcall ha c2 e e1 R hi G c1
    go_enter Try.func6, Try.ntmps6
    go_wp2_with fail
    refine HCL.out.mono ?_
    rintro e w' ⟨rfl, rfl⟩
    go_wp2_with fail
    go_ret
    exact ⟨rfl, Below.refl _ _⟩

set_option maxRecDepth 100000 in
set_option maxHeartbeats 2000000 in
theorem wclk_numbers (a : Option Addr) (n c : Nat) (l : List Int) (w : World) (R : IRow w a n l) (h16 : n ≤ 16) :
    Calls Try.prog 11 #[.slice a n c] w fun r w' => r = .returned (numV (pad16 l)) ∧ Below w.heap.size w w' := by
  obtain ⟨iN, hiN, _, hN1, _⟩ := info_parts Try.infoIntO
  obtain ⟨w1, hw1⟩ : ∃ w1, w.alloc (.cells (cellsI z16).toArray 36) = w1 := ⟨_, rfl⟩
  have hs1 : w1.heap.size = w.heap.size + 1 := by rw [← hw1]; simp
  obtain ⟨w2, hw2⟩ : ∃ w2, w1.alloc (.cells (cellsI z16).toArray 36) = w2 := ⟨_, rfl⟩
  have hl := R.1
  have hb2 : Below w.heap.size w w2 := by rw [← hw2, ← hw1]; exact ((Below.refl _ _).alloc (Nat.le_refl _) _).alloc (by simp) _
  have hA : NA w2 (w.heap.size + 1) z16 := by rw [← hw2, ← hs1]; exact NA.boxed _ _
  have ht1 : w2.there w.heap.size 0 16 := by rw [← hw2, ← hw1]; exact World.there_alloc (alloc_thereAt _ _ _ 16 _ rfl z16_size.symm) _
  have ht2 : w2.there (w.heap.size + 1) 0 16 := by rw [← hw2]; exact alloc_thereAt _ _ _ 16 _ hs1 z16_size.symm
  obtain ⟨w3, hw3⟩ : ∃ w3, w2.setCells (w.heap.size + 1) 0 (cellsI l) = w3 := ⟨_, rfl⟩
  have HR2 : Hid (IRow w2 a n l) := R.below hb2
  have HA3 : Hid (NA w3 (w.heap.size + 1) (pad16 l)) := by rw [← hw3]; exact hA.copied ht2 (by omega)
  have HT3 : Hid (w3.there w.heap.size 0 16) := by rw [← hw3]; exact World.there_setCells ht1 _ _ _
  have HB3 : Hid (Below w.heap.size w w3) := by rw [← hw3]; exact below_setCells _ (by omega) _ _ _ hb2
  have HT2 : Hid (w2.there (w.heap.size + 1) 0 n) := fun j hj => ht2 j (by omega)
  have hP := pad16_length l
  clear hA ht1 ht2 hb2 R
  go_enter Try.func11, Try.ntmps11
  go_wp2_with (first
    | (refine wpList_allocE (by rfl) 36 (by rfl) (cellsI z16).toArray Try.zeroN16 w.heap.size rfl w1 hw1 ?_)
    | (refine wpList_allocE (by rfl) 36 (by rfl) (cellsI z16).toArray Try.zeroN16 (w.heap.size + 1) hs1 w2 hw2 ?_)
    | (refine wpList_copy_ints (by rfl) (.tmp 4) (.tmp 5) 22 22 (by rfl) 3 Try.underlying22 (by rw [hiN]; exact congrArg some hN1) (some ⟨w.heap.size + 1, 0, none⟩) 16 16 (by rfl) a n c l (by rfl) HR2.out h16 (w.heap.size + 1) 0 (fun _ => rfl) HT2.out w3 hw3 ?_)
    | (refine wpList_load_mid (by rfl) 36 (.tmp 3) (by rfl) (w.heap.size + 1) 0 (by rfl) (cellsI (pad16 l)) _ HA3.out Try.underlying36 (by rfl) (by rw [cellsI_length, hP]; exact Try.sizeN16) ?_)
    | (refine wpList_store_mid (by rfl) 36 (.tmp 2) (.tmp 7) (by rfl) w.heap.size 0 (cellsI (pad16 l)).toArray (by rfl) (by rfl) (by rw [cellsN_size, hP]; exact HT3.out) (by rw [cellsN_size, hP]; exact Try.sizeN16) (all_oneCell_toArray (cellsI_one _)) ?_))
  refine bodyPost_ret (v := numV (pad16 l)) (run_results_row Try.results11 _ _ w.heap.size 0 (by rfl) (cellsI (pad16 l)) (World.rangeAt_setCells_same _ _ _ _ (by rw [cellsI_length, hP]; exact HT3.out)) _ Try.underlying36 (by rfl) (by rw [cellsI_length, hP]; exact Try.sizeN16)) rfl ⟨rfl, ?_⟩
  exact below_setCells _ (Nat.le_refl _) _ _ _ HB3.out
end Go.Proofs.Ytanlnfcmmfmofaa
