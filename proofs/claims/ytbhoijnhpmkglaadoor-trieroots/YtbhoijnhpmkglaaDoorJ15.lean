/- Texts of this claim, joined: Told, Sdigests. -/
import Derived.Test.YtbhoijnhpmkglaaDoorYAs
import Derived.Test.YtbhoijnhpmkglaaDoorJ06
import Derived.Test.YtbhoijnhpmkglaaDoorJ07
import Derived.Deep.RegionHeld3
/- The contracts of plain.Told and of oathbooksame.Error: an error that is nil, or an Errno, is told. -/
namespace Go.Proofs.YtbhoijnhpmkglaaDoor
open Go.RowKit
set_option linter.unusedVariables false
set_option linter.unusedSimpArgs false

theorem told_nil (w : World) : Calls Tryd.prog 30 #[.nilIface] w fun e w' => e = .returned (.int .i64 0) ∧ Below w.heap.size w w' := by
  go_enter Tryd.func30, Tryd.ntmps30
  go_wp2
  go_ret
  exact ⟨rfl, Below.refl _ _⟩

set_option maxHeartbeats 1000000 in
theorem told_errno (n : Int) (w : World) (hg : Handle w) : Calls Tryd.prog 30 #[.iface 27 (.int .i64 n)] w fun e w' => e = .returned (.int .i64 n) ∧ Below w.heap.size w w' := by
  have hgA : Handle (w.alloc (.cells #[.int .i64 0] 27)) := hg.below ((Below.refl _ _).alloc (Nat.le_refl _) _)
  have htA : (w.alloc (.cells #[.int .i64 0] 27)).cell? ⟨w.heap.size, 0, none⟩ = some (.int .i64 0) := by simp
  have hfA : (w.alloc (.cells #[.int .i64 0] 27)).frozen? ⟨w.heap.size, 0, none⟩ = false := by simp
  go_enter Tryd.func30, Tryd.ntmps30
  go_wp2_with fail
  refine (as_hit n ⟨w.heap.size, 0, none⟩ (.int .i64 0) _ hgA htA hfA).mono ?_
  rintro e w' ⟨rfl, rfl⟩
  go_wp2
  go_ret
  exact ⟨rfl, (((((Below.refl _ _).alloc (Nat.le_refl _) _).alloc (by simp) _).alloc (by simp; omega) _).alloc (by simp; omega) _).alloc (by simp; omega) _⟩
theorem error_nil (n : Int) (w : World) : Calls Tryd.prog 12 #[.nilIface, .int .i64 n] w fun e w' => e = .returned (.bool (decide (0 = n))) ∧ Below w.heap.size w w' := by
  by_cases h : 0 = n
  · have hb : ((0 : Int) == n) = true := by simp [h]
    go_enter Tryd.func12, Tryd.ntmps12
    go_wp2_with fail
    refine (told_nil _).mono ?_
    rintro e w' ⟨rfl, b⟩
    go_wp2
    go_ret
    exact ⟨ret_bool (by simp [h]), b⟩
  · have hb : ((0 : Int) == n) = false := by simp [h]
    go_enter Tryd.func12, Tryd.ntmps12
    go_wp2_with fail
    refine (told_nil _).mono ?_
    rintro e w' ⟨rfl, b⟩
    go_wp2
    go_ret
    exact ⟨ret_bool (by simp [h]), b⟩
theorem error_errno (m n : Int) (w : World) (hg : Handle w) : Calls Tryd.prog 12 #[.iface 27 (.int .i64 m), .int .i64 n] w fun e w' => e = .returned (.bool (decide (m = n))) ∧ Below w.heap.size w w' := by
  by_cases h : m = n
  · subst h
    have hb : (m == m) = true := by simp
    go_enter Tryd.func12, Tryd.ntmps12
    go_wp2_with fail
    refine (told_errno m _ hg).mono ?_
    rintro e w' ⟨rfl, b⟩
    go_wp2
    go_ret
    exact ⟨ret_bool (by simp), b⟩
  · have hb : (m == n) = false := by simp [h]
    go_enter Tryd.func12, Tryd.ntmps12
    go_wp2_with fail
    refine (told_errno m _ hg).mono ?_
    rintro e w' ⟨rfl, b⟩
    go_wp2
    go_ret
    exact ⟨ret_bool (by simp [h]), b⟩
end Go.Proofs.YtbhoijnhpmkglaaDoor
/- The contract of oathbooksame.Digests: it tells whether two slices of digests read as one list. -/
namespace Go.Proofs.YtbhoijnhpmkglaaDoor
open Go.RowKit
set_option linter.unusedVariables false
set_option linter.unusedSimpArgs false

theorem Tryd.sizeDs : (Tryd.prog.info? 24).map (·.size) = some 32 := by kernel_rfl
theorem list_eq {l1 l2 : List (List UInt8)} {n : Nat} (h1 : l1.length = n) (h2 : l2.length = n) (h : ∀ j, j < n → l1.getD j [] = l2.getD j []) : l1 = l2 := by
  apply List.ext_getElem (by omega)
  intro i h3 h4
  have := h i (by omega)
  simpa [List.getD_eq_getElem?_getD, List.getElem?_eq_getElem h3, List.getElem?_eq_getElem h4] using this

set_option maxRecDepth 100000 in
set_option maxHeartbeats 1000000 in
theorem sdigests_any (a1 a2 : Option Addr) (n1 n2 c1 c2 : Nat) (l1 l2 : List (List UInt8)) (w : World) (R1 : DRow w a1 n1 l1) (R2 : DRow w a2 n2 l2) (hm : n1 ≤ 281474976710656) :
    Calls Tryd.prog 16 #[.slice a1 n1 c1, .slice a2 n2 c2] w fun e w' => e = .returned (.bool (decide (l1 = l2))) ∧ Below w.heap.size w w' := by
  have e1 := R1.1
  have e2 := R2.1
  by_cases hn : n1 = n2
  · subst hn
    have hne : ((n1 : Int) != (n1 : Int)) = false := by simp
    have HE : Hid (l1.length = n1 ∧ l2.length = n1) := ⟨e1, e2⟩
    have HL : Hid ((∀ i, i < n1 → (l1.getD i []).length = 32) ∧ ∀ i, i < n1 → (l2.getD i []).length = 32) := ⟨R1.len, R2.len⟩
    have HR1 : Hid (n1 = 0 ∨ ∃ b o, a1 = some ⟨b, o, none⟩ ∧ ∀ i, i < n1 → DAt w b (o + 32 * i) (l1.getD i [])) := R1.2.2
    have HR2 : Hid (n1 = 0 ∨ ∃ b o, a2 = some ⟨b, o, none⟩ ∧ ∀ i, i < n1 → DAt w b (o + 32 * i) (l2.getD i [])) := R2.2.2
    clear e1 e2 R1 R2
    go_enter Tryd.func16, Tryd.ntmps16
    go_wp2
    go_loopw [5] (fun i wr => ∃ k : Nat, k ≤ n1 ∧ i = .int .i64 k ∧ Below w.heap.size w wr ∧ ∀ j, j < k → l1.getD j [] = l2.getD j []) (fun i _ => n1 - (intOf i).toNat)
    case atStart => exact ⟨0, Nat.zero_le _, rfl, Below.refl _ _, fun j hj => by omega⟩
    case round =>
      obtain ⟨k, hk, rfl, hB, hall⟩ := hrel
      have HA : Hid (∀ j, j < k → l1.getD j [] = l2.getD j []) := hall
      have HB : Hid (Below w.heap.size w wr) := hB
      clear hall hB
      by_cases hlt : k < n1
      · obtain ⟨b1, o1, rfl, k1⟩ : ∃ b o, a1 = some ⟨b, o, none⟩ ∧ ∀ i, i < n1 → DAt w b (o + 32 * i) (l1.getD i []) := by
          rcases HR1.out with h | h
          · omega
          · exact h
        obtain ⟨b2, o2, rfl, k2⟩ : ∃ b o, a2 = some ⟨b, o, none⟩ ∧ ∀ i, i < n1 → DAt w b (o + 32 * i) (l2.getD i []) := by
          rcases HR2.out with h | h
          · omega
          · exact h
        have lX := HL.out.1 k hlt
        have lY := HL.out.2 k hlt
        have hS : wr.rangeAt b1 (o1 + k * 32) (cellsB (l1.getD k [])) ∧ wr.rangeAt b2 (o2 + k * 32) (cellsB (l2.getD k [])) := by
          rw [Nat.mul_comm]
          have g1 := k1 k hlt
          have g2 := k2 k hlt
          exact ⟨g1.below HB.out (cell_block (g1.cell 0 (by omega))), g2.below HB.out (cell_block (g2.cell 0 (by omega)))⟩
        have HS : Hid (wr.rangeAt b1 (o1 + k * 32) (cellsB (l1.getD k [])) ∧ wr.rangeAt b2 (o2 + k * 32) (cellsB (l2.getD k []))) := hS
        clear hS k1 k2
        have hi : (0 : Int) ≤ (k : Int) := by omega
        have hj : (k : Int) < (n1 : Int) := by omega
        have HQ : Hid (∀ j, j < k + 1 → j ≠ k → l1.getD j [] = l2.getD j []) := fun j hj hne => HA.out j (by omega)
        generalize hX : l1.getD k [] = X at *
        generalize hY : l2.getD k [] = Y at *
        have HXY : Hid (l1.getD k [] = X ∧ l2.getD k [] = Y) := ⟨hX, hY⟩
        clear hX hY
        go_wp2_with fail
        refine wp_region_noPanic ?_
        refine wp_region_held_drew (S := fun w' => w'.rangeAt b1 (o1 + k * 32) (cellsB X) ∧ w'.rangeAt b2 (o2 + k * 32) (cellsB Y)) (by kernel_rfl) HS.out (fun hHeld => ?_)
        try simp only [Act.put, List.setIfInBounds_toArray, List.set_cons_zero, List.set_cons_succ]
        refine wpAnyH_take (i := 0) (v := ?_) (by simp only [List.getElem?_toArray, List.getElem?_cons_zero, List.getElem?_cons_succ]; rfl) (by kernel_rfl) (by kernel_rfl) (by kernel_rfl) (fun _ _ _ h => h) (Or.inl ⟨by rfl, ?_⟩) hHeld ?_
        rotate_left
        · intro w hSw
          go_simp
          try with_reducible rfl
        try simp only [Act.put, List.setIfInBounds_toArray, List.set_cons_zero, List.set_cons_succ]
        refine wpAnyH_take (i := 1) (v := ?_) (by simp only [List.getElem?_toArray, List.getElem?_cons_zero, List.getElem?_cons_succ]; rfl) (by kernel_rfl) (by kernel_rfl) (by kernel_rfl) (fun _ _ _ h => h) (Or.inl ⟨by rfl, ?_⟩) hHeld ?_
        rotate_left
        · intro w hSw
          go_simp
          try with_reducible rfl
        try simp only [Act.put, List.setIfInBounds_toArray, List.set_cons_zero, List.set_cons_succ]
        refine wpAnyH_take (i := 2) (v := ?_) (by simp only [List.getElem?_toArray, List.getElem?_cons_zero, List.getElem?_cons_succ]; rfl) (by kernel_rfl) (by kernel_rfl) (by kernel_rfl) (fun _ _ _ h => h) (Or.inl ⟨by rfl, ?_⟩) hHeld ?_
        rotate_left
        · intro w hSw
          go_simp
          try with_reducible rfl
        try simp only [Act.put, List.setIfInBounds_toArray, List.set_cons_zero, List.set_cons_succ]
        refine wpAnyH_take (i := 3) (v := .agg (cellsB X).toArray) (by simp only [List.getElem?_toArray, List.getElem?_cons_zero, List.getElem?_cons_succ]; rfl) (by kernel_rfl) (by kernel_rfl) (by kernel_rfl) (fun _ _ _ h => h)
          (yieldsIf_load_mid (by rfl) _ _ rfl _ _ rfl _ _ (fun w hw => hw.1) Tryd.underlying24 rfl (by rw [cellsB_length, lX]; exact Tryd.sizeDs)) hHeld ?_
        try simp only [Act.put, List.setIfInBounds_toArray, List.set_cons_zero, List.set_cons_succ]
        refine wpAnyH_take (i := 4) (v := ?_) (by simp only [List.getElem?_toArray, List.getElem?_cons_zero, List.getElem?_cons_succ]; rfl) (by kernel_rfl) (by kernel_rfl) (by kernel_rfl) (fun _ _ _ h => h) (Or.inl ⟨by rfl, ?_⟩) hHeld ?_
        rotate_left
        · intro w hSw
          go_simp
          try with_reducible rfl
        try simp only [Act.put, List.setIfInBounds_toArray, List.set_cons_zero, List.set_cons_succ]
        refine wpAnyH_take (i := 5) (v := ?_) (by simp only [List.getElem?_toArray, List.getElem?_cons_zero, List.getElem?_cons_succ]; rfl) (by kernel_rfl) (by kernel_rfl) (by kernel_rfl) (fun _ _ _ h => h) (Or.inl ⟨by rfl, ?_⟩) hHeld ?_
        rotate_left
        · intro w hSw
          go_simp
          try with_reducible rfl
        try simp only [Act.put, List.setIfInBounds_toArray, List.set_cons_zero, List.set_cons_succ]
        refine wpAnyH_take (i := 6) (v := ?_) (by simp only [List.getElem?_toArray, List.getElem?_cons_zero, List.getElem?_cons_succ]; rfl) (by kernel_rfl) (by kernel_rfl) (by kernel_rfl) (fun _ _ _ h => h) (Or.inl ⟨by rfl, ?_⟩) hHeld ?_
        rotate_left
        · intro w hSw
          go_simp
          try with_reducible rfl
        try simp only [Act.put, List.setIfInBounds_toArray, List.set_cons_zero, List.set_cons_succ]
        refine wpAnyH_take (i := 7) (v := .agg (cellsB Y).toArray) (by simp only [List.getElem?_toArray, List.getElem?_cons_zero, List.getElem?_cons_succ]; rfl) (by kernel_rfl) (by kernel_rfl) (by kernel_rfl) (fun _ _ _ h => h)
          (yieldsIf_load_mid (by rfl) _ _ rfl _ _ rfl _ _ (fun w hw => hw.2) Tryd.underlying24 rfl (by rw [cellsB_length, lY]; exact Tryd.sizeDs)) hHeld ?_
        try simp only [Act.put, List.setIfInBounds_toArray, List.set_cons_zero, List.set_cons_succ]
        have hb : Below w.heap.size w wr.drew := HB.out.drew
        refine wpAnyH_take (i := 8) (v := .bool (!decide (X = Y))) (by simp only [List.getElem?_toArray, List.getElem?_cons_zero, List.getElem?_cons_succ]; rfl) (by kernel_rfl) (by kernel_rfl) (by kernel_rfl) (fun _ _ _ h => h)
          (yieldsIf_neqD (by rfl) _ _ rfl X Y lX lY rfl rfl _ rfl) hHeld ?_
        try simp only [Act.put, List.setIfInBounds_toArray, List.set_cons_zero, List.set_cons_succ]
        refine wpAnyH_done (by kernel_rfl) (NoPanic.normal ?_) _
        clear hHeld HS
        generalize wr.drew = wd at *
        by_cases hq : X = Y
        · have HE2 : Hid (X = Y) := hq
          rw [show (!decide (X = Y)) = false by simp [hq]]
          clear hq
          go_wp2
          go_roundw
          case rel => exact ⟨k + 1, by omega, by go_num, hb, fun j hj => by
            by_cases hjk : j = k
            · subst hjk; rw [HXY.out.1, HXY.out.2]; exact HE2.out
            · exact HQ.out j hj hjk⟩
          case measure => simp [intOf]; omega
        · have HE2 : Hid (¬ X = Y) := hq
          rw [show (!decide (X = Y)) = true by simp [hq]]
          clear hq
          go_wp2
          go_ret
          exact ⟨ret_bool (by symm; rw [decide_eq_false_iff_not]; intro h; subst h; exact HE2.out (HXY.out.1.symm.trans HXY.out.2)), hb⟩
      · go_wp2
        go_ret
        exact ⟨ret_bool (by
          symm
          rw [decide_eq_true_iff]
          exact list_eq HE.out.1 HE.out.2 fun j hj => HA.out j (by omega)), HB.out⟩
  · have hne : ((n1 : Int) != (n2 : Int)) = true := by simp; omega
    clear R1 R2
    go_enter Tryd.func16, Tryd.ntmps16
    go_wp2
    go_ret
    exact ⟨ret_bool (by symm; rw [decide_eq_false_iff_not]; intro h; subst h; omega), Below.refl _ _⟩
end Go.Proofs.YtbhoijnhpmkglaaDoor
