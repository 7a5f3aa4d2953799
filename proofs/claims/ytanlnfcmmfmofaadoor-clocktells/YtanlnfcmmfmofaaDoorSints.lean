/- The contract of oathbooksame.Ints: it tells whether two slices of ints read as one list. -/
import Derived.Test.YtanlnfcmmfmofaaDoorOwnI
import Derived.Deep.QuietTactic
import Derived.BigQuiet
namespace Go.Proofs.YtanlnfcmmfmofaaDoor
open Go.RowKit
set_option linter.unusedVariables false
set_option linter.unusedSimpArgs false

theorem ints_eq {l1 l2 : List Int} (h : l1.length = l2.length) (he : ∀ j, j < l1.length → l1.getD j 0 = l2.getD j 0) : l1 = l2 := by
  apply List.ext_getElem h
  intro i h1 h2
  have := he i h1
  simpa [List.getD_eq_getElem?_getD, List.getElem?_eq_getElem h1, List.getElem?_eq_getElem h2] using this

set_option maxHeartbeats 400000 in
theorem sints_any (a1 a2 : Option Addr) (n1 n2 c1 c2 : Nat) (l1 l2 : List Int) (w : World) (h1 : IRow w a1 n1 l1) (h2 : IRow w a2 n2 l2) (hm : n1 ≤ 281474976710656) :
    Calls Tryd.prog 9 #[.slice a1 n1 c1, .slice a2 n2 c2] w fun e w' => e = .returned (.bool (decide (l1 = l2))) ∧ ∃ n, w' = w.drewN n := by
  obtain ⟨e1, k1⟩ := h1
  obtain ⟨e2, k2⟩ := h2
  by_cases hn : n1 = n2
  · subst hn
    have hne : ((n1 : Int) != (n1 : Int)) = false := by simp
    have HE : Hid (l1.length = n1 ∧ l2.length = n1) := ⟨e1, e2⟩
    clear e1 e2
    go_enter Tryd.func9, Tryd.ntmps9
    go_wp2
    go_loopw [5] (fun i wr => ∃ k nn : Nat, k ≤ n1 ∧ i = .int .i64 k ∧ wr = w.drewN nn ∧ ∀ j, j < k → l1.getD j 0 = l2.getD j 0) (fun i _ => n1 - (intOf i).toNat)
    case atStart => exact ⟨0, 0, Nat.zero_le _, rfl, rfl, fun j hj => by omega⟩
    case round =>
      obtain ⟨k, nn, hk, rfl, rfl, hall⟩ := hrel
      have HA : Hid (∀ j, j < k → l1.getD j 0 = l2.getD j 0) := hall
      clear hall
      by_cases hlt : k < n1
      · rcases k1 with k1 | ⟨b1, o1, rfl, k1⟩
        · omega
        rcases k2 with k2 | ⟨b2, o2, rfl, k2⟩
        · omega
        have g1 := k1 k hlt
        have g2 := k2 k hlt
        have hi : (0 : Int) ≤ (k : Int) := by omega
        have hj : (k : Int) < (n1 : Int) := by omega
        clear k1 k2
        have HJ : Hid (∀ z1 z2, l1.getD k 0 = z1 → l2.getD k 0 = z2 → True) := fun _ _ _ _ => True.intro
        generalize hz1 : l1.getD k 0 = z1 at *
        generalize hz2 : l2.getD k 0 = z2 at *
        have HZ : Hid (l1.getD k 0 = z1 ∧ l2.getD k 0 = z2) := ⟨hz1, hz2⟩
        clear hz1 hz2 HJ
        by_cases hq : z1 = z2
        · have HQ : Hid (z1 = z2) := hq
          have hb : (z1 != z2) = false := by simp [hq]
          clear hq
          go_wp2
          go_quiet (fail)
          go_wp2
          go_roundw
          case rel => exact ⟨k + 1, nn + nq, by omega, by go_num, rfl, fun j hj => by
            by_cases hjk : j = k
            · subst hjk; rw [HZ.out.1, HZ.out.2]; exact HQ.out
            · exact HA.out j (by omega)⟩
          case measure => simp [intOf]; omega
        · have HQ : Hid (¬ z1 = z2) := hq
          have hb : (z1 != z2) = true := by simp [hq]
          clear hq
          go_wp2
          go_quiet (fail)
          go_wp2
          go_ret
          exact ⟨ret_bool (by symm; rw [decide_eq_false_iff_not]; intro h; subst h; exact HQ.out (HZ.out.1.symm.trans HZ.out.2)), nn + nq, by rw [drewN_add]⟩
      · go_wp2
        go_ret
        exact ⟨ret_bool (by
          have hE := HE.out
          symm
          rw [decide_eq_true_iff]
          exact ints_eq (by omega) fun j hj => HA.out j (by omega)), nn, rfl⟩
  · have hne : ((n1 : Int) != (n2 : Int)) = true := by simp; omega
    go_enter Tryd.func9, Tryd.ntmps9
    go_wp2
    go_ret
    exact ⟨ret_bool (by symm; rw [decide_eq_false_iff_not]; intro h; subst h; omega), 0, rfl⟩
end Go.Proofs.YtanlnfcmmfmofaaDoor
