/- The contract of oathbookref1.Num. -/
import Derived.Test.YtigdgmoiljifjaaDoorMath
import Derived.Deep.QuietTactic
import Derived.BigQuiet
namespace Go.Proofs.YtigdgmoiljifjaaDoor
open Go.RowKit
set_option linter.unusedVariables false
set_option linter.unusedSimpArgs false

set_option maxRecDepth 100000 in
set_option maxHeartbeats 400000 in
theorem rnum_some (a : Option Addr) (n c : Nat) (l : List UInt8) (w : World) (hr : Row w a n l) (hk : numOk l = true) :
    Calls Tryd.prog 42 #[.slice a n c] w fun e w' => e = .returned (.tuple #[.int .i64 (numTo l n), .bool true]) ∧ w' = w := by
  unfold numOk at hk
  rw [decide_eq_true_iff] at hk
  obtain ⟨hl, hr⟩ := hr
  rw [hl] at hk
  obtain ⟨hn, hn8, h8⟩ := hk
  rcases hr with hr | ⟨b, o, rfl, hc⟩
  · omega
  clear hl
  have g0 : w.cell? ⟨b, o, none⟩ = some (.int .u8 (nth l 0)) := hc 0 (by omega)
  have H8 : Hid (n = 8 → nth l 0 < 128) := h8
  clear h8
  have hi : (0:Int) < (n:Int) := by omega
  have hz : ((n : Int) == 0) = false := by simp; omega
  have hg : ¬ (8 : Int) < (n : Int) := by omega
  have hd : ((n : Int) == 8) = true ∧ ¬ (128 ≤ nth l 0) ∨ ((n : Int) == 8) = false := by
    by_cases h : n = 8
    · exact .inl ⟨by simp; omega, by have := H8.out h; omega⟩
    · exact .inr (by simp; omega)
  rcases hd with ⟨hb, hp⟩ | hb
  all_goals
    go_enter Tryd.func42, Tryd.ntmps42
    go_wp2
    go_loop [4, 5] (fun t i => ∃ k : Nat, k ≤ n ∧ i = .int .i64 k ∧ t = .int .i64 (numTo l k)) (fun _ i => n - (intOf i).toNat)
    case atStart => exact ⟨0, Nat.zero_le _, rfl, rfl⟩
    case round =>
      obtain ⟨k, hk, rfl, rfl⟩ := hrel
      by_cases hlt : k < n
      · have g := hc k hlt
        have r1 := numTo_room l n k hlt hn8 H8.out
        have r2 := (numTo_bd l k).1
        have r3 := nth_bd l k
        clear g0 hc
        go_wp2
        go_round
        case rel => exact ⟨k + 1, by omega, by go_num, by rw [numTo_succ]⟩
        case measure => simp [intOf]; omega
      · obtain rfl : k = n := by omega
        go_wp2
        go_ret2
        exact ⟨rfl, rfl⟩

set_option maxRecDepth 100000 in
set_option maxHeartbeats 400000 in
theorem rnum_none (a : Option Addr) (n c : Nat) (l : List UInt8) (w : World) (hr : Row w a n l) (hk : numOk l = false) (hm : n ≤ 281474976710656) :
    Calls Tryd.prog 42 #[.slice a n c] w fun e w' => e = .returned (.tuple #[.int .i64 0, .bool false]) ∧ w' = w := by
  unfold numOk at hk
  rw [decide_eq_false_iff_not] at hk
  obtain ⟨hl, hr⟩ := hr
  rw [hl] at hk
  clear hl
  by_cases h1 : n = 0
  · subst h1
    clear hr hk
    go_enter Tryd.func42, Tryd.ntmps42
    go_wp2
    go_ret2
    exact ⟨rfl, rfl⟩
  · have h1' : ((n : Int) == 0) = false := by simp; omega
    by_cases h2 : 8 < n
    · clear hr hk
      have h2' : (8 : Int) < (n : Int) := by omega
      go_enter Tryd.func42, Tryd.ntmps42
      go_wp2
      go_ret2
      exact ⟨rfl, rfl⟩
    · have h3 : n = 8 ∧ 128 ≤ nth l 0 := by
        by_cases h : n = 8
        · exact ⟨h, by
            by_cases hq : nth l 0 < 128
            · exact absurd ⟨by omega, by omega, fun _ => hq⟩ hk
            · omega⟩
        · exact absurd ⟨by omega, by omega, fun q => absurd q h⟩ hk
      obtain ⟨rfl, hp⟩ := h3
      rcases hr with hr | ⟨b, o, rfl, hc⟩
      · omega
      have g0 : w.cell? ⟨b, o, none⟩ = some (.int .u8 (nth l 0)) := hc 0 (by omega)
      clear hc hk h1 h2
      go_enter Tryd.func42, Tryd.ntmps42
      go_wp2
      go_ret2
      exact ⟨rfl, rfl⟩
end Go.Proofs.YtigdgmoiljifjaaDoor
