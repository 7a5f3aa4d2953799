/- The contract of oathbookref1.Put. -/
import Derived.Test.YtigdgmoiljifjaaDoorMath
namespace Go.Proofs.YtigdgmoiljifjaaDoor
open Go.RowKit
set_option linter.unusedVariables false
set_option linter.unusedSimpArgs false
theorem Tryd.info5r : (Tryd.prog.info? 5).map (fun i => (i.zero, i.size, i.bytes)) = some (some (.int .u8 0), 1, 1) := by kernel_rfl

theorem ret_pb {v : Value} {a b : Bool} (h : a = b) : Ending.returned (.tuple #[v, .bool a]) = .returned (.tuple #[v, .bool b]) := by rw [h]
set_option maxRecDepth 100000 in
set_option maxHeartbeats 400000 in
theorem rput_in (n : Int) (size : Nat) (w : World) (h1 : 1 ≤ size) (h8 : size ≤ 8) (hn0 : 0 ≤ n) (hn : n ≤ 9223372036854775807) :
    Calls Tryd.prog 30 #[.int .i64 n, .int .i64 size] w fun e w' =>
      (∃ g, e = .returned (.tuple #[.slice (some ⟨g, 0, none⟩) size size, .bool (decide (n / 256 ^ size = 0))]) ∧ w.heap.size ≤ g ∧ Row w' (some ⟨g, 0, none⟩) size (putL n size)) ∧ Below w.heap.size w w' := by
  obtain ⟨i0, hi, hz0, hz1, hz2⟩ := info_parts Tryd.info5r
  go_enter Tryd.func30, Tryd.ntmps30
  go_wp2_with (at_make; refine wpList_make_full _ rfl _ _ 49 rfl w.heap.size 5 i0 (.int .u8 0) 1 Tryd.underlying49 hi hz0 hz1 _ _ _ _ size rfl rfl rfl rfl (by rw [hz2]; omega) (by unfold maxLen; omega) (Nat.le_refl _) ?_; intro w1 hown hgrow)
  have hO := OwnB.zero hown
  have hB : Below w.heap.size w w1 := (Below.refl _ _).grown hgrow (Nat.le_refl _) (fun _ h => by cases h)
  clear hown hgrow
  go_loopw [0, 7] (fun t i wr => ∃ j : Nat, j ≤ size ∧ i = .int .i64 ((j : Int) - 1) ∧ t = .int .i64 (n / 256 ^ (size - j)) ∧ OwnB wr w.heap.size w.heap.size size size (fun x => if x < j then 0 else putB n size x) ∧ Below w.heap.size w wr) (fun _ i _ => (intOf i + 1).toNat)
  case atStart => exact ⟨size, Nat.le_refl _, rfl, by simp, hO.congr (fun i hi => by rw [if_pos hi]), hB⟩
  case round =>
    clear hO hB
    obtain ⟨j, hj, rfl, rfl, hO, hB⟩ := hrel
    have hm := put_bd n (size - j) hn0 hn
    by_cases h0 : j = 0
    · subst h0
      rw [Nat.sub_zero] at *
      have HR : Hid (Row wr (some ⟨w.heap.size, 0, none⟩) size (putL n size)) := hO.row (putL_length _ _) (fun i hi => by rw [if_neg (by omega), nth_putL _ _ _ hi])
      go_wp2
      go_ret2
      exact ⟨⟨w.heap.size, ret_pb (by rw [Bool.eq_iff_iff]; simp), Nat.le_refl _, HR.out⟩, hB⟩
    · obtain ⟨q, rfl⟩ : ∃ q, j = q + 1 := ⟨j - 1, by omega⟩
      rw [show ((q + 1 : Nat) : Int) - 1 = (q : Int) from by omega]
      have hc := hO.cell q (by omega)
      have hf := hO.frozen q
      have HS : Hid (n / 256 ^ (size - q) = n / 256 ^ (size - (q + 1)) / 256) := put_step n size q hj
      have HP : Hid (putB n size q = n / 256 ^ (size - (q + 1)) % 256) := putB_at n size q
      have hq1 : (0 : Int) ≤ (q : Int) := by omega
      have hq2 : (q : Int) < (size : Int) := by omega
      generalize n / 256 ^ (size - (q + 1)) = m at *
      go_wp2
      go_roundw
      case rel =>
        refine ⟨q, by omega, by go_num, by rw [HS.out], ?_, hO.below hB _ _⟩
        refine (hO.store q _).congr fun i hi => ?_
        by_cases hiq : i = q
        · subst hiq
          rw [if_pos rfl, if_neg (by omega), HP.out]
        · rw [if_neg hiq]
          by_cases hlt : i < q
          · rw [if_pos (by omega), if_pos hlt]
          · rw [if_neg (by omega), if_neg hlt]
      case measure => simp [intOf]

theorem rput_some (n : Int) (size : Nat) (w : World) (hw : n ≤ 9223372036854775807) (hk : putOk n size = true) :
    Calls Tryd.prog 30 #[.int .i64 n, .int .i64 size] w fun e w' => (∃ g, e = .returned (.tuple #[.slice (some ⟨g, 0, none⟩) size size, .bool true]) ∧ w.heap.size ≤ g ∧ Row w' (some ⟨g, 0, none⟩) size (putL n size)) ∧ Below w.heap.size w w' := by
  obtain ⟨k1, k2, k3, k4⟩ := putOk_iff n size hk
  refine (rput_in n size w (by omega) (by omega) k3 hw).mono fun e w' h => ?_
  rw [decide_eq_true ((ediv_zero n _ k3 (Int.pow_pos (by decide))).2 k4)] at h
  exact h

set_option maxRecDepth 100000 in
set_option maxHeartbeats 400000 in
theorem rput_none (n size : Int) (w : World) (hw : n ≤ 9223372036854775807) (hw2 : -9223372036854775808 ≤ n) (hs1 : size ≤ 9223372036854775807) (hs2 : -9223372036854775808 ≤ size) (hk : putOk n size = false) :
    Calls Tryd.prog 30 #[.int .i64 n, .int .i64 size] w fun e w' => (∃ v, e = .returned (.tuple #[v, .bool false])) ∧ Below w.heap.size w w' := by
  unfold putOk at hk
  rw [decide_eq_false_iff_not] at hk
  by_cases h1 : size < 1
  · clear hk
    go_enter Tryd.func30, Tryd.ntmps30
    go_wp2
    go_ret2
    exact ⟨⟨_, rfl⟩, Below.refl _ _⟩
  · by_cases h2 : 8 < size
    · clear hk
      go_enter Tryd.func30, Tryd.ntmps30
      go_wp2
      go_ret2
      exact ⟨⟨_, rfl⟩, Below.refl _ _⟩
    · by_cases h3 : n < 0
      · clear hk
        go_enter Tryd.func30, Tryd.ntmps30
        go_wp2
        go_ret2
        exact ⟨⟨_, rfl⟩, Below.refl _ _⟩
      · obtain ⟨m, rfl⟩ := Int.eq_ofNat_of_zero_le (show 0 ≤ size by omega)
        rw [Int.toNat_natCast] at hk
        refine (rput_in n m w (by omega) (by omega) (by omega) hw).mono fun e w' h => ?_
        obtain ⟨⟨g, he, _⟩, hb⟩ := h
        have hz : ¬ n / 256 ^ m = 0 := fun h => hk ⟨by omega, by omega, by omega, (ediv_zero n _ (by omega) (Int.pow_pos (by decide))).1 h⟩
        rw [decide_eq_false hz] at he
        exact ⟨⟨_, he⟩, hb⟩
theorem rput8 (n : Nat) (z : Int) (w : World) (hz : z = (n : Int)) (hn : n ≤ 9223372036854775807) :
    Calls Tryd.prog 30 #[.int .i64 z, .int .i64 8] w fun e w' => (∃ g, e = .returned (.tuple #[.slice (some ⟨g, 0, none⟩) 8 8, .bool true]) ∧ w.heap.size ≤ g ∧ Row w' (some ⟨g, 0, none⟩) 8 (putL n 8)) ∧ Below w.heap.size w w' := by
  subst hz
  have h := rput_some (n : Int) 8 w (by omega) (by unfold putOk; rw [decide_eq_true_iff]; simp; omega)
  exact h
end Go.Proofs.YtigdgmoiljifjaaDoor
