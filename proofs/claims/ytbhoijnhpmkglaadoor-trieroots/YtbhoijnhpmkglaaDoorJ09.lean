/- Texts of this claim, joined: Rput, Rturn, Rnum, Rblock. -/
import Derived.Test.YtbhoijnhpmkglaaDoorJ01
import Derived.Deep.QuietTactic
import Derived.BigQuiet
import Derived.BigRegion
/- The contract of oathbookref1.Put. -/
namespace Go.Proofs.YtbhoijnhpmkglaaDoor
open Go.RowKit
set_option linter.unusedVariables false
set_option linter.unusedSimpArgs false
theorem Tryd.info5r : (Tryd.prog.info? 5).map (fun i => (i.zero, i.size, i.bytes)) = some (some (.int .u8 0), 1, 1) := by kernel_rfl

theorem ret_pb {v : Value} {a b : Bool} (h : a = b) : Ending.returned (.tuple #[v, .bool a]) = .returned (.tuple #[v, .bool b]) := by rw [h]
set_option maxRecDepth 100000 in
set_option maxHeartbeats 400000 in
theorem rput_in (n : Int) (size : Nat) (w : World) (h1 : 1 ≤ size) (h8 : size ≤ 8) (hn0 : 0 ≤ n) (hn : n ≤ 9223372036854775807) :
    Calls Tryd.prog 32 #[.int .i64 n, .int .i64 size] w fun e w' =>
      (∃ g, e = .returned (.tuple #[.slice (some ⟨g, 0, none⟩) size size, .bool (decide (n / 256 ^ size = 0))]) ∧ w.heap.size ≤ g ∧ Row w' (some ⟨g, 0, none⟩) size (putL n size)) ∧ Below w.heap.size w w' := by
  obtain ⟨i0, hi, hz0, hz1, hz2⟩ := info_parts Tryd.info5r
  go_enter Tryd.func32, Tryd.ntmps32
  go_wp2_with (at_make; refine wpList_make_full _ rfl _ _ 65 rfl w.heap.size 5 i0 (.int .u8 0) 1 Tryd.underlying65 hi hz0 hz1 _ _ _ _ size rfl rfl rfl rfl (by rw [hz2]; omega) (by unfold maxLen; omega) (Nat.le_refl _) ?_; intro w1 hown hgrow)
  have hO := OwnB.zero hown
  have hB : Below w.heap.size w w1 := (Below.refl _ _).grown hgrow (Nat.le_refl _) (fun _ h => by cases h)
  clear hown hgrow
  go_loopw [0, 7] (fun t i wr => ∃ j : Nat, j ≤ size ∧ i = .int .i64 ((j : Int) - 1) ∧ t = .int .i64 (n / 256 ^ (size - j)) ∧ OwnB wr w.heap.size w.heap.size size size (fun x => if x < j then 0 else putB n size x) ∧ Below w.heap.size w wr) (fun _ i _ => (intOf i + 1).toNat)
  case atStart => exact ⟨size, Nat.le_refl _, rfl, by simp, hO.congr (fun i hi => by rw [if_pos hi]), hB⟩
  case round =>
    clear hO hB
    obtain ⟨j, hj, rfl, rfl, hO, hB⟩ := hrel
    have hm := put_bd n (size - j) hn0 hn
    by_cases h0 : j = 0
    · subst h0
      rw [Nat.sub_zero] at *
      have HR : Hid (Row wr (some ⟨w.heap.size, 0, none⟩) size (putL n size)) := hO.row (putL_length _ _) (fun i hi => by rw [if_neg (by omega), nth_putL _ _ _ hi])
      go_wp2
      go_ret2
      exact ⟨⟨w.heap.size, ret_pb (by rw [Bool.eq_iff_iff]; simp), Nat.le_refl _, HR.out⟩, hB⟩
    · obtain ⟨q, rfl⟩ : ∃ q, j = q + 1 := ⟨j - 1, by omega⟩
      rw [show ((q + 1 : Nat) : Int) - 1 = (q : Int) from by omega]
      have hc := hO.cell q (by omega)
      have hf := hO.frozen q
      have HS : Hid (n / 256 ^ (size - q) = n / 256 ^ (size - (q + 1)) / 256) := put_step n size q hj
      have HP : Hid (putB n size q = n / 256 ^ (size - (q + 1)) % 256) := putB_at n size q
      have hq1 : (0 : Int) ≤ (q : Int) := by omega
      have hq2 : (q : Int) < (size : Int) := by omega
      generalize n / 256 ^ (size - (q + 1)) = m at *
      go_wp2
      go_roundw
      case rel =>
        refine ⟨q, by omega, by go_num, by rw [HS.out], ?_, hO.below hB _ _⟩
        refine (hO.store q _).congr fun i hi => ?_
        by_cases hiq : i = q
        · subst hiq
          rw [if_pos rfl, if_neg (by omega), HP.out]
        · rw [if_neg hiq]
          by_cases hlt : i < q
          · rw [if_pos (by omega), if_pos hlt]
          · rw [if_neg (by omega), if_neg hlt]
      case measure => simp [intOf]

theorem rput_some (n : Int) (size : Nat) (w : World) (hw : n ≤ 9223372036854775807) (hk : putOk n size = true) :
    Calls Tryd.prog 32 #[.int .i64 n, .int .i64 size] w fun e w' => (∃ g, e = .returned (.tuple #[.slice (some ⟨g, 0, none⟩) size size, .bool true]) ∧ w.heap.size ≤ g ∧ Row w' (some ⟨g, 0, none⟩) size (putL n size)) ∧ Below w.heap.size w w' := by
  obtain ⟨k1, k2, k3, k4⟩ := putOk_iff n size hk
  refine (rput_in n size w (by omega) (by omega) k3 hw).mono fun e w' h => ?_
  rw [decide_eq_true ((ediv_zero n _ k3 (Int.pow_pos (by decide))).2 k4)] at h
  exact h

set_option maxRecDepth 100000 in
set_option maxHeartbeats 400000 in
theorem rput_none (n size : Int) (w : World) (hw : n ≤ 9223372036854775807) (hw2 : -9223372036854775808 ≤ n) (hs1 : size ≤ 9223372036854775807) (hs2 : -9223372036854775808 ≤ size) (hk : putOk n size = false) :
    Calls Tryd.prog 32 #[.int .i64 n, .int .i64 size] w fun e w' => (∃ v, e = .returned (.tuple #[v, .bool false])) ∧ Below w.heap.size w w' := by
  unfold putOk at hk
  rw [decide_eq_false_iff_not] at hk
  by_cases h1 : size < 1
  · clear hk
    go_enter Tryd.func32, Tryd.ntmps32
    go_wp2
    go_ret2
    exact ⟨⟨_, rfl⟩, Below.refl _ _⟩
  · by_cases h2 : 8 < size
    · clear hk
      go_enter Tryd.func32, Tryd.ntmps32
      go_wp2
      go_ret2
      exact ⟨⟨_, rfl⟩, Below.refl _ _⟩
    · by_cases h3 : n < 0
      · clear hk
        go_enter Tryd.func32, Tryd.ntmps32
        go_wp2
        go_ret2
        exact ⟨⟨_, rfl⟩, Below.refl _ _⟩
      · obtain ⟨m, rfl⟩ := Int.eq_ofNat_of_zero_le (show 0 ≤ size by omega)
        rw [Int.toNat_natCast] at hk
        refine (rput_in n m w (by omega) (by omega) (by omega) hw).mono fun e w' h => ?_
        obtain ⟨⟨g, he, _⟩, hb⟩ := h
        have hz : ¬ n / 256 ^ m = 0 := fun h => hk ⟨by omega, by omega, by omega, (ediv_zero n _ (by omega) (Int.pow_pos (by decide))).1 h⟩
        rw [decide_eq_false hz] at he
        exact ⟨⟨_, he⟩, hb⟩
theorem rput8 (n : Nat) (z : Int) (w : World) (hz : z = (n : Int)) (hn : n ≤ 9223372036854775807) :
    Calls Tryd.prog 32 #[.int .i64 z, .int .i64 8] w fun e w' => (∃ g, e = .returned (.tuple #[.slice (some ⟨g, 0, none⟩) 8 8, .bool true]) ∧ w.heap.size ≤ g ∧ Row w' (some ⟨g, 0, none⟩) 8 (putL n 8)) ∧ Below w.heap.size w w' := by
  subst hz
  have h := rput_some (n : Int) 8 w (by omega) (by unfold putOk; rw [decide_eq_true_iff]; simp; omega)
  exact h
end Go.Proofs.YtbhoijnhpmkglaaDoor
/- The contract of oathbookref1.turn. -/
namespace Go.Proofs.YtbhoijnhpmkglaaDoor
open Go.RowKit
set_option linter.unusedVariables false
set_option linter.unusedSimpArgs false

theorem turn_eq (x n : Nat) (hx : x < 4294967296) (h1 : 1 ≤ n) (h2 : n ≤ 31) : bits .or .i64 ((x : Int) / 2 ^ n) (bits .and .i64 (wrap64 ((x : Int) * 2 ^ (32 - n))) 4294967295) = ((rotr x n : Nat) : Int) := by
  have e1 : (x : Int) / 2 ^ n = ((x >>> n : Nat) : Int) := by rw [Nat.shiftRight_eq_div_pow, Int.natCast_ediv, Int.natCast_pow]; rfl
  have e2 : (x : Int) * 2 ^ (32 - n) = ((x <<< (32 - n) : Nat) : Int) := by rw [Nat.shiftLeft_eq, Int.natCast_mul, Int.natCast_pow]; rfl
  have hp : 2 ^ (32 - n) ≤ 2 ^ 31 := Nat.pow_le_pow_right (by omega) (by omega)
  have hb : x <<< (32 - n) < 9223372036854775808 := by
    rw [Nat.shiftLeft_eq]
    have : x * 2 ^ (32 - n) ≤ x * 2 ^ 31 := Nat.mul_le_mul_left _ hp
    omega
  have hs := shr_lt32 n hx
  rw [e1, e2]
  unfold rotr
  clear e1 e2 hp
  generalize x >>> n = u at *
  generalize x <<< (32 - n) = v at *
  rw [IntWalk.wrap64_in _ ⟨by omega, by omega⟩]
  have e3 : (4294967295 : Int) = ((4294967295 : Nat) : Int) := rfl
  rw [e3, i64_and_nat _ _ hb (by omega)]
  have hc : v &&& 4294967295 < 4294967296 := by rw [and_all]; omega
  rw [i64_or_nat _ _ (by omega) (by omega)]

set_option maxRecDepth 100000 in
set_option maxHeartbeats 400000 in
theorem turn_any (x n : Nat) (w : World) (hx : x < 4294967296) (h1 : 1 ≤ n) (h2 : n ≤ 31) :
    Calls Tryd.prog 48 #[.int .i64 x, .int .i64 n] w fun e w' => e = .returned (.int .i64 (rotr x n : Nat)) ∧ ∃ q, w' = w.drewN q := by
  go_enter Tryd.func48, Tryd.ntmps48
  go_wp2_with fail
  go_quiet (fail)
  go_wp2
  go_ret
  exact ⟨ret_int (turn_eq x n hx h1 h2), nq, rfl⟩
theorem turn_at (x n : Nat) (z : Int) (w : World) (hx : x < 4294967296) (hz : z = (n : Int)) (h1 : 1 ≤ n) (h2 : n ≤ 31) :
    Calls Tryd.prog 48 #[.int .i64 x, .int .i64 z] w fun e w' => e = .returned (.int .i64 (rotr x n : Nat)) ∧ ∃ q, w' = w.drewN q := by
  subst hz
  exact turn_any x n w hx h1 h2
theorem shr3 (x : Nat) : (x : Int) / (8 : Int) = ((x >>> 3 : Nat) : Int) := by rw [Nat.shiftRight_eq_div_pow]; rfl
theorem shr10 (x : Nat) : (x : Int) / (1024 : Int) = ((x >>> 10 : Nat) : Int) := by rw [Nat.shiftRight_eq_div_pow]; rfl
theorem xor3 {a b c : Nat} (ha : a < 4294967296) (hb : b < 4294967296) (hc : c < 4294967296) : bits .xor .i64 (bits .xor .i64 (a : Int) (b : Int)) (c : Int) = ((a ^^^ b ^^^ c : Nat) : Int) := by
  have hx := xor_lt32 ha hb
  rw [i64_xor_nat _ _ (by omega) (by omega), i64_xor_nat _ _ (by omega) (by omega)]
theorem ss0_eq {x : Nat} (h : x < 4294967296) : bits .xor .i64 (bits .xor .i64 ((rotr x 7 : Nat) : Int) ((rotr x 18 : Nat) : Int)) ((x : Int) / (8 : Int)) = ((ss0 x : Nat) : Int) := by
  rw [shr3, xor3 (rotr_lt _ _ h) (rotr_lt _ _ h) (shr_lt32 _ h)]; rfl
theorem ss1_eq {x : Nat} (h : x < 4294967296) : bits .xor .i64 (bits .xor .i64 ((rotr x 17 : Nat) : Int) ((rotr x 19 : Nat) : Int)) ((x : Int) / (1024 : Int)) = ((ss1 x : Nat) : Int) := by
  rw [shr10, xor3 (rotr_lt _ _ h) (rotr_lt _ _ h) (shr_lt32 _ h)]; rfl
theorem bs0_eq {x : Nat} (h : x < 4294967296) : bits .xor .i64 (bits .xor .i64 ((rotr x 2 : Nat) : Int) ((rotr x 13 : Nat) : Int)) ((rotr x 22 : Nat) : Int) = ((bs0 x : Nat) : Int) := by
  rw [xor3 (rotr_lt _ _ h) (rotr_lt _ _ h) (rotr_lt _ _ h)]; rfl
theorem bs1_eq {x : Nat} (h : x < 4294967296) : bits .xor .i64 (bits .xor .i64 ((rotr x 6 : Nat) : Int) ((rotr x 11 : Nat) : Int)) ((rotr x 25 : Nat) : Int) = ((bs1 x : Nat) : Int) := by
  rw [xor3 (rotr_lt _ _ h) (rotr_lt _ _ h) (rotr_lt _ _ h)]; rfl
theorem and_all_i64 (x : Nat) (h : x < 9223372036854775808) : bits .and .i64 (x : Int) 4294967295 = ((x % 4294967296 : Nat) : Int) := by
  have e3 : (4294967295 : Int) = ((4294967295 : Nat) : Int) := rfl
  rw [e3, i64_and_nat _ _ h (by omega), and_all]
theorem turn_z (x : Nat) (z : Int) (w : World) (hx : x < 4294967296) (h1 : 1 ≤ z) (h2 : z ≤ 31) :
    Calls Tryd.prog 48 #[.int .i64 x, .int .i64 z] w fun e w' => e = .returned (.int .i64 (rotr x z.toNat : Nat)) ∧ ∃ q, w' = w.drewN q :=
  turn_at x z.toNat z w hx (by omega) (by omega) (by omega)
theorem ch_eq {e f g : Nat} (he : e < 4294967296) (hf : f < 4294967296) (hg : g < 4294967296) : bits .xor .i64 (bits .and .i64 (e : Int) (f : Int)) (bits .and .i64 (4294967295 - (e : Int)) (g : Int)) = ((chW e f g : Nat) : Int) := by
  have e1 : (4294967295 - (e : Int)) = ((4294967295 - e : Nat) : Int) := by omega
  have a := and_lt32 (a := e) hf
  have b := and_lt32 (a := 4294967295 - e) hg
  rw [e1, i64_and_nat _ _ (by omega) (by omega), i64_and_nat _ _ (by omega) (by omega), i64_xor_nat _ _ (by omega) (by omega)]
  rfl
theorem mj_eq {a b c : Nat} (ha : a < 4294967296) (hb : b < 4294967296) (hc : c < 4294967296) : bits .xor .i64 (bits .xor .i64 (bits .and .i64 (a : Int) (b : Int)) (bits .and .i64 (a : Int) (c : Int))) (bits .and .i64 (b : Int) (c : Int)) = ((mjW a b c : Nat) : Int) := by
  rw [i64_and_nat _ _ (by omega) (by omega), i64_and_nat _ _ (by omega) (by omega), i64_and_nat _ _ (by omega) (by omega), xor3 (and_lt32 hb) (and_lt32 hc) (and_lt32 hc)]
  rfl
end Go.Proofs.YtbhoijnhpmkglaaDoor
/- The contract of oathbookref1.Num. -/
namespace Go.Proofs.YtbhoijnhpmkglaaDoor
open Go.RowKit
set_option linter.unusedVariables false
set_option linter.unusedSimpArgs false

set_option maxRecDepth 100000 in
set_option maxHeartbeats 400000 in
theorem rnum_some (a : Option Addr) (n c : Nat) (l : List UInt8) (w : World) (hr : Row w a n l) (hk : numOk l = true) :
    Calls Tryd.prog 47 #[.slice a n c] w fun e w' => e = .returned (.tuple #[.int .i64 (numTo l n), .bool true]) ∧ w' = w := by
  unfold numOk at hk
  rw [decide_eq_true_iff] at hk
  obtain ⟨hl, hr⟩ := hr
  rw [hl] at hk
  obtain ⟨hn, hn8, h8⟩ := hk
  rcases hr with hr | ⟨b, o, rfl, hc⟩
  · omega
  clear hl
  have g0 : w.cell? ⟨b, o, none⟩ = some (.int .u8 (nth l 0)) := hc 0 (by omega)
  have H8 : Hid (n = 8 → nth l 0 < 128) := h8
  clear h8
  have hi : (0:Int) < (n:Int) := by omega
  have hz : ((n : Int) == 0) = false := by simp; omega
  have hg : ¬ (8 : Int) < (n : Int) := by omega
  have hd : ((n : Int) == 8) = true ∧ ¬ (128 ≤ nth l 0) ∨ ((n : Int) == 8) = false := by
    by_cases h : n = 8
    · exact .inl ⟨by simp; omega, by have := H8.out h; omega⟩
    · exact .inr (by simp; omega)
  rcases hd with ⟨hb, hp⟩ | hb
  all_goals
    go_enter Tryd.func47, Tryd.ntmps47
    go_wp2
    go_loop [4, 5] (fun t i => ∃ k : Nat, k ≤ n ∧ i = .int .i64 k ∧ t = .int .i64 (numTo l k)) (fun _ i => n - (intOf i).toNat)
    case atStart => exact ⟨0, Nat.zero_le _, rfl, rfl⟩
    case round =>
      obtain ⟨k, hk, rfl, rfl⟩ := hrel
      by_cases hlt : k < n
      · have g := hc k hlt
        have r1 := numTo_room l n k hlt hn8 H8.out
        have r2 := (numTo_bd l k).1
        have r3 := nth_bd l k
        clear g0 hc
        go_wp2
        go_round
        case rel => exact ⟨k + 1, by omega, by go_num, by rw [numTo_succ]⟩
        case measure => simp [intOf]; omega
      · obtain rfl : k = n := by omega
        go_wp2
        go_ret2
        exact ⟨rfl, rfl⟩

set_option maxRecDepth 100000 in
set_option maxHeartbeats 400000 in
theorem rnum_none (a : Option Addr) (n c : Nat) (l : List UInt8) (w : World) (hr : Row w a n l) (hk : numOk l = false) (hm : n ≤ 281474976710656) :
    Calls Tryd.prog 47 #[.slice a n c] w fun e w' => e = .returned (.tuple #[.int .i64 0, .bool false]) ∧ w' = w := by
  unfold numOk at hk
  rw [decide_eq_false_iff_not] at hk
  obtain ⟨hl, hr⟩ := hr
  rw [hl] at hk
  clear hl
  by_cases h1 : n = 0
  · subst h1
    clear hr hk
    go_enter Tryd.func47, Tryd.ntmps47
    go_wp2
    go_ret2
    exact ⟨rfl, rfl⟩
  · have h1' : ((n : Int) == 0) = false := by simp; omega
    by_cases h2 : 8 < n
    · clear hr hk
      have h2' : (8 : Int) < (n : Int) := by omega
      go_enter Tryd.func47, Tryd.ntmps47
      go_wp2
      go_ret2
      exact ⟨rfl, rfl⟩
    · have h3 : n = 8 ∧ 128 ≤ nth l 0 := by
        by_cases h : n = 8
        · exact ⟨h, by
            by_cases hq : nth l 0 < 128
            · exact absurd ⟨by omega, by omega, fun _ => hq⟩ hk
            · omega⟩
        · exact absurd ⟨by omega, by omega, fun q => absurd q h⟩ hk
      obtain ⟨rfl, hp⟩ := h3
      rcases hr with hr | ⟨b, o, rfl, hc⟩
      · omega
      have g0 : w.cell? ⟨b, o, none⟩ = some (.int .u8 (nth l 0)) := hc 0 (by omega)
      clear hc hk h1 h2
      go_enter Tryd.func47, Tryd.ntmps47
      go_wp2
      go_ret2
      exact ⟨rfl, rfl⟩
end Go.Proofs.YtbhoijnhpmkglaaDoor
/- The contract of oathbookref1.block: 64 bytes more. -/
namespace Go.Proofs.YtbhoijnhpmkglaaDoor
open Go.RowKit
set_option linter.unusedVariables false
set_option linter.unusedSimpArgs false
theorem Tryd.infoInt : (Tryd.prog.info? 3).map (fun i => (i.zero, i.size, i.bytes)) = some (some (.int .i64 0), 1, 8) := by kernel_rfl

/-- Num of four of the bytes. -/
theorem rnum4 (bm om cm t : Nat) (m : List UInt8) (wr : World) (hl : m.length = 64) (ht : t < 16) (hc : ∀ i, i < 64 → wr.cell? ⟨bm, om + i, none⟩ = some (.int .u8 (nth m i))) :
    Calls Tryd.prog 47 #[.slice (some ⟨bm, om + 4 * t, none⟩) 4 cm] wr fun e w' => e = .returned (.tuple #[.int .i64 ((wordB m t : Nat) : Int), .bool true]) ∧ w' = wr := by
  have r4 : Row wr (some ⟨bm, om + 4 * t, none⟩) 4 ((m.drop (4 * t)).take 4) := by
    refine ⟨by simp; omega, .inr ⟨bm, om + 4 * t, rfl, fun i hi => ?_⟩⟩
    rw [Nat.add_assoc, hc (4 * t + i) (by omega)]
    unfold nth
    simp [List.getD_eq_getElem?_getD, List.getElem?_take, hi, List.getElem?_drop]
  have k4 : numOk ((m.drop (4 * t)).take 4) = true := by
    unfold numOk
    rw [decide_eq_true_iff, r4.1]
    omega
  rw [← numTo_word m t]
  exact rnum_some _ _ _ _ _ r4 k4

theorem row_news {k : IntKind} {w wr : World} {bh oh : Nat} {h : List Nat} {o : Obj} (hh : ∀ i, i < 8 → w.cell? ⟨bh, oh + i, none⟩ = some (.int k ((at' h i : Nat) : Int))) (hB : Below w.heap.size w wr) :
    ∀ j u, ((List.range 8).map fun i => Value.int k ((at' h i : Nat) : Int))[j]? = some u → (wr.alloc o).cell? ((⟨bh, oh, none⟩ : Addr).add j) = some u := by
  intro j u hj
  have h8 : j < 8 := by have := (List.getElem?_eq_some_iff.1 hj).1; simpa using this
  rw [Go.WideShapes.add_plain]
  have hb := cell_block (hh j h8)
  have hc := (hB.cell (p := ⟨bh, oh + j, none⟩) hb).trans (hh j h8)
  rw [World.cell?_alloc_lt _ _ ⟨bh, oh + j, none⟩ (Nat.lt_of_lt_of_le hb hB.size), hc]
  simpa [h8] using hj
theorem map_oneCell {k : IntKind} (l : List Nat) (f : Nat → Int) : ∀ u ∈ l.map (fun i => Value.int k (f i)), u.oneCell' = true := by
  intro u hu
  obtain ⟨i, _, rfl⟩ := List.mem_map.1 hu
  rfl
theorem own_slice {k : IntKind} {e : TypeId} {w : World} {B n : Nat} {v : Value} {f : Nat → Int} (hn : 0 < n) (h : w.ownsRow B e 1 v (0 + n) ([] ++ (List.range n).map fun i => Value.int k (f i))) :
    ∃ g cap, v = .slice (some ⟨g, 0, none⟩) n cap ∧ OwnK k e w B g n cap f := by
  rw [Nat.zero_add, List.nil_append] at h
  rcases h.2 with ⟨_, h0⟩ | ⟨g, cap, cur, rfl, _⟩
  · omega
  · exact ⟨g, cap, rfl, h⟩

/-- What the words that 64 bytes are spread to keep. -/
def Spread (m : List UInt8) (W : List Nat) : Prop := Fit W ∧ ∀ t, t < 64 → at' W t = if t < 16 then wordB m t else (ss1 (at' W (t - 2)) + at' W (t - 7) + ss0 (at' W (t - 15)) + at' W (t - 16)) % 4294967296
theorem spread_wTo (m : List UInt8) : Spread m (wTo m 64) := ⟨fit_wTo m 64, fun t h => wTo_rec m t h⟩

set_option maxRecDepth 100000 in
set_option maxHeartbeats 1000000 in
theorem rblock_core (W : List Nat) (ah ak am : Option Addr) (ch ck cm : Nat) (h : List Nat) (m : List UInt8) (w : World) (Rh : RowK .i64 w ah 8 h) (Rk : RowK .i64 w ak 64 kW) (Rm : Row w am 64 m) (hm : 64 ≤ cm) (hf : Fit h) (hW : Spread m W) :
    Calls Tryd.prog 39 #[.slice ah 8 ch, .slice ak 64 ck, .slice am 64 cm] w fun e w' => (∃ g cap, e = .returned (.slice (some ⟨g, 0, none⟩) 8 cap) ∧ w.heap.size ≤ g ∧ RowK .i64 w' (some ⟨g, 0, none⟩) 8 (addW (rTo h W 64) h)) ∧ Below w.heap.size w w' := by
  obtain ⟨i0, hi, hz0, hz1, hz2⟩ := info_parts Tryd.infoInt
  obtain ⟨lh, h0 | ⟨bh, oh, rfl, hh⟩⟩ := Rh
  · omega
  obtain ⟨lk, h0 | ⟨bk, ok, rfl, hk⟩⟩ := Rk
  · omega
  obtain ⟨lm, h0 | ⟨bm, om, rfl, hmc⟩⟩ := Rm
  · omega
  have HL : Hid (h.length = 8 ∧ m.length = 64) := ⟨lh, lm⟩
  clear lh lk lm
  have HF : Hid (Fit h) := hf
  clear hf
  go_enter Tryd.func39, Tryd.ntmps39
  go_wp2_with (at_make; refine wpList_make_full _ rfl _ _ 49 rfl w.heap.size 3 i0 (.int .i64 0) 1 Tryd.underlying49 hi hz0 hz1 _ _ _ _ 64 rfl rfl rfl rfl (by rw [hz2]; omega) (by unfold maxLen; omega) (Nat.le_refl _) ?_; intro w1 hown hgrow)
  have hO := OwnK.zero hown
  have hB : Below w.heap.size w w1 := (Below.refl _ _).grown hgrow (Nat.le_refl _) (fun _ h => by cases h)
  clear hown hgrow
  go_loopw [8] (fun i wr => ∃ t : Nat, t ≤ 64 ∧ i = .int .i64 (t : Int) ∧ OwnK .i64 3 wr w.heap.size w.heap.size 64 64 (fun x => if x < t then ((at' W x : Nat) : Int) else 0) ∧ Below w.heap.size w wr) (fun i _ => 64 - (intOf i).toNat)
  case atStart => exact ⟨0, Nat.zero_le _, rfl, hO.congr (fun i hi => by rw [if_neg (by omega)]), hB⟩
  case round =>
    clear hO hB
    obtain ⟨t, ht, rfl, hO, hB⟩ := hrel
    by_cases hlt : t < 64
    · by_cases h16 : t < 16
      · have hcell := hO.cell t hlt
        have hfz := hO.frozen t
        have a1 : (0 : Int) ≤ 4 * (t : Int) := by omega
        have a2 : 4 * (t : Int) + 4 ≤ 64 := by omega
        have a3 : 4 * (t : Int) + 4 ≤ (cm : Int) := by omega
        have HW : Hid (at' W t = wordB m t) := by
          unfold Hid; rw [hW.2 t hlt, if_pos h16]
        go_wp2_with fail
        refine (rnum4 bm om (cm - 4 * t) t m wr HL.out.2 h16 (fun i hi => (hB.cell (p := ⟨bm, om + i, none⟩) (cell_block (hmc i hi))).trans (hmc i hi))).mono ?_
        rintro e w' ⟨rfl, rfl⟩
        go_wp2
        go_roundw
        case rel =>
          refine ⟨t + 1, by omega, by go_num, (hO.store t _).congr fun i hi => ?_, hB.setCell (Nat.le_refl _) _⟩
          by_cases hit : i = t
          · subst hit; rw [if_pos rfl, if_pos (by omega), HW.out]
          · rw [if_neg hit]
            by_cases hlt2 : i < t
            · rw [if_pos hlt2, if_pos (by omega)]
            · rw [if_neg hlt2, if_neg (by omega)]
        case measure => simp [intOf]; omega
      · have c0 := hO.cell t hlt
        have hfz := hO.frozen t
        have c2 := hO.cell (t - 2) (by omega)
        have c7 := hO.cell (t - 7) (by omega)
        have c15 := hO.cell (t - 15) (by omega)
        have c16 := hO.cell (t - 16) (by omega)
        rw [if_pos (by omega)] at c2 c7 c15 c16
        rw [if_neg (by omega)] at c0
        have f2 := hW.1 (t - 2)
        have f7 := hW.1 (t - 7)
        have f15 := hW.1 (t - 15)
        have f16 := hW.1 (t - 16)
        have HW : Hid (at' W t = (ss1 (at' W (t - 2)) + at' W (t - 7) + ss0 (at' W (t - 15)) + at' W (t - 16)) % 4294967296) := by
          unfold Hid; rw [hW.2 t hlt, if_neg h16]
        generalize at' W (t - 2) = x2 at *
        generalize at' W (t - 7) = x7 at *
        generalize at' W (t - 15) = x15 at *
        generalize at' W (t - 16) = x16 at *
        have h16' : ¬ (t : Int) < 16 := by omega
        go_wp2_with fail
        refine (turn_at x15 7 _ _ f15 rfl (by omega) (by omega)).mono ?_
        rintro e w' ⟨rfl, q1, rfl⟩
        go_wp2_with fail
        refine (turn_at x15 18 _ _ f15 rfl (by omega) (by omega)).mono ?_
        rintro e w' ⟨rfl, q2, rfl⟩
        go_wp2_with fail
        refine (turn_at x2 17 _ _ f2 rfl (by omega) (by omega)).mono ?_
        rintro e w' ⟨rfl, q3, rfl⟩
        go_wp2_with fail
        refine (turn_at x2 19 _ _ f2 rfl (by omega) (by omega)).mono ?_
        rintro e w' ⟨rfl, q4, rfl⟩
        go_wp2_with fail
        rw [ss0_eq f15, ss1_eq f2]
        have g0 := ss0_lt f15
        have g1 := ss1_lt f2
        have hO := hO.drewN (q1 + q2 + q3 + q4)
        have hB : Below w.heap.size w (wr.drewN (q1 + q2 + q3 + q4)) := hB.trans ((below_drewN wr _).mono hB.size)
        have d0 : (wr.drewN (q1 + q2 + q3 + q4)).cell? ⟨w.heap.size, t, none⟩ = _ := c0
        have d7 : (wr.drewN (q1 + q2 + q3 + q4)).cell? ⟨w.heap.size, t - 7, none⟩ = _ := c7
        have d16 : (wr.drewN (q1 + q2 + q3 + q4)).cell? ⟨w.heap.size, t - 16, none⟩ = _ := c16
        have df : (wr.drewN (q1 + q2 + q3 + q4)).frozen? ⟨w.heap.size, t, none⟩ = _ := hfz
        clear c0 c2 c7 c15 c16 hfz
        generalize wr.drewN (q1 + q2 + q3 + q4) = w5 at *
        generalize ss0 x15 = y0 at *
        generalize ss1 x2 = y1 at *
        go_region
        all_goals
          go_wp2
          go_roundw
          case rel =>
            refine ⟨t + 1, by omega, by go_num, (hO.store t _).congr fun i hi => ?_, (Below.setCell (p := ⟨w.heap.size, t, none⟩) hB (Nat.le_refl _) _).drew⟩
            by_cases hit : i = t
            · subst hit
              rw [if_pos rfl, if_pos (by omega), HW.out]
              have e : (y1 : Int) + (x7 : Int) + (y0 : Int) + (x16 : Int) = ((y1 + x7 + y0 + x16 : Nat) : Int) := by omega
              rw [e, and_all_i64 _ (by omega)]
            · rw [if_neg hit]
              by_cases hlt2 : i < t
              · rw [if_pos hlt2, if_pos (by omega)]
              · rw [if_neg hlt2, if_neg (by omega)]
          case measure => simp [intOf]; omega
    · obtain rfl : t = 64 := by omega
      have hO : OwnK .i64 3 wr w.heap.size w.heap.size 64 64 (fun x => ((at' W x : Nat) : Int)) := hO.congr fun i hi => by rw [if_pos hi]
      have hwr := hO.base.2
      go_wp2_with (at_builtin; refine wpList_append_own _ rfl _ _ 49 rfl (w.heap.size + 1) 3 i0 (.int .i64 0) 1 8 Tryd.underlying49 hi hz0 hz1 hz2 rfl (by decide) _ 0 [] rfl (World.ownsRow_lit wr #[] 0 (by omega) (by unfold maxLen; omega) rfl) ⟨bh, oh, none⟩ 8 ch ((List.range 8).map fun i => Value.int .i64 ((at' h i : Nat) : Int)) rfl (by simp) (row_news hh hB) (map_oneCell _ _) (by unfold maxLen; omega) (by omega) (by simp; omega) ?_; intro v2 w2 hown2 hgrow2 _)
      obtain ⟨g, cap, rfl, hV⟩ := own_slice (by omega) hown2
      have hO := hO.kept ((World.grownBy_alloc wr (.cells #[] 3) none)) (by simp)
      have hg2 : (wr.alloc (.cells #[] 3)).grownBy w2 (some wr.heap.size) := hgrow2
      have hO := hO.kept hg2 (by intro h; have := Option.some.inj h; omega)
      have hB : Below w.heap.size w w2 := ((hB.alloc hB.size _).grown hg2 (by simp; omega) (fun k hk => by cases hk; omega))
      clear hown2 hgrow2 hwr hg2
      go_loopw [14] (fun i wr => ∃ t : Nat, t ≤ 64 ∧ i = .int .i64 (t : Int) ∧ OwnK .i64 3 wr (w.heap.size + 1) g 8 cap (fun x => ((at' (rTo h W t) x : Nat) : Int)) ∧ OwnK .i64 3 wr w.heap.size w.heap.size 64 64 (fun x => ((at' W x : Nat) : Int)) ∧ Below w.heap.size w wr) (fun i _ => 64 - (intOf i).toNat)
      case atStart => exact ⟨0, Nat.zero_le _, rfl, hV, hO, hB⟩
      case round =>
        clear hO hB hV
        obtain ⟨t, ht, rfl, hV, hO, hB⟩ := hrel
        have hgb := hV.base
        by_cases hlt : t < 64
        · have hfv := fit_rTo (ws := W) HF.out t
          have HS : Hid (rTo h W (t + 1) = stepW (rTo h W t) (at' kW t) (at' W t)) := rfl
          generalize rTo h W t = v at *
          have HV : Hid (OwnK .i64 3 wr (w.heap.size + 1) g 8 cap (fun x => ((at' v x : Nat) : Int))) := hV
          have c0 := hV.cell 0 (by omega)
          have c1 := hV.cell 1 (by omega)
          have c2 := hV.cell 2 (by omega)
          have c3 := hV.cell 3 (by omega)
          have c4 := hV.cell 4 (by omega)
          have c5 := hV.cell 5 (by omega)
          have c6 := hV.cell 6 (by omega)
          have c7 := hV.cell 7 (by omega)
          have f0 := hfv 0
          have f1 := hfv 1
          have f2 := hfv 2
          have f4 := hfv 4
          have f5 := hfv 5
          have f6 := hfv 6
          have f7 := hfv 7
          have f3 := hfv 3
          have cw := hO.cell t hlt
          have ck := (hB.cell (p := ⟨bk, ok + t, none⟩) (cell_block (hk t hlt))).trans (hk t hlt)
          have fk := fit_kW t
          have fw := hW.1 t
          have HO : Hid (OwnK .i64 3 wr w.heap.size w.heap.size 64 64 (fun x => ((at' W x : Nat) : Int))) := hO
          have HP : Hid (∀ x0 x1 x2 x3 x4 x5 x6 x7 : Nat, x0 = at' v 0 → x1 = at' v 1 → x2 = at' v 2 → x3 = at' v 3 → x4 = at' v 4 → x5 = at' v 5 → x6 = at' v 6 → x7 = at' v 7 → stepW v (at' kW t) (at' W t) = [(x7 + bs1 x4 + chW x4 x5 x6 + at' kW t + at' W t + (bs0 x0 + mjW x0 x1 x2)) % 4294967296, x0, x1, x2, (x3 + (x7 + bs1 x4 + chW x4 x5 x6 + at' kW t + at' W t)) % 4294967296, x4, x5, x6]) := by
            intro x0 x1 x2 x3 x4 x5 x6 x7 h0 h1 h2 h3 h4 h5 h6 h7
            subst h0 h1 h2 h3 h4 h5 h6 h7
            rfl
          clear hV hO hfv
          generalize at' v 0 = x0 at *
          generalize at' v 1 = x1 at *
          generalize at' v 2 = x2 at *
          generalize at' v 3 = x3 at *
          generalize at' v 4 = x4 at *
          generalize at' v 5 = x5 at *
          generalize at' v 6 = x6 at *
          generalize at' v 7 = x7 at *
          generalize at' kW t = kt at *
          generalize at' W t = wt at *
          have hlt' : (t : Int) < 64 := by omega
          have ht0 : (0 : Int) ≤ (t : Int) := by omega
          have E1 := bs1_eq f4
          have E2 := ch_eq f4 f5 f6
          have G1 := bs1_lt f4
          have G2 := chW_lt (e := x4) f5 f6
          have E3 := bs0_eq f0
          have E4 := mj_eq f0 f1 f2
          have G3 := bs0_lt f0
          have G4 := mjW_lt (a := x0) f1 f2
          go_wp2_with fail
          go_quiet ((go_at_call 48; exact Calls.quiet_of (turn_z _ _ _ f4 (by omega) (by omega))))
          clear E1 E2
          rw [← drewN_cell wr nq] at c0 c1 c2 c3 c4 c5 c6 c7 cw ck
          have HV : Hid (OwnK .i64 3 (wr.drewN nq) (w.heap.size + 1) g 8 cap (fun x => ((at' v x : Nat) : Int))) := OwnK.drewN HV.out nq
          have HO : Hid (OwnK .i64 3 (wr.drewN nq) w.heap.size w.heap.size 64 64 (fun x => ((at' W x : Nat) : Int))) := OwnK.drewN HO.out nq
          have hB : Below w.heap.size w (wr.drewN nq) := hB.trans ((below_drewN wr _).mono hB.size)
          generalize wr.drewN nq = w5 at *
          go_wp2_with fail
          go_quiet ((go_at_call 48; exact Calls.quiet_of (turn_z _ _ _ f0 (by omega) (by omega))))
          clear E3 E4
          go_wp2_with fail
          generalize hp1 : bs1 x4 = y1 at *
          generalize hp2 : chW x4 x5 x6 = y2 at *
          generalize hp3 : bs0 x0 = y3 at *
          generalize hp4 : mjW x0 x1 x2 = y4 at *
          have HP1 : Hid (_ ∧ _ ∧ _ ∧ _) := ⟨hp1, hp2, hp3, hp4⟩
          clear hp1 hp2 hp3 hp4
          rw [← drewN_cell w5 nq] at c0 c1 c2 c3 c4 c5 c6 c7
          have HV : Hid (OwnK .i64 3 (w5.drewN nq) (w.heap.size + 1) g 8 cap (fun x => ((at' v x : Nat) : Int))) := OwnK.drewN HV.out nq
          have HO : Hid (OwnK .i64 3 (w5.drewN nq) w.heap.size w.heap.size 64 64 (fun x => ((at' W x : Nat) : Int))) := OwnK.drewN HO.out nq
          have hB : Below w.heap.size w (w5.drewN nq) := hB.trans ((below_drewN w5 _).mono hB.size)
          clear cw ck
          generalize w5.drewN nq = w6 at *
          have z0 := OwnK.frozen HV.out 0
          have z1 := OwnK.frozen HV.out 1
          have z2 := OwnK.frozen HV.out 2
          have z3 := OwnK.frozen HV.out 3
          have z4 := OwnK.frozen HV.out 4
          have z5 := OwnK.frozen HV.out 5
          have z6 := OwnK.frozen HV.out 6
          have z7 := OwnK.frozen HV.out 7
          refine wp_loop_rounds 8 ?_
          iterate 7
            rw [rounds_succ]
            go_wp2
          rw [rounds_succ]
          go_wp2
          go_roundw
          case rel =>
            have hne : g ≠ w.heap.size := by omega
            refine ⟨t + 1, by omega, by go_num, ?_, ?_, ?_⟩
            · refine (((((((((OwnK.store HV.out 7 _).store 6 _).store 5 _).store 4 _).store 3 _).store 2 _).store 1 _).store 4 _).store 0 _).congr fun i hi => ?_
              obtain ⟨p1, p2, p3, p4⟩ := HP1.out
              rw [HS.out, HP.out x0 x1 x2 x3 x4 x5 x6 x7 rfl rfl rfl rfl rfl rfl rfl rfl, p1, p2, p3, p4]
              have e0 : bits BinOp.and IntKind.i64 (↑x7 + ↑y1 + ↑y2 + ↑kt + ↑wt + (↑y3 + ↑y4)) 4294967295 = (((x7 + y1 + y2 + kt + wt + (y3 + y4)) % 4294967296 : Nat) : Int) := by
                rw [← and_all_i64 _ (by omega)]; rfl
              have e4 : bits BinOp.and IntKind.i64 (↑x3 + (↑x7 + ↑y1 + ↑y2 + ↑kt + ↑wt)) 4294967295 = (((x3 + (x7 + y1 + y2 + kt + wt)) % 4294967296 : Nat) : Int) := by
                rw [← and_all_i64 _ (by omega)]; rfl
              have hi8 : i = 0 ∨ i = 1 ∨ i = 2 ∨ i = 3 ∨ i = 4 ∨ i = 5 ∨ i = 6 ∨ i = 7 := by omega
              rcases hi8 with rfl | rfl | rfl | rfl | rfl | rfl | rfl | rfl
              · exact e0
              · rfl
              · rfl
              · rfl
              · exact e4
              · rfl
              · rfl
              · rfl
            · exact ((((((((OwnK.aside HO.out _ _ hne).aside _ _ hne).aside _ _ hne).aside _ _ hne).aside _ _ hne).aside _ _ hne).aside _ _ hne).aside _ _ hne).aside _ _ hne
            · have hle : w.heap.size ≤ g := by omega
              exact ((((((((hB.setCell hle _).setCell hle _).setCell hle _).setCell hle _).setCell hle _).setCell hle _).setCell hle _).setCell hle _).setCell hle _
          case measure => simp [intOf]; omega
        · obtain rfl : t = 64 := by omega
          have hfv : Fit (rTo h W 64) := fit_rTo HF.out 64
          generalize hv64 : rTo h W 64 = v at *
          have HE : Hid (rTo h W 64 = v) := hv64
          clear hO hv64
          go_wp2_with fail
          go_loopw [20] (fun i wr => ∃ j : Nat, j ≤ 8 ∧ i = .int .i64 (j : Int) ∧ OwnK .i64 3 wr (w.heap.size + 1) g 8 cap (fun x => if x < j then (((at' v x + at' h x) % 4294967296 : Nat) : Int) else ((at' v x : Nat) : Int)) ∧ Below w.heap.size w wr) (fun i _ => 8 - (intOf i).toNat)
          case atStart => exact ⟨0, Nat.zero_le _, rfl, hV.congr (fun i hi => by rw [if_neg (by omega)]), hB⟩
          case round =>
            clear hV hB
            obtain ⟨j, hj, rfl, hV, hB⟩ := hrel
            by_cases hlt8 : j < 8
            · have c0 := hV.cell j hlt8
              rw [if_neg (by omega)] at c0
              have z0 := hV.frozen j
              have ch' := (hB.cell (p := ⟨bh, oh + j, none⟩) (cell_block (hh j hlt8))).trans (hh j hlt8)
              have f1 := hfv j
              have f2 := HF.out j
              have HV : Hid (OwnK .i64 3 wr (w.heap.size + 1) g 8 cap (fun x => if x < j then (((at' v x + at' h x) % 4294967296 : Nat) : Int) else ((at' v x : Nat) : Int))) := hV
              clear hV
              generalize hx : at' v j = x at *
              generalize hy : at' h j = y at *
              have HX : Hid (at' v j = x ∧ at' h j = y) := ⟨hx, hy⟩
              clear hx hy
              have hj1 : (j : Int) < 8 := by omega
              have hj0 : (0 : Int) ≤ (j : Int) := by omega
              go_wp2_with fail
              go_region
              all_goals
                go_wp2
                go_roundw
                case rel =>
                  refine ⟨j + 1, by omega, by go_num, (OwnK.store HV.out j _).congr fun i hi => ?_, (Below.setCell (p := ⟨g, j, none⟩) hB (by show w.heap.size ≤ g; omega) _).drew⟩
                  by_cases hij : i = j
                  · subst hij
                    rw [if_pos rfl, if_pos (by omega), HX.out.1, HX.out.2, ← and_all_i64 _ (by omega)]
                    rfl
                  · rw [if_neg hij]
                    by_cases hl2 : i < j
                    · rw [if_pos hl2, if_pos (by omega)]
                    · rw [if_neg hl2, if_neg (by omega)]
                case measure => simp [intOf]; omega
            · obtain rfl : j = 8 := by omega
              have HR : Hid (RowK .i64 wr (some ⟨g, 0, none⟩) 8 (addW v h)) := hV.row (by simp [addW]) (fun i hi => by rw [if_pos hi]; unfold addW; rw [at_map_range _ _ _ hi])
              clear hV
              go_wp2
              go_ret
              exact ⟨⟨g, cap, rfl, by omega, by rw [HE.out]; exact HR.out⟩, hB⟩

theorem rblock_any (ah ak am : Option Addr) (ch ck cm : Nat) (h : List Nat) (m : List UInt8) (w : World) (Rh : RowK .i64 w ah 8 h) (Rk : RowK .i64 w ak 64 kW) (Rm : Row w am 64 m) (hm : 64 ≤ cm) (hf : Fit h) :
    Calls Tryd.prog 39 #[.slice ah 8 ch, .slice ak 64 ck, .slice am 64 cm] w fun e w' => (∃ g cap, e = .returned (.slice (some ⟨g, 0, none⟩) 8 cap) ∧ w.heap.size ≤ g ∧ RowK .i64 w' (some ⟨g, 0, none⟩) 8 (blockW h m)) ∧ Below w.heap.size w w' :=
  rblock_core (wTo m 64) ah ak am ch ck cm h m w Rh Rk Rm hm hf (spread_wTo m)
end Go.Proofs.YtbhoijnhpmkglaaDoor
