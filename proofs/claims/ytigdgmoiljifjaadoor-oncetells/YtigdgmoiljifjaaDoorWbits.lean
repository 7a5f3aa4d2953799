/- The contract of once.bits: it goes through a digest's bits with their places. -/
import Derived.Test.YtigdgmoiljifjaaDoorWround
import Derived.Test.YtigdgmoiljifjaaDoorOnce
import Derived.Test.YtigdgmoiljifjaaDoorDigest
namespace Go.Proofs.YtigdgmoiljifjaaDoor
open Go.RowKit Go.Shelf
set_option linter.unusedVariables false
set_option linter.unusedSimpArgs false
attribute [local go_sem] Oper.semAt_some

/-- The first k places. -/
def places (k : Nat) : List (Fin 256) := (List.range k).map (Fin.ofNat 256)
theorem places_succ (k : Nat) : places (k + 1) = places k ++ [Fin.ofNat 256 k] := by simp [places, List.range_succ]
theorem places_len (k : Nat) : (places k).length = k := by simp [places]
/-- A digest in memory stays. -/
def KpD (B : Nat) (m : List UInt8) (W W' : World) : Prop := DAt W B 0 m → DAt W' B 0 m
abbrev bitA (m : List UInt8) (x : Fin 256) : Array Value := #[.int .i64 (x.1 : Int), .int .i64 ((bitL m x.1 : Nat) : Int)]

set_option maxRecDepth 100000 in
set_option maxHeartbeats 1000000 in
theorem wbits_any (m : List UInt8) (w : World) :
    CallsIn Fence.wide 3 Tryd.prog 18 #[digestV m] w fun e w' => e = .returned (.func (.func 25) #[] #[.pointer (some ⟨w.heap.size, 0, none⟩)]) ∧ w' = w.alloc (.cells (cellsB m).toArray 23) := by
  refine callsIn_wide.2 ?_
  go_enter Tryd.func18, Tryd.ntmps18
  go_wp2
  go_ret
  exact ⟨rfl, rfl⟩

theorem u8_bit (x s : Nat) (hx : x < 256) : bits .and .u8 ((x : Int) / 2 ^ s) 1 = ((x / 2 ^ s % 2 : Nat) : Int) := by
  have h : x / 2 ^ s < 256 := Nat.lt_of_le_of_lt (Nat.div_le_self _ _) hx
  have e : (x : Int) / 2 ^ s = ((x / 2 ^ s : Nat) : Int) := by simp
  rw [e, show (1 : Int) = ((1 : Nat) : Int) from rfl, u8_and_nat _ _ h (by omega), Nat.and_one_is_mod]

set_option maxRecDepth 100000 in
set_option maxHeartbeats 2000000 in
theorem wbits1 (n : Nat) (hn : 1 ≤ n) (l B : Nat) (m : List UInt8) (hm : m.length = 32) (J Jx : List (Fin 256) → World → Prop)
    (hY : ∀ pre x W, J pre W → pre.length < 256 → YieldAt Fence.wide (n - 1) Tryd.prog l (bitA m x) W fun e W' =>
      (e = .returned (.bool true) ∧ J (pre ++ [x]) W' ∧ KpD B m W W') ∨ (e = .returned (.bool false) ∧ Jx (pre ++ [x]) W'))
    (W : World) (hD : DAt W B 0 m) (h0 : J [] W) :
    CallsIn Fence.wide n Tryd.prog 25 #[.func (.yield l) #[] #[], .pointer (some ⟨B, 0, none⟩)] W fun e W' => (∃ v, e = .returned v) ∧
      ((∃ ys, ys = places 256 ∧ J ys W') ∨ (∃ pre, True ∧ Jx pre W')) := by
  refine callsIn_of_wp Tryd.func25 rfl trivial ?_ rfl
  simp only [Tryd.ntmps25, List.size_toArray, List.length_cons, List.length_nil, Nat.reduceAdd, Nat.reduceSub, Array.replicate_succ, Array.replicate_zero, List.push_toArray, List.append_toArray, List.nil_append, List.cons_append]
  gi_wp2
  gi_loopw [4] (fun i wr => ∃ k : Nat, k ≤ 256 ∧ i = .int .i64 k ∧ J (places k) wr ∧ DAt wr B 0 m) (fun i _ => 256 - (intOf i).toNat)
  case atStart => exact ⟨0, Nat.zero_le _, rfl, h0, hD⟩
  case round =>
    obtain ⟨k, hk, rfl, hJs, hDr⟩ := hrel
    by_cases hlt : k < 256
    · have hof : (Fin.ofNat 256 k).1 = k := by show k % 256 = k; omega
      obtain ⟨fn, tmps, assign, body, hy, hR⟩ := hY _ (Fin.ofNat 256 k) wr hJs (by rw [places_len]; exact hlt)
      simp only [bitA, hof] at hy
      have hq : (k : Int).tdiv 8 = ((k / 8 : Nat) : Int) := by rw [Int.tdiv_eq_ediv_of_nonneg (by omega)]; omega
      have hr : (k : Int).tmod 8 = ((k % 8 : Nat) : Int) := by rw [Int.tmod_eq_emod_of_nonneg (by omega)]; omega
      have hq2 : (k : Int) / 8 = ((k / 8 : Nat) : Int) := by omega
      have hr2 : (k : Int) % 8 = ((k % 8 : Nat) : Int) := by omega
      have hlq : k / 8 < 32 := by omega
      have hlr : k % 8 < 8 := by omega
      have hc := hDr.cell (k / 8) (by omega)
      rw [Nat.zero_add] at hc
      unfold nth at hc
      have hx := (m.getD (k / 8) 0).toNat_lt
      unfold bitL at hy
      generalize (m.getD (k / 8) 0).toNat = x at *
      generalize k / 8 = q at *
      generalize k % 8 = r at *
      have q0 : (0 : Int) ≤ (q : Int) := by omega
      have q1 : (q : Int) < 32 := by omega
      have hb := u8_bit x (7 - r) (by omega)
      have hz : x / 2 ^ (7 - r) % 2 < 2 := Nat.mod_lt _ (by omega)
      generalize x / 2 ^ (7 - r) % 2 = z at *
      have hz0 : (0 : Int) ≤ (z : Int) := by omega
      have hz1 : (z : Int) < 2 := by omega
      gi_wp2
      refine hR.mono ?_
      rintro e W3 (⟨rfl, hJ3, hk3⟩ | ⟨rfl, hJx3⟩)
      · gi_wp2
        go_roundw
        case rel => exact ⟨k + 1, by omega, by simp, by rw [places_succ]; exact hJ3, hk3 hDr⟩
        case measure => simp [intOf]; omega
      · gi_wp2
        refine bodyPost_ret (results_none rfl _ _ _) rfl ?_
        exact ⟨⟨_, rfl⟩, .inr ⟨_, trivial, hJx3⟩⟩
    · obtain rfl : k = 256 := by omega
      gi_wp2
      go_end0
      exact ⟨⟨_, rfl⟩, .inl ⟨_, rfl, hJs⟩⟩

/-- What bits hands back goes through all places, as long as the digest stays. -/
theorem wbits_stops (n : Nat) (hn : 1 ≤ n) (B : Nat) (m : List UInt8) (hm : m.length = 32) (w : World) (hB : B < w.heap.size) (hD : DAt w B 0 m) :
    SeqStopsK Fence.wide n Tryd.prog 25 #[.pointer (some ⟨B, 0, none⟩)] (bitA m) (KpD B m) (fun ys => ys = places 256) (fun _ => True) 256 w := fun l J Jx W hW _ _ hY h0 =>
  wbits1 n hn l B m hm J Jx hY W (hD.below hW hB) h0
end Go.Proofs.YtigdgmoiljifjaaDoor
