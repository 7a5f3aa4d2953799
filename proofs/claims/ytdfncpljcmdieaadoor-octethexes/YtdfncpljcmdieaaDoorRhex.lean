/- The contract of oathbookref1.Hex. -/
import Derived.Test.YtdfncpljcmdieaaDoorMath
import Derived.Deep.QuietTactic
import Derived.BigQuiet
namespace Go.Proofs.YtdfncpljcmdieaaDoor
open Go.RowKit
set_option linter.unusedVariables false
/-- The digits of the first k bytes. -/
def hexTo (l : List UInt8) (k : Nat) : List UInt8 := (List.range (2 * k)).map fun j => UInt8.ofNat (hexB l j).toNat
theorem cut_lit (x : Int) (h0 : 0 ≤ x) (h1 : x < 16) : bs ((⟨#[48, 49, 50, 51, 52, 53, 54, 55, 56, 57, 97, 98, 99, 100, 101, 102]⟩ : ByteArray).extract x.toNat (x + 1).toNat) = [UInt8.ofNat (hexd x).toNat] := by
  obtain ⟨n, rfl⟩ := Int.eq_ofNat_of_zero_le h0
  have hn : n = 0 ∨ n = 1 ∨ n = 2 ∨ n = 3 ∨ n = 4 ∨ n = 5 ∨ n = 6 ∨ n = 7 ∨ n = 8 ∨ n = 9 ∨ n = 10 ∨ n = 11 ∨ n = 12 ∨ n = 13 ∨ n = 14 ∨ n = 15 := by omega
  rcases hn with rfl | rfl | rfl | rfl | rfl | rfl | rfl | rfl | rfl | rfl | rfl | rfl | rfl | rfl | rfl | rfl <;> decide +kernel
theorem bs_append (a b : ByteArray) : bs (a ++ b) = bs a ++ bs b := by
  unfold bs
  rw [ByteArray.data_append, Array.toList_append]
theorem hexTo_succ (l : List UInt8) (k : Nat) : hexTo l (k + 1) = hexTo l k ++ [UInt8.ofNat (hexd (nth l k / 16)).toNat, UInt8.ofNat (hexd (nth l k % 16)).toNat] := by
  unfold hexTo
  have e : 2 * (k + 1) = 2 * k + 1 + 1 := by omega
  rw [e, List.range_succ, List.range_succ]
  simp only [List.map_append, List.map_cons, List.map_nil, List.append_assoc, List.cons_append, List.nil_append]
  have b0 : hexB l (2 * k) = hexd (nth l k / 16) := by unfold hexB; rw [if_pos (by omega), show 2 * k / 2 = k from by omega]
  have b1 : hexB l (2 * k + 1) = hexd (nth l k % 16) := by unfold hexB; rw [if_neg (by omega), show (2 * k + 1) / 2 = k from by omega]
  rw [b0, b1]
theorem hexTo_length (l : List UInt8) (k : Nat) : (hexTo l k).length = 2 * k := by simp [hexTo]

set_option maxRecDepth 100000 in
set_option maxHeartbeats 400000 in
theorem rhex_any (a : Option Addr) (n c : Nat) (l : List UInt8) (w : World) (hr : Row w a n l) (hm : n ≤ 140737488355328) :
    Calls Tryd.prog 6 #[.slice a n c] w fun e w' => (∃ s, e = .returned (.string s) ∧ bs s = hexL l) ∧ ∃ q, w' = w.drewN q := by
  obtain ⟨hl, hr⟩ := hr
  have HL : Hid (l.length = n) := hl
  clear hl
  go_enter Tryd.func6, Tryd.ntmps6
  go_wp2
  go_loopw [3, 4] (fun t i wr => ∃ (k nn : Nat) (s : ByteArray), k ≤ n ∧ i = .int .i64 (k : Int) ∧ t = .string s ∧ bs s = hexTo l k ∧ s.size = 2 * k ∧ wr = w.drewN nn) (fun _ i _ => n - (intOf i).toNat)
  case atStart => exact ⟨0, 0, ByteArray.empty, Nat.zero_le _, rfl, rfl, rfl, rfl, rfl⟩
  case round =>
    obtain ⟨k, nn, s, hk, rfl, rfl, hs, hz, rfl⟩ := hrel
    have HS : Hid (bs s = hexTo l k) := hs
    clear hs
    by_cases hlt : k < n
    · rcases hr with hr | ⟨b, o, rfl, hc⟩
      · omega
      have g := hc k hlt
      have b1 := nth_bd l k
      clear hc
      go_wp2_with fail
      go_quiet (fail)
      go_wp2
      go_roundw
      case rel =>
        have e := hexTo_succ l k
        have h : bs (s ++ ((⟨#[48, 49, 50, 51, 52, 53, 54, 55, 56, 57, 97, 98, 99, 100, 101, 102]⟩ : ByteArray).extract (nth l k / 16).toNat (nth l k / 16 + 1).toNat ++ (⟨#[48, 49, 50, 51, 52, 53, 54, 55, 56, 57, 97, 98, 99, 100, 101, 102]⟩ : ByteArray).extract (nth l k % 16).toNat (nth l k % 16 + 1).toNat)) = hexTo l (k + 1) := by
          rw [bs_append, bs_append, cut_lit _ (by omega) (by omega), cut_lit _ (by omega) (by omega), HS.out, e]
          rfl
        exact ⟨k + 1, nn + nq, _, by omega, by go_num, rfl, h, by rw [← bs_length, h, hexTo_length], rfl⟩
      case measure => simp [intOf]; omega
    · obtain rfl : k = n := by omega
      go_wp2
      go_ret
      exact ⟨⟨s, rfl, by rw [HS.out]; unfold hexTo hexL; rw [HL.out]⟩, nn, rfl⟩
end Go.Proofs.YtdfncpljcmdieaaDoor
