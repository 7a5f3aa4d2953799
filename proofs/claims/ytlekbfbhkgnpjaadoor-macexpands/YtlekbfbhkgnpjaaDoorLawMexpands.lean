/- The law MacExpands: fewer bytes are the first ones of more. -/
import Derived.Test.YtlekbfbhkgnpjaaDoorWexp
import Derived.Test.YtlekbfbhkgnpjaaDoorWbytes
namespace Go.Proofs.YtlekbfbhkgnpjaaDoor
open Go.RowKit
set_option linter.unusedVariables false
set_option linter.unusedSimpArgs false

theorem outTo_take (key info : List UInt8) (k : Nat) : ∀ j, (outTo key info (k + j)).take (32 * k) = outTo key info k
  | 0 => List.take_of_length_le (by rw [Nat.add_zero, outTo_length]; omega)
  | j + 1 => by
    rw [← Nat.add_assoc, outTo, List.take_append_of_le_length (by rw [outTo_length]; omega), outTo_take key info k j]
theorem expL_take (key info : List UInt8) (m n : Nat) (h : m ≤ n) : (expL key info n).take m = expL key info m := by
  unfold expL
  rw [List.take_take, Nat.min_eq_left h]
  obtain ⟨j, hj⟩ : ∃ j, (n + 31) / 32 = (m + 31) / 32 + j := ⟨(n + 31) / 32 - (m + 31) / 32, by omega⟩
  rw [hj, ← outTo_take key info ((m + 31) / 32) j, List.take_take, Nat.min_eq_left (by omega)]

set_option maxRecDepth 100000 in
set_option maxHeartbeats 1000000 in
theorem mexpands_walk (a1 : Option Addr) (n1 c1 : Nat) (key : List UInt8) (a2 : Option Addr) (n2 c2 : Nat) (info : List UInt8) (m n : Int) (w : World) (G : Tab w)
    (R1 : Row w a1 n1 key) (hc1 : n1 ≤ c1) (h1 : n1 ≤ 140737488351232) (R2 : Row w a2 n2 info) (hc2 : n2 ≤ c2) (h2 : n2 ≤ 140737488351232) (m1 : -9223372036854775808 ≤ m) (m2 : m ≤ 9223372036854775807) (k1 : -9223372036854775808 ≤ n) (k2 : n ≤ 9223372036854775807) :
    Calls Tryd.prog 7 #[.slice a1 n1 c1, .slice a2 n2 c2, .int .i64 m, .int .i64 n] w fun e w' => e = .returned (.bool true) ∧ Below w.heap.size w w' := by
  have HG : Hid (Tab w ∧ Row w a1 n1 key ∧ Row w a2 n2 info) := ⟨G, R1, R2⟩
  clear G R1 R2
  go_enter Tryd.func7, Tryd.ntmps7
  go_wp2_with fail
  have C := wexp_any none 0 0 [] none 0 0 [] 5 w HG.out.1 (Row.nil w) (Row.nil w) (by omega) (by omega) (by omega) (by omega) (by omega)
  refine C.mono ?_
  clear C
  rintro e w1 ⟨⟨g1, rfl, _, _⟩, hb1⟩
  have HB1 : Hid (Below w.heap.size w w1) := hb1
  clear hb1
  by_cases hmn : n < m
  · go_wp2
    go_ret
    exact ⟨rfl, HB1.out⟩
  by_cases hm : m < 0 ∨ 2000 < m
  · have HM : Hid (m < 0 ∨ 2000 < m) := hm
    clear hm
    go_wp2_with fail
    refine (wexp_out _ _ m w1 HM.out).mono ?_
    rintro e w2 ⟨rfl, hb2⟩
    have HB2 : Hid (Below w.heap.size w w2) := below_trans HB1.out hb2
    clear hb2 HB1
    go_wp2_with fail
    by_cases hn : n < 0 ∨ 2000 < n
    · refine (wexp_out _ _ n w2 hn).mono ?_
      rintro e w3 ⟨rfl, hb3⟩
      have HB3 : Hid (Below w.heap.size w w3) := below_trans HB2.out hb3
      clear hb3 HB2 hn
      go_wp2
      go_ret
      exact ⟨rfl, HB3.out⟩
    · obtain ⟨k, rfl⟩ : ∃ k : Nat, n = (k : Int) := Int.eq_ofNat_of_zero_le (by omega)
      refine (wexp_any a1 n1 c1 key a2 n2 c2 info k w2 (HG.out.1.below HB2.out) (HG.out.2.1.below HB2.out) (HG.out.2.2.below HB2.out) hc1 hc2 (by omega) (by omega) (by omega)).mono ?_
      rintro e w3 ⟨⟨g3, rfl, _, _⟩, hb3⟩
      have HB3 : Hid (Below w.heap.size w w3) := below_trans HB2.out hb3
      clear hb3 HB2 hn
      go_wp2
      go_ret
      exact ⟨rfl, HB3.out⟩
  · obtain ⟨k, rfl⟩ : ∃ k : Nat, m = (k : Int) := Int.eq_ofNat_of_zero_le (by omega)
    have hk : k ≤ 2000 := by omega
    clear hm
    go_wp2_with fail
    refine (wexp_any a1 n1 c1 key a2 n2 c2 info k w1 (HG.out.1.below HB1.out) (HG.out.2.1.below HB1.out) (HG.out.2.2.below HB1.out) hc1 hc2 (by omega) (by omega) hk).mono ?_
    rintro e w2 ⟨⟨g2, rfl, _, hr2⟩, hb2⟩
    have HB2 : Hid (Below w.heap.size w w2) := below_trans HB1.out hb2
    have HR2 : Hid (Row w2 (some ⟨g2, 0, none⟩) k (expL key info k)) := hr2
    clear hb2 HB1 hr2
    go_wp2_with fail
    by_cases hn : 2000 < n
    · refine (wexp_out _ _ n w2 (.inr hn)).mono ?_
      rintro e w3 ⟨rfl, hb3⟩
      have HB3 : Hid (Below w.heap.size w w3) := below_trans HB2.out hb3
      clear hb3 HB2 hn
      go_wp2
      go_ret
      exact ⟨rfl, HB3.out⟩
    · obtain ⟨p, rfl⟩ : ∃ p : Nat, n = (p : Int) := Int.eq_ofNat_of_zero_le (by omega)
      have hp : p ≤ 2000 := by omega
      have hkp : k ≤ p := by omega
      clear hn hmn
      refine (wexp_any a1 n1 c1 key a2 n2 c2 info p w2 (HG.out.1.below HB2.out) (HG.out.2.1.below HB2.out) (HG.out.2.2.below HB2.out) hc1 hc2 (by omega) (by omega) hp).mono ?_
      rintro e w3 ⟨⟨g3, rfl, _, hr3⟩, hb3⟩
      have HB3 : Hid (Below w.heap.size w w3) := below_trans HB2.out hb3
      have HR3 : Hid (Row w3 (some ⟨g2, 0, none⟩) k (expL key info k) ∧ Row w3 (some ⟨g3, 0, none⟩) k (expL key info k)) := by
        refine ⟨Row.below HR2.out hb3, ?_⟩
        rw [← expL_take key info k p hkp]
        exact hr3.take k hkp
      clear hb3 HB2 hr3 HR2
      have i0 : (0 : Int) ≤ (k : Int) := by omega
      have i1 : (k : Int) ≤ (p : Int) := by omega
      have e1 : ((k : Int) != (k : Int)) = false := by simp
      have e2 : ((p : Int) != (p : Int)) = false := by simp
      go_wp2_with fail
      refine (bytes_any _ _ _ _ _ _ _ _ _ HR3.out.1 HR3.out.2 (by omega)).mono ?_
      rintro e w4 ⟨rfl, q4, rfl⟩
      rw [decide_eq_true rfl]
      have HB4 := below_trans HB3.out (below_drewN w3 q4)
      generalize w3.drewN q4 = w4 at *
      clear HB3 HR3
      go_wp2
      go_ret
      exact ⟨rfl, HB4⟩
end Go.Proofs.YtlekbfbhkgnpjaaDoor
