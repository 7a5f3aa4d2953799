/- The law MacTells: the program's digests with a key, and its bytes, are the document's. -/
import Derived.Test.YtlekbfbhkgnpjaaDoorWexp
import Derived.Test.YtlekbfbhkgnpjaaDoorMfact
import Derived.Test.YtlekbfbhkgnpjaaDoorRexp
import Derived.Test.YtlekbfbhkgnpjaaDoorWbytes
import Derived.Test.YtlekbfbhkgnpjaaDoorTold
namespace Go.Proofs.YtlekbfbhkgnpjaaDoor
open Go.RowKit
set_option linter.unusedVariables false
set_option linter.unusedSimpArgs false

set_option maxRecDepth 100000 in
set_option maxHeartbeats 1000000 in
theorem mtells_walk (a1 : Option Addr) (n1 c1 : Nat) (key : List UInt8) (a2 : Option Addr) (n2 c2 : Nat) (b : List UInt8) (m : Int) (w : World) (G : Tab w) (HH : Handle w)
    (R1 : Row w a1 n1 key) (hc1 : n1 ≤ c1) (h1 : n1 ≤ 140737488351232) (R2 : Row w a2 n2 b) (hc2 : n2 ≤ c2) (h2 : n2 ≤ 140737488351232) (m1 : -9223372036854775808 ≤ m) (m2 : m ≤ 9223372036854775807) :
    Calls Tryd.prog 5 #[.slice a1 n1 c1, .slice a2 n2 c2, .int .i64 m] w fun e w' => e = .returned (.bool true) ∧ Below w.heap.size w w' := by
  have HG : Hid (Tab w ∧ Handle w ∧ Row w a1 n1 key ∧ Row w a2 n2 b) := ⟨G, HH, R1, R2⟩
  obtain ⟨D0, hlen, HZ, C0⟩ := wmac_nothing w G
  have HC0 : Hid (Calls Tryd.prog 14 #[.slice none 0 0, .slice none 0 0] w fun e w' => e = .returned (digestV D0) ∧ Below w.heap.size w w') := C0
  clear G HH R1 R2 C0
  go_enter Tryd.func5, Tryd.ntmps5
  go_wp2_with fail
  refine HC0.out.mono ?_
  rintro e w1 ⟨rfl, hb1⟩
  clear HC0
  have hz0 := run_same_z D0 hlen HZ
  clear HZ
  obtain ⟨w2, hw2⟩ : ∃ w2, w1.alloc (.cells (cellsB z32).toArray 25) = w2 := ⟨_, rfl⟩
  have ht2 : Hid (w2.there w1.heap.size 0 32) := by rw [← hw2]; exact alloc_thereAt _ _ _ 32 _ rfl z32_size.symm
  have HB3 : Hid (Below w.heap.size w (w2.setCells w1.heap.size 0 (cellsB D0))) := by rw [← hw2]; exact below_trans hb1 (new_stored _ _ _)
  have HD3 : Hid (DAt (w2.setCells w1.heap.size 0 (cellsB D0)) w1.heap.size 0 D0) := dat_stored ht2.out hlen
  clear hb1
  generalize hw3 : w2.setCells w1.heap.size 0 (cellsB D0) = w3 at *
  go_wp2_with (first
    | (refine wpList_allocE (by rfl) 25 (by rfl) (cellsB z32).toArray Tryd.zeroDigest w1.heap.size rfl w2 hw2 ?_)
    | (refine wpList_store_mid (by rfl) 25 (.tmp 7) (.tmp 14) (by rfl) w1.heap.size 0 (cellsB D0).toArray (by rfl) (by rfl) (by rw [cellsB_size, hlen]; exact ht2.out) (by rw [cellsB_size, hlen]; exact Tryd.sizeDigest) (all_oneCell_toArray (cellsB_one _)) ?_; rw [show (cellsB D0).toArray.toList = cellsB D0 from rfl, hw3])
    | (refine wpList_load_mid (by rfl) 25 (.tmp 7) (by rfl) w1.heap.size 0 (by rfl) (cellsB D0) _ HD3.out Tryd.underlying25 (by rfl) (by rw [cellsB_length, hlen]; exact Tryd.sizeDigest) ?_))
  clear hw2 ht2 hw3 HD3 hz0
  refine (wmac_any a1 n1 c1 key a2 n2 c2 b w3 (HG.out.1.below HB3.out) (HG.out.2.2.1.below HB3.out) (HG.out.2.2.2.below HB3.out) hc1 hc2 (by omega) (by omega)).mono ?_
  rintro e w4 ⟨rfl, hb4⟩
  have HB4 : Hid (Below w.heap.size w w4) := below_trans HB3.out hb4
  clear hb4 HB3
  go_wp2_with fail
  refine (rmac_any a1 a2 n1 n2 c1 c2 key b w4 (HG.out.2.2.1.below HB4.out) (HG.out.2.2.2.below HB4.out) (by omega) (by omega)).mono ?_
  rintro e w5 ⟨rfl, hb5⟩
  have HB5 : Hid (Below w.heap.size w w5) := below_trans HB4.out hb5
  clear hb5 HB4
  have hlD := macL_length key b
  generalize macL key b = D at *
  by_cases hr : m < 0 ∨ 2000 < m
  · have HR : Hid (m < 0 ∨ 2000 < m) := hr
    by_cases h0 : m < 0
    · go_wp2_with (refine wpList_neqD (.tmp 21) (.tmp 24) (by rfl) (by rfl) D D hlD hlD (by rfl) (by rfl) false (by simp) ?_)
      refine (wexp_out _ _ m w5 HR.out).mono ?_
      rintro e w6 ⟨rfl, hb6⟩
      have HB6 : Hid (Below w.heap.size w w6) := below_trans HB5.out hb6
      clear hb6 HB5
      go_wp2_with fail
      refine (error_errno 2 2 _ (HG.out.2.1.below HB6.out)).mono ?_
      rintro e w7 ⟨rfl, hb7⟩
      rw [show decide ((2 : Int) = 2) = true from rfl]
      have HB7 : Hid (Below w.heap.size w w7) := below_trans HB6.out hb7
      clear hb7 HB6
      go_wp2_with fail
      refine (bytes_any _ _ _ _ _ _ _ _ _ (Row.nil _) (Row.nil _) (by omega)).mono ?_
      rintro e w8 ⟨rfl, q8, rfl⟩
      rw [decide_eq_true rfl]
      have HB8 := below_trans HB7.out (below_drewN w7 q8)
      generalize w7.drewN q8 = w8 at *
      clear HB7
      go_wp2
      go_ret
      exact ⟨rfl, HB8⟩
    · have h3 : 2000 < m := by omega
      go_wp2_with (refine wpList_neqD (.tmp 21) (.tmp 24) (by rfl) (by rfl) D D hlD hlD (by rfl) (by rfl) false (by simp) ?_)
      refine (wexp_out _ _ m w5 HR.out).mono ?_
      rintro e w6 ⟨rfl, hb6⟩
      have HB6 : Hid (Below w.heap.size w w6) := below_trans HB5.out hb6
      clear hb6 HB5
      go_wp2_with fail
      refine (error_errno 2 2 _ (HG.out.2.1.below HB6.out)).mono ?_
      rintro e w7 ⟨rfl, hb7⟩
      rw [show decide ((2 : Int) = 2) = true from rfl]
      have HB7 : Hid (Below w.heap.size w w7) := below_trans HB6.out hb7
      clear hb7 HB6
      go_wp2_with fail
      refine (bytes_any _ _ _ _ _ _ _ _ _ (Row.nil _) (Row.nil _) (by omega)).mono ?_
      rintro e w8 ⟨rfl, q8, rfl⟩
      rw [decide_eq_true rfl]
      have HB8 := below_trans HB7.out (below_drewN w7 q8)
      generalize w7.drewN q8 = w8 at *
      clear HB7
      go_wp2
      go_ret
      exact ⟨rfl, HB8⟩
  · obtain ⟨n, rfl⟩ : ∃ n : Nat, m = (n : Int) := Int.eq_ofNat_of_zero_le (by omega)
    have hn : n ≤ 2000 := by omega
    have h3 : (n : Int) ≤ 2000 := by omega
    have h4 : (0 : Int) ≤ (n : Int) := by omega
    clear hr
    go_wp2_with (refine wpList_neqD (.tmp 21) (.tmp 24) (by rfl) (by rfl) D D hlD hlD (by rfl) (by rfl) false (by simp) ?_)
    refine (rexp_any a1 a2 n1 n2 c1 c2 n key b w5 (HG.out.2.2.1.below HB5.out) (HG.out.2.2.2.below HB5.out) (by omega) (by omega) hn).mono ?_
    rintro e w6 ⟨⟨ar, cr, rfl, hr6⟩, hb6⟩
    have HB6 : Hid (Below w.heap.size w w6) := below_trans HB5.out hb6
    have HR6 : Hid (Row w6 ar n (expL key b n)) := hr6
    clear hb6 HB5 hr6
    go_wp2_with fail
    refine (wexp_any a1 n1 c1 key a2 n2 c2 b n w6 (HG.out.1.below HB6.out) (HG.out.2.2.1.below HB6.out) (HG.out.2.2.2.below HB6.out) hc1 hc2 (by omega) (by omega) hn).mono ?_
    rintro e w7 ⟨⟨g7, rfl, _, hr7⟩, hb7⟩
    have HB7 : Hid (Below w.heap.size w w7) := below_trans HB6.out hb7
    have HR7 : Hid (Row w7 (some ⟨g7, 0, none⟩) n (expL key b n) ∧ Row w7 ar n (expL key b n)) := ⟨hr7, Row.below HR6.out hb7⟩
    clear hb7 HB6 hr7 HR6
    go_wp2_with fail
    refine (error_nil 0 _).mono ?_
    rintro e w8 ⟨rfl, hb8⟩
    rw [show decide ((0 : Int) = 0) = true from rfl]
    have HB8 : Hid (Below w.heap.size w w8) := below_trans HB7.out hb8
    have HR8 : Hid (Row w8 (some ⟨g7, 0, none⟩) n (expL key b n) ∧ Row w8 ar n (expL key b n)) := ⟨HR7.out.1.below hb8, HR7.out.2.below hb8⟩
    clear hb8 HB7 HR7
    go_wp2_with fail
    refine (bytes_any _ _ _ _ _ _ _ _ _ HR8.out.1 HR8.out.2 (by omega)).mono ?_
    rintro e w9 ⟨rfl, q9, rfl⟩
    rw [decide_eq_true rfl]
    have HB9 := below_trans HB8.out (below_drewN w8 q9)
    generalize w8.drewN q9 = w9 at *
    clear HB8 HR8
    go_wp2
    go_ret
    exact ⟨rfl, HB9⟩
end Go.Proofs.YtlekbfbhkgnpjaaDoor
