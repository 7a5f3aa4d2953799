/- The walk of the law OctetBack. -/
import Derived.Test.YtdfncpljcmdieaaWbytes
import Derived.Test.YtdfncpljcmdieaaWnum
import Derived.Test.YtdfncpljcmdieaaWput
import Derived.Test.YtdfncpljcmdieaaWunhex
import Derived.Test.YtdfncpljcmdieaaWhex
namespace Go.Proofs.Ytdfncpljcmdieaa
open Go.RowKit

set_option maxRecDepth 100000 in
set_option maxHeartbeats 1000000 in
theorem law_walk (a0 : Option Addr) (n c : Nat) (l : List UInt8) (s : ByteArray) (m z : Int) (w : World) (R : Row w a0 n l) (hn : n ≤ 140737488351232) (hs : s.size ≤ 140737488351232)
    (m1 : -9223372036854775808 ≤ m) (m2 : m ≤ 9223372036854775807) (z1 : -9223372036854775808 ≤ z) (z2 : z ≤ 9223372036854775807) :
    Calls Try.prog 3 #[.slice a0 n c, .string s, .int .i64 m, .int .i64 z] w fun e w' => e = .returned (.bool true) ∧ Below w.heap.size w w' := by
  go_enter Try.func3, Try.ntmps3
  go_wp2_with fail
  refine (hex_any _ 2 2 [18, 52] _ (Row.lit2 w 18 52 5) (by omega)).mono ?_
  rintro e w1 ⟨⟨s1, rfl, hs1⟩, hb1⟩
  obtain rfl : s1 = ⟨#[49, 50, 51, 52]⟩ := bs_inj (hs1.trans (by decide +kernel))
  have B1 : Below w.heap.size w w1 := below_trans ((Below.refl _ _).alloc (Nat.le_refl _) _) hb1
  have R1 := R.below B1
  clear hs1 hb1 R
  go_wp2_with fail
  refine (hex_any _ _ _ l _ R1 (by omega)).mono ?_
  rintro e w2 ⟨⟨s2, rfl, hs2⟩, hb2⟩
  have B2 := below_trans B1 hb2
  have R2 := R1.below hb2
  clear B1 R1 hb2
  go_wp2_with fail
  have z2s : s2.size = 2 * n := by rw [← bs_length, hs2, hexL_length, R2.1]
  refine (unhex_some s2 _ (by omega) (by rw [hs2]; exact unhOk_hexL l)).mono ?_
  rintro e w3 ⟨⟨g3, rfl, _, r3⟩, hb3⟩
  rw [hs2, unhL_hexL, show s2.size / 2 = n from by omega] at r3
  rw [show s2.size / 2 = n from by omega]
  have B3 := below_trans B2 hb3
  have R3 := R2.below hb3
  clear B2 R2 hb3 z2s hs2
  go_wp2_with fail
  refine (bytes_any _ _ _ _ _ _ l l _ r3 R3 (by omega)).mono ?_
  rintro e w4 ⟨rfl, q4, rfl⟩
  rw [show decide (l = l) = true from decide_eq_true rfl]
  have B4 := below_trans B3 (below_drewN w3 q4)
  have R4 := R3.below (below_drewN w3 q4)
  generalize w3.drewN q4 = w4 at *
  clear B3 R3 r3
  go_wp2_with fail
  by_cases hu : unhOk (bs s) = true
  · refine (unhex_some s _ (by omega) hu).mono ?_
    rintro e w5 ⟨⟨g5, rfl, _, r5⟩, hb5⟩
    have B5 := below_trans B4 hb5
    have R5 := R4.below hb5
    clear B4 R4 hb5
    go_wp2_with fail
    refine (hex_any _ _ _ (unhL (bs s)) _ r5 (by omega)).mono ?_
    rintro e w6 ⟨⟨s6, rfl, hs6⟩, hb6⟩
    rw [hexL_unhL _ hu] at hs6
    obtain rfl := bs_inj hs6
    have B6 := below_trans B5 hb6
    have R6 := R5.below hb6
    clear B5 R5 hb6 hs6 r5 hu
    go_wp2_with fail
    by_cases hp : putOk m z = true
    · obtain ⟨k, rfl⟩ : ∃ k : Nat, z = (k : Int) := Int.eq_ofNat_of_zero_le (by unfold putOk at hp; rw [decide_eq_true_iff] at hp; omega)
      refine (put_some m k _ m2 hp).mono ?_
      rintro e w7 ⟨⟨g7, rfl, _, r7⟩, hb7⟩
      have B7 := below_trans B6 hb7
      have R7 := R6.below hb7
      clear B6 R6 hb7
      go_wp2_with fail
      refine (num_some _ _ _ (putL m k) _ r7 (numOk_putL m k hp m2)).mono ?_
      rintro e w8 ⟨rfl, rfl⟩
      rw [numTo_put m k hp]
      clear hp r7
      go_wp2_with fail
      by_cases hk : numOk l = true
      · refine (num_some _ _ _ l _ R7 hk).mono ?_
        rintro e w9 ⟨rfl, rfl⟩
        have hl := R7.1
        subst hl
        go_wp2_with fail
        refine (put_some (numTo l l.length) l.length _ (numTo_max l hk) (putOk_numTo l hk)).mono ?_
        rintro e w10 ⟨⟨g10, rfl, _, r10⟩, hb10⟩
        rw [putL_numTo] at r10
        have B10 := below_trans B7 hb10
        have R10 := R7.below hb10
        clear B7 R7 hb10 hk
        go_wp2_with fail
        refine (bytes_any _ _ _ _ _ _ l l _ r10 R10 (by omega)).mono ?_
        rintro e w11 ⟨rfl, q11, rfl⟩
        rw [show decide (l = l) = true from decide_eq_true rfl]
        go_wp2
        go_ret
        exact ⟨rfl, below_trans B10 (below_drewN _ _)⟩
      · refine (num_none _ _ _ l _ R7 (by simpa using hk) (by omega)).mono ?_
        rintro e w9 ⟨rfl, rfl⟩
        go_wp2
        go_ret
        exact ⟨rfl, B7⟩
    · refine (put_none m z _ m2 m1 z2 z1 (by simpa using hp)).mono ?_
      rintro e w7 ⟨rfl, hb7⟩
      have B7 := below_trans B6 hb7
      have R7 := R6.below hb7
      clear B6 R6 hb7 hp
      go_wp2_with fail
      by_cases hk : numOk l = true
      · refine (num_some _ _ _ l _ R7 hk).mono ?_
        rintro e w9 ⟨rfl, rfl⟩
        have hl := R7.1
        subst hl
        go_wp2_with fail
        refine (put_some (numTo l l.length) l.length _ (numTo_max l hk) (putOk_numTo l hk)).mono ?_
        rintro e w10 ⟨⟨g10, rfl, _, r10⟩, hb10⟩
        rw [putL_numTo] at r10
        have B10 := below_trans B7 hb10
        have R10 := R7.below hb10
        clear B7 R7 hb10 hk
        go_wp2_with fail
        refine (bytes_any _ _ _ _ _ _ l l _ r10 R10 (by omega)).mono ?_
        rintro e w11 ⟨rfl, q11, rfl⟩
        rw [show decide (l = l) = true from decide_eq_true rfl]
        go_wp2
        go_ret
        exact ⟨rfl, below_trans B10 (below_drewN _ _)⟩
      · refine (num_none _ _ _ l _ R7 (by simpa using hk) (by omega)).mono ?_
        rintro e w9 ⟨rfl, rfl⟩
        go_wp2
        go_ret
        exact ⟨rfl, B7⟩
  · refine (unhex_none s _ (by omega) (by simpa using hu)).mono ?_
    rintro e w6 ⟨rfl, hb6⟩
    have B6 := below_trans B4 hb6
    have R6 := R4.below hb6
    clear B4 R4 hb6 hu
    go_wp2_with fail
    by_cases hp : putOk m z = true
    · obtain ⟨k, rfl⟩ : ∃ k : Nat, z = (k : Int) := Int.eq_ofNat_of_zero_le (by unfold putOk at hp; rw [decide_eq_true_iff] at hp; omega)
      refine (put_some m k _ m2 hp).mono ?_
      rintro e w7 ⟨⟨g7, rfl, _, r7⟩, hb7⟩
      have B7 := below_trans B6 hb7
      have R7 := R6.below hb7
      clear B6 R6 hb7
      go_wp2_with fail
      refine (num_some _ _ _ (putL m k) _ r7 (numOk_putL m k hp m2)).mono ?_
      rintro e w8 ⟨rfl, rfl⟩
      rw [numTo_put m k hp]
      clear hp r7
      go_wp2_with fail
      by_cases hk : numOk l = true
      · refine (num_some _ _ _ l _ R7 hk).mono ?_
        rintro e w9 ⟨rfl, rfl⟩
        have hl := R7.1
        subst hl
        go_wp2_with fail
        refine (put_some (numTo l l.length) l.length _ (numTo_max l hk) (putOk_numTo l hk)).mono ?_
        rintro e w10 ⟨⟨g10, rfl, _, r10⟩, hb10⟩
        rw [putL_numTo] at r10
        have B10 := below_trans B7 hb10
        have R10 := R7.below hb10
        clear B7 R7 hb10 hk
        go_wp2_with fail
        refine (bytes_any _ _ _ _ _ _ l l _ r10 R10 (by omega)).mono ?_
        rintro e w11 ⟨rfl, q11, rfl⟩
        rw [show decide (l = l) = true from decide_eq_true rfl]
        go_wp2
        go_ret
        exact ⟨rfl, below_trans B10 (below_drewN _ _)⟩
      · refine (num_none _ _ _ l _ R7 (by simpa using hk) (by omega)).mono ?_
        rintro e w9 ⟨rfl, rfl⟩
        go_wp2
        go_ret
        exact ⟨rfl, B7⟩
    · refine (put_none m z _ m2 m1 z2 z1 (by simpa using hp)).mono ?_
      rintro e w7 ⟨rfl, hb7⟩
      have B7 := below_trans B6 hb7
      have R7 := R6.below hb7
      clear B6 R6 hb7 hp
      go_wp2_with fail
      by_cases hk : numOk l = true
      · refine (num_some _ _ _ l _ R7 hk).mono ?_
        rintro e w9 ⟨rfl, rfl⟩
        have hl := R7.1
        subst hl
        go_wp2_with fail
        refine (put_some (numTo l l.length) l.length _ (numTo_max l hk) (putOk_numTo l hk)).mono ?_
        rintro e w10 ⟨⟨g10, rfl, _, r10⟩, hb10⟩
        rw [putL_numTo] at r10
        have B10 := below_trans B7 hb10
        have R10 := R7.below hb10
        clear B7 R7 hb10 hk
        go_wp2_with fail
        refine (bytes_any _ _ _ _ _ _ l l _ r10 R10 (by omega)).mono ?_
        rintro e w11 ⟨rfl, q11, rfl⟩
        rw [show decide (l = l) = true from decide_eq_true rfl]
        go_wp2
        go_ret
        exact ⟨rfl, below_trans B10 (below_drewN _ _)⟩
      · refine (num_none _ _ _ l _ R7 (by simpa using hk) (by omega)).mono ?_
        rintro e w9 ⟨rfl, rfl⟩
        go_wp2
        go_ret
        exact ⟨rfl, B7⟩
end Go.Proofs.Ytdfncpljcmdieaa
