/- The walk of the law OctetNumbers. -/
import Derived.Test.YtdfncpljcmdieaaDoorWbytes
import Derived.Test.YtdfncpljcmdieaaDoorWnum
import Derived.Test.YtdfncpljcmdieaaDoorWput
import Derived.Test.YtdfncpljcmdieaaDoorRnum
import Derived.Test.YtdfncpljcmdieaaDoorRput
import Derived.Test.YtdfncpljcmdieaaDoorTold
namespace Go.Proofs.YtdfncpljcmdieaaDoor
open Go.RowKit
set_option linter.unusedVariables false

set_option maxRecDepth 100000 in
set_option maxHeartbeats 1000000 in
theorem numbers_walk (m z : Int) (a0 : Option Addr) (n c : Nat) (l : List UInt8) (w : World) (G : Handle w)
    (m1 : -9223372036854775808 ≤ m) (m2 : m ≤ 9223372036854775807) (z1 : -9223372036854775808 ≤ z) (z2 : z ≤ 9223372036854775807) (R : Row w a0 n l) (hn : n ≤ 140737488351232) :
    Calls Tryd.prog 4 #[.int .i64 m, .int .i64 z, .slice a0 n c] w fun e w' => e = .returned (.bool true) ∧ Below w.heap.size w w' := by
  go_enter Tryd.func4, Tryd.ntmps4
  go_wp2_with fail
  by_cases hp : putOk m z = true
  · obtain ⟨k, rfl⟩ : ∃ k : Nat, z = (k : Int) := Int.eq_ofNat_of_zero_le (by unfold putOk at hp; rw [decide_eq_true_iff] at hp; omega)
    have hk8 := (putOk_iff m k hp).2.1
    refine (rput_some m k _ m2 hp).mono ?_
    rintro e w1 ⟨⟨g1, rfl, _, r1⟩, B1⟩
    go_wp2_with fail
    refine (put_some m k _ m2 hp).mono ?_
    rintro e w2 ⟨⟨g2, rfl, _, r2⟩, hb2⟩
    have B2 := below_trans B1 hb2
    have r1 := r1.below hb2
    clear B1 hb2 hp
    go_wp2_with fail
    refine (error_nil 0 _).mono ?_
    rintro e w3 ⟨rfl, hb3⟩
    rw [show decide ((0 : Int) = 0) = true from rfl]
    have B3 := below_trans B2 hb3
    have r1 := r1.below hb3
    have r2 := r2.below hb3
    clear B2 hb3
    go_wp2_with fail
    refine (bytes_any _ _ _ _ _ _ _ _ _ r2 r1 (by omega)).mono ?_
    rintro e w4 ⟨rfl, q4, rfl⟩
    rw [decide_eq_true rfl]
    have B4 := below_trans B3 (below_drewN w3 q4)
    generalize w3.drewN q4 = w4 at *
    clear B3 r1 r2
    go_wp2_with fail
    have R4 := R.below B4
    by_cases hk : numOk l = true
    · refine (rnum_some _ _ _ l _ R4 hk).mono ?_
      rintro e w5 ⟨rfl, rfl⟩
      go_wp2_with fail
      refine (num_some _ _ _ l _ R4 hk).mono ?_
      rintro e w6 ⟨rfl, rfl⟩
      go_wp2_with fail
      refine (error_nil 0 _).mono ?_
      rintro e w7 ⟨rfl, hb7⟩
      rw [show decide ((0 : Int) = 0) = true from rfl]
      have B7 := below_trans B4 hb7
      clear B4 hb7 R4 hk
      go_wp2
      go_ret
      exact ⟨rfl, B7⟩
    · have hk : numOk l = false := by simpa using hk
      refine (rnum_none _ _ _ l _ R4 hk (by omega)).mono ?_
      rintro e w5 ⟨rfl, rfl⟩
      go_wp2_with fail
      refine (num_none _ _ _ l _ R4 hk (by omega)).mono ?_
      rintro e w6 ⟨rfl, rfl⟩
      go_wp2_with fail
      refine (error_errno 2 2 _ (G.below B4)).mono ?_
      rintro e w7 ⟨rfl, hb7⟩
      rw [show decide ((2 : Int) = 2) = true from rfl]
      have B7 := below_trans B4 hb7
      clear B4 hb7 R4 hk
      go_wp2
      go_ret
      exact ⟨rfl, B7⟩
  · have hp : putOk m z = false := by simpa using hp
    refine (rput_none m z _ m2 m1 z2 z1 hp).mono ?_
    rintro e w1 ⟨⟨v1, rfl⟩, B1⟩
    go_wp2_with fail
    refine (put_none m z _ m2 m1 z2 z1 hp).mono ?_
    rintro e w2 ⟨rfl, hb2⟩
    have B2 := below_trans B1 hb2
    clear B1 hb2 hp
    go_wp2_with fail
    refine (error_errno 2 2 _ (G.below B2)).mono ?_
    rintro e w3 ⟨rfl, hb3⟩
    rw [show decide ((2 : Int) = 2) = true from rfl]
    have B3 := below_trans B2 hb3
    clear B2 hb3
    go_wp2_with fail
    refine (bytes_any _ _ _ _ _ _ _ _ _ (Row.nil _) (Row.nil _) (by omega)).mono ?_
    rintro e w4 ⟨rfl, q4, rfl⟩
    rw [decide_eq_true rfl]
    have B4 := below_trans B3 (below_drewN w3 q4)
    generalize w3.drewN q4 = w4 at *
    clear B3
    go_wp2_with fail
    have R4 := R.below B4
    by_cases hk : numOk l = true
    · refine (rnum_some _ _ _ l _ R4 hk).mono ?_
      rintro e w5 ⟨rfl, rfl⟩
      go_wp2_with fail
      refine (num_some _ _ _ l _ R4 hk).mono ?_
      rintro e w6 ⟨rfl, rfl⟩
      go_wp2_with fail
      refine (error_nil 0 _).mono ?_
      rintro e w7 ⟨rfl, hb7⟩
      rw [show decide ((0 : Int) = 0) = true from rfl]
      have B7 := below_trans B4 hb7
      clear B4 hb7 R4 hk
      go_wp2
      go_ret
      exact ⟨rfl, B7⟩
    · have hk : numOk l = false := by simpa using hk
      refine (rnum_none _ _ _ l _ R4 hk (by omega)).mono ?_
      rintro e w5 ⟨rfl, rfl⟩
      go_wp2_with fail
      refine (num_none _ _ _ l _ R4 hk (by omega)).mono ?_
      rintro e w6 ⟨rfl, rfl⟩
      go_wp2_with fail
      refine (error_errno 2 2 _ (G.below B4)).mono ?_
      rintro e w7 ⟨rfl, hb7⟩
      rw [show decide ((2 : Int) = 2) = true from rfl]
      have B7 := below_trans B4 hb7
      clear B4 hb7 R4 hk
      go_wp2
      go_ret
      exact ⟨rfl, B7⟩
end Go.Proofs.YtdfncpljcmdieaaDoor
