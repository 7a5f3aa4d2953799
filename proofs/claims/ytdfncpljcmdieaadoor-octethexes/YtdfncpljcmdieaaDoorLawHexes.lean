/- The walk of the law OctetHexes. -/
import Derived.Test.YtdfncpljcmdieaaDoorWbytes
import Derived.Test.YtdfncpljcmdieaaDoorWunhex
import Derived.Test.YtdfncpljcmdieaaDoorWhex
import Derived.Test.YtdfncpljcmdieaaDoorRunhex
import Derived.Test.YtdfncpljcmdieaaDoorRhex
import Derived.Test.YtdfncpljcmdieaaDoorTold
namespace Go.Proofs.YtdfncpljcmdieaaDoor
open Go.RowKit
set_option linter.unusedVariables false

set_option maxRecDepth 100000 in
set_option maxHeartbeats 1000000 in
theorem hexes_walk (a0 : Option Addr) (n c : Nat) (l : List UInt8) (s : ByteArray) (w : World) (G : Handle w) (R : Row w a0 n l) (hn : n ≤ 140737488351232) (hs : s.size ≤ 140737488351232) :
    Calls Tryd.prog 3 #[.slice a0 n c, .string s] w fun e w' => e = .returned (.bool true) ∧ Below w.heap.size w w' := by
  go_enter Tryd.func3, Tryd.ntmps3
  go_wp2_with fail
  refine (hex_any _ 1 1 [171] _ (Row.lit1 w 171 5) (by omega)).mono ?_
  rintro e w1 ⟨⟨s1, rfl, hs1⟩, hb1⟩
  obtain rfl : s1 = ⟨#[97, 98]⟩ := bs_inj (hs1.trans (by decide +kernel))
  have B1 : Below w.heap.size w w1 := below_trans ((Below.refl _ _).alloc (Nat.le_refl _) _) hb1
  have R1 := R.below B1
  clear hs1 hb1 R
  go_wp2_with fail
  refine (hex_any _ _ _ l _ R1 (by omega)).mono ?_
  rintro e w2 ⟨⟨s2, rfl, hs2⟩, hb2⟩
  have B2 := below_trans B1 hb2
  have R2 := R1.below hb2
  clear B1 R1 hb2
  go_wp2_with fail
  refine (rhex_any _ _ _ l _ R2 (by omega)).mono ?_
  rintro e w3 ⟨⟨s3, rfl, hs3⟩, q3, rfl⟩
  obtain rfl := bs_inj (hs2.trans hs3.symm)
  have B3 := below_trans B2 (below_drewN w2 q3)
  generalize w2.drewN q3 = w3 at *
  clear R2 B2 hs2 hs3
  go_wp2_with fail
  by_cases hu : unhOk (bs s) = true
  · refine (runhex_some s _ (by omega) hu).mono ?_
    rintro e w4 ⟨⟨a4, c4, rfl, r4⟩, hb4⟩
    have B4 := below_trans B3 hb4
    clear B3 hb4
    go_wp2_with fail
    refine (unhex_some s _ (by omega) hu).mono ?_
    rintro e w5 ⟨⟨g5, rfl, _, r5⟩, hb5⟩
    have B5 := below_trans B4 hb5
    have r4 := r4.below hb5
    clear B4 hb5 hu
    go_wp2_with fail
    refine (error_nil 0 _).mono ?_
    rintro e w6 ⟨rfl, hb6⟩
    rw [show decide ((0 : Int) = 0) = true from rfl]
    have B6 := below_trans B5 hb6
    have r4 := r4.below hb6
    have r5 := r5.below hb6
    clear B5 hb6
    go_wp2_with fail
    refine (bytes_any _ _ _ _ _ _ _ _ _ r5 r4 (by omega)).mono ?_
    rintro e w7 ⟨rfl, q7, rfl⟩
    rw [decide_eq_true rfl]
    go_wp2
    go_ret
    exact ⟨rfl, below_trans B6 (below_drewN _ _)⟩
  · have hu : unhOk (bs s) = false := by simpa using hu
    refine (runhex_none s _ (by omega) hu).mono ?_
    rintro e w4 ⟨⟨v4, rfl⟩, hb4⟩
    have B4 := below_trans B3 hb4
    clear B3 hb4
    go_wp2_with fail
    refine (unhex_none s _ (by omega) hu).mono ?_
    rintro e w5 ⟨rfl, hb5⟩
    have B5 := below_trans B4 hb5
    clear B4 hb5 hu
    go_wp2_with fail
    refine (error_errno 1 1 _ (G.below B5)).mono ?_
    rintro e w6 ⟨rfl, hb6⟩
    rw [show decide ((1 : Int) = 1) = true from rfl]
    have B6 := below_trans B5 hb6
    clear B5 hb6
    go_wp2_with fail
    refine (bytes_any _ _ _ _ _ _ _ _ _ (Row.nil _) (Row.nil _) (by omega)).mono ?_
    rintro e w7 ⟨rfl, q7, rfl⟩
    rw [decide_eq_true rfl]
    go_wp2
    go_ret
    exact ⟨rfl, below_trans B6 (below_drewN _ _)⟩
end Go.Proofs.YtdfncpljcmdieaaDoor
