/- The contracts of math/bits.OnesCount64 and OnesCount (numbers below 2^32). -/
import Derived.Test.YtbpkhpkllokbhaaDoorPop
import Derived.Test.YtbpkhpkllokbhaaDoorInts
import Derived.Test.YtbpkhpkllokbhaaDoorMath
import Derived.Deep.DeepCutAuto
namespace Go.Proofs.YtbpkhpkllokbhaaDoor
open Go.RowKit
set_option linter.unusedVariables false
set_option linter.unusedSimpArgs false

theorem pop_sum (a b y : Nat) (m : Nat) (ha : a < 4294967296) (hb : b < 4294967296) (hm : m < 18446744073709551616) (h : (a &&& m) + (b &&& m) = y) :
    IntKind.u64.wrap (bits .and .u64 (a : Int) (m : Int) + bits .and .u64 (b : Int) (m : Int)) = (y : Int) := by
  have h1 : a &&& m ≤ a := Nat.and_le_left
  have h2 : b &&& m ≤ b := Nat.and_le_left
  rw [u64_and_nat _ _ (by omega) hm, u64_and_nat _ _ (by omega) hm, IntKind.wrap_u64]
  omega
theorem i64_and_127 (t : Nat) (ht : t < 9223372036854775808) : bits .and .i64 (t : Int) 127 = ((t % 128 : Nat) : Int) := by
  rw [show (127 : Int) = ((127 : Nat) : Int) from rfl]
  show IntKind.i64.wrap ((BitVec.ofInt 64 (t : Int) &&& BitVec.ofInt 64 ((127 : Nat) : Int)).toNat : Int) = _
  rw [BitVec.toNat_and, ofInt_u64 _ (by omega), ofInt_u64 _ (by omega), nat_mask7, IntKind.wrap_i64]
  omega
set_option maxRecDepth 100000 in
set_option maxHeartbeats 1000000 in
theorem wones64_any (x : Nat) (w : World) (hx : x < 4294967296) :
    Calls Tryd.prog 32 #[.int .u64 (x : Int)] w fun e w' => e = .returned (.int .i64 (onesT x : Int)) ∧ w' = w := by
  obtain ⟨y, z, s, ey, hy, ez, hz, es, hs, hr⟩ := pop_way x hx
  have E1 := pop_sum (x / 2) x y 6148914691236517205 (by omega) hx (by omega) ey
  have E2 := pop_sum (y / 4) y z 3689348814741910323 (by omega) hy (by omega) ez
  have E3 : bits .and .u64 ((z : Int) / 16 + (z : Int)) (1085102592571150095 : Int) = (s : Int) := by
    rw [show (z : Int) / 16 + (z : Int) = ((z / 16 + z : Nat) : Int) by omega, show (1085102592571150095 : Int) = ((1085102592571150095 : Nat) : Int) from rfl, u64_and_nat _ _ (by omega) (by omega), es]
  rw [show ((x / 2 : Nat) : Int) = (x : Int) / 2 by omega, show ((6148914691236517205 : Nat) : Int) = 6148914691236517205 from rfl] at E1
  rw [show ((y / 4 : Nat) : Int) = (y : Int) / 4 by omega, show ((3689348814741910323 : Nat) : Int) = 3689348814741910323 from rfl] at E2
  have H1 : Hid (IntKind.u64.wrap (bits .and .u64 ((x : Int) / 2) 6148914691236517205 + bits .and .u64 (x : Int) 6148914691236517205) = (y : Int)) := E1
  have H2 : Hid (IntKind.u64.wrap (bits .and .u64 ((y : Int) / 4) 3689348814741910323 + bits .and .u64 (y : Int) 3689348814741910323) = (z : Int)) := E2
  have H3 : Hid (bits .and .u64 ((z : Int) / 16 + (z : Int)) (1085102592571150095 : Int) = (s : Int)) := E3
  have HO : Hid ((s + s / 256 + (s + s / 256) / 65536 + (s + s / 256 + (s + s / 256) / 65536) / 4294967296) % 128 = onesT x) := hr
  clear E1 E2 E3 hr ey ez es
  go_enter Tryd.func32, Tryd.ntmps32
  go_upto_region 2 with fail
  rw [H1.out]
  go_upto_region 3 with fail
  rw [H2.out]
  go_upto_region 4 with fail
  rw [H3.out]
  clear H1 H2 H3
  go_wp2_with fail
  go_ret
  refine ⟨ret_int ?_, rfl⟩
  have e : (s : Int) + (s : Int) / 256 + ((s : Int) + (s : Int) / 256) / 65536 + ((s : Int) + (s : Int) / 256 + ((s : Int) + (s : Int) / 256) / 65536) / 4294967296 = ((s + s / 256 + (s + s / 256) / 65536 + (s + s / 256 + (s + s / 256) / 65536) / 4294967296 : Nat) : Int) := by omega
  rw [e, i64_and_127 _ (by omega), HO.out]
set_option maxRecDepth 100000 in
set_option maxHeartbeats 1000000 in
theorem wones_any (x : Nat) (w : World) (hx : x < 4294967296) :
    Calls Tryd.prog 24 #[.int .u64 (x : Int)] w fun e w' => e = .returned (.int .i64 (onesT x : Int)) ∧ w' = w := by
  go_enter Tryd.func24, Tryd.ntmps24
  go_wp2_with fail
  refine (wones64_any x w hx).mono ?_
  rintro e w' ⟨rfl, rfl⟩
  go_wp2
  go_ret
  exact ⟨rfl, rfl⟩
end Go.Proofs.YtbpkhpkllokbhaaDoor
