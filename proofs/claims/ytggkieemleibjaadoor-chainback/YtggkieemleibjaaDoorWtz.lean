/- The contract of math/bits.TrailingZeros, for numbers from 1 to 1023. -/
import Derived.Test.YtggkieemleibjaaDoorChainm
import Derived.Test.YtggkieemleibjaaDoorInts
import Derived.Test.YtggkieemleibjaaDoorMath
namespace Go.Proofs.YtggkieemleibjaaDoor
open Go.RowKit
set_option linter.unusedVariables false
set_option linter.unusedSimpArgs false

/-- The library's table, as laid. -/
def dbW : List Nat := [0, 1, 56, 2, 57, 49, 28, 3, 61, 58, 42, 50, 38, 29, 17, 4, 62, 47, 59, 36, 45, 43, 51, 22, 53, 39, 33, 30, 24, 18, 12, 5, 63, 55, 48, 27, 60, 41, 37, 16, 46, 35, 44, 21, 52, 32, 23, 11, 54, 26, 40, 15, 34, 20, 31, 10, 25, 14, 19, 9, 13, 8, 7, 6]
def Db (w : World) : Prop := ∀ t, t < 64 → w.cell? ⟨2, t, none⟩ = some (.int .u8 ((at' dbW t : Nat) : Int))
theorem Db.below {w w' : World} (h : Db w) (hb : Below w.heap.size w w') : Db w' := fun t ht => by
  rw [hb.cell (p := ⟨2, t, none⟩) (cell_block (h t ht))]
  exact h t ht
def dbI (r : Nat) : Nat := (r &&& (18446744073709551616 - r)) * 285870213051353865 % 18446744073709551616 / 288230376151711744
theorem db_tz : ∀ r, r < 1024 → 0 < r → dbI r < 64 ∧ at' dbW (dbI r) = tzN 10 r := by decide +kernel

theorem wrap_u64 (a : Int) : IntKind.u64.wrap a = a % 18446744073709551616 := by
  simp only [IntKind.wrap, IntKind.bits, IntKind.signed, Bool.false_and]
  rfl
theorem u64_and_nat (a b : Nat) (ha : a < 18446744073709551616) (hb : b < 18446744073709551616) : bits .and .u64 (a : Int) (b : Int) = ((a &&& b : Nat) : Int) := by
  show IntKind.u64.wrap ((BitVec.ofInt 64 (a : Int) &&& BitVec.ofInt 64 (b : Int)).toNat : Int) = _
  rw [BitVec.toNat_and, ofInt_u64 _ (by omega), ofInt_u64 _ (by omega), wrap_u64]
  have : a &&& b ≤ a := Nat.and_le_left
  exact Int.emod_eq_of_lt (by omega) (by omega)
theorem db_idx (r : Nat) (hr : r < 1024) (h0 : 0 < r) : IntKind.u64.wrap (bits BinOp.and IntKind.u64 (r : Int) (IntKind.u64.wrap (-(r : Int))) * 285870213051353865) / 288230376151711744 = ((dbI r : Nat) : Int) := by
  have e1 : IntKind.u64.wrap (-(r : Int)) = ((18446744073709551616 - r : Nat) : Int) := by rw [wrap_u64]; omega
  rw [e1, u64_and_nat _ _ (by omega) (by omega), wrap_u64]
  unfold dbI
  generalize r &&& (18446744073709551616 - r) = z
  omega

set_option maxRecDepth 100000 in
set_option maxHeartbeats 1000000 in
theorem wtz64_core (r k idx : Nat) (w : World) (hx0 : ((r : Int) == 0) = false) (key : IntKind.u64.wrap (bits BinOp.and IntKind.u64 (r : Int) (IntKind.u64.wrap (-(r : Int))) * 285870213051353865) / 288230376151711744 = ((idx : Nat) : Int)) (hi : idx < 64) (hk : k < 64)
    (hcell : w.cell? ⟨2, idx, none⟩ = some (.int .u8 (k : Int))) :
    Calls Tryd.prog 27 #[.int .u64 (r : Int)] w fun e w' => e = .returned (.int .i64 ((k : Nat) : Int)) ∧ w' = w := by
  go_enter Tryd.func27, Tryd.ntmps27
  go_wp2_with (simp only [key])
  go_ret
  exact ⟨rfl, rfl⟩
theorem wtz64_any (r : Nat) (w : World) (Z : Db w) (h0 : 0 < r) (hr : r < 1024) :
    Calls Tryd.prog 27 #[.int .u64 (r : Int)] w fun e w' => e = .returned (.int .i64 ((tzN 10 r : Nat) : Int)) ∧ Below w.heap.size w w' := by
  obtain ⟨h64, htz⟩ := db_tz r hr h0
  have hcell := Z (dbI r) h64
  rw [htz] at hcell
  have hle := tz_le r hr h0
  refine (wtz64_core r (tzN 10 r) (dbI r) w (beq_eq_false_iff_ne.2 (by omega)) (db_idx r hr h0) h64 (by omega) hcell).mono ?_
  rintro e w' ⟨rfl, rfl⟩
  exact ⟨rfl, Below.refl _ _⟩
set_option maxRecDepth 100000 in
set_option maxHeartbeats 1000000 in
theorem wtz_any (r : Nat) (w : World) (Z : Db w) (h0 : 0 < r) (hr : r < 1024) :
    Calls Tryd.prog 20 #[.int .u64 (r : Int)] w fun e w' => e = .returned (.int .i64 ((tzN 10 r : Nat) : Int)) ∧ Below w.heap.size w w' := by
  have HZ : Hid (Db w) := Z
  clear Z
  go_enter Tryd.func20, Tryd.ntmps20
  go_wp2_with fail
  refine (wtz64_any r w HZ.out h0 hr).mono ?_
  rintro e w' ⟨rfl, hb⟩
  go_wp2
  go_ret
  exact ⟨rfl, hb⟩
end Go.Proofs.YtggkieemleibjaaDoor
