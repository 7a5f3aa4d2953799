/- The contracts of math/bits.Len64 and Len (numbers below 256) and of tree.Split. -/
import Derived.Test.YtbpkhpkllokbhaaDoorInts
import Derived.Test.YtbpkhpkllokbhaaDoorMath
import Derived.Test.YtbpkhpkllokbhaaDoorTree
import Derived.Lib.BitFns
namespace Go.Proofs.YtbpkhpkllokbhaaDoor
open Go.RowKit
set_option linter.unusedVariables false
set_option linter.unusedSimpArgs false

theorem half_len : ∀ n, n < 257 → 2 ≤ n → halfT n = 2 ^ (Lib.bitLen (n - 1) - 1) ∧ 1 ≤ Lib.bitLen (n - 1) ∧ Lib.bitLen (n - 1) ≤ 8 := by decide +kernel
set_option maxRecDepth 100000 in
set_option maxHeartbeats 1000000 in
theorem wlen64_any (x : Int) (w : World) (h0 : 0 ≤ x) (h1 : x < 256) :
    Calls Tryd.prog 48 #[.int .u64 x] w fun e w' => e = .returned (.int .i64 (Lib.bitLen x.toNat : Int)) ∧ w' = w := by
  have l := Lib.bitLen_le8' x h0 (by omega)
  have HE : Hid (Lib.len8 x = (Lib.bitLen x.toNat : Int)) := Lib.len8_of x h0 (by omega)
  go_enter Tryd.func48, Tryd.ntmps48
  go_wp2
  go_ret
  refine ⟨ret_int ?_, rfl⟩
  have hE := HE.out
  unfold Lib.len8 at hE
  have hg : ∀ h, ((Lib.len8tab[x.toNat]'h).toNat : Int) = (Lib.bitLen x.toNat : Int) := fun h => by
    rw [getElem?_pos Lib.len8tab x.toNat h] at hE
    exact hE
  rw [hg]
  generalize Lib.bitLen x.toNat = L at *
  unfold wrap64
  omega
set_option maxRecDepth 100000 in
set_option maxHeartbeats 1000000 in
theorem wlen_any (x : Int) (w : World) (h0 : 0 ≤ x) (h1 : x < 256) :
    Calls Tryd.prog 40 #[.int .u64 x] w fun e w' => e = .returned (.int .i64 (Lib.bitLen x.toNat : Int)) ∧ w' = w := by
  go_enter Tryd.func40, Tryd.ntmps40
  go_wp2_with fail
  refine (wlen64_any x w h0 h1).mono ?_
  rintro e w' ⟨rfl, rfl⟩
  go_wp2
  go_ret
  exact ⟨rfl, rfl⟩
set_option maxRecDepth 100000 in
set_option maxHeartbeats 1000000 in
theorem wsplit_any (n : Nat) (w : World) (h2 : 2 ≤ n) (hn : n ≤ 256) :
    Calls Tryd.prog 28 #[.int .i64 (n : Int)] w fun e w' => e = .returned (.int .i64 (halfT n : Int)) ∧ w' = w := by
  obtain ⟨hE, hl1, hl8⟩ := half_len n (by omega) h2
  have HE : Hid (halfT n = 2 ^ (Lib.bitLen (n - 1) - 1)) := hE
  clear hE
  have g0 : ¬ (n : Int) < 2 := by omega
  have s1 : (n : Int) - 1 = ((n - 1 : Nat) : Int) := by omega
  have b1 : n - 1 < 256 := by omega
  generalize n - 1 = m at *
  have hm : ((m : Int)).toNat = m := by omega
  go_enter Tryd.func28, Tryd.ntmps28
  go_wp2_with fail
  refine (wlen_any (m : Int) w (by omega) (by omega)).mono ?_
  rintro e w' ⟨rfl, rfl⟩
  rw [hm]
  generalize Lib.bitLen m = L at *
  have : L = 1 ∨ L = 2 ∨ L = 3 ∨ L = 4 ∨ L = 5 ∨ L = 6 ∨ L = 7 ∨ L = 8 := by omega
  rcases this with rfl | rfl | rfl | rfl | rfl | rfl | rfl | rfl <;>
  · go_wp2_with fail
    go_ret
    refine ⟨ret_int ?_, rfl⟩
    rw [HE.out]
    rfl
end Go.Proofs.YtbpkhpkllokbhaaDoor
