/- Texts of this claim, joined: Wones, Wsplit, Wturn, Bytes. -/
import Derived.Test.YtbpkhpkllokbhaaDoorYPop
import Derived.Test.YtbpkhpkllokbhaaDoorJ01
import Derived.Deep.DeepCutAuto
import Derived.Test.YtbpkhpkllokbhaaDoorJ02
import Derived.Lib.BitFns
import Derived.Deep.QuietTactic
import Derived.BigQuiet
import Derived.Laws.AppendOwnNone
import Derived.Maps.AppendAt
/- The contracts of math/bits.OnesCount64 and OnesCount (numbers below 2^32). -/
namespace Go.Proofs.YtbpkhpkllokbhaaDoor
open Go.RowKit
set_option linter.unusedVariables false
set_option linter.unusedSimpArgs false

theorem pop_sum (a b y : Nat) (m : Nat) (ha : a < 4294967296) (hb : b < 4294967296) (hm : m < 18446744073709551616) (h : (a &&& m) + (b &&& m) = y) :
    IntKind.u64.wrap (bits .and .u64 (a : Int) (m : Int) + bits .and .u64 (b : Int) (m : Int)) = (y : Int) := by
  have h1 : a &&& m ≤ a := Nat.and_le_left
  have h2 : b &&& m ≤ b := Nat.and_le_left
  rw [u64_and_nat _ _ (by omega) hm, u64_and_nat _ _ (by omega) hm, IntKind.wrap_u64]
  omega
theorem i64_and_127 (t : Nat) (ht : t < 9223372036854775808) : bits .and .i64 (t : Int) 127 = ((t % 128 : Nat) : Int) := by
  rw [show (127 : Int) = ((127 : Nat) : Int) from rfl]
  show IntKind.i64.wrap ((BitVec.ofInt 64 (t : Int) &&& BitVec.ofInt 64 ((127 : Nat) : Int)).toNat : Int) = _
  rw [BitVec.toNat_and, ofInt_u64 _ (by omega), ofInt_u64 _ (by omega), nat_mask7, IntKind.wrap_i64]
  omega
set_option maxRecDepth 100000 in
set_option maxHeartbeats 1000000 in
theorem wones64_any (x : Nat) (w : World) (hx : x < 4294967296) :
    Calls Tryd.prog 32 #[.int .u64 (x : Int)] w fun e w' => e = .returned (.int .i64 (onesT x : Int)) ∧ w' = w := by
  obtain ⟨y, z, s, ey, hy, ez, hz, es, hs, hr⟩ := pop_way x hx
  have E1 := pop_sum (x / 2) x y 6148914691236517205 (by omega) hx (by omega) ey
  have E2 := pop_sum (y / 4) y z 3689348814741910323 (by omega) hy (by omega) ez
  have E3 : bits .and .u64 ((z : Int) / 16 + (z : Int)) (1085102592571150095 : Int) = (s : Int) := by
    rw [show (z : Int) / 16 + (z : Int) = ((z / 16 + z : Nat) : Int) by omega, show (1085102592571150095 : Int) = ((1085102592571150095 : Nat) : Int) from rfl, u64_and_nat _ _ (by omega) (by omega), es]
  rw [show ((x / 2 : Nat) : Int) = (x : Int) / 2 by omega, show ((6148914691236517205 : Nat) : Int) = 6148914691236517205 from rfl] at E1
  rw [show ((y / 4 : Nat) : Int) = (y : Int) / 4 by omega, show ((3689348814741910323 : Nat) : Int) = 3689348814741910323 from rfl] at E2
  have H1 : Hid (IntKind.u64.wrap (bits .and .u64 ((x : Int) / 2) 6148914691236517205 + bits .and .u64 (x : Int) 6148914691236517205) = (y : Int)) := E1
  have H2 : Hid (IntKind.u64.wrap (bits .and .u64 ((y : Int) / 4) 3689348814741910323 + bits .and .u64 (y : Int) 3689348814741910323) = (z : Int)) := E2
  have H3 : Hid (bits .and .u64 ((z : Int) / 16 + (z : Int)) (1085102592571150095 : Int) = (s : Int)) := E3
  have HO : Hid ((s + s / 256 + (s + s / 256) / 65536 + (s + s / 256 + (s + s / 256) / 65536) / 4294967296) % 128 = onesT x) := hr
  clear E1 E2 E3 hr ey ez es
  go_enter Tryd.func32, Tryd.ntmps32
  go_upto_region 2 with fail
  rw [H1.out]
  go_upto_region 3 with fail
  rw [H2.out]
  go_upto_region 4 with fail
  rw [H3.out]
  clear H1 H2 H3
  go_wp2_with fail
  go_ret
  refine ⟨ret_int ?_, rfl⟩
  have e : (s : Int) + (s : Int) / 256 + ((s : Int) + (s : Int) / 256) / 65536 + ((s : Int) + (s : Int) / 256 + ((s : Int) + (s : Int) / 256) / 65536) / 4294967296 = ((s + s / 256 + (s + s / 256) / 65536 + (s + s / 256 + (s + s / 256) / 65536) / 4294967296 : Nat) : Int) := by omega
  rw [e, i64_and_127 _ (by omega), HO.out]
set_option maxRecDepth 100000 in
set_option maxHeartbeats 1000000 in
theorem wones_any (x : Nat) (w : World) (hx : x < 4294967296) :
    Calls Tryd.prog 24 #[.int .u64 (x : Int)] w fun e w' => e = .returned (.int .i64 (onesT x : Int)) ∧ w' = w := by
  go_enter Tryd.func24, Tryd.ntmps24
  go_wp2_with fail
  refine (wones64_any x w hx).mono ?_
  rintro e w' ⟨rfl, rfl⟩
  go_wp2
  go_ret
  exact ⟨rfl, rfl⟩
end Go.Proofs.YtbpkhpkllokbhaaDoor
/- The contracts of math/bits.Len64 and Len (numbers below 256) and of tree.Split. -/
namespace Go.Proofs.YtbpkhpkllokbhaaDoor
open Go.RowKit
set_option linter.unusedVariables false
set_option linter.unusedSimpArgs false

theorem half_len : ∀ n, n < 257 → 2 ≤ n → halfT n = 2 ^ (Lib.bitLen (n - 1) - 1) ∧ 1 ≤ Lib.bitLen (n - 1) ∧ Lib.bitLen (n - 1) ≤ 8 := by decide +kernel
set_option maxRecDepth 100000 in
set_option maxHeartbeats 1000000 in
theorem wlen64_any (x : Int) (w : World) (h0 : 0 ≤ x) (h1 : x < 256) :
    Calls Tryd.prog 48 #[.int .u64 x] w fun e w' => e = .returned (.int .i64 (Lib.bitLen x.toNat : Int)) ∧ w' = w := by
  have l := Lib.bitLen_le8' x h0 (by omega)
  have HE : Hid (Lib.len8 x = (Lib.bitLen x.toNat : Int)) := Lib.len8_of x h0 (by omega)
  go_enter Tryd.func48, Tryd.ntmps48
  go_wp2
  go_ret
  refine ⟨ret_int ?_, rfl⟩
  have hE := HE.out
  unfold Lib.len8 at hE
  have hg : ∀ h, ((Lib.len8tab[x.toNat]'h).toNat : Int) = (Lib.bitLen x.toNat : Int) := fun h => by
    rw [getElem?_pos Lib.len8tab x.toNat h] at hE
    exact hE
  rw [hg]
  generalize Lib.bitLen x.toNat = L at *
  unfold wrap64
  omega
set_option maxRecDepth 100000 in
set_option maxHeartbeats 1000000 in
theorem wlen_any (x : Int) (w : World) (h0 : 0 ≤ x) (h1 : x < 256) :
    Calls Tryd.prog 40 #[.int .u64 x] w fun e w' => e = .returned (.int .i64 (Lib.bitLen x.toNat : Int)) ∧ w' = w := by
  go_enter Tryd.func40, Tryd.ntmps40
  go_wp2_with fail
  refine (wlen64_any x w h0 h1).mono ?_
  rintro e w' ⟨rfl, rfl⟩
  go_wp2
  go_ret
  exact ⟨rfl, rfl⟩
set_option maxRecDepth 100000 in
set_option maxHeartbeats 1000000 in
theorem wsplit_any (n : Nat) (w : World) (h2 : 2 ≤ n) (hn : n ≤ 256) :
    Calls Tryd.prog 28 #[.int .i64 (n : Int)] w fun e w' => e = .returned (.int .i64 (halfT n : Int)) ∧ w' = w := by
  obtain ⟨hE, hl1, hl8⟩ := half_len n (by omega) h2
  have HE : Hid (halfT n = 2 ^ (Lib.bitLen (n - 1) - 1)) := hE
  clear hE
  have g0 : ¬ (n : Int) < 2 := by omega
  have s1 : (n : Int) - 1 = ((n - 1 : Nat) : Int) := by omega
  have b1 : n - 1 < 256 := by omega
  generalize n - 1 = m at *
  have hm : ((m : Int)).toNat = m := by omega
  go_enter Tryd.func28, Tryd.ntmps28
  go_wp2_with fail
  refine (wlen_any (m : Int) w (by omega) (by omega)).mono ?_
  rintro e w' ⟨rfl, rfl⟩
  rw [hm]
  generalize Lib.bitLen m = L at *
  have : L = 1 ∨ L = 2 ∨ L = 3 ∨ L = 4 ∨ L = 5 ∨ L = 6 ∨ L = 7 ∨ L = 8 := by omega
  rcases this with rfl | rfl | rfl | rfl | rfl | rfl | rfl | rfl <;>
  · go_wp2_with fail
    go_ret
    refine ⟨ret_int ?_, rfl⟩
    rw [HE.out]
    rfl
end Go.Proofs.YtbpkhpkllokbhaaDoor
/- The contract of sha.turn: a word turned down. -/
namespace Go.Proofs.YtbpkhpkllokbhaaDoor
open Go.RowKit
set_option linter.unusedVariables false
set_option linter.unusedSimpArgs false

/-! bit operations of a word of 32 bits -/
theorem ofInt_u32 (a : Nat) (h : a < 4294967296) : (BitVec.ofInt 32 (a : Int)).toNat = a := by
  rw [BitVec.ofInt_natCast, BitVec.toNat_ofNat]
  omega
theorem wrap_u32_in (n : Nat) (h : n < 4294967296) : IntKind.u32.wrap (n : Int) = n := by
  simp only [IntKind.wrap, IntKind.bits, IntKind.signed, Bool.false_and]
  rw [if_neg (by simp)]
  omega
theorem u32_and_nat (a b : Nat) (ha : a < 4294967296) (hb : b < 4294967296) : bits .and .u32 (a : Int) (b : Int) = ((a &&& b : Nat) : Int) := by
  have hx : a &&& b < 2 ^ 32 := Nat.and_lt_two_pow _ (by omega)
  show IntKind.u32.wrap ((BitVec.ofInt 32 (a : Int) &&& BitVec.ofInt 32 (b : Int)).toNat : Int) = _
  rw [BitVec.toNat_and, ofInt_u32 a ha, ofInt_u32 b hb, wrap_u32_in _ (by omega)]
theorem u32_or_nat (a b : Nat) (ha : a < 4294967296) (hb : b < 4294967296) : bits .or .u32 (a : Int) (b : Int) = ((a ||| b : Nat) : Int) := by
  have hx : a ||| b < 2 ^ 32 := Nat.or_lt_two_pow (by omega) (by omega)
  show IntKind.u32.wrap ((BitVec.ofInt 32 (a : Int) ||| BitVec.ofInt 32 (b : Int)).toNat : Int) = _
  rw [BitVec.toNat_or, ofInt_u32 a ha, ofInt_u32 b hb, wrap_u32_in _ (by omega)]
theorem u32_xor_nat (a b : Nat) (ha : a < 4294967296) (hb : b < 4294967296) : bits .xor .u32 (a : Int) (b : Int) = ((a ^^^ b : Nat) : Int) := by
  have hx : a ^^^ b < 2 ^ 32 := Nat.xor_lt_two_pow (by omega) (by omega)
  show IntKind.u32.wrap ((BitVec.ofInt 32 (a : Int) ^^^ BitVec.ofInt 32 (b : Int)).toNat : Int) = _
  rw [BitVec.toNat_xor, ofInt_u32 a ha, ofInt_u32 b hb, wrap_u32_in _ (by omega)]

theorem and31 : ∀ n : Nat, n < 32 → 1 ≤ n → bits BinOp.and IntKind.u64 (IntKind.u64.wrap (-(n : Int))) 31 = ((32 - n : Nat) : Int) := by decide +kernel
theorem rot_eq (x n : Nat) (hx : x < 4294967296) (h1 : 1 ≤ n) (h2 : n ≤ 31) : bits .or .u32 ((x : Int) * 2 ^ (32 - n) % 4294967296) ((x : Int) / 2 ^ (32 - (32 - n))) = ((rotr x n : Nat) : Int) := by
  have e0 : 32 - (32 - n) = n := by omega
  have e1 : (x : Int) / 2 ^ n = ((x >>> n : Nat) : Int) := by rw [Nat.shiftRight_eq_div_pow, Int.natCast_ediv, Int.natCast_pow]; rfl
  have e2 : (x : Int) * 2 ^ (32 - n) % 4294967296 = ((x <<< (32 - n) &&& 4294967295 : Nat) : Int) := by rw [and_all, Nat.shiftLeft_eq, Int.natCast_emod, Int.natCast_mul, Int.natCast_pow]; rfl
  have hs := shr_lt32 n hx
  have hc : x <<< (32 - n) &&& 4294967295 < 4294967296 := by rw [and_all]; omega
  rw [e0, e1, e2, u32_or_nat _ _ hc hs, Nat.or_comm]
  rfl

set_option maxRecDepth 100000 in
set_option maxHeartbeats 400000 in
theorem wrot_any (x n : Nat) (w : World) (hx : x < 4294967296) (h1 : 1 ≤ n) (h2 : n ≤ 31) :
    Calls Tryd.prog 51 #[.int .u32 x, .int .i64 (-(n : Int))] w fun e w' => e = .returned (.int .u32 (rotr x n : Nat)) ∧ w' = w := by
  have he := and31 n (by omega) h1
  go_enter Tryd.func51, Tryd.ntmps51
  go_wp2
  go_ret
  exact ⟨ret_int (rot_eq x n hx h1 h2), rfl⟩
set_option maxRecDepth 100000 in
theorem wturn_any (x n : Nat) (z : Int) (w : World) (hx : x < 4294967296) (hz : z = (n : Int)) (h1 : 1 ≤ n) (h2 : n ≤ 31) :
    Calls Tryd.prog 50 #[.int .u32 x, .int .i64 z] w fun e w' => e = .returned (.int .u32 (rotr x n : Nat)) ∧ w' = w := by
  subst hz
  go_enter Tryd.func50, Tryd.ntmps50
  go_wp2_with fail
  refine (wrot_any x n _ hx h1 h2).mono ?_
  rintro e w' ⟨rfl, rfl⟩
  go_wp2
  go_ret
  exact ⟨rfl, rfl⟩
theorem wturn_z (x : Nat) (z : Int) (w : World) (hx : x < 4294967296) (h1 : 1 ≤ z) (h2 : z ≤ 31) :
    Calls Tryd.prog 50 #[.int .u32 x, .int .i64 z] w fun e w' => e = .returned (.int .u32 (rotr x z.toNat : Nat)) ∧ ∃ q, w' = w.drewN q :=
  (wturn_any x z.toNat z w hx (by omega) (by omega) (by omega)).mono fun e w' h => ⟨h.1, 0, h.2⟩
/-! the sums of turned words -/
theorem wxor3 {a b c : Nat} (ha : a < 4294967296) (hb : b < 4294967296) (hc : c < 4294967296) : bits .xor .u32 (bits .xor .u32 (a : Int) (b : Int)) (c : Int) = ((a ^^^ b ^^^ c : Nat) : Int) := by
  have hx := xor_lt32 ha hb
  rw [u32_xor_nat _ _ ha hb, u32_xor_nat _ _ hx hc]
theorem wshr3 (x : Nat) : (x : Int) / (8 : Int) = ((x >>> 3 : Nat) : Int) := by rw [Nat.shiftRight_eq_div_pow]; rfl
theorem wshr10 (x : Nat) : (x : Int) / (1024 : Int) = ((x >>> 10 : Nat) : Int) := by rw [Nat.shiftRight_eq_div_pow]; rfl
theorem wss0_eq {x : Nat} (h : x < 4294967296) : bits .xor .u32 (bits .xor .u32 ((rotr x 7 : Nat) : Int) ((rotr x 18 : Nat) : Int)) ((x : Int) / (8 : Int)) = ((ss0 x : Nat) : Int) := by
  rw [wshr3, wxor3 (rotr_lt _ _ h) (rotr_lt _ _ h) (shr_lt32 _ h)]; rfl
theorem wss1_eq {x : Nat} (h : x < 4294967296) : bits .xor .u32 (bits .xor .u32 ((rotr x 17 : Nat) : Int) ((rotr x 19 : Nat) : Int)) ((x : Int) / (1024 : Int)) = ((ss1 x : Nat) : Int) := by
  rw [wshr10, wxor3 (rotr_lt _ _ h) (rotr_lt _ _ h) (shr_lt32 _ h)]; rfl
theorem wbs0_eq {x : Nat} (h : x < 4294967296) : bits .xor .u32 (bits .xor .u32 ((rotr x 2 : Nat) : Int) ((rotr x 13 : Nat) : Int)) ((rotr x 22 : Nat) : Int) = ((bs0 x : Nat) : Int) := by
  rw [wxor3 (rotr_lt _ _ h) (rotr_lt _ _ h) (rotr_lt _ _ h)]; rfl
theorem wbs1_eq {x : Nat} (h : x < 4294967296) : bits .xor .u32 (bits .xor .u32 ((rotr x 6 : Nat) : Int) ((rotr x 11 : Nat) : Int)) ((rotr x 25 : Nat) : Int) = ((bs1 x : Nat) : Int) := by
  rw [wxor3 (rotr_lt _ _ h) (rotr_lt _ _ h) (rotr_lt _ _ h)]; rfl
theorem wch_eq {e f g : Nat} (he : e < 4294967296) (hf : f < 4294967296) (hg : g < 4294967296) : bits .xor .u32 (bits .and .u32 (e : Int) (f : Int)) (bits .and .u32 (4294967295 - (e : Int)) (g : Int)) = ((chW e f g : Nat) : Int) := by
  have e1 : (4294967295 - (e : Int)) = ((4294967295 - e : Nat) : Int) := by omega
  rw [e1, u32_and_nat _ _ he hf, u32_and_nat _ _ (by omega) hg, u32_xor_nat _ _ (and_lt32 hf) (and_lt32 hg)]
  rfl
theorem wmj_eq {a b c : Nat} (ha : a < 4294967296) (hb : b < 4294967296) (hc : c < 4294967296) : bits .xor .u32 (bits .xor .u32 (bits .and .u32 (a : Int) (b : Int)) (bits .and .u32 (a : Int) (c : Int))) (bits .and .u32 (b : Int) (c : Int)) = ((mjW a b c : Nat) : Int) := by
  rw [u32_and_nat _ _ ha hb, u32_and_nat _ _ ha hc, u32_and_nat _ _ hb hc, wxor3 (and_lt32 hb) (and_lt32 hc) (and_lt32 hc)]
  rfl
theorem wnot_eq {x : Nat} (h : x < 4294967296) : bits .xor .u32 (if IntKind.u32.signed = true then -1 else IntKind.u32.max) (x : Int) = 4294967295 - (x : Int) := by
  have e : (if IntKind.u32.signed = true then (-1 : Int) else IntKind.u32.max) = ((4294967295 : Nat) : Int) := by rfl
  rw [e, u32_xor_nat _ _ (by omega) h]
  have : 4294967295 ^^^ x = 4294967295 - x := by
    have h1 : (BitVec.allOnes 32 ^^^ BitVec.ofNat 32 x) = ~~~ (BitVec.ofNat 32 x) := by rw [BitVec.allOnes_xor]
    have h2 := congrArg BitVec.toNat h1
    rw [BitVec.toNat_xor, BitVec.toNat_not, BitVec.toNat_allOnes, BitVec.toNat_ofNat, Nat.mod_eq_of_lt (by omega)] at h2
    simpa using h2
  rw [this]
  omega
end Go.Proofs.YtbpkhpkllokbhaaDoor
/- Rows of bytes that grow by append. -/
namespace Go.Proofs.YtbpkhpkllokbhaaDoor
open Go.RowKit
set_option linter.unusedVariables false
set_option linter.unusedSimpArgs false

def cellsB (l : List UInt8) : List Value := l.map fun b => Value.int .u8 (b.toNat : Int)
theorem cellsB_append (l r : List UInt8) : cellsB (l ++ r) = cellsB l ++ cellsB r := by simp [cellsB]
theorem cellsB_length (l : List UInt8) : (cellsB l).length = l.length := by simp [cellsB]
theorem cellsB_at (l : List UInt8) (i : Nat) (h : i < l.length) : (cellsB l)[i]? = some (.int .u8 (nth l i)) := by
  unfold cellsB nth
  simp [List.getElem?_eq_getElem h]
theorem cellsB_one (l : List UInt8) : ∀ u ∈ cellsB l, u.oneCell' = true := by
  intro u hu
  obtain ⟨i, _, rfl⟩ := List.mem_map.1 hu
  rfl
/-- The call's own slice of bytes v reads as l. -/
def OwnL (w : World) (B : Nat) (v : Value) (l : List UInt8) : Prop := w.ownsRow B 5 1 v l.length (cellsB l)
theorem OwnL.form {w : World} {B : Nat} {v : Value} {l : List UInt8} (h : OwnL w B v l) : ∃ a cap, v = .slice a l.length cap ∧ Row w a l.length l ∧ l.length ≤ cap := by
  rcases h.2 with ⟨rfl, h0⟩ | ⟨g, cap, cur, rfl, h1, h2, h3, _⟩
  · exact ⟨none, 0, by rw [h0], ⟨rfl, .inl h0⟩, by omega⟩
  · refine ⟨_, cap, rfl, ⟨rfl, .inr ⟨g, 0, rfl, fun i hi => ?_⟩⟩, h3⟩
    rw [Nat.zero_add, World.ownsRow.cellAt h i (by omega), cellsB_at l i hi]
theorem OwnL.formSome {w : World} {B : Nat} {v : Value} {l : List UInt8} (h : OwnL w B v l) (hl : 0 < l.length) : ∃ g cap, v = .slice (some ⟨g, 0, none⟩) l.length cap ∧ Row w (some ⟨g, 0, none⟩) l.length l ∧ l.length ≤ cap ∧ B ≤ g ∧ g < w.heap.size := by
  have hlt := World.ownsRow.lt h
  rcases h.2 with ⟨rfl, h0⟩ | ⟨g, cap, cur, rfl, h1, h2, h3, _⟩
  · omega
  · refine ⟨g, cap, rfl, ⟨rfl, .inr ⟨g, 0, rfl, fun i hi => ?_⟩⟩, h3, (hlt g rfl).1, (hlt g rfl).2⟩
    rw [Nat.zero_add, World.ownsRow.cellAt h i (by omega), cellsB_at l i hi]
theorem OwnL.nil (w : World) (B : Nat) : OwnL w B (.slice none 0 0) [] := World.ownsRow_nil _ _ _ _
theorem OwnL.lit0 (w : World) (B : Nat) (hB : B ≤ w.heap.size) : OwnL (w.alloc (.cells #[] 5)) B (.slice (some ⟨w.heap.size, 0, none⟩) 0 0) [] :=
  World.ownsRow_lit w #[] 0 hB (by unfold maxLen; omega) rfl
theorem OwnL.lit0' (w : World) (B s : Nat) (hs : w.heap.size = s) (hB : B ≤ s) : OwnL (w.alloc (.cells #[] 5)) B (.slice (some ⟨s, 0, none⟩) 0 0) [] := by
  subst hs
  exact OwnL.lit0 w B hB
theorem OwnL.drewN {w : World} {B : Nat} {v : Value} {l : List UInt8} (h : OwnL w B v l) (q : Nat) : OwnL (w.drewN q) B v l := by
  induction q with
  | zero => exact h
  | succ q ih => exact World.ownsRow.drew ih
theorem OwnL.below {w w' : World} {B : Nat} {v : Value} {l : List UInt8} (h : OwnL w B v l) (hb : Below w.heap.size w w') : OwnL w' B v l := by
  rcases h.2 with ⟨h1, h0⟩ | ⟨g, cap, cur, e1, e2, e3, e4⟩
  · exact ⟨h.1, .inl ⟨h1, h0⟩⟩
  · have hg : g < w.heap.size := (World.ownsRow.lt h g (by rw [e1]; rfl)).2
    exact ⟨h.1, .inr ⟨g, cap, cur, e1, e2, (hb.block g hg).trans e3, e4⟩⟩

theorem OwnL.grown {w w0 w' : World} {B B0 : Nat} {v : Value} {l : List UInt8} (h : OwnL w B v l) (hb : Below B0 w0 w) (hg : w.grownBy w' v.ownBlock) (h0 : B0 ≤ B) (hs : B0 ≤ w.heap.size) : Below B0 w0 w' :=
  hb.grown hg hs (fun k hk => Nat.le_trans h0 (World.ownsRow.lt h k hk).1)
/-- Two slices that lie apart. -/
def Sep (v v' : Value) : Prop := v.ownBlock = none ∨ v'.ownBlock = none ∨ v.ownBlock ≠ v'.ownBlock
theorem Sep.symm {v v' : Value} (h : Sep v v') : Sep v' v := by
  rcases h with h | h | h
  · exact .inr (.inl h)
  · exact .inl h
  · exact .inr (.inr fun e => h e.symm)
theorem OwnL.other {w w1 : World} {B : Nat} {v v' : Value} {l' : List UInt8} (h' : OwnL w B v' l') (hg : w.grownBy w1 v.ownBlock) (hs : Sep v v') : OwnL w1 B v' l' := by
  refine World.ownsRow.kept h' hg ?_
  rcases hs with h | h | h
  · by_cases hn : v'.ownBlock = none
    · exact .inl hn
    · rw [h]; exact .inr hn
  · exact .inl h
  · exact .inr fun e => h e.symm
theorem Sep.next {w : World} {B : Nat} {v v1 v' : Value} {l' : List UInt8} (hs : Sep v v') (hat : v1.ownBlock = v.ownBlock ∨ v1.ownBlock = some w.heap.size) (h' : OwnL w B v' l') : Sep v1 v' := by
  rcases hat with h | h
  · unfold Sep at *; rw [h]; exact hs
  · by_cases hn : v'.ownBlock = none
    · exact .inr (.inl hn)
    · refine .inr (.inr fun e => ?_)
      have := (World.ownsRow.lt h' w.heap.size (by rw [← e, h])).2
      omega
section
variable {P : Program}
theorem run_append_nothing (w : World) (base : Nat) (t ty e : TypeId) (i : TypeInfo) (size : Nat) (ht : P.underlying t = some (.slice e)) (hi : P.info? e = some i)
    (v : Value) (n c : Nat) (xs : List Value) (hown : w.ownsRow base e size v n xs) :
    (Builtin.append_ #[t, t] ty #[v, .slice none 0 c]).run P w = .ok v w := by
  rcases hown.2 with ⟨rfl, rfl⟩ | ⟨g, cap, cur, rfl, _, _, hnc, _⟩
  · simp [Builtin.append_, run_underlying ht, sizeOf, typeInfo, hi, Builtin.lenOf, Builtin.firstCells]
  · simp [Builtin.append_, run_underlying ht, sizeOf, typeInfo, hi, Builtin.lenOf, Builtin.firstCells, hnc, storeCells]

/-- 'append(v, x...)', v the call's own row of bytes, x any slice of bytes. -/
theorem wpList_append_bytes_at {w : World} {ops : Array Oper} {rest : List Oper} {o : Oper} {a : Act} {Q : Exit → Act → World → Prop} (hgd : o.guard = none) (s x : Operand) (t : TypeId)
    (ho : o.op = .call { callee := .builtin .append, args := #[s, x], argTypes := #[t, t] })
    (base : Nat) (i : TypeInfo) (ht : P.underlying t = some (.slice 5)) (hi : P.info? 5 = some i) (hz : i.zero = some (.int .u8 0)) (hsize : i.size = 1) (hby : i.bytes = 1)
    (v : Value) (l : List UInt8) (hs : a.eval s = v) (hown : OwnL w base v l)
    (ad : Option Addr) (n c : Nat) (r : List UInt8) (hx : a.eval x = .slice ad n c) (hr : Row w ad n r) (h47 : l.length + n ≤ 140737488355328) (hbase : base ≤ w.heap.size)
    (h : ∀ v' w', OwnL w' base v' (l ++ r) → w.grownBy w' v.ownBlock → (v'.ownBlock = v.ownBlock ∨ v'.ownBlock = some w.heap.size) → wpList P ops Q rest (a.put o.dst v') w') : wpList P ops Q (o :: rest) a w := by
  obtain ⟨hl, hr⟩ := hr
  cases ad with
  | none =>
    have h0 : n = 0 := by
      rcases hr with h0 | ⟨b, o, h1, _⟩
      · exact h0
      · cases h1
    subst h0
    have hr0 : r = [] := List.eq_nil_of_length_eq_zero hl
    subst hr0
    have hrun := run_append_nothing (P := P) w base t o.type 5 i 1 ht hi v l.length c (cellsB l) hown
    refine wpList_plain hgd fun K hK' => ?_
    unfold Oper.wp
    simp [execOp, ho, resolve, invoke, builtin, hs, hx, hrun, Result.andThen]
    exact hK' _ _ (h v w (by rw [List.append_nil]; exact hown) (World.grownBy.refl _ _) (.inl rfl))
  | some ad =>
    refine wpList_append_own_at w hgd s x t ho base 5 i (.int .u8 0) 1 1 ht hi hz hsize hby rfl (by decide) v l.length (cellsB l) hs hown ad n c (cellsB r) hx (by rw [cellsB_length, hl, Nat.mul_one]) ?_ (cellsB_one r) (by unfold maxLen; omega) (by omega) hbase ?_
    · intro j u hj
      have hj' : j < r.length := by have := (List.getElem?_eq_some_iff.1 hj).1; rwa [cellsB_length] at this
      rcases hr with h0 | ⟨b, off, h1, hc⟩
      · omega
      · cases h1
        rw [Go.WideShapes.add_plain, hc j (by omega), ← cellsB_at r j hj', hj]
    · intro v' w' hown' hgrow _ hat
      refine h v' w' ?_ hgrow hat
      unfold OwnL
      rw [List.length_append, cellsB_append, hl]
      exact hown'
/-- 'append(v, x...)', v the call's own row of bytes, x any slice of bytes. -/
theorem wpList_append_bytes {w : World} {ops : Array Oper} {rest : List Oper} {o : Oper} {a : Act} {Q : Exit → Act → World → Prop} (hgd : o.guard = none) (s x : Operand) (t : TypeId)
    (ho : o.op = .call { callee := .builtin .append, args := #[s, x], argTypes := #[t, t] })
    (base : Nat) (i : TypeInfo) (ht : P.underlying t = some (.slice 5)) (hi : P.info? 5 = some i) (hz : i.zero = some (.int .u8 0)) (hsize : i.size = 1) (hby : i.bytes = 1)
    (v : Value) (l : List UInt8) (hs : a.eval s = v) (hown : OwnL w base v l)
    (ad : Option Addr) (n c : Nat) (r : List UInt8) (hx : a.eval x = .slice ad n c) (hr : Row w ad n r) (h47 : l.length + n ≤ 140737488355328) (hbase : base ≤ w.heap.size)
    (h : ∀ v' w', OwnL w' base v' (l ++ r) → w.grownBy w' v.ownBlock → wpList P ops Q rest (a.put o.dst v') w') : wpList P ops Q (o :: rest) a w :=
  wpList_append_bytes_at hgd s x t ho base i ht hi hz hsize hby v l hs hown ad n c r hx hr h47 hbase fun v' w' h1 h2 _ => h v' w' h1 h2
end
end Go.Proofs.YtbpkhpkllokbhaaDoor
