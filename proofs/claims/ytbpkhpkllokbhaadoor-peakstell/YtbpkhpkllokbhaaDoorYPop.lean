/- How many bits are 1, told as math/bits.OnesCount64 reckons it: no theorem of the program yet. -/
import Derived.Test.YtbpkhpkllokbhaaDoorYPeaks
import Derived.Laws.BitsAllLaws
namespace Go.Proofs.YtbpkhpkllokbhaaDoor
set_option linter.unusedVariables false
set_option linter.unusedSimpArgs false

theorem and_byte (a b c d : Nat) (hb : b < 256) (hd : d < 256) : (a * 256 + b) &&& (c * 256 + d) = (a &&& c) * 256 + (b &&& d) := by
  have hbd : b &&& d < 2 ^ 8 := Nat.lt_of_le_of_lt Nat.and_le_left hb
  apply Nat.eq_of_testBit_eq
  intro j
  have e : ∀ x y : Nat, x * 256 + y = 2 ^ 8 * x + y := fun x y => by omega
  rw [e, e, e, Nat.testBit_and, Nat.testBit_two_pow_mul_add a hb, Nat.testBit_two_pow_mul_add c hd, Nat.testBit_two_pow_mul_add _ hbd]
  by_cases h : j < 8
  · rw [if_pos h, if_pos h, if_pos h, Nat.testBit_and]
  · rw [if_neg h, if_neg h, if_neg h, Nat.testBit_and]
def q1 (b : Nat) : Nat := (b / 2 &&& 85) + (b &&& 85)
def q2 (b : Nat) : Nat := (b / 4 &&& 51) + (b &&& 51)
def q3 (b : Nat) : Nat := b / 16 + b &&& 15
def pop8 : Nat → Nat → Nat
  | 0, _ => 0
  | f + 1, x => x % 2 + pop8 f (x / 2)
theorem pop8_ones : ∀ f x, x < 2 ^ f → pop8 f x = onesT x
  | 0, x, h => by have : x = 0 := by simpa using h
                  subst this; rw [onesT_zero]; rfl
  | f + 1, x, h => by
    rw [Nat.pow_succ] at h
    rw [pop8, pop8_ones f (x / 2) (by omega)]
    by_cases c : x = 0
    · subst c; rw [show 0 / 2 = 0 from rfl, onesT_zero]
    · rw [← onesT_step c]
theorem onesT_split : ∀ k a b, b < 2 ^ k → onesT (a * 2 ^ k + b) = onesT a + onesT b
  | 0, a, b, h => by have : b = 0 := by simpa using h
                     subst this; rw [onesT_zero]; simp
  | k + 1, a, b, h => by
    rw [Nat.pow_succ] at h ⊢
    by_cases c : a * (2 ^ k * 2) + b = 0
    · have hp : 0 < 2 ^ k := Nat.pow_pos (by omega)
      have hb : b = 0 := by omega
      have ha : a = 0 := by
        rcases Nat.mul_eq_zero.1 (by omega : a * (2 ^ k * 2) = 0) with h | h
        · exact h
        · omega
      subst ha; subst hb
      rw [Nat.zero_mul, onesT_zero]
    · have e2 : (a * (2 ^ k * 2) + b) / 2 = a * 2 ^ k + b / 2 := by rw [← Nat.mul_assoc]; omega
      have e1 : (a * (2 ^ k * 2) + b) % 2 = b % 2 := by rw [← Nat.mul_assoc]; omega
      rw [onesT_step c, e1, e2, onesT_split k a (b / 2) (by omega)]
      by_cases d : b = 0
      · subst d; rw [show 0 / 2 = 0 from rfl, onesT_zero]; omega
      · rw [onesT_step d]; omega
theorem q1_bd : ∀ b, b < 256 → q1 b < 256 := by decide +kernel
theorem q1_mid : ∀ r, r < 2 → ∀ b, b < 256 → (r * 128 + b / 2) &&& 85 = b / 2 &&& 85 := by decide +kernel
theorem q2_bd : ∀ b, b < 256 → q2 (q1 b) ≤ 68 ∧ q2 (q1 b) % 16 ≤ 4 := by decide +kernel
theorem q2_mid : ∀ r, r < 4 → ∀ b, b < 256 → (r * 64 + b / 4) &&& 51 = b / 4 &&& 51 := by decide +kernel
theorem q3_mid : ∀ r, r < 5 → ∀ b, b < 69 → (r * 16 + b / 16 + b) &&& 15 = b / 16 + b &&& 15 := by decide +kernel
theorem q_pop : ∀ b, b < 256 → q3 (q2 (q1 b)) = pop8 8 b ∧ pop8 8 b ≤ 8 := by decide +kernel
theorem p1_step (a b m : Nat) (hb : b < 256) : ((a * 256 + b) / 2 &&& (m * 256 + 85)) + (a * 256 + b &&& (m * 256 + 85)) = ((a / 2 &&& m) + (a &&& m)) * 256 + q1 b := by
  have e : (a * 256 + b) / 2 = (a / 2) * 256 + ((a % 2) * 128 + b / 2) := by omega
  rw [e, and_byte _ _ _ _ (by omega) (by omega), and_byte _ _ _ _ hb (by omega), q1_mid _ (by omega) _ hb]
  unfold q1
  omega
theorem p2_step (a b m : Nat) (hb : b < 256) : ((a * 256 + b) / 4 &&& (m * 256 + 51)) + (a * 256 + b &&& (m * 256 + 51)) = ((a / 4 &&& m) + (a &&& m)) * 256 + q2 b := by
  have e : (a * 256 + b) / 4 = (a / 4) * 256 + ((a % 4) * 64 + b / 4) := by omega
  rw [e, and_byte _ _ _ _ (by omega) (by omega), and_byte _ _ _ _ hb (by omega), q2_mid _ (by omega) _ hb]
  unfold q2
  omega
theorem p3_step (a b m : Nat) (hb : b ≤ 68) (ha : a % 16 ≤ 4) : ((a * 256 + b) / 16 + (a * 256 + b)) &&& (m * 256 + 15) = ((a / 16 + a) &&& m) * 256 + q3 b := by
  have e : (a * 256 + b) / 16 + (a * 256 + b) = (a / 16 + a) * 256 + ((a % 16) * 16 + b / 16 + b) := by omega
  rw [e, and_byte _ _ _ _ (by omega) (by omega), q3_mid _ (by omega) _ (by omega)]
  rfl
theorem p_four (x0 x1 x2 x3 : Nat) (h0 : x0 < 256) (h1 : x1 < 256) (h2 : x2 < 256) (h3 : x3 < 256) :
    (((((x3 * 256 + x2) * 256 + x1) * 256 + x0) / 2 &&& 6148914691236517205) + ((((x3 * 256 + x2) * 256 + x1) * 256 + x0) &&& 6148914691236517205) = ((q1 x3 * 256 + q1 x2) * 256 + q1 x1) * 256 + q1 x0) ∧
    ((((q1 x3 * 256 + q1 x2) * 256 + q1 x1) * 256 + q1 x0) / 4 &&& 3689348814741910323) + ((((q1 x3 * 256 + q1 x2) * 256 + q1 x1) * 256 + q1 x0) &&& 3689348814741910323) = ((q2 (q1 x3) * 256 + q2 (q1 x2)) * 256 + q2 (q1 x1)) * 256 + q2 (q1 x0) ∧
    ((((q2 (q1 x3) * 256 + q2 (q1 x2)) * 256 + q2 (q1 x1)) * 256 + q2 (q1 x0)) / 16 + (((q2 (q1 x3) * 256 + q2 (q1 x2)) * 256 + q2 (q1 x1)) * 256 + q2 (q1 x0))) &&& 1085102592571150095 = ((q3 (q2 (q1 x3)) * 256 + q3 (q2 (q1 x2))) * 256 + q3 (q2 (q1 x1))) * 256 + q3 (q2 (q1 x0)) := by
  have b0 := q1_bd x0 h0
  have b1 := q1_bd x1 h1
  have b2 := q1_bd x2 h2
  have b3 := q1_bd x3 h3
  have c0 := q2_bd x0 h0
  have c1 := q2_bd x1 h1
  have c2 := q2_bd x2 h2
  have c3 := q2_bd x3 h3
  refine ⟨?_, ?_, ?_⟩
  · rw [show (6148914691236517205 : Nat) = 24019198012642645 * 256 + 85 from rfl, p1_step _ _ _ h0, show (24019198012642645 : Nat) = 93824992236885 * 256 + 85 from rfl, p1_step _ _ _ h1, show (93824992236885 : Nat) = 366503875925 * 256 + 85 from rfl, p1_step _ _ _ h2]
    have := p1_step 0 x3 1431655765 h3
    rw [Nat.zero_mul, Nat.zero_add, Nat.zero_div, Nat.zero_and] at this
    rw [show (366503875925 : Nat) = 1431655765 * 256 + 85 from rfl, this]
    omega
  · rw [show (3689348814741910323 : Nat) = 14411518807585587 * 256 + 51 from rfl, p2_step _ _ _ b0, show (14411518807585587 : Nat) = 56294995342131 * 256 + 51 from rfl, p2_step _ _ _ b1, show (56294995342131 : Nat) = 219902325555 * 256 + 51 from rfl, p2_step _ _ _ b2]
    have := p2_step 0 (q1 x3) 858993459 b3
    rw [Nat.zero_mul, Nat.zero_add, Nat.zero_div, Nat.zero_and] at this
    rw [show (219902325555 : Nat) = 858993459 * 256 + 51 from rfl, this]
    omega
  · generalize q2 (q1 x0) = y0 at *
    generalize q2 (q1 x1) = y1 at *
    generalize q2 (q1 x2) = y2 at *
    generalize q2 (q1 x3) = y3 at *
    rw [show (1085102592571150095 : Nat) = 4238682002231055 * 256 + 15 from rfl, p3_step _ _ _ c0.1 (by omega), show (4238682002231055 : Nat) = 16557351571215 * 256 + 15 from rfl, p3_step _ _ _ c1.1 (by omega), show (16557351571215 : Nat) = 64677154575 * 256 + 15 from rfl, p3_step _ _ _ c2.1 (by omega)]
    have := p3_step 0 y3 252645135 c3.1 (by omega)
    rw [Nat.zero_mul, Nat.zero_add, Nat.zero_div, Nat.zero_add, Nat.zero_and] at this
    rw [show (64677154575 : Nat) = 252645135 * 256 + 15 from rfl, this]
    omega
set_option maxRecDepth 100000 in
/-- The numbers on the way. -/
theorem pop_way (x : Nat) (hx : x < 4294967296) : ∃ y z s : Nat, (x / 2 &&& 6148914691236517205) + (x &&& 6148914691236517205) = y ∧ y < 4294967296 ∧ (y / 4 &&& 3689348814741910323) + (y &&& 3689348814741910323) = z ∧ z < 4294967296 ∧ (z / 16 + z) &&& 1085102592571150095 = s ∧ s < 4294967296 ∧
    ((s + s / 256) + (s + s / 256) / 65536 + ((s + s / 256) + (s + s / 256) / 65536) / 4294967296) % 128 = onesT x := by
  obtain ⟨x0, x1, x2, x3, h0, h1, h2, h3, rfl⟩ : ∃ x0 x1 x2 x3, x0 < 256 ∧ x1 < 256 ∧ x2 < 256 ∧ x3 < 256 ∧ x = ((x3 * 256 + x2) * 256 + x1) * 256 + x0 :=
    ⟨x % 256, x / 256 % 256, x / 65536 % 256, x / 16777216, by omega, by omega, by omega, by omega, by omega⟩
  have b0 := q1_bd x0 h0
  have b1 := q1_bd x1 h1
  have b2 := q1_bd x2 h2
  have b3 := q1_bd x3 h3
  have c0 := q2_bd x0 h0
  have c1 := q2_bd x1 h1
  have c2 := q2_bd x2 h2
  have c3 := q2_bd x3 h3
  have d0 := q_pop x0 h0
  have d1 := q_pop x1 h1
  have d2 := q_pop x2 h2
  have d3 := q_pop x3 h3
  have o : onesT (((x3 * 256 + x2) * 256 + x1) * 256 + x0) = pop8 8 x3 + pop8 8 x2 + pop8 8 x1 + pop8 8 x0 := by
    rw [onesT_split 8 _ _ h0, onesT_split 8 _ _ h1, onesT_split 8 _ _ h2, pop8_ones 8 _ h0, pop8_ones 8 _ h1, pop8_ones 8 _ h2, pop8_ones 8 _ h3]
  have k1 : ((q1 x3 * 256 + q1 x2) * 256 + q1 x1) * 256 + q1 x0 < 4294967296 := by omega
  have k2 : ((q2 (q1 x3) * 256 + q2 (q1 x2)) * 256 + q2 (q1 x1)) * 256 + q2 (q1 x0) < 4294967296 := by omega
  have k3 : ((q3 (q2 (q1 x3)) * 256 + q3 (q2 (q1 x2))) * 256 + q3 (q2 (q1 x1))) * 256 + q3 (q2 (q1 x0)) < 4294967296 := by omega
  obtain ⟨e1, e2, e3⟩ := p_four x0 x1 x2 x3 h0 h1 h2 h3
  refine ⟨_, _, _, e1, k1, e2, k2, e3, k3, ?_⟩
  clear e1 e2 e3 k1 k2 k3
  rw [o, ← d0.1, ← d1.1, ← d2.1, ← d3.1]
  have f0 : q3 (q2 (q1 x0)) ≤ 8 := by omega
  have f1 : q3 (q2 (q1 x1)) ≤ 8 := by omega
  have f2 : q3 (q2 (q1 x2)) ≤ 8 := by omega
  have f3 : q3 (q2 (q1 x3)) ≤ 8 := by omega
  generalize q3 (q2 (q1 x0)) = a0 at *
  generalize q3 (q2 (q1 x1)) = a1 at *
  generalize q3 (q2 (q1 x2)) = a2 at *
  generalize q3 (q2 (q1 x3)) = a3 at *
  clear b0 b1 b2 b3 c0 c1 c2 c3 d0 d1 d2 d3 o h0 h1 h2 h3
  have s1 : (((a3 * 256 + a2) * 256 + a1) * 256 + a0) / 256 = (a3 * 256 + a2) * 256 + a1 := by omega
  rw [s1]
  have s2 : (((a3 * 256 + a2) * 256 + a1) * 256 + a0 + ((a3 * 256 + a2) * 256 + a1)) / 65536 = a3 * 256 + (a2 + a3) := by omega
  rw [s2]
  have s3 : (((a3 * 256 + a2) * 256 + a1) * 256 + a0 + ((a3 * 256 + a2) * 256 + a1) + (a3 * 256 + (a2 + a3))) / 4294967296 = 0 := by omega
  rw [s3]
  omega
end Go.Proofs.YtbpkhpkllokbhaaDoor
