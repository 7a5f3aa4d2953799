/- Bits of numbers, as the document's product goes over them: plain facts. -/
import Derived.Test.YtfefhjnjndfchaaDoorField
namespace Go.Proofs.YtfefhjnjndfchaaDoor
set_option linter.unusedVariables false
set_option linter.unusedSimpArgs false

theorem flip_xor : ∀ (i n : Nat), n ^^^ 2 ^ i = if n / 2 ^ i % 2 = 1 then n - 2 ^ i else n + 2 ^ i
  | 0, n => by
    have h1 : (n ^^^ 1) / 2 = n / 2 := by rw [Nat.xor_div_two]; simp
    have h2 : (n ^^^ 1) % 2 = (n % 2) ^^^ 1 := by have := xor_bit n 1; simpa using this
    have h3 : (n % 2) ^^^ 1 = 1 - n % 2 := by rcases (show n % 2 = 0 ∨ n % 2 = 1 by omega) with h | h <;> rw [h] <;> rfl
    rw [Nat.pow_zero, Nat.div_one]
    split <;> omega
  | i + 1, n => by
    have h1 : (n ^^^ 2 ^ (i + 1)) / 2 = n / 2 ^^^ 2 ^ i := by rw [Nat.xor_div_two, Nat.pow_succ, Nat.mul_div_cancel _ (by omega)]
    have h2 : (n ^^^ 2 ^ (i + 1)) % 2 = n % 2 := by
      rw [xor_bit, Nat.pow_succ, Nat.mul_mod_left, Nat.xor_zero]
    have ih := flip_xor i (n / 2)
    have h3 : n / 2 / 2 ^ i = n / 2 ^ (i + 1) := by rw [Nat.div_div_eq_div_mul, Nat.pow_succ, Nat.mul_comm]
    rw [h3] at ih
    have h4 : 2 ^ (i + 1) = 2 * 2 ^ i := by rw [Nat.pow_succ, Nat.mul_comm]
    rw [ih] at h1
    by_cases c : n / 2 ^ (i + 1) % 2 = 1
    · rw [if_pos c] at h1 ⊢
      have h5 : 2 ^ i ≤ n / 2 := by
        have : 0 < n / 2 / 2 ^ i := by
          rw [h3]
          refine Nat.pos_of_ne_zero fun e => ?_
          rw [e] at c
          exact absurd c (by decide)
        exact (Nat.div_pos_iff.1 this).2
      omega
    · rw [if_neg c] at h1 ⊢
      omega
/-- Row i of the product, the first j bits of b. -/
def rowm (a b i j : Nat) : Nat := clm a b i ^^^ (((a >>> i) % 2) * ((b % 2 ^ j) <<< i))
theorem rowm_zero (a b i : Nat) : rowm a b i 0 = clm a b i := by simp [rowm, Nat.mod_one]
theorem mod_step (b j : Nat) : b % 2 ^ (j + 1) = (b % 2 ^ j) ^^^ ((b / 2 ^ j % 2) * 2 ^ j) := by
  rw [Nat.mod_pow_succ]
  have h : b % 2 ^ j < 2 ^ j := Nat.mod_lt _ (Nat.two_pow_pos _)
  rcases (show b / 2 ^ j % 2 = 0 ∨ b / 2 ^ j % 2 = 1 by omega) with e | e
  · rw [e]; simp
  · rw [e, Nat.one_mul, Nat.mul_one, flip_xor, Nat.div_eq_of_lt h]
    simp
theorem rowm_step (a b i j : Nat) : rowm a b i (j + 1) = if a / 2 ^ i % 2 = 1 ∧ b / 2 ^ j % 2 = 1 then rowm a b i j ^^^ 2 ^ (i + j) else rowm a b i j := by
  unfold rowm
  rw [mod_step, Nat.shiftLeft_xor_distrib, mul_xor _ _ _ (Nat.mod_lt _ (by omega)), ← Nat.xor_assoc, Nat.shiftRight_eq_div_pow]
  by_cases c : a / 2 ^ i % 2 = 1
  · rw [c]
    by_cases d : b / 2 ^ j % 2 = 1
    · rw [d, if_pos ⟨rfl, rfl⟩]
      congr 1
      rw [Nat.one_mul, Nat.one_mul, Nat.shiftLeft_eq, ← Nat.pow_add, Nat.add_comm]
    · rw [if_neg (fun h => d h.2), show b / 2 ^ j % 2 = 0 by omega]
      simp
  · rw [if_neg (fun h => c h.1), show a / 2 ^ i % 2 = 0 by omega]
    simp
theorem rowm_end (a b i : Nat) (hb : b < 256) : rowm a b i 8 = clm a b (i + 1) := by
  unfold rowm
  rw [Nat.mod_eq_of_lt (show b < 2 ^ 8 by omega)]
  rfl
theorem clm_lt (a b : Nat) (hb : b < 256) : ∀ i, i ≤ 8 → clm a b i < 65536
  | 0, _ => by show 0 < 65536; omega
  | i + 1, h => by
    show (clm a b i) ^^^ (((a >>> i) % 2) * (b <<< i)) < 2 ^ 16
    refine Nat.xor_lt_two_pow (clm_lt a b hb i (by omega)) ?_
    have h1 : b <<< i < 2 ^ 16 := by
      rw [Nat.shiftLeft_eq]
      have : 2 ^ i ≤ 2 ^ 7 := Nat.pow_le_pow_right (by omega) (by omega)
      calc b * 2 ^ i ≤ 255 * 2 ^ 7 := Nat.mul_le_mul (by omega) this
        _ < 2 ^ 16 := by decide
    rcases (show (a >>> i) % 2 = 0 ∨ (a >>> i) % 2 = 1 by omega) with e | e <;> rw [e] <;> omega
theorem rowm_lt (a b i j : Nat) (hb : b < 256) (hi : i < 8) : rowm a b i j < 65536 := by
  unfold rowm
  refine Nat.xor_lt_two_pow (n := 16) (clm_lt a b hb i (by omega)) ?_
  have h1 : (b % 2 ^ j) <<< i < 2 ^ 16 := by
    rw [Nat.shiftLeft_eq]
    have h2 : b % 2 ^ j ≤ 255 := Nat.le_trans (Nat.mod_le _ _) (by omega)
    have : 2 ^ i ≤ 2 ^ 7 := Nat.pow_le_pow_right (by omega) (by omega)
    calc b % 2 ^ j * 2 ^ i ≤ 255 * 2 ^ 7 := Nat.mul_le_mul h2 this
      _ < 2 ^ 16 := by decide
  rcases (show (a >>> i) % 2 = 0 ∨ (a >>> i) % 2 = 1 by omega) with e | e <;> rw [e] <;> omega
/-- One bit less of a product. -/
theorem redk_step (p m : Nat) : redk p (m + 1) = redk (if p / 2 ^ (m + 8) % 2 = 1 then p ^^^ (283 <<< m) else p) m := by
  show redk (p ^^^ (((p >>> (m + 8)) % 2) * (283 <<< m))) m = _
  rw [Nat.shiftRight_eq_div_pow]
  split
  · rename_i h; rw [h, Nat.one_mul]
  · rw [show p / 2 ^ (m + 8) % 2 = 0 by omega]; simp
theorem poly_flips : ∀ m, m < 7 → ∀ p, ((((p ^^^ 2 ^ (m + 8)) ^^^ 2 ^ (m + 4)) ^^^ 2 ^ (m + 3)) ^^^ 2 ^ (m + 1)) ^^^ 2 ^ m = p ^^^ (283 <<< m) := by
  intro m hm p
  rw [Nat.xor_assoc, Nat.xor_assoc, Nat.xor_assoc, Nat.xor_assoc]
  congr 1
  revert m
  decide
theorem poly_lt (m : Nat) (hm : m < 7) : 283 <<< m < 65536 := by
  revert m
  decide
/-- Where a product of two bytes is 1. -/
theorem ginv_only {a b : Nat} (ha : a < 256) (hb : b < 256) (h : gm a b = 1) : b = ginv a := by
  by_cases h0 : a = 0
  · rw [h0, zero_gm] at h; omega
  · exact gm_cancel ha hb (ginv_lt a) h0 (h.trans (gm_ginv ha h0).symm)
end Go.Proofs.YtfefhjnjndfchaaDoor
