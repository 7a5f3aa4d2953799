/- How the program's product and power go: plain facts (no theorem of the program). -/
import Derived.Test.YtfefhjnjndfchaaDoorFieldb
namespace Go.Proofs.YtfefhjnjndfchaaDoor
set_option linter.unusedVariables false
set_option linter.unusedSimpArgs false

theorem gm_two : ∀ a, a < 256 → gm a 2 = if a / 128 = 1 then (a * 2 % 256) ^^^ 27 else a * 2 % 256 := by decide +kernel
theorem two_gm : ∀ i, i < 7 → gm (2 ^ i) 2 = 2 ^ (i + 1) := by decide +kernel
theorem two_pow_lt : ∀ i, i < 8 → 2 ^ i < 256 := by decide
/-- The product by the places of b below i. -/
def pm (a b i : Nat) : Nat := gm a (b % 2 ^ i)
theorem pm_zero (a b : Nat) : pm a b 0 = 0 := by
  unfold pm
  rw [Nat.pow_zero, Nat.mod_one, gm_zero]
theorem pm_end (a b : Nat) (hb : b < 256) : pm a b 8 = gm a b := by
  unfold pm
  rw [Nat.mod_eq_of_lt (by omega)]
theorem pm_lt (a b i : Nat) : pm a b i < 256 := gm_lt _ _
theorem pm_step (a b i : Nat) (ha : a < 256) (hi : i < 8) :
    pm a b (i + 1) = if b / 2 ^ i % 2 = 1 then pm a b i ^^^ gm a (2 ^ i) else pm a b i := by
  have hp := two_pow_lt i hi
  have h0 : b % 2 ^ i < 256 := Nat.lt_trans (Nat.mod_lt _ (Nat.two_pow_pos i)) hp
  unfold pm
  rw [mod_step]
  rcases Nat.mod_two_eq_zero_or_one (b / 2 ^ i) with h | h
  · rw [h, if_neg (by omega), Nat.zero_mul, Nat.xor_zero]
  · rw [h, if_pos rfl, Nat.one_mul, gm_xor ha h0 hp]
/-- A byte, i times x (behind the last place of b nobody asks). -/
def txn (a : Nat) : Nat → Nat
  | 0 => a
  | n + 1 => gm (txn a n) 2
theorem txn_lt (a n : Nat) (ha : a < 256) : txn a n < 256 := by
  cases n with
  | zero => exact ha
  | succ n => exact gm_lt _ _
theorem txn_is (a : Nat) (ha : a < 256) : ∀ i, i < 8 → txn a i = gm a (2 ^ i) := by
  intro i
  induction i with
  | zero => intro _; exact (gm_one ha).symm
  | succ i ih =>
    intro h
    show gm (txn a i) 2 = _
    rw [ih (by omega), gm_assoc, two_gm i (by omega)]
theorem gpow_two (a : Nat) (ha : a < 256) : gpow a 2 = gm a a := by
  show gm (gm 1 a) a = _
  rw [one_gm ha]
theorem gpow_half (a n : Nat) (ha : a < 256) : gpow (gm a a) (n / 2) = gpow a (2 * (n / 2)) := by
  rw [← gpow_two a ha, gpow_mul]
theorem gpow_even (p a n : Nat) (ha : a < 256) (h : n % 2 = 0) : gm p (gpow (gm a a) (n / 2)) = gm p (gpow a n) := by
  rw [gpow_half a n ha, show 2 * (n / 2) = n by omega]
theorem gpow_odd (p a n : Nat) (ha : a < 256) (h : n % 2 = 1) : gm (gm p a) (gpow (gm a a) (n / 2)) = gm p (gpow a n) := by
  rw [gpow_half a n ha, gm_assoc]
  obtain ⟨m, hm⟩ : ∃ m, n = 2 * m + 1 := ⟨n / 2, by omega⟩
  subst hm
  rw [show (2 * m + 1) / 2 = m by omega, show gpow a (2 * m + 1) = gm (gpow a (2 * m)) a from rfl, gm_comm a]
theorem gpow_254 (a : Nat) (ha : a < 256) (h0 : a ≠ 0) : gpow a 254 = ginv a := by
  refine ginv_only ha (gpow_lt _ _) ?_
  rw [gm_comm]
  exact gpow_255 ha h0
end Go.Proofs.YtfefhjnjndfchaaDoor
