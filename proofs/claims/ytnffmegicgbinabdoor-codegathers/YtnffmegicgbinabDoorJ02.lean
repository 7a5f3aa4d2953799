/- Texts of this claim, joined: Field, Fieldb, Rfield, Rfieldm. -/
import Derived.Test.YtnffmegicgbinabDoorJ01
/- Bytes as numbers: plain facts (no theorem of the program). -/
namespace Go.Proofs.YtnffmegicgbinabDoor
set_option linter.unusedVariables false
set_option linter.unusedSimpArgs false
/-- The powers of 3, and what power a byte is: a byte each. -/
def expN : Nat := 0xf652c7b46c241cfda297847cdd4b39170df2a794858a8f8c8d7b29ee5a36120ef351c6423ee3a891868b79de4acf45ca46cbb099772d1b0907f4a563211ffc54c543c8b16f25eaaf6523e858c1b69b80898e7adfbc9d827e2aefac64d5ba9f75dabf9c742ced5bc040c9473de25ec3413f15fa5632e75dc2b76dd24e3a16fba06020e9ae93712fecad92877d2b19fea361d6bb69271d0bf0503010f957c4b59a76db49ceb398817fdcbd6bd0b99e838878281808f1a662d74d3be0a967d44ccdb26ed3b868d14fcc443c140c04f55331e6ab9070d9be6a26eb5937e45c34e5aa66221e0a0602f7a49573d84838e15f3513f8a196722e1aff5533110f050301
def logN : Nat := 0x770f7c0808c630d18fe31c5deed4a67a5e3997726b87cb4892e2023d9921144abd3f2565d9e2a14476da2413c843953d15b3f37cdcf95bcfcdcbe619087b2979d2955aa6ca1523b86b160fb5a3ebbccb77b76a42d1f43d8ec49c4176ff60c7fa051a99cb05fcb59f50b16eb7a75d72ce8ade6e7d5e9ae4f74d6eaf450a858af57a773f3e5acd44eca5e9f9b150a792bba3d85fa54286b3a421eb6a3c3486e7e1091882298e225b3628b06bf30fddd6638834640f1d25c1394ced036bddb8f968eda93354582f01224e10f21058a2f657809c99a72a6e44d6a27b9f9b51dc27dc11c69f8c808714cef818d340ee0046403dfee33681bc74bc61a023201190000
def gex (i : Nat) : Nat := (expN >>> (8 * i)) % 256
def glo (a : Nat) : Nat := (logN >>> (8 * a)) % 256
/-- The product. -/
def gm (a b : Nat) : Nat := if a = 0 then 0 else if b = 0 then 0 else gex ((glo a + glo b) % 255)
/-- Carries left out. -/
def clm (a b : Nat) : Nat → Nat
  | 0 => 0
  | i + 1 => (clm a b i) ^^^ (((a >>> i) % 2) * (b <<< i))
/-- What is left of a product. -/
def redk (p : Nat) : Nat → Nat
  | 0 => p
  | k + 1 => let q := p ^^^ (((p >>> (k + 8)) % 2) * (283 <<< k)); redk q k
def mulT (a b : Nat) : Nat := redk (clm a b 8) 7


theorem glo_gex : ∀ i, i < 255 → glo (gex i) = i := by decide +kernel
theorem gex_glo : ∀ a, a < 256 → a ≠ 0 → gex (glo a) = a := by decide +kernel
theorem gex_ne : ∀ i, i < 255 → gex i ≠ 0 := by decide +kernel
theorem glo_lt : ∀ a, a < 256 → glo a < 255 := by decide +kernel
theorem gex_lt (i : Nat) : gex i < 256 := Nat.mod_lt _ (by omega)
theorem gm_lt (a b : Nat) : gm a b < 256 := by
  unfold gm
  split
  · omega
  · split
    · omega
    · exact gex_lt _
theorem gm_comm (a b : Nat) : gm a b = gm b a := by
  unfold gm
  rw [Nat.add_comm (glo a)]
  split <;> split <;> first | rfl | simp_all
theorem gm_zero (a : Nat) : gm a 0 = 0 := by unfold gm; simp
theorem zero_gm (a : Nat) : gm 0 a = 0 := by unfold gm; simp
theorem gm_one {a : Nat} (h : a < 256) : gm a 1 = a := by
  unfold gm
  by_cases c : a = 0
  · simp [c]
  · have e : glo 1 = 0 := by decide +kernel
    rw [if_neg c, if_neg (by omega), e, Nat.add_zero, Nat.mod_eq_of_lt (glo_lt a h), gex_glo a h c]
theorem one_gm {a : Nat} (h : a < 256) : gm 1 a = a := by rw [gm_comm, gm_one h]
theorem gm_ne {a b : Nat} (ha : a < 256) (hb : b < 256) (h1 : a ≠ 0) (h2 : b ≠ 0) : gm a b ≠ 0 := by
  unfold gm
  rw [if_neg h1, if_neg h2]
  exact gex_ne _ (Nat.mod_lt _ (by omega))
theorem glo_gm {a b : Nat} (h1 : a ≠ 0) (h2 : b ≠ 0) : glo (gm a b) = (glo a + glo b) % 255 := by
  unfold gm
  rw [if_neg h1, if_neg h2, glo_gex _ (Nat.mod_lt _ (by omega))]
theorem gm_nz {a b : Nat} (h1 : a ≠ 0) (h2 : b ≠ 0) : gm a b ≠ 0 := by
  unfold gm
  rw [if_neg h1, if_neg h2]
  exact gex_ne _ (Nat.mod_lt _ (by omega))
theorem gm_assoc (a b c : Nat) : gm (gm a b) c = gm a (gm b c) := by
  by_cases ha : a = 0
  · rw [ha, zero_gm, zero_gm, zero_gm]
  by_cases hb : b = 0
  · rw [hb, gm_zero, zero_gm, gm_zero]
  by_cases hc : c = 0
  · rw [hc, gm_zero, gm_zero, gm_zero]
  have e1 : gm (gm a b) c = gex ((glo (gm a b) + glo c) % 255) := by
    unfold gm
    rw [if_neg (by have := gm_nz ha hb; unfold gm at this; exact this), if_neg hc]
  have e2 : gm a (gm b c) = gex ((glo a + glo (gm b c)) % 255) := by
    rw [gm.eq_def a (gm b c), if_neg ha, if_neg (gm_nz hb hc)]
  rw [e1, e2, glo_gm ha hb, glo_gm hb hc]
  congr 1
  omega
/-- One over. -/
def ginv (a : Nat) : Nat := gex ((255 - glo a) % 255)
theorem ginv_lt (a : Nat) : ginv a < 256 := gex_lt _
theorem ginv_ne (a : Nat) : ginv a ≠ 0 := gex_ne _ (Nat.mod_lt _ (by omega))
theorem gm_ginv {a : Nat} (h : a < 256) (h0 : a ≠ 0) : gm a (ginv a) = 1 := by
  have hl := glo_lt a h
  rw [gm.eq_def, if_neg h0, if_neg (ginv_ne a)]
  unfold ginv
  rw [glo_gex _ (Nat.mod_lt _ (by omega))]
  have e : (glo a + (255 - glo a) % 255) % 255 = 0 := by omega
  rw [e]
  decide +kernel
theorem gm_cancel {a b c : Nat} (ha : a < 256) (hb : b < 256) (hc : c < 256) (h0 : a ≠ 0) (h : gm a b = gm a c) : b = c := by
  have e := congrArg (gm (ginv a)) h
  rw [← gm_assoc, ← gm_assoc, gm_comm (ginv a), gm_ginv ha h0, one_gm hb, one_gm hc] at e
  exact e
/-- A byte taken so many times. -/
def gpow (a : Nat) : Nat → Nat
  | 0 => 1
  | n + 1 => gm (gpow a n) a
theorem gpow_lt (a n : Nat) : gpow a n < 256 := by
  cases n with
  | zero => show 1 < 256; omega
  | succ n => exact gm_lt _ _
theorem gpow_add (a m n : Nat) : gpow a (m + n) = gm (gpow a m) (gpow a n) := by
  induction n with
  | zero => exact (gm_one (gpow_lt a m)).symm
  | succ n ih =>
    show gm (gpow a (m + n)) a = gm (gpow a m) (gm (gpow a n) a)
    rw [ih, gm_assoc]
theorem gpow_mul (a m n : Nat) : gpow (gpow a m) n = gpow a (m * n) := by
  induction n with
  | zero => rfl
  | succ n ih =>
    show gm (gpow (gpow a m) n) (gpow a m) = _
    rw [ih, ← gpow_add]
    rfl
theorem gpow_log {a : Nat} (h : a < 256) (h0 : a ≠ 0) (n : Nat) : gpow a n = gex ((glo a * n) % 255) := by
  induction n with
  | zero => show 1 = gex 0; decide +kernel
  | succ n ih =>
    show gm (gpow a n) a = _
    rw [ih, gm.eq_def, if_neg (gex_ne _ (Nat.mod_lt _ (by omega))), if_neg h0, glo_gex _ (Nat.mod_lt _ (by omega)), Nat.mul_succ]
    congr 1
    omega
theorem gpow_mod {a : Nat} (h : a < 256) (h0 : a ≠ 0) (n : Nat) : gpow a n = gpow a (n % 255) := by
  rw [gpow_log h h0, gpow_log h h0]
  congr 1
  exact (Nat.mul_mod_mod _ _ _).symm
theorem gpow_255 {a : Nat} (h : a < 256) (h0 : a ≠ 0) : gpow a 255 = 1 := by
  rw [gpow_mod h h0]
  rfl
theorem gpow_zero (n : Nat) : gpow 0 (n + 1) = 0 := gm_zero _

theorem bool_mul {s d : Nat} (h : s < 2) : s * d = if s = 0 then 0 else d := by
  rcases (show s = 0 ∨ s = 1 by omega) with rfl | rfl <;> simp
theorem xor_bit (x y : Nat) : (x ^^^ y) % 2 = (x % 2) ^^^ (y % 2) := by
  have h := Nat.xor_mod_two_pow (a := x) (b := y) (n := 1)
  simpa using h
theorem bit_xor (s t d : Nat) (hs : s < 2) (ht : t < 2) : (s ^^^ t) * d = (s * d) ^^^ (t * d) := by
  rcases (show s = 0 ∨ s = 1 by omega) with rfl | rfl <;> rcases (show t = 0 ∨ t = 1 by omega) with rfl | rfl <;> simp
theorem xor_swap (a b c d : Nat) : (a ^^^ b) ^^^ (c ^^^ d) = (a ^^^ c) ^^^ (b ^^^ d) := by
  rw [Nat.xor_assoc, Nat.xor_assoc, ← Nat.xor_assoc b, Nat.xor_comm b c, Nat.xor_assoc c]
theorem mul_xor (s x y : Nat) (hs : s < 2) : s * (x ^^^ y) = (s * x) ^^^ (s * y) := by
  rcases (show s = 0 ∨ s = 1 by omega) with rfl | rfl <;> simp
theorem clm_xor (a b c n : Nat) : clm a (b ^^^ c) n = clm a b n ^^^ clm a c n := by
  induction n with
  | zero => exact (Nat.xor_self 0).symm
  | succ n ih =>
    simp only [clm]
    rw [ih, Nat.shiftLeft_xor_distrib, mul_xor _ _ _ (Nat.mod_lt _ (by omega)), xor_swap]
theorem redk_xor (k : Nat) : ∀ p q, redk (p ^^^ q) k = redk p k ^^^ redk q k := by
  induction k with
  | zero => intro p q; rfl
  | succ k ih =>
    intro p q
    simp only [redk]
    rw [← ih]
    congr 1
    rw [Nat.shiftRight_xor_distrib, xor_bit, bit_xor _ _ _ (Nat.mod_lt _ (by omega)) (Nat.mod_lt _ (by omega)), xor_swap]
theorem mulT_xor (a b c : Nat) : mulT a (b ^^^ c) = mulT a b ^^^ mulT a c := by
  unfold mulT
  rw [clm_xor, redk_xor]
theorem gm_tab0 : ∀ a, a < 32 → ∀ b, b < 256 → gm (0 + a) b = mulT (0 + a) b := by decide +kernel
theorem gm_tab1 : ∀ a, a < 32 → ∀ b, b < 256 → gm (32 + a) b = mulT (32 + a) b := by decide +kernel
theorem gm_tab2 : ∀ a, a < 32 → ∀ b, b < 256 → gm (64 + a) b = mulT (64 + a) b := by decide +kernel
theorem gm_tab3 : ∀ a, a < 32 → ∀ b, b < 256 → gm (96 + a) b = mulT (96 + a) b := by decide +kernel
theorem gm_tab4 : ∀ a, a < 32 → ∀ b, b < 256 → gm (128 + a) b = mulT (128 + a) b := by decide +kernel
theorem gm_tab5 : ∀ a, a < 32 → ∀ b, b < 256 → gm (160 + a) b = mulT (160 + a) b := by decide +kernel
theorem gm_tab6 : ∀ a, a < 32 → ∀ b, b < 256 → gm (192 + a) b = mulT (192 + a) b := by decide +kernel
theorem gm_tab7 : ∀ a, a < 32 → ∀ b, b < 256 → gm (224 + a) b = mulT (224 + a) b := by decide +kernel

theorem gm_mulT {a b : Nat} (ha : a < 256) (hb : b < 256) : gm a b = mulT a b := by
  rcases (show a / 32 = 0 ∨ a / 32 = 1 ∨ a / 32 = 2 ∨ a / 32 = 3 ∨ a / 32 = 4 ∨ a / 32 = 5 ∨ a / 32 = 6 ∨ a / 32 = 7 by omega) with h | h | h | h | h | h | h | h
  · have := gm_tab0 (a - 0) (by omega) b hb
    rwa [show 0 + (a - 0) = a by omega] at this
  · have := gm_tab1 (a - 32) (by omega) b hb
    rwa [show 32 + (a - 32) = a by omega] at this
  · have := gm_tab2 (a - 64) (by omega) b hb
    rwa [show 64 + (a - 64) = a by omega] at this
  · have := gm_tab3 (a - 96) (by omega) b hb
    rwa [show 96 + (a - 96) = a by omega] at this
  · have := gm_tab4 (a - 128) (by omega) b hb
    rwa [show 128 + (a - 128) = a by omega] at this
  · have := gm_tab5 (a - 160) (by omega) b hb
    rwa [show 160 + (a - 160) = a by omega] at this
  · have := gm_tab6 (a - 192) (by omega) b hb
    rwa [show 192 + (a - 192) = a by omega] at this
  · have := gm_tab7 (a - 224) (by omega) b hb
    rwa [show 224 + (a - 224) = a by omega] at this

theorem xor_lt256 {a b : Nat} (ha : a < 256) (hb : b < 256) : a ^^^ b < 256 := Nat.xor_lt_two_pow (n := 8) ha hb
theorem gm_xor {a b c : Nat} (ha : a < 256) (hb : b < 256) (hc : c < 256) : gm a (b ^^^ c) = gm a b ^^^ gm a c := by
  rw [gm_mulT ha (xor_lt256 hb hc), gm_mulT ha hb, gm_mulT ha hc, mulT_xor]
theorem xor_gm {a b c : Nat} (ha : a < 256) (hb : b < 256) (hc : c < 256) : gm (a ^^^ b) c = gm a c ^^^ gm b c := by
  rw [gm_comm, gm_xor hc ha hb, gm_comm c, gm_comm c]
end Go.Proofs.YtnffmegicgbinabDoor
/- Bits of numbers, as the document's product goes over them: plain facts. -/
namespace Go.Proofs.YtnffmegicgbinabDoor
set_option linter.unusedVariables false
set_option linter.unusedSimpArgs false

theorem flip_xor : ∀ (i n : Nat), n ^^^ 2 ^ i = if n / 2 ^ i % 2 = 1 then n - 2 ^ i else n + 2 ^ i
  | 0, n => by
    have h1 : (n ^^^ 1) / 2 = n / 2 := by rw [Nat.xor_div_two]; simp
    have h2 : (n ^^^ 1) % 2 = (n % 2) ^^^ 1 := by have := xor_bit n 1; simpa using this
    have h3 : (n % 2) ^^^ 1 = 1 - n % 2 := by rcases (show n % 2 = 0 ∨ n % 2 = 1 by omega) with h | h <;> rw [h] <;> rfl
    rw [Nat.pow_zero, Nat.div_one]
    split <;> omega
  | i + 1, n => by
    have h1 : (n ^^^ 2 ^ (i + 1)) / 2 = n / 2 ^^^ 2 ^ i := by rw [Nat.xor_div_two, Nat.pow_succ, Nat.mul_div_cancel _ (by omega)]
    have h2 : (n ^^^ 2 ^ (i + 1)) % 2 = n % 2 := by
      rw [xor_bit, Nat.pow_succ, Nat.mul_mod_left, Nat.xor_zero]
    have ih := flip_xor i (n / 2)
    have h3 : n / 2 / 2 ^ i = n / 2 ^ (i + 1) := by rw [Nat.div_div_eq_div_mul, Nat.pow_succ, Nat.mul_comm]
    rw [h3] at ih
    have h4 : 2 ^ (i + 1) = 2 * 2 ^ i := by rw [Nat.pow_succ, Nat.mul_comm]
    rw [ih] at h1
    by_cases c : n / 2 ^ (i + 1) % 2 = 1
    · rw [if_pos c] at h1 ⊢
      have h5 : 2 ^ i ≤ n / 2 := by
        have : 0 < n / 2 / 2 ^ i := by
          rw [h3]
          refine Nat.pos_of_ne_zero fun e => ?_
          rw [e] at c
          exact absurd c (by decide)
        exact (Nat.div_pos_iff.1 this).2
      omega
    · rw [if_neg c] at h1 ⊢
      omega
/-- Row i of the product, the first j bits of b. -/
def rowm (a b i j : Nat) : Nat := clm a b i ^^^ (((a >>> i) % 2) * ((b % 2 ^ j) <<< i))
theorem rowm_zero (a b i : Nat) : rowm a b i 0 = clm a b i := by simp [rowm, Nat.mod_one]
theorem mod_step (b j : Nat) : b % 2 ^ (j + 1) = (b % 2 ^ j) ^^^ ((b / 2 ^ j % 2) * 2 ^ j) := by
  rw [Nat.mod_pow_succ]
  have h : b % 2 ^ j < 2 ^ j := Nat.mod_lt _ (Nat.two_pow_pos _)
  rcases (show b / 2 ^ j % 2 = 0 ∨ b / 2 ^ j % 2 = 1 by omega) with e | e
  · rw [e]; simp
  · rw [e, Nat.one_mul, Nat.mul_one, flip_xor, Nat.div_eq_of_lt h]
    simp
theorem rowm_step (a b i j : Nat) : rowm a b i (j + 1) = if a / 2 ^ i % 2 = 1 ∧ b / 2 ^ j % 2 = 1 then rowm a b i j ^^^ 2 ^ (i + j) else rowm a b i j := by
  unfold rowm
  rw [mod_step, Nat.shiftLeft_xor_distrib, mul_xor _ _ _ (Nat.mod_lt _ (by omega)), ← Nat.xor_assoc, Nat.shiftRight_eq_div_pow]
  by_cases c : a / 2 ^ i % 2 = 1
  · rw [c]
    by_cases d : b / 2 ^ j % 2 = 1
    · rw [d, if_pos ⟨rfl, rfl⟩]
      congr 1
      rw [Nat.one_mul, Nat.one_mul, Nat.shiftLeft_eq, ← Nat.pow_add, Nat.add_comm]
    · rw [if_neg (fun h => d h.2), show b / 2 ^ j % 2 = 0 by omega]
      simp
  · rw [if_neg (fun h => c h.1), show a / 2 ^ i % 2 = 0 by omega]
    simp
theorem rowm_end (a b i : Nat) (hb : b < 256) : rowm a b i 8 = clm a b (i + 1) := by
  unfold rowm
  rw [Nat.mod_eq_of_lt (show b < 2 ^ 8 by omega)]
  rfl
theorem clm_lt (a b : Nat) (hb : b < 256) : ∀ i, i ≤ 8 → clm a b i < 65536
  | 0, _ => by show 0 < 65536; omega
  | i + 1, h => by
    show (clm a b i) ^^^ (((a >>> i) % 2) * (b <<< i)) < 2 ^ 16
    refine Nat.xor_lt_two_pow (clm_lt a b hb i (by omega)) ?_
    have h1 : b <<< i < 2 ^ 16 := by
      rw [Nat.shiftLeft_eq]
      have : 2 ^ i ≤ 2 ^ 7 := Nat.pow_le_pow_right (by omega) (by omega)
      calc b * 2 ^ i ≤ 255 * 2 ^ 7 := Nat.mul_le_mul (by omega) this
        _ < 2 ^ 16 := by decide
    rcases (show (a >>> i) % 2 = 0 ∨ (a >>> i) % 2 = 1 by omega) with e | e <;> rw [e] <;> omega
theorem rowm_lt (a b i j : Nat) (hb : b < 256) (hi : i < 8) : rowm a b i j < 65536 := by
  unfold rowm
  refine Nat.xor_lt_two_pow (n := 16) (clm_lt a b hb i (by omega)) ?_
  have h1 : (b % 2 ^ j) <<< i < 2 ^ 16 := by
    rw [Nat.shiftLeft_eq]
    have h2 : b % 2 ^ j ≤ 255 := Nat.le_trans (Nat.mod_le _ _) (by omega)
    have : 2 ^ i ≤ 2 ^ 7 := Nat.pow_le_pow_right (by omega) (by omega)
    calc b % 2 ^ j * 2 ^ i ≤ 255 * 2 ^ 7 := Nat.mul_le_mul h2 this
      _ < 2 ^ 16 := by decide
  rcases (show (a >>> i) % 2 = 0 ∨ (a >>> i) % 2 = 1 by omega) with e | e <;> rw [e] <;> omega
/-- One bit less of a product. -/
theorem redk_step (p m : Nat) : redk p (m + 1) = redk (if p / 2 ^ (m + 8) % 2 = 1 then p ^^^ (283 <<< m) else p) m := by
  show redk (p ^^^ (((p >>> (m + 8)) % 2) * (283 <<< m))) m = _
  rw [Nat.shiftRight_eq_div_pow]
  split
  · rename_i h; rw [h, Nat.one_mul]
  · rw [show p / 2 ^ (m + 8) % 2 = 0 by omega]; simp
theorem poly_flips : ∀ m, m < 7 → ∀ p, ((((p ^^^ 2 ^ (m + 8)) ^^^ 2 ^ (m + 4)) ^^^ 2 ^ (m + 3)) ^^^ 2 ^ (m + 1)) ^^^ 2 ^ m = p ^^^ (283 <<< m) := by
  intro m hm p
  rw [Nat.xor_assoc, Nat.xor_assoc, Nat.xor_assoc, Nat.xor_assoc]
  congr 1
  revert m
  decide
theorem poly_lt (m : Nat) (hm : m < 7) : 283 <<< m < 65536 := by
  revert m
  decide
/-- Where a product of two bytes is 1. -/
theorem ginv_only {a b : Nat} (ha : a < 256) (hb : b < 256) (h : gm a b = 1) : b = ginv a := by
  by_cases h0 : a = 0
  · rw [h0, zero_gm] at h; omega
  · exact gm_cancel ha hb (ginv_lt a) h0 (h.trans (gm_ginv ha h0).symm)
end Go.Proofs.YtnffmegicgbinabDoor
/- The contracts of oathbookref2.bit, flip, Mul, Inv and Pow. -/
namespace Go.Proofs.YtnffmegicgbinabDoor
open Go.RowKit
set_option linter.unusedVariables false
set_option linter.unusedSimpArgs false

set_option maxRecDepth 100000 in
set_option maxHeartbeats 1000000 in
theorem rbit_any (n i : Nat) (w : World) (hn : n ≤ 1000000) (hi : i ≤ 100) :
    Calls Tryd.prog 19 #[.int .i64 (n : Int), .int .i64 (i : Int)] w fun e w' => e = .returned (.int .i64 ((n / 2 ^ i % 2 : Nat) : Int)) ∧ w' = w := by
  go_enter Tryd.func19, Tryd.ntmps19
  go_wp2_with fail
  go_loopw [0, 5] (fun nv kv wr => ∃ m k : Nat, nv = .int .i64 (m : Int) ∧ kv = .int .i64 (k : Int) ∧ m ≤ 1000000 ∧ k ≤ i ∧ Hid (m = n / 2 ^ k) ∧ Hid (wr = w)) (fun _ kv _ => i - (intOf kv).toNat)
  case atStart => exact ⟨n, 0, rfl, rfl, hn, Nat.zero_le _, by show n = n / 2 ^ 0; simp, rfl⟩
  case round =>
    obtain ⟨m, k, rfl, rfl, hm, hk, HM, HW⟩ := hrel
    by_cases hlt : k < i
    · have g1 : (k : Int) < (i : Int) := by omega
      have HM2 : Hid (m / 2 = n / 2 ^ (k + 1)) := by unfold Hid; rw [HM.out, Nat.div_div_eq_div_mul, Nat.pow_succ]
      have d1 : (m : Int).tdiv 2 = ((m / 2 : Nat) : Int) := by rw [Int.tdiv_eq_ediv_of_nonneg (by omega)]; omega
      have d2 : (m : Int) / 2 = ((m / 2 : Nat) : Int) := by omega
      have hb : m / 2 ≤ 1000000 := by omega
      have HI : Hid (k + 1 ≤ i) := hlt
      clear HM
      generalize m / 2 = m' at *
      go_wp2_with fail
      go_roundw
      case rel => exact ⟨m', k + 1, by go_num, by go_num, hb, HI.out, HM2, HW⟩
      case measure => have := HI.out; simp [intOf]; omega
    · obtain rfl : k = i := by omega
      have g1 : ¬ (k : Int) < (k : Int) := by omega
      have d3 : (m : Int).tmod 2 = ((m % 2 : Nat) : Int) := by rw [Int.tmod_eq_emod_of_nonneg (by omega)]; omega
      have d4 : (m : Int) % 2 = ((m % 2 : Nat) : Int) := by omega
      have HR : Hid (m % 2 = n / 2 ^ k % 2) := by unfold Hid; rw [HM.out]
      have hb : m % 2 ≤ 1 := by omega
      clear HM
      generalize m % 2 = m' at *
      go_wp2_with fail
      go_ret
      rw [HR.out]
      exact ⟨rfl, HW.out⟩
set_option maxRecDepth 100000 in
set_option maxHeartbeats 1000000 in
theorem rflip_any (n i : Nat) (w : World) (hn : n < 65536) (hi : i < 16) :
    Calls Tryd.prog 20 #[.int .i64 (n : Int), .int .i64 (i : Int)] w fun e w' => e = .returned (.int .i64 ((n ^^^ 2 ^ i : Nat) : Int)) ∧ w' = w := by
  have HFX : Hid (n ^^^ 2 ^ i = if n / 2 ^ i % 2 = 1 then n - 2 ^ i else n + 2 ^ i) := flip_xor i n
  have HPB : Hid (∀ k, k ≤ i → 2 ^ k ≤ 65536) := fun k hk => Nat.pow_le_pow_right (n := 2) (by omega) (show k ≤ 16 by omega)
  have HLE : Hid (n / 2 ^ i % 2 = 1 → 2 ^ i ≤ n) := fun h => by
    have : 0 < n / 2 ^ i := Nat.pos_of_ne_zero fun e => by rw [e] at h; exact absurd h (by decide)
    exact (Nat.div_pos_iff.1 this).2
  go_enter Tryd.func20, Tryd.ntmps20
  go_wp2_with fail
  go_loopw [5, 6] (fun av kv wr => ∃ m k : Nat, av = .int .i64 (m : Int) ∧ kv = .int .i64 (k : Int) ∧ m ≤ 65536 ∧ k ≤ i ∧ Hid (m = 2 ^ k) ∧ Hid (wr = w)) (fun _ kv _ => i - (intOf kv).toNat)
  case atStart => exact ⟨1, 0, rfl, rfl, by omega, Nat.zero_le _, rfl, rfl⟩
  case round =>
    obtain ⟨m, k, rfl, rfl, hm, hk, HM, HW⟩ := hrel
    by_cases hlt : k < i
    · have g1 : (k : Int) < (i : Int) := by omega
      have HM2 : Hid (2 * m = 2 ^ (k + 1)) := by unfold Hid; rw [HM.out, Nat.pow_succ, Nat.mul_comm]
      have hb : 2 * m ≤ 65536 := by rw [HM2.out]; exact HPB.out (k + 1) hlt
      have HI : Hid (k + 1 ≤ i) := hlt
      clear HM
      go_wp2_with fail
      go_roundw
      case rel => exact ⟨2 * m, k + 1, by go_num, by go_num, hb, HI.out, HM2, HW⟩
      case measure => have := HI.out; simp [intOf]; omega
    · obtain rfl : k = i := by omega
      have g1 : ¬ (k : Int) < (k : Int) := by omega
      have hw := HW.out
      subst hw
      go_wp2_with fail
      refine (rbit_any n k wr (by omega) (by omega)).mono ?_
      rintro e wq ⟨rfl, hq⟩
      have hq' : wr = wq := hq.symm
      subst hq'
      by_cases c : n / 2 ^ k % 2 = 1
      · have HE : Hid (n ^^^ 2 ^ k = n - m) := by unfold Hid; rw [HFX.out, if_pos c, HM.out]
        have hle : m ≤ n := by rw [HM.out]; exact HLE.out c
        rw [c]
        clear HFX HLE HPB HM c
        have k1 : IntKind.i64.wrap ((n : Int) - (m : Int)) = ((n - m : Nat) : Int) := by rw [IntKind.wrap_i64]; omega
        have k2 : wrap64 ((n : Int) - (m : Int)) = ((n - m : Nat) : Int) := by simp only [wrap64]; omega
        generalize n - m = d at *
        go_wp2_with fail
        go_ret
        rw [HE.out]
        exact ⟨rfl, rfl⟩
      · have HE : Hid (n ^^^ 2 ^ k = n + m) := by unfold Hid; rw [HFX.out, if_neg c, HM.out]
        have hc : n / 2 ^ k % 2 = 0 := by omega
        rw [hc]
        clear HFX HLE HPB HM c hc
        go_wp2_with fail
        go_ret
        rw [HE.out]
        exact ⟨by go_num, rfl⟩
end Go.Proofs.YtnffmegicgbinabDoor
/- The contracts of oathbookref2.Mul, Inv and Pow. -/
namespace Go.Proofs.YtnffmegicgbinabDoor
open Go.RowKit
set_option linter.unusedVariables false
set_option linter.unusedSimpArgs false

set_option maxRecDepth 100000 in
set_option maxHeartbeats 1000000 in
theorem rmul_any (a b : Nat) (w : World) (ha : a < 256) (hb : b < 256) :
    Calls Tryd.prog 14 #[.int .u8 (a : Int), .int .u8 (b : Int)] w fun e w' => e = .returned (.int .u8 ((gm a b : Nat) : Int)) ∧ w' = w := by
  have HGM : Hid (mulT a b = gm a b) := (gm_mulT ha hb).symm
  go_enter Tryd.func14, Tryd.ntmps14
  go_wp2_with fail
  go_loopw [5, 6] (fun pv iv wr => ∃ p i : Nat, pv = .int .i64 (p : Int) ∧ iv = .int .i64 (i : Int) ∧ p < 65536 ∧ i ≤ 8 ∧ Hid (p = clm a b i) ∧ Hid (wr = w)) (fun _ iv _ => 8 - (intOf iv).toNat)
  case atStart => exact ⟨0, 0, rfl, rfl, by omega, Nat.zero_le _, rfl, rfl⟩
  case round =>
    obtain ⟨p, i, rfl, rfl, hp, hi, HP, HW⟩ := hrel
    have hw := HW.out
    subst hw
    by_cases hlt : i < 8
    · have g1 : (i : Int) < 8 := by omega
      have HI : Hid (i < 8) := hlt
      go_wp2_with fail
      rename World => wo
      go_loopw [5, 7] (fun pv jv wq => ∃ q j : Nat, pv = .int .i64 (q : Int) ∧ jv = .int .i64 (j : Int) ∧ q < 65536 ∧ j ≤ 8 ∧ Hid (q = rowm a b i j) ∧ Hid (wq = wo)) (fun _ jv _ => 8 - (intOf jv).toNat)
      case atStart => exact ⟨p, 0, rfl, rfl, hp, Nat.zero_le _, by show p = rowm a b i 0; rw [rowm_zero]; exact HP.out, rfl⟩
      case round =>
        clear HP
        obtain ⟨q, j, rfl, rfl, hq, hj, HQ, HW2⟩ := hrel
        have hw := HW2.out
        subst hw
        by_cases hlj : j < 8
        · have g2 : (j : Int) < 8 := by omega
          have HST := rowm_step a b i j
          have HJ : Hid (j < 8) := hlj
          have hrl := rowm_lt a b i (j + 1) hb HI.out
          have HFL : Hid (∀ wx, Calls Tryd.prog 20 #[.int .i64 (q : Int), .int .i64 ((i : Int) + (j : Int))] wx fun e w' => e = .returned (.int .i64 ((q ^^^ 2 ^ (i + j) : Nat) : Int)) ∧ w' = wx) := fun wx => by
            have h := rflip_any q (i + j) wx hq (by omega)
            rwa [Int.natCast_add] at h
          have HB1 : Hid (∀ wx, Calls Tryd.prog 19 #[.int .i64 (a : Int), .int .i64 (i : Int)] wx fun e w' => e = .returned (.int .i64 ((a / 2 ^ i % 2 : Nat) : Int)) ∧ w' = wx) := fun wx => rbit_any a i wx (by omega) (by omega)
          have HB2 : Hid (∀ wx, Calls Tryd.prog 19 #[.int .i64 (b : Int), .int .i64 (j : Int)] wx fun e w' => e = .returned (.int .i64 ((b / 2 ^ j % 2 : Nat) : Int)) ∧ w' = wx) := fun wx => rbit_any b j wx (by omega) (by omega)
          have hx2 : a / 2 ^ i % 2 < 2 := Nat.mod_lt _ (by omega)
          have hy2 : b / 2 ^ j % 2 < 2 := Nat.mod_lt _ (by omega)
          rw [← HQ.out] at HST
          obtain ⟨q2, hq2⟩ : ∃ q2, rowm a b i (j + 1) = q2 := ⟨_, rfl⟩
          have HQ2 : Hid (q2 = rowm a b i (j + 1)) := hq2.symm
          rw [hq2] at HST hrl
          clear hq2 HQ
          generalize a / 2 ^ i % 2 = x at *
          generalize b / 2 ^ j % 2 = y at *
          generalize q ^^^ 2 ^ (i + j) = q3 at *
          by_cases c1 : x = 1
          · subst c1
            by_cases c2 : y = 1
            · subst c2
              rw [if_pos ⟨rfl, rfl⟩] at HST
              subst HST
              go_wp2_with fail
              refine (HB1.out wr).mono ?_
              rintro e wx ⟨rfl, hq'⟩
              have hq'' : wr = wx := hq'.symm
              subst hq''
              go_wp2_with fail
              refine (HB2.out wr).mono ?_
              rintro e wx ⟨rfl, hq'⟩
              have hq'' : wr = wx := hq'.symm
              subst hq''
              go_wp2_with fail
              refine (HFL.out wr).mono ?_
              rintro e wx ⟨rfl, hq'⟩
              have hq'' : wr = wx := hq'.symm
              subst hq''
              go_wp2_with fail
              go_roundw
              case rel => exact ⟨q2, j + 1, rfl, by go_num, hrl, HJ.out, HQ2, by trivial⟩
              case measure => have := HJ.out; simp [intOf]; omega
            · obtain rfl : y = 0 := by omega
              rw [if_neg (fun h => c2 h.2)] at HST
              subst HST
              go_wp2_with fail
              refine (HB1.out wr).mono ?_
              rintro e wx ⟨rfl, hq'⟩
              have hq'' : wr = wx := hq'.symm
              subst hq''
              go_wp2_with fail
              refine (HB2.out wr).mono ?_
              rintro e wx ⟨rfl, hq'⟩
              have hq'' : wr = wx := hq'.symm
              subst hq''
              go_wp2_with fail
              go_roundw
              case rel => exact ⟨q2, j + 1, rfl, by go_num, hrl, HJ.out, HQ2, by trivial⟩
              case measure => have := HJ.out; simp [intOf]; omega
          · obtain rfl : x = 0 := by omega
            rw [if_neg (fun h => c1 h.1)] at HST
            subst HST
            go_wp2_with fail
            refine (HB1.out wr).mono ?_
            rintro e wx ⟨rfl, hq'⟩
            have hq'' : wr = wx := hq'.symm
            subst hq''
            go_wp2_with fail
            go_roundw
            case rel => exact ⟨q2, j + 1, rfl, by go_num, hrl, HJ.out, HQ2, by trivial⟩
            case measure => have := HJ.out; simp [intOf]; omega
        · obtain rfl : j = 8 := by omega
          have HC : Hid (q = clm a b (i + 1)) := by rw [← rowm_end a b i hb]; exact HQ.out
          clear HQ
          go_wp2_with fail
          go_roundw
          case rel => exact ⟨q, i + 1, rfl, by go_num, hq, HI.out, HC, by trivial⟩
          case measure => have := HI.out; simp [intOf]; omega
    · obtain rfl : i = 8 := by omega
      have HR0 : Hid (redk p 7 = mulT a b) := by unfold Hid; rw [HP.out]; rfl
      clear HP
      go_wp2_with fail
      rename World => wo
      go_loopw [5, 8] (fun pv kv wq => ∃ q k : Nat, pv = .int .i64 (q : Int) ∧ kv = .int .i64 (k : Int) ∧ q < 65536 ∧ 7 ≤ k ∧ k ≤ 14 ∧ Hid (redk q (k - 7) = mulT a b) ∧ Hid (wq = wo)) (fun _ kv _ => (intOf kv).toNat)
      case atStart => exact ⟨p, 14, rfl, rfl, hp, by omega, by omega, HR0.out, rfl⟩
      case round =>
        clear HR0
        obtain ⟨q, k, rfl, rfl, hq, hk7, hk14, HR, HW2⟩ := hrel
        have hw := HW2.out
        subst hw
        by_cases hk : k = 7
        · subst hk
          have HQ : Hid (q = gm a b) := by rw [← HGM.out]; exact HR.out
          have hq8 : q < 256 := by rw [HQ.out]; exact gm_lt _ _
          clear HR
          go_wp2_with fail
          go_ret
          rw [← HQ.out]
          exact ⟨rfl, by trivial⟩
        · have h8 : 8 ≤ k := by omega
          obtain ⟨m, hm⟩ : ∃ m, k = m + 8 := ⟨k - 8, by omega⟩
          have hm7 : m < 7 := by omega
          have g1 : (8 : Int) ≤ (k : Int) := by omega
          have HK : Hid (8 ≤ k ∧ k ≤ 14) := ⟨h8, hk14⟩
          have HST : Hid (redk (if q / 2 ^ k % 2 = 1 then q ^^^ (283 <<< m) else q) (k - 1 - 7) = mulT a b) := by
            have h := HR.out
            rw [hm, show m + 8 - 7 = m + 1 by omega, redk_step] at h
            rw [hm, show m + 8 - 1 - 7 = m by omega]
            exact h
          have HPF : Hid (((((q ^^^ 2 ^ k) ^^^ 2 ^ (k - 4)) ^^^ 2 ^ (k - 5)) ^^^ 2 ^ (k - 7)) ^^^ 2 ^ (k - 8) = q ^^^ (283 <<< m)) := by
            have h := poly_flips m hm7 q
            rw [hm, show m + 8 - 4 = m + 4 by omega, show m + 8 - 5 = m + 3 by omega, show m + 8 - 7 = m + 1 by omega, show m + 8 - 8 = m by omega]
            exact h
          have hpl : q ^^^ (283 <<< m) < 65536 := Nat.xor_lt_two_pow (n := 16) hq (poly_lt m hm7)
          have xlt : ∀ (u t : Nat), u < 65536 → t < 16 → u ^^^ 2 ^ t < 65536 := fun u t hu ht => Nat.xor_lt_two_pow (n := 16) hu (Nat.pow_lt_pow_right (by omega) ht)
          have HF0 : Hid (∀ wx, Calls Tryd.prog 20 #[.int .i64 (q : Int), .int .i64 (k : Int)] wx fun e w' => e = .returned (.int .i64 ((q ^^^ 2 ^ k : Nat) : Int)) ∧ w' = wx) := fun wx => rflip_any q k wx hq (by omega)
          have l0 := xlt q k hq (by omega)
          have HF1 : Hid (∀ wx, Calls Tryd.prog 20 #[.int .i64 ((q ^^^ 2 ^ k : Nat) : Int), .int .i64 ((k - 4 : Nat) : Int)] wx fun e w' => e = .returned (.int .i64 (((q ^^^ 2 ^ k) ^^^ 2 ^ (k - 4) : Nat) : Int)) ∧ w' = wx) := fun wx => rflip_any _ (k - 4) wx l0 (by omega)
          have l1 := xlt _ (k - 4) l0 (by omega)
          have HF2 : Hid (∀ wx, Calls Tryd.prog 20 #[.int .i64 (((q ^^^ 2 ^ k) ^^^ 2 ^ (k - 4) : Nat) : Int), .int .i64 ((k - 5 : Nat) : Int)] wx fun e w' => e = .returned (.int .i64 ((((q ^^^ 2 ^ k) ^^^ 2 ^ (k - 4)) ^^^ 2 ^ (k - 5) : Nat) : Int)) ∧ w' = wx) := fun wx => rflip_any _ (k - 5) wx l1 (by omega)
          have l2 := xlt _ (k - 5) l1 (by omega)
          have HF3 : Hid (∀ wx, Calls Tryd.prog 20 #[.int .i64 ((((q ^^^ 2 ^ k) ^^^ 2 ^ (k - 4)) ^^^ 2 ^ (k - 5) : Nat) : Int), .int .i64 ((k - 7 : Nat) : Int)] wx fun e w' => e = .returned (.int .i64 (((((q ^^^ 2 ^ k) ^^^ 2 ^ (k - 4)) ^^^ 2 ^ (k - 5)) ^^^ 2 ^ (k - 7) : Nat) : Int)) ∧ w' = wx) := fun wx => rflip_any _ (k - 7) wx l2 (by omega)
          have l3 := xlt _ (k - 7) l2 (by omega)
          have HF4 : Hid (∀ wx, Calls Tryd.prog 20 #[.int .i64 (((((q ^^^ 2 ^ k) ^^^ 2 ^ (k - 4)) ^^^ 2 ^ (k - 5)) ^^^ 2 ^ (k - 7) : Nat) : Int), .int .i64 ((k - 8 : Nat) : Int)] wx fun e w' => e = .returned (.int .i64 ((q ^^^ (283 <<< m) : Nat) : Int)) ∧ w' = wx) := fun wx => by
            have h := rflip_any _ (k - 8) wx l3 (by omega)
            rw [HPF.out] at h
            exact h
          have HBT : Hid (∀ wx, Calls Tryd.prog 19 #[.int .i64 (q : Int), .int .i64 (k : Int)] wx fun e w' => e = .returned (.int .i64 ((q / 2 ^ k % 2 : Nat) : Int)) ∧ w' = wx) := fun wx => rbit_any q k wx (by omega) (by omega)
          have hy2 : q / 2 ^ k % 2 < 2 := Nat.mod_lt _ (by omega)
          have HN : Hid (7 ≤ k - 1 ∧ k - 1 ≤ 14 ∧ k - 1 < k) := by unfold Hid; omega
          have e1 : (k : Int) - 1 = ((k - 1 : Nat) : Int) := by omega
          have e4 : (k : Int) - 4 = ((k - 4 : Nat) : Int) := by omega
          have e5 : (k : Int) - 5 = ((k - 5 : Nat) : Int) := by omega
          have e7 : (k : Int) - 7 = ((k - 7 : Nat) : Int) := by omega
          have e8 : (k : Int) - 8 = ((k - 8 : Nat) : Int) := by omega
          have b1 : k - 1 ≤ 14 := by omega
          have b4 : k - 4 ≤ 14 := by omega
          have b5 : k - 5 ≤ 14 := by omega
          have b7 : k - 7 ≤ 14 := by omega
          have b8 : k - 8 ≤ 14 := by omega
          clear hm hm7 HPF HR l0 l1 l2 l3 xlt hk hk7
          generalize q ^^^ (283 <<< m) = q5 at *
          generalize q / 2 ^ k % 2 = y at *
          generalize (((q ^^^ 2 ^ k) ^^^ 2 ^ (k - 4)) ^^^ 2 ^ (k - 5)) ^^^ 2 ^ (k - 7) = q4 at *
          generalize ((q ^^^ 2 ^ k) ^^^ 2 ^ (k - 4)) ^^^ 2 ^ (k - 5) = q3 at *
          generalize (q ^^^ 2 ^ k) ^^^ 2 ^ (k - 4) = q2 at *
          generalize q ^^^ 2 ^ k = q1 at *
          generalize k - 1 = k1 at *
          generalize k - 4 = k4 at *
          generalize k - 5 = k5 at *
          generalize k - 7 = k7 at *
          generalize k - 8 = k8 at *
          by_cases c : y = 1
          · subst c
            have HS2 : Hid (redk q5 (k1 - 7) = mulT a b) := by have h := HST.out; rw [if_pos rfl] at h; exact h
            clear HST
            go_wp2_with fail
            refine (HBT.out wr).mono ?_
            rintro e wx ⟨rfl, hq'⟩
            have hq'' : wr = wx := hq'.symm
            subst hq''
            go_wp2_with fail
            refine (HF0.out wr).mono ?_
            rintro e wx ⟨rfl, hq'⟩
            have hq'' : wr = wx := hq'.symm
            subst hq''
            go_wp2_with fail
            refine (HF1.out wr).mono ?_
            rintro e wx ⟨rfl, hq'⟩
            have hq'' : wr = wx := hq'.symm
            subst hq''
            go_wp2_with fail
            refine (HF2.out wr).mono ?_
            rintro e wx ⟨rfl, hq'⟩
            have hq'' : wr = wx := hq'.symm
            subst hq''
            go_wp2_with fail
            refine (HF3.out wr).mono ?_
            rintro e wx ⟨rfl, hq'⟩
            have hq'' : wr = wx := hq'.symm
            subst hq''
            go_wp2_with fail
            refine (HF4.out wr).mono ?_
            rintro e wx ⟨rfl, hq'⟩
            have hq'' : wr = wx := hq'.symm
            subst hq''
            go_wp2_with fail
            go_roundw
            case rel => exact ⟨q5, k1, rfl, by go_num, hpl, HN.out.1, HN.out.2.1, HS2, by trivial⟩
            case measure => have := HN.out; simp [intOf]; omega
          · have HS2 : Hid (redk q (k1 - 7) = mulT a b) := by have h := HST.out; rw [if_neg c] at h; exact h
            obtain rfl : y = 0 := by omega
            clear HST c
            go_wp2_with fail
            refine (HBT.out wr).mono ?_
            rintro e wx ⟨rfl, hq'⟩
            have hq'' : wr = wx := hq'.symm
            subst hq''
            go_wp2_with fail
            go_roundw
            case rel => exact ⟨q, k1, rfl, by go_num, hq, HN.out.1, HN.out.2.1, HS2, by trivial⟩
            case measure => have := HN.out; simp [intOf]; omega
end Go.Proofs.YtnffmegicgbinabDoor
