/- Polynomials over bytes: plain facts: as many values tell one, and no fewer. -/
import Derived.Test.YtghiniaijobonaaDoorJ04
namespace Go.Proofs.YtghiniaijobonaaDoor
set_option linter.unusedVariables false
set_option linter.unusedSimpArgs false

/-- All are bytes. -/
def bys (c : List Nat) : Prop := ∀ x ∈ c, x < 256
/-- c0 + c1 x + c2 x^2 and so on. -/
def polyv : List Nat → Nat → Nat
  | [], _ => 0
  | a :: r, x => a ^^^ gm x (polyv r x)
theorem polyv_lt {c : List Nat} (h : bys c) (x : Nat) : polyv c x < 256 := by
  cases c with
  | nil => show 0 < 256; omega
  | cons a r => exact xor_lt256 (h a (List.mem_cons_self ..)) (gm_lt _ _)
theorem bys_tail {a : Nat} {r : List Nat} (h : bys (a :: r)) : bys r := fun x hx => h x (List.mem_cons_of_mem _ hx)
theorem bys_head {a : Nat} {r : List Nat} (h : bys (a :: r)) : a < 256 := h a (List.mem_cons_self ..)
/-- The sum of two. -/
def padd : List Nat → List Nat → List Nat
  | [], d => d
  | c, [] => c
  | a :: c, b :: d => (a ^^^ b) :: padd c d
theorem padd_bys : ∀ {c d : List Nat}, bys c → bys d → bys (padd c d)
  | [], d, _, hd => by cases d <;> exact hd
  | a :: c, [], hc, _ => hc
  | a :: c, b :: d, hc, hd => fun x hx => by
    rcases List.mem_cons.1 hx with rfl | h
    · exact xor_lt256 (bys_head hc) (bys_head hd)
    · exact padd_bys (bys_tail hc) (bys_tail hd) x h
theorem padd_len : ∀ (c d : List Nat), (padd c d).length = max c.length d.length
  | [], d => by cases d <;> simp [padd]
  | a :: c, [] => by simp [padd]
  | a :: c, b :: d => by simp only [padd, List.length_cons, padd_len c d]; omega
theorem padd_val : ∀ {c d : List Nat}, bys c → bys d → ∀ x, x < 256 → polyv (padd c d) x = polyv c x ^^^ polyv d x
  | [], d, _, _, x, _ => by cases d <;> simp [padd, polyv]
  | a :: c, [], _, _, x, _ => by simp [padd, polyv]
  | a :: c, b :: d, hc, hd, x, hx => by
    simp only [padd, polyv]
    rw [padd_val (bys_tail hc) (bys_tail hd) x hx, gm_xor hx (polyv_lt (bys_tail hc) x) (polyv_lt (bys_tail hd) x), xor_swap]
/-- What is left when a root is taken out. -/
def pquo (r : Nat) : List Nat → List Nat
  | [] => []
  | [_] => []
  | _ :: b :: c => polyv (b :: c) r :: pquo r (b :: c)
theorem pquo_len (r : Nat) : ∀ c, (pquo r c).length = c.length - 1
  | [] => rfl
  | [_] => rfl
  | _ :: b :: c => by simp only [pquo, List.length_cons, pquo_len r (b :: c)]; omega
theorem pquo_bys (r : Nat) : ∀ {c}, bys c → bys (pquo r c)
  | [], _ => fun x hx => by cases hx
  | [_], _ => fun x hx => by cases hx
  | _ :: b :: c, h => fun x hx => by
    rcases List.mem_cons.1 hx with rfl | h'
    · exact polyv_lt (bys_tail h) r
    · exact pquo_bys r (bys_tail h) x h'
theorem xor_eq0 {a b : Nat} (h : a ^^^ b = 0) : a = b := by
  have e : (a ^^^ b) ^^^ b = a := by rw [Nat.xor_assoc, Nat.xor_self, Nat.xor_zero]
  rw [h, Nat.zero_xor] at e
  exact e.symm
theorem xor_ne {a b : Nat} (h : a ≠ b) : a ^^^ b ≠ 0 := fun e => h (xor_eq0 e)
theorem xor_same (a b c : Nat) : (a ^^^ b) ^^^ (a ^^^ c) = b ^^^ c := by rw [xor_swap, Nat.xor_self, Nat.zero_xor]
theorem pquo_val {r : Nat} (hr : r < 256) : ∀ {c}, bys c → ∀ x, x < 256 → polyv c x ^^^ polyv c r = gm (x ^^^ r) (polyv (pquo r c) x)
  | [], _, x, _ => by simp [polyv, pquo, gm_zero]
  | [a], _, x, _ => by simp [polyv, pquo, gm_zero]
  | a :: b :: c, h, x, hx => by
    have ih := pquo_val hr (bys_tail h) x hx
    have hp := polyv_lt (bys_tail h)
    have hq := polyv_lt (pquo_bys r (bys_tail h)) x
    show (a ^^^ gm x (polyv (b :: c) x)) ^^^ (a ^^^ gm r (polyv (b :: c) r)) = gm (x ^^^ r) (polyv (b :: c) r ^^^ gm x (polyv (pquo r (b :: c)) x))
    rw [xor_same, gm_xor (xor_lt256 hx hr) (hp r) (gm_lt _ _), xor_gm hx hr (hp r)]
    have e : gm (x ^^^ r) (gm x (polyv (pquo r (b :: c)) x)) = gm x (polyv (b :: c) x) ^^^ gm x (polyv (b :: c) r) := by
      rw [← gm_assoc, gm_comm (x ^^^ r) x, gm_assoc, ← ih, gm_xor hx (hp x) (hp r)]
    rw [e]
    generalize gm x (polyv (b :: c) x) = A
    generalize gm r (polyv (b :: c) r) = B
    generalize gm x (polyv (b :: c) r) = C
    rw [Nat.xor_comm C B, Nat.xor_comm A C, ← Nat.xor_assoc, Nat.xor_assoc B C C, Nat.xor_self, Nat.xor_zero, Nat.xor_comm]
/-- So many roots, and no greater: it is nothing everywhere. -/
theorem roots_all : ∀ (xs : List Nat), xs.Nodup → bys xs → ∀ c, bys c → c.length ≤ xs.length → (∀ x ∈ xs, polyv c x = 0) → ∀ x, x < 256 → polyv c x = 0
  | [], _, _, c, _, hl, _, x, _ => by
    have : c = [] := List.eq_nil_of_length_eq_zero (by simpa using hl)
    rw [this]
    rfl
  | r :: xs, hn, hb, c, hc, hl, hz, x, hx => by
    have hr := bys_head hb
    have h0 := hz r (List.mem_cons_self ..)
    have hv := fun y (hy : y < 256) => pquo_val hr hc y hy
    have hq := roots_all xs (List.nodup_cons.1 hn).2 (bys_tail hb) (pquo r c) (pquo_bys r hc) (by rw [pquo_len]; simp at hl; omega) (fun y hy => by
      have h1 := hv y (hb y (List.mem_cons_of_mem _ hy))
      rw [hz y (List.mem_cons_of_mem _ hy), h0, Nat.xor_self] at h1
      have hne : y ≠ r := fun e => (List.nodup_cons.1 hn).1 (e ▸ hy)
      refine Classical.byContradiction fun hc' => ?_
      exact gm_nz (xor_ne hne) hc' h1.symm)
    have h1 := hv x hx
    rw [h0, Nat.xor_zero, hq x hx, gm_zero] at h1
    exact h1
/-- Two that agree at so many places agree everywhere. -/
theorem poly_unique {xs c d : List Nat} (hn : xs.Nodup) (hb : bys xs) (hc : bys c) (hd : bys d) (lc : c.length ≤ xs.length) (ld : d.length ≤ xs.length) (h : ∀ x ∈ xs, polyv c x = polyv d x) (x : Nat) (hx : x < 256) : polyv c x = polyv d x := by
  have := roots_all xs hn hb (padd c d) (padd_bys hc hd) (by rw [padd_len]; omega) (fun y hy => by rw [padd_val hc hd y (hb y hy), h y hy, Nat.xor_self]) x hx
  rw [padd_val hc hd x hx] at this
  exact xor_eq0 this
/-- The value at x of the polynomial that has values at places. -/
def Interp (at' v : List Nat) (x r : Nat) : Prop := ∃ c, bys c ∧ c.length ≤ at'.length ∧ (∀ i, i < at'.length → polyv c (at'.getD i 0) = v.getD i 0) ∧ r = polyv c x
theorem interp_unique {at' v : List Nat} {x r r' : Nat} (hn : at'.Nodup) (hb : bys at') (hx : x < 256) (h : Interp at' v x r) (h' : Interp at' v x r') : r = r' := by
  obtain ⟨c, hc, lc, vc, rfl⟩ := h
  obtain ⟨d, hd, ld, vd, rfl⟩ := h'
  refine poly_unique hn hb hc hd lc ld (fun y hy => ?_) x hx
  obtain ⟨i, hi, rfl⟩ := List.mem_iff_getElem.1 hy
  have e : at'.getD i 0 = at'[i] := by rw [List.getD_eq_getElem?_getD, List.getElem?_eq_getElem hi]; rfl
  have h1 := vc i hi
  have h2 := vd i hi
  rw [e] at h1 h2
  rw [h1, h2]
end Go.Proofs.YtghiniaijobonaaDoor
