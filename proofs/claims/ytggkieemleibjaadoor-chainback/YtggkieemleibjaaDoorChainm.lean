/- What a chain keeps: places and digests, no theorem of the program. -/
import Derived.Test.YtggkieemleibjaaDoorChain
namespace Go.Proofs.YtggkieemleibjaaDoor
set_option linter.unusedVariables false

/-- The places that are kept from q on, with l levels left, where q + r is told next. -/
def keptP : Nat → Nat → Nat → List Nat
  | 0, q, _ => [q]
  | l + 1, q, r => if r < 2 ^ l then keptP l q r else q :: keptP l (q + 2 ^ l) (r - 2 ^ l)
/-- The places that are filled in behind q. -/
def fillP : Nat → Nat → List Nat
  | _, 0 => []
  | q, l + 1 => (q + 2 ^ l) :: fillP (q + 2 ^ l) l
/-- The lowest bit's place. -/
def tzN : Nat → Nat → Nat
  | 0, _ => 0
  | f + 1, r => if r % 2 = 1 then 0 else 1 + tzN f (r / 2)
def fillL : List UInt8 → Nat → List (List UInt8)
  | _, 0 => []
  | x, l + 1 => walkL x (2 ^ l) :: fillL (walkL x (2 ^ l)) l
theorem fillL_length : ∀ (l : Nat) (x : List UInt8), (fillL x l).length = l
  | 0, _ => rfl
  | l + 1, x => by rw [fillL, List.length_cons, fillL_length l]
theorem fillL_places (d : List UInt8) : ∀ (l q : Nat), fillL (walkL d q) l = (fillP q l).map (walkL d)
  | 0, _ => rfl
  | l + 1, q => by
    rw [fillL, fillP, List.map_cons, ← walkL_add, fillL_places d l]
theorem fillL_32 {x : List UInt8} (hx : x.length = 32) : ∀ (l : Nat) (x : List UInt8), x.length = 32 → ∀ y ∈ fillL x l, y.length = 32
  | 0, _, _ => fun y hy => absurd hy (by simp [fillL])
  | l + 1, x, h => fun y hy => by
    rw [fillL, List.mem_cons] at hy
    rcases hy with rfl | hy
    · exact walkL_length h _
    · exact fillL_32 hx l _ (walkL_length h _) y hy
/-- One place is told: what stays, and what is filled in. -/
def stepOk (k r : Nat) : Bool :=
  let A := (keptP k 0 r).dropLast
  keptP k 0 r == A ++ [r] && keptP k 0 (r - 1) == A ++ fillP (A.getLastD 0) (tzN 10 r) && decide (1 ≤ A.length) && decide (A.length + tzN 10 r ≤ k + 1) && decide (A.length ≤ k)
theorem steps_ok : ∀ k, k ≤ 10 → ∀ r, r < 1024 → 0 < r → r < 2 ^ k → stepOk k r = true := by decide +kernel
theorem kept_zero : ∀ k, k ≤ 10 → keptP k 0 0 = [0] := by decide +kernel
theorem kept_first : ∀ k, k ≤ 10 → keptP k 0 (2 ^ k - 1) = 0 :: fillP 0 k := by decide +kernel
theorem tz_le : ∀ r, r < 1024 → 0 < r → tzN 10 r ≤ 9 := by decide +kernel
theorem kept_step {k r : Nat} (hk : k ≤ 10) (h0 : 0 < r) (hr : r < 2 ^ k) : ∃ (A : List Nat) (q : Nat), keptP k 0 r = A ++ [q] ++ [r] ∧ keptP k 0 (r - 1) = A ++ [q] ++ fillP q (tzN 10 r) ∧ A.length + 1 + tzN 10 r ≤ k + 1 ∧ A.length + 1 ≤ k := by
  have h1024 : r < 1024 := Nat.lt_of_lt_of_le hr (Nat.pow_le_pow_right (by omega) hk)
  have h := steps_ok k hk r h1024 h0 hr
  unfold stepOk at h
  generalize hA : (keptP k 0 r).dropLast = B at h
  simp only [Bool.and_eq_true, beq_iff_eq, decide_eq_true_eq] at h
  obtain ⟨⟨⟨⟨h1, h2⟩, h3⟩, h4⟩, h5⟩ := h
  have hne : B ≠ [] := by rintro rfl; simp at h3
  refine ⟨B.dropLast, B.getLast hne, ?_, ?_, ?_, ?_⟩
  · rw [List.dropLast_concat_getLast hne]; exact h1
  · rw [List.dropLast_concat_getLast hne]
    rw [h2]
    rw [List.getLastD_eq_getLast?, List.getLast?_eq_some_getLast hne]
    rfl
  · rw [List.length_dropLast]; omega
  · rw [List.length_dropLast]; omega
end Go.Proofs.YtggkieemleibjaaDoor
