/- Leaves of the seed of bytes 0, of a key that signs once, in a form that the kernel reckons fast. -/
import Derived.Test.YtigdgmoiljifjaaDoorFastm
import Derived.Test.YtigdgmoiljifjaaDoorOnce
namespace Go.Proofs.YtigdgmoiljifjaaDoor
open Go.RowKit
set_option linter.unusedVariables false
set_option linter.unusedSimpArgs false

/-- The words of the k-th leaf. -/
def leafW (k : Nat) : List Nat := shaW (3 :: onceSecL zS (k / 2) (k % 2))
theorem leafW_eq (k : Nat) : outL (leafW k) = onceLeafL (onceSecL zS (k / 2) (k % 2)) := by
  unfold leafW onceLeafL
  rw [shaL_words]
/-- Are these the words of the leaves from the k-th on? -/
def checkF : List (List Nat) → Nat → Bool
  | [], _ => true
  | L :: r, k => macK (fun ho => shaK (fun hl => hl == L && checkF r (k + 1)) 33 (3 :: outN ho [])) 3 [2, k / 2 % 256, k % 2 % 256]
theorem checkF_cons (L : List Nat) (r : List (List Nat)) (k : Nat) : checkF (L :: r) k = (leafW k == L && checkF r (k + 1)) := by
  have e1 : [2, k / 2 % 256, k % 2 % 256] = nums [2, UInt8.ofNat (k / 2), UInt8.ofNat (k % 2)] := by simp [nums, UInt8.toNat_ofNat']
  have e2 : macL zS [2, UInt8.ofNat (k / 2), UInt8.ofNat (k % 2)] = onceSecL zS (k / 2) (k % 2) := rfl
  rw [checkF, e1, macK_eq _ _ 3 rfl, outN_eq _ (macW_len _), List.append_nil, macW_eq, e2]
  have e3 : 3 :: nums (onceSecL zS (k / 2) (k % 2)) = nums (3 :: onceSecL zS (k / 2) (k % 2)) := rfl
  rw [e3, shaK_eq _ _ 33 (by simp [onceSecL_length])]
  rfl
theorem checkF_append : ∀ (l r : List (List Nat)) (k : Nat), checkF (l ++ r) k = (checkF l k && checkF r (k + l.length))
  | [], r, k => by simp [checkF]
  | L :: l, r, k => by
    rw [List.cons_append, checkF_cons, checkF_cons, checkF_append l r (k + 1), Bool.and_assoc, List.length_cons, show k + 1 + l.length = k + (l.length + 1) by omega]
theorem checkF_eq (ls : List (List Nat)) : ∀ (k : Nat), checkF ls k = true → ls = (List.range ls.length).map fun j => leafW (k + j) := by
  induction ls with
  | nil =>
    intro k _
    rfl
  | cons L r ih =>
    intro k h
    rw [checkF_cons, Bool.and_eq_true] at h
    have ih := ih (k + 1) h.2
    have e : leafW k = L := eq_of_beq h.1
    rw [List.length_cons, List.range_succ_eq_map, List.map_cons, List.map_map]
    refine congr (congrArg List.cons ?_) ?_
    · rw [Nat.add_zero]
      exact e.symm
    · refine ih.trans (List.map_congr_left fun j _ => ?_)
      rw [Function.comp_apply, Nat.succ_eq_add_one, show k + 1 + j = k + (j + 1) by omega]
theorem checkF_len (ls : List (List Nat)) (k : Nat) (h : checkF ls k = true) : ∀ l ∈ ls, l.length = 8 := by
  intro l hl
  rw [checkF_eq ls k h] at hl
  obtain ⟨j, _, rfl⟩ := List.mem_map.1 hl
  exact shaW_len _
def outAll : List (List Nat) → List Nat
  | [] => []
  | h :: r => outN h (outAll r)
theorem outAll_eq : ∀ (ls : List (List Nat)), (∀ l ∈ ls, l.length = 8) → outAll ls = nums (ls.map outL).flatten
  | [], _ => rfl
  | h :: r, h8 => by rw [outAll, outN_eq h (h8 h (List.mem_cons_self ..)), outAll_eq r (fun l hl => h8 l (List.mem_cons_of_mem _ hl)), List.map_cons, List.flatten_cons, nums_append]
end Go.Proofs.YtigdgmoiljifjaaDoor
