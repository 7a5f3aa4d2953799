/- Texts of this claim, joined: Growc. -/
import Derived.Test.YtdldkhhcicjbmabDoorJ08
/- What Check tells, plainly. -/
namespace Go.Proofs.YtdldkhhcicjbmabDoor
set_option linter.unusedVariables false
/-- Is a proof right, with both roots? -/
def checkB (m n : Int) (old now : List UInt8) (pf : List (List UInt8)) : Bool :=
  decide (1 ≤ m ∧ m ≤ n ∧ n ≤ 256 ∧ pf.length = plongT m.toNat n.toNat true ∧ rootsT m.toNat n.toNat true old pf = (old, now))
theorem check_ok {m n : Nat} {ls : List (List UInt8)} (hl : ls.length = n) (h1 : 1 ≤ m) (hm : m ≤ n) (hn : n ≤ 256) : checkB (m : Int) (n : Int) (rootT (ls.take m)) (rootT ls) (proofT ls m true) = true := by
  obtain ⟨e1, e2⟩ := grow_ok n ls m true (rootT (ls.take m)) hl h1 hm (fun _ => rfl)
  unfold checkB
  rw [Int.toNat_natCast, Int.toNat_natCast, e1, e2]
  exact decide_eq_true ⟨by omega, by omega, by omega, rfl, rfl⟩
theorem check_is {m n : Nat} {old now : List UInt8} {pf : List (List UInt8)} (h : checkB (m : Int) (n : Int) old now pf = true) : pf.length = plongT m n true ∧ rootsT m n true old pf = (old, now) := by
  have := of_decide_eq_true h
  rw [Int.toNat_natCast, Int.toNat_natCast] at this
  exact ⟨this.2.2.2.1, this.2.2.2.2⟩
end Go.Proofs.YtdldkhhcicjbmabDoor
