/- Texts of this claim, joined: Splitp, Rsplitf, Rfield, Rfieldm. -/
import Derived.Test.YtghiniaijobonaaDoorJ06
import Derived.Test.YtghiniaijobonaaDoorJ07
import Derived.Test.YtghiniaijobonaaDoorJ08
import Derived.Deep.DeepCutAuto
import Derived.WalkKit
import Derived.Test.YtghiniaijobonaaDoorJ04
/- Plain definitions for a secret in parts. -/
namespace Go.Proofs.YtghiniaijobonaaDoor
open Go.RowKit
set_option linter.unusedVariables false
set_option linter.unusedSimpArgs false

/-- What is wrong with what is to be split. -/
def splitE (len : Nat) (n : Int) (ls : List (List UInt8)) : Int := if n < 1 ∨ 20 < n then 2 else if 100 < len ∨ 20 < ls.length then 4 else if ∀ l ∈ ls, l.length = len then 0 else 3
theorem splitE_ok {m : Nat} {n : Int} {ls : List (List UInt8)} (h : splitE m n ls = 0) : 1 ≤ n ∧ n ≤ 20 ∧ m ≤ 100 ∧ ls.length ≤ 20 ∧ ∀ l ∈ ls, l.length = m := by
  unfold splitE at h
  by_cases c1 : n < 1 ∨ 20 < n
  · rw [if_pos c1] at h; omega
  · rw [if_neg c1] at h
    by_cases c2 : 100 < m ∨ 20 < ls.length
    · rw [if_pos c2] at h; omega
    · rw [if_neg c2] at h
      by_cases c3 : ∀ l ∈ ls, l.length = m
      · exact ⟨by omega, by omega, by omega, by omega, c3⟩
      · rw [if_neg c3] at h; omega
/-- The polynomial at a place: the secret's byte, and behind it those of the first j rows. -/
def polyT (secret : List UInt8) (ls : List (List UInt8)) (i j : Nat) : List UInt8 := secret.getD i 0 :: (ls.take j).map fun l => l.getD i 0
def polyC (secret : List UInt8) (ls : List (List UInt8)) (i : Nat) : List UInt8 := secret.getD i 0 :: ls.map fun l => l.getD i 0
theorem polyT_zero (secret : List UInt8) (ls : List (List UInt8)) (i : Nat) : polyT secret ls i 0 = [secret.getD i 0] := by simp [polyT]
theorem polyT_succ {secret : List UInt8} {ls : List (List UInt8)} {i j : Nat} (h : j < ls.length) : polyT secret ls i j ++ [(ls.getD j []).getD i 0] = polyT secret ls i (j + 1) := by
  unfold polyT
  rw [List.take_succ_eq_append_getElem h, List.map_append]
  simp [List.getD_eq_getElem?_getD, List.getElem?_eq_getElem h]
theorem polyT_all (secret : List UInt8) (ls : List (List UInt8)) (i : Nat) : polyT secret ls i ls.length = polyC secret ls i := by
  unfold polyT polyC
  rw [List.take_length]
theorem polyT_length {secret : List UInt8} {ls : List (List UInt8)} {i j : Nat} (h : j ≤ ls.length) : (polyT secret ls i j).length = j + 1 := by
  simp [polyT]
  omega
theorem polyC_length (secret : List UInt8) (ls : List (List UInt8)) (i : Nat) : (polyC secret ls i).length = ls.length + 1 := by simp [polyC]
/-- A share's byte. -/
def shareN (secret : List UInt8) (ls : List (List UInt8)) (k i : Nat) : Nat := polyv (nb (polyC secret ls i)) k
theorem shareN_lt (secret : List UInt8) (ls : List (List UInt8)) (k i : Nat) : shareN secret ls k i < 256 := polyv_lt (nb_bys _) _
def dataS (secret : List UInt8) (ls : List (List UInt8)) (k m : Nat) : List UInt8 := (List.range m).map fun i => UInt8.ofNat (shareN secret ls k i)
theorem dataS_length (secret : List UInt8) (ls : List (List UInt8)) (k m : Nat) : (dataS secret ls k m).length = m := by simp [dataS]
theorem dataS_succ (secret : List UInt8) (ls : List (List UInt8)) (k m : Nat) : dataS secret ls k m ++ [UInt8.ofNat (shareN secret ls k m)] = dataS secret ls k (m + 1) := by
  unfold dataS
  rw [List.range_succ, List.map_append]
  rfl
def splitL (secret : List UInt8) (ls : List (List UInt8)) (n : Nat) : List Shr := (List.range n).map fun k => (k + 1, dataS secret ls (k + 1) secret.length)
theorem splitL_length (secret : List UInt8) (ls : List (List UInt8)) (n : Nat) : (splitL secret ls n).length = n := by simp [splitL]
theorem splitL_succ (secret : List UInt8) (ls : List (List UInt8)) (n : Nat) : splitL secret ls n ++ [(n + 1, dataS secret ls (n + 1) secret.length)] = splitL secret ls (n + 1) := by
  unfold splitL
  rw [List.range_succ, List.map_append]
  rfl
theorem splitL_at (secret : List UInt8) (ls : List (List UInt8)) (n k : Nat) (h : k < n) : (splitL secret ls n).getD k noS = (k + 1, dataS secret ls (k + 1) secret.length) := by
  unfold splitL
  rw [List.getD_eq_getElem?_getD, List.getElem?_map, List.getElem?_range h]
  rfl
end Go.Proofs.YtghiniaijobonaaDoor
/- The contract of oathbookref2.SplitFault. -/
namespace Go.Proofs.YtghiniaijobonaaDoor
open Go.RowKit
set_option linter.unusedVariables false
set_option linter.unusedSimpArgs false

theorem BRowsB.head {w : World} {b o n : Nat} {ls : List (List UInt8)} (R : BRowsB w (some ⟨b, o, none⟩) n ls) (i : Nat) (hi : i < n) : ∃ (ai : Option Addr) (ni ci : Nat), ni ≤ ci ∧ ni = (ls.getD i []).length ∧ (∀ k, k < ni → ∃ bi oi, ai = some ⟨bi, oi, none⟩) ∧ ∀ wx, Below w.heap.size w wx → wx.cell? ⟨b, o + i, none⟩ = some (.slice ai ni ci) ∧
    ∀ bi oi, ai = some ⟨bi, oi, none⟩ → ∀ k, k < ni → wx.cell? ⟨bi, oi + k, none⟩ = some (.int .u8 (nth (ls.getD i []) k)) := by
  rcases R.1.2 with h0 | ⟨b', o', e, hc⟩
  · omega
  · cases e
    obtain ⟨ai, ni, ci, c1, h4, hR⟩ := hc i hi
    refine ⟨ai, ni, ci, h4, hR.1.symm, fun k hk => ?_, fun wx hb => ⟨(hb.cell (p := ⟨b, o + i, none⟩) (cell_block c1)).trans c1, fun bi oi e k hk => ?_⟩⟩
    · rcases hR.2 with h0 | ⟨bi, oi, e, _⟩
      · omega
      · exact ⟨bi, oi, e⟩
    · rcases hR.2 with h0 | ⟨bi', oi', e', hcell⟩
      · omega
      · rw [e] at e'
        cases e'
        have ck := hcell k hk
        exact (hb.cell (p := ⟨bi, oi + k, none⟩) (cell_block ck)).trans ck
theorem BRowsB.addr {w : World} {a : Option Addr} {n : Nat} {ls : List (List UInt8)} (R : BRowsB w a n ls) (hn : 0 < n) : ∃ b o, a = some ⟨b, o, none⟩ := by
  rcases R.1.2 with h0 | ⟨b, o, e, _⟩
  · omega
  · exact ⟨b, o, e⟩
end Go.Proofs.YtghiniaijobonaaDoor
/- The contracts of oathbookref2.bit, flip, Mul, Inv and Pow. -/
namespace Go.Proofs.YtghiniaijobonaaDoor
open Go.RowKit
set_option linter.unusedVariables false
set_option linter.unusedSimpArgs false

end Go.Proofs.YtghiniaijobonaaDoor
/- The contracts of oathbookref2.Mul, Inv and Pow. -/
namespace Go.Proofs.YtghiniaijobonaaDoor
open Go.RowKit
set_option linter.unusedVariables false
set_option linter.unusedSimpArgs false

end Go.Proofs.YtghiniaijobonaaDoor
