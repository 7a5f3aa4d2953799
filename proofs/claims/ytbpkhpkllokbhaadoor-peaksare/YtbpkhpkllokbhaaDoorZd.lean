/- A new variable for a digest: bytes 0. -/
import Derived.Test.YtbpkhpkllokbhaaDoorWords
import Derived.Test.YtbpkhpkllokbhaaDoorDigest
namespace Go.Proofs.YtbpkhpkllokbhaaDoor
open Go.RowKit
set_option linter.unusedVariables false
set_option linter.unusedSimpArgs false

/-- A new variable for a digest. -/
def zD : List UInt8 := List.replicate 32 0
theorem zD_size : (cellsB zD).toArray.size = 32 := by rw [cellsB_size]; rfl
theorem Tryd.zeroDg : (Tryd.prog.info? 24).map (·.zero) = some (some (.agg (cellsB zD).toArray)) := by kernel_rfl
theorem Tryd.sizeDg : (Tryd.prog.info? 24).map (·.size) = some 32 := by kernel_rfl
theorem zD_lit : (cellsB zD).toArray = #[.int .u8 0, .int .u8 0, .int .u8 0, .int .u8 0, .int .u8 0, .int .u8 0, .int .u8 0, .int .u8 0, .int .u8 0, .int .u8 0, .int .u8 0, .int .u8 0, .int .u8 0, .int .u8 0, .int .u8 0, .int .u8 0, .int .u8 0, .int .u8 0, .int .u8 0, .int .u8 0, .int .u8 0, .int .u8 0, .int .u8 0, .int .u8 0, .int .u8 0, .int .u8 0, .int .u8 0, .int .u8 0, .int .u8 0, .int .u8 0, .int .u8 0, .int .u8 0] := by kernel_rfl
theorem there_block {w : World} {b o n : Nat} (h : w.there b o n) (hn : 0 < n) : b < w.heap.size := by
  have := (h 0 hn).1
  obtain ⟨v, hv⟩ := Option.isSome_iff_exists.1 this
  exact cell_block hv
/-- An answer of two: a digest that lies in a variable, and a value. -/
theorem run_results_row2 {P : Program} {fn : Func} {p q : Tmp} {ty : TypeId} (h : fn.results = #[.cell p ty, .tmp q]) (tmps : Array Value) (w : World) (b o : Nat) (hp : tmps.getD p undef = .pointer (some ⟨b, o, none⟩)) (v : Value) (hv : tmps.getD q undef = v)
    (cs : List Value) (hc : w.rangeAt b o cs) (d : TypeDesc) (hu : P.underlying ty = some d) (hd : d.isRow = true) (hi : (P.info? ty).map (·.size) = some cs.length) :
    (results fn tmps).run P w = .ok (.tuple #[.agg cs.toArray, v]) w := by
  have hp' : tmps[p]?.getD undef = .pointer (some ⟨b, o, none⟩) := by simpa using hp
  have hv' : tmps[q]?.getD undef = v := by simpa using hv
  simp only [results, h]
  simp [Sem.run_bind, Result.andThen, hp', hv', asAddr, run_loadVar_mid w b o ty cs d hc hu hd hi]
end Go.Proofs.YtbpkhpkllokbhaaDoor
