/- Texts of this claim, joined: Zd, Sigk, Mac, Chain. -/
import Derived.Test.YtghiniaijobonaaDoorJ03
import Derived.Test.YtghiniaijobonaaDoorJ15
import Derived.Test.YtghiniaijobonaaDoorJ02
/- A new variable for a digest: bytes 0. -/
namespace Go.Proofs.YtghiniaijobonaaDoor
open Go.RowKit
set_option linter.unusedVariables false
set_option linter.unusedSimpArgs false

/-- A new variable for a digest. -/
def zD : List UInt8 := List.replicate 32 0
theorem zD_size : (cellsB zD).toArray.size = 32 := by rw [cellsB_size]; rfl
theorem Tryd.zeroDg : (Tryd.prog.info? 23).map (·.zero) = some (some (.agg (cellsB zD).toArray)) := by kernel_rfl
theorem Tryd.sizeDg : (Tryd.prog.info? 23).map (·.size) = some 32 := by kernel_rfl
theorem zD_lit : (cellsB zD).toArray = #[.int .u8 0, .int .u8 0, .int .u8 0, .int .u8 0, .int .u8 0, .int .u8 0, .int .u8 0, .int .u8 0, .int .u8 0, .int .u8 0, .int .u8 0, .int .u8 0, .int .u8 0, .int .u8 0, .int .u8 0, .int .u8 0, .int .u8 0, .int .u8 0, .int .u8 0, .int .u8 0, .int .u8 0, .int .u8 0, .int .u8 0, .int .u8 0, .int .u8 0, .int .u8 0, .int .u8 0, .int .u8 0, .int .u8 0, .int .u8 0, .int .u8 0, .int .u8 0] := by kernel_rfl
theorem there_block {w : World} {b o n : Nat} (h : w.there b o n) (hn : 0 < n) : b < w.heap.size := by
  have := (h 0 hn).1
  obtain ⟨v, hv⟩ := Option.isSome_iff_exists.1 this
  exact cell_block hv
/-- An answer of two: a digest that lies in a variable, and a value. -/
theorem run_results_row2 {P : Program} {fn : Func} {p q : Tmp} {ty : TypeId} (h : fn.results = #[.cell p ty, .tmp q]) (tmps : Array Value) (w : World) (b o : Nat) (hp : tmps.getD p undef = .pointer (some ⟨b, o, none⟩)) (v : Value) (hv : tmps.getD q undef = v)
    (cs : List Value) (hc : w.rangeAt b o cs) (d : TypeDesc) (hu : P.underlying ty = some d) (hd : d.isRow = true) (hi : (P.info? ty).map (·.size) = some cs.length) :
    (results fn tmps).run P w = .ok (.tuple #[.agg cs.toArray, v]) w := by
  have hp' : tmps[p]?.getD undef = .pointer (some ⟨b, o, none⟩) := by simpa using hp
  have hv' : tmps[q]?.getD undef = v := by simpa using hv
  simp only [results, h]
  simp [Sem.run_bind, Result.andThen, hp', hv', asAddr, run_loadVar_mid w b o ty cs d hc hu hd hi]
end Go.Proofs.YtghiniaijobonaaDoor
/- Signatures in memory: plain facts. -/
namespace Go.Proofs.YtghiniaijobonaaDoor
open Go.RowKit
set_option linter.unusedVariables false
set_option linter.unusedSimpArgs false

theorem Tryd.zeroSg : (Tryd.prog.info? 43).map (·.zero) = some (some (.agg #[.int .i64 0, .slice none 0 0, .slice none 0 0])) := by kernel_rfl
theorem Tryd.sizeSg : (Tryd.prog.info? 43).map (·.size) = some 3 := by kernel_rfl
theorem sig_one (m : Int) (a1 : Option Addr) (n1 c1 : Nat) (a2 : Option Addr) (n2 c2 : Nat) : (#[Value.int .i64 m, .slice a1 n1 c1, .slice a2 n2 c2] : Array Value).all (·.oneCell') = true :=
  all_oneCell_toArray (fun v hv => by
    simp only [List.mem_cons, List.not_mem_nil, or_false] at hv
    rcases hv with rfl | rfl | rfl <;> rfl)
theorem dat_grs {w w' : World} {b o g : Nat} {l : List UInt8} (h : DAt w b o l) (hg : w.grownBy w' (some g)) (hb : b < w.heap.size) (hne : b ≠ g) : DAt w' b o l := by
  have hk := hg.block b hb (by intro e; exact hne (Option.some.inj e))
  intro j v hj
  exact (World.cell?_of_block (w := w) (a := ⟨b, o + j, none⟩) hk).trans (h j v hj)
theorem below_grs {B g : Nat} {w0 w w' : World} (h : Below B w0 w) (hg : w.grownBy w' (some g)) (hB : B ≤ w.heap.size) (hb : B ≤ g) : Below B w0 w' := h.grown hg hB (fun k e => by cases e; exact hb)
theorem range_grs {w w' : World} {b o g : Nat} {vs : List Value} (h : w.rangeAt b o vs) (hg : w.grownBy w' (some g)) (hb : b < w.heap.size) (hne : b ≠ g) : w'.rangeAt b o vs := by
  have hk := hg.block b hb (by intro e; exact hne (Option.some.inj e))
  intro j v hj
  exact (World.cell?_of_block (w := w) (a := ⟨b, o + j, none⟩) hk).trans (h j v hj)
theorem range_three {w : World} {b : Nat} {x y z : Value} (h : w.rangeAt b 0 [x, y, z]) : w.cell? ⟨b, 0, none⟩ = some x ∧ w.cell? ⟨b, 1, none⟩ = some y ∧ w.cell? ⟨b, 2, none⟩ = some z := ⟨h 0 _ rfl, h 1 _ rfl, h 2 _ rfl⟩
theorem grs_trans {w w1 w2 : World} {r : Option Nat} (h : w.grownBy w1 r) (k : w1.grownBy w2 r) : w.grownBy w2 r :=
  ⟨k.os.trans h.os, k.tape.trans h.tape, k.output.trans h.output, Nat.le_trans h.size k.size, fun i hi hne => (k.block i (Nat.lt_of_lt_of_le hi h.size) hne).trans (h.block i hi hne)⟩
theorem grs_below {w w' : World} (h : Below w.heap.size w w') (r : Option Nat) : w.grownBy w' r := ⟨h.os, h.tape, h.output, h.size, fun i hi _ => h.block i hi⟩
/-- One cell of three set anew. -/
theorem range_put0 {w : World} {b : Nat} {x y z : Value} (h : w.rangeAt b 0 [x, y, z]) (u : Value) : (w.setCell ⟨b, 0, none⟩ u).rangeAt b 0 [u, y, z] := by
  intro j v hj
  match j, hj with
  | 0, hj => cases hj; exact World.cell?_setCell_same _ _ _ (h 0 _ rfl)
  | 1, hj => cases hj; rw [World.cell?_setCell_other _ _ _ _ (by simp)]; exact h 1 _ rfl
  | 2, hj => cases hj; rw [World.cell?_setCell_other _ _ _ _ (by simp)]; exact h 2 _ rfl
  | k + 3, hj => cases hj
end Go.Proofs.YtghiniaijobonaaDoor
/- Plain definitions for digests with keys: no theorem of the program yet. -/
namespace Go.Proofs.YtghiniaijobonaaDoor
open Go.RowKit
set_option linter.unusedVariables false
set_option linter.unusedSimpArgs false
def xorB (k : List UInt8) (i : Nat) (x : UInt8) : UInt8 := k.getD i 0 ^^^ x
/-- The first bytes of a key, each unlike x. -/
def padX (k : List UInt8) (x : UInt8) (n : Nat) : List UInt8 := (List.range n).map fun i => xorB k i x
theorem padX_length (k : List UInt8) (x : UInt8) (n : Nat) : (padX k x n).length = n := by simp [padX]
theorem padX_succ (k : List UInt8) (x : UInt8) (n : Nat) : padX k x n ++ [xorB k n x] = padX k x (n + 1) := by
  unfold padX; rw [List.range_succ, List.map_append]; rfl
def keyL (key : List UInt8) : List UInt8 := if 64 < key.length then shaL key else key
def macL (key b : List UInt8) : List UInt8 := shaL (padX (keyL key) 92 64 ++ shaL (padX (keyL key) 54 64 ++ b))
theorem macL_length (key b : List UInt8) : (macL key b).length = 32 := shaL_length _
theorem xor_byte (k : List UInt8) (i : Nat) (x : UInt8) : bits .xor .u8 (nth k i) (x.toNat : Int) = (((xorB k i x).toNat : Nat) : Int) := by
  unfold nth xorB
  have a := (k.getD i 0).toNat_lt
  have b := x.toNat_lt
  rw [u8_xor_nat _ _ (by omega) (by omega), UInt8.toNat_xor]
theorem nth_out (k : List UInt8) (i : Nat) (h : k.length ≤ i) : nth k i = 0 := by
  unfold nth
  rw [List.getD_eq_getElem?_getD, List.getElem?_eq_none h]
  rfl
/-- The k-th digest of an expansion, and the first k of them. -/
def expT (key info : List UInt8) : Nat → List UInt8
  | 0 => []
  | k + 1 => macL key (expT key info k ++ info ++ [UInt8.ofNat (k + 1)])
def outTo (key info : List UInt8) : Nat → List UInt8
  | 0 => []
  | k + 1 => outTo key info k ++ expT key info (k + 1)
def expL (key info : List UInt8) (n : Nat) : List UInt8 := (outTo key info ((n + 31) / 32)).take n
theorem expT_length (key info : List UInt8) (k : Nat) : (expT key info (k + 1)).length = 32 := macL_length _ _
theorem expT_le (key info : List UInt8) : ∀ k, (expT key info k).length ≤ 32
  | 0 => by simp [expT]
  | k + 1 => by rw [expT_length]; omega
theorem outTo_length (key info : List UInt8) : ∀ k, (outTo key info k).length = 32 * k
  | 0 => rfl
  | k + 1 => by rw [outTo, List.length_append, outTo_length key info k, expT_length]; omega
theorem expL_length (key info : List UInt8) (n : Nat) : (expL key info n).length = n := by
  unfold expL
  rw [List.length_take, outTo_length]
  omega
end Go.Proofs.YtghiniaijobonaaDoor
/- Plain definitions for chains: no theorem of the program yet. -/
namespace Go.Proofs.YtghiniaijobonaaDoor
open Go.RowKit
set_option linter.unusedVariables false
set_option linter.unusedSimpArgs false
def stepL (d : List UInt8) : List UInt8 := shaL (8 :: d)
def walkL (d : List UInt8) : Nat → List UInt8
  | 0 => d
  | k + 1 => stepL (walkL d k)
theorem walkL_length {d : List UInt8} (h : d.length = 32) : ∀ k, (walkL d k).length = 32
  | 0 => h
  | k + 1 => shaL_length _
theorem walkL_add (d : List UInt8) (i : Nat) : ∀ j, walkL d (i + j) = walkL (walkL d i) j
  | 0 => rfl
  | j + 1 => by rw [← Nat.add_assoc, walkL, walkL, walkL_add d i j]
end Go.Proofs.YtghiniaijobonaaDoor
