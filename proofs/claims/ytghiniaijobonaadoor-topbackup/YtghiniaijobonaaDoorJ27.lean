/- Texts of this claim, joined: Rblock, Rrounds, Rput, Rsum. -/
import Derived.Test.YtghiniaijobonaaDoorJ26
import Derived.Deep.QuietTactic
import Derived.BigQuiet
import Derived.BigRegion
import Derived.Test.YtghiniaijobonaaDoorJ02
import Derived.Test.YtghiniaijobonaaDoorJ03
/- The contract of oathbookref1.block: 64 bytes more. -/
namespace Go.Proofs.YtghiniaijobonaaDoor
open Go.RowKit
set_option linter.unusedVariables false
set_option linter.unusedSimpArgs false
theorem Tryd.infoInt : (Tryd.prog.info? 3).map (fun i => (i.zero, i.size, i.bytes)) = some (some (.int .i64 0), 1, 8) := by kernel_rfl

theorem row_news {k : IntKind} {w wr : World} {bh oh : Nat} {h : List Nat} {o : Obj} (hh : ∀ i, i < 8 → w.cell? ⟨bh, oh + i, none⟩ = some (.int k ((at' h i : Nat) : Int))) (hB : Below w.heap.size w wr) :
    ∀ j u, ((List.range 8).map fun i => Value.int k ((at' h i : Nat) : Int))[j]? = some u → (wr.alloc o).cell? ((⟨bh, oh, none⟩ : Addr).add j) = some u := by
  intro j u hj
  have h8 : j < 8 := by have := (List.getElem?_eq_some_iff.1 hj).1; simpa using this
  rw [Go.WideShapes.add_plain]
  have hb := cell_block (hh j h8)
  have hc := (hB.cell (p := ⟨bh, oh + j, none⟩) hb).trans (hh j h8)
  rw [World.cell?_alloc_lt _ _ ⟨bh, oh + j, none⟩ (Nat.lt_of_lt_of_le hb hB.size), hc]
  simpa [h8] using hj
theorem map_oneCell {k : IntKind} (l : List Nat) (f : Nat → Int) : ∀ u ∈ l.map (fun i => Value.int k (f i)), u.oneCell' = true := by
  intro u hu
  obtain ⟨i, _, rfl⟩ := List.mem_map.1 hu
  rfl
theorem own_slice {k : IntKind} {e : TypeId} {w : World} {B n : Nat} {v : Value} {f : Nat → Int} (hn : 0 < n) (h : w.ownsRow B e 1 v (0 + n) ([] ++ (List.range n).map fun i => Value.int k (f i))) :
    ∃ g cap, v = .slice (some ⟨g, 0, none⟩) n cap ∧ OwnK k e w B g n cap f := by
  rw [Nat.zero_add, List.nil_append] at h
  rcases h.2 with ⟨_, h0⟩ | ⟨g, cap, cur, rfl, _⟩
  · omega
  · exact ⟨g, cap, rfl, h⟩

/-- What the words that 64 bytes are spread to keep. -/
def Spread (m : List UInt8) (W : List Nat) : Prop := Fit W ∧ ∀ t, t < 64 → at' W t = if t < 16 then wordB m t else (ss1 (at' W (t - 2)) + at' W (t - 7) + ss0 (at' W (t - 15)) + at' W (t - 16)) % 4294967296
theorem spread_wTo (m : List UInt8) : Spread m (wTo m 64) := ⟨fit_wTo m 64, fun t h => wTo_rec m t h⟩

end Go.Proofs.YtghiniaijobonaaDoor
/- The contract of oathbookref1.rounds: the words that are added in each round. -/
namespace Go.Proofs.YtghiniaijobonaaDoor
open Go.RowKit
set_option linter.unusedVariables false
set_option linter.unusedSimpArgs false

theorem RowK.lit (k : IntKind) (w : World) (l : List Nat) (cs : Array Value) (t : TypeId) (hc : cs = (l.map fun (x : Nat) => Value.int k ((x : Nat) : Int)).toArray) : RowK k (w.alloc (.cells cs t)) (some ⟨w.heap.size, 0, none⟩) l.length l := by
  subst hc
  refine ⟨rfl, .inr ⟨w.heap.size, 0, rfl, fun i hi => ?_⟩⟩
  rw [Nat.zero_add]
  have h : (w.alloc (.cells (l.map fun (x : Nat) => Value.int k ((x : Nat) : Int)).toArray t)).heap[w.heap.size]? = some (.cells (l.map fun (x : Nat) => Value.int k ((x : Nat) : Int)).toArray t) := by
    show (w.heap.push _)[w.heap.size]? = _
    simp
  unfold World.cell?
  rw [h]
  unfold at'
  simp [List.getElem?_eq_getElem hi]

end Go.Proofs.YtghiniaijobonaaDoor
/- The contract of oathbookref1.Put. -/
namespace Go.Proofs.YtghiniaijobonaaDoor
open Go.RowKit
set_option linter.unusedVariables false
set_option linter.unusedSimpArgs false
theorem Tryd.info5r : (Tryd.prog.info? 5).map (fun i => (i.zero, i.size, i.bytes)) = some (some (.int .u8 0), 1, 1) := by kernel_rfl

theorem ret_pb {v : Value} {a b : Bool} (h : a = b) : Ending.returned (.tuple #[v, .bool a]) = .returned (.tuple #[v, .bool b]) := by rw [h]
end Go.Proofs.YtghiniaijobonaaDoor
/- The contract of oathbookref1.Sum: the digest of bytes. -/
namespace Go.Proofs.YtghiniaijobonaaDoor
open Go.RowKit
set_option linter.unusedVariables false
set_option linter.unusedSimpArgs false
theorem Tryd.infoU8 : (Tryd.prog.info? 5).map (fun i => (i.zero, i.size, i.bytes)) = some (some (.int .u8 0), 1, 1) := by kernel_rfl

/-- How long a slice is. -/
def lenV : Value → Nat
  | .slice _ n _ => n
  | _ => 0
theorem pad_zeros (n z : Nat) : (n + 1 + z) % 64 = 56 → z < 64 → z = (119 - n % 64) % 64 := by omega

end Go.Proofs.YtghiniaijobonaaDoor
