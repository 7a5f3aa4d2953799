/- How an argument that is a digest, or a slice of digests, is opened. -/
import Derived.Test.YtbpkhpkllokbhaaDoorOpen
import Derived.Test.YtbpkhpkllokbhaaDoorDigest
import Derived.Deep.Slices
namespace Go.Proofs.YtbpkhpkllokbhaaDoor
open Go.ChangeShapes Go.WideShapes Go.ChangeAt Go.RowKit
set_option linter.unusedVariables false
set_option linter.unusedSimpArgs false

/-- The byte that a value holds. -/
def byteOf : Value → UInt8
  | .int _ n => UInt8.ofNat n.toNat
  | _ => 0

section
variable {H : Type} {enc : TypeId × Value → H} {P : Program} {w : World} {base : Nat} {spare : Nat → Bool} {held : Bool} {t e : TypeId} {fuel : Nat}
theorem bytes_of_trod {cs : List Value} {x : DataW H × List MemPlace} (ht : P.underlying t = some (.array 32 e)) (he : P.underlying e = some (.int .u8)) (hce : P.cellsOf e = 1) (hct : P.cellsOf t = 32)
    (h : DataW.trod enc P w base spare held fuel t cs = some x) : ∃ l : List UInt8, l.length = 32 ∧ cs = cellsB l := by
  obtain ⟨xs, m, _, _, hl, hxs, hi⟩ := DataW.trod_array ht h
  rw [hct] at hl
  refine ⟨cs.map byteOf, by simp [hl], ?_⟩
  apply List.ext_getElem
  · simp [cellsB]
  · intro i h1 h2
    have hi' := hi i (by omega)
    rw [hce, Nat.mul_one, List.getElem?_eq_getElem (by omega)] at hi'
    obtain ⟨n, hn, _, hwf⟩ := DataW.trod_int he hi'
    have hb := wf_u8 hwf
    have hc : cs[i] = .int .u8 n := by
      have := congrArg List.head? hn
      simpa [List.head?_take, List.getElem?_eq_getElem h1] using this
    simp only [cellsB, List.getElem_map, hc, byteOf, UInt8.toNat_ofNat']
    congr 1
    omega
theorem open_digest {r : Reach} {b0 : Nat} {v : Value} {d : DataW H} {p : List MemPlace} (ht : P.underlying t = some (.array 32 e)) (he : P.underlying e = some (.int .u8)) (hce : P.cellsOf e = 1) (hct : P.cellsOf t = 32)
    (hv : Value.okWide P w r b0 t v) (h : DataW.Trod enc P w base spare held t v d p) : ∃ l : List UInt8, l.length = 32 ∧ v = digestV l := by
  obtain ⟨cs, rfl⟩ : ∃ cs, v = .agg cs := by
    simp only [Value.okWide, ht] at hv
    obtain ⟨cs, h1, _⟩ := hv
    exact ⟨cs, h1⟩
  obtain ⟨fuel, hf⟩ := h
  obtain ⟨l, hl, hc⟩ := bytes_of_trod ht he hce hct hf
  refine ⟨l, hl, ?_⟩
  have : cs.toList = cellsB l := hc
  show Value.agg cs = Value.agg (cellsB l).toArray
  rw [← this]
end

/-- A slice of n digests at a reads as the list ls. -/
def DRow (w : World) (a : Option Addr) (n : Nat) (ls : List (List UInt8)) : Prop :=
  ls.length = n ∧ (∀ l ∈ ls, l.length = 32) ∧ (n = 0 ∨ ∃ b o, a = some ⟨b, o, none⟩ ∧ ∀ i, i < n → DAt w b (o + 32 * i) (ls.getD i []))
theorem DRow.nil (w : World) : DRow w none 0 [] := ⟨rfl, (fun l hl => by cases hl), .inl rfl⟩
theorem DRow.len {w : World} {a : Option Addr} {n : Nat} {ls : List (List UInt8)} (h : DRow w a n ls) (i : Nat) (hi : i < n) : (ls.getD i []).length = 32 := by
  rw [List.getD_eq_getElem?_getD, List.getElem?_eq_getElem (by rw [h.1]; exact hi)]
  exact h.2.1 _ (List.getElem_mem _)
theorem DRow.below {w w' : World} {a : Option Addr} {n : Nat} {ls : List (List UInt8)} (h : DRow w a n ls) (hb : Below w.heap.size w w') : DRow w' a n ls := by
  have hlen := h.len
  obtain ⟨h1, h2, h3⟩ := h
  refine ⟨h1, h2, ?_⟩
  rcases h3 with h3 | ⟨b, o, ha, hc⟩
  · exact .inl h3
  · exact .inr ⟨b, o, ha, fun i hi => (hc i hi).below hb (cell_block ((hc i hi).cell 0 (by rw [hlen i hi]; omega)))⟩

theorem open_digests {H : Type} {enc : TypeId × Value → H} {P : Program} {w : World} {base : Nat} {held : Bool} {t e f : TypeId} {fuel : Nat} {a : Option Addr} {len cap : Nat} {d : DataW H} {p : List MemPlace}
    (ht : P.underlying t = some (.slice e)) (he : P.underlying e = some (.array 32 f)) (hf : P.underlying f = some (.int .u8)) (hcf : P.cellsOf f = 1) (hce : P.cellsOf e = 32)
    (h : DataW.trod enc P w base (fun _ => true) held fuel t [.slice a len cap] = some (d, p)) :
    ∃ ls, DRow w a len ls ∧ (len = 0 ∨ ∃ elems spare, d = .slice elems spare ∧ elems.length = len) := by
  rcases Go.Deep.open_slice ht h with ⟨hcs, _⟩ | ⟨x, l, c, m, n, D, Pl, hcs, _, hlc, hm, hmm, hx, hel⟩
  · simp at hcs
    obtain ⟨rfl, rfl, rfl⟩ := hcs
    exact ⟨[], DRow.nil w, .inl rfl⟩
  · simp at hcs
    obtain ⟨rfl, rfl, rfl⟩ := hcs
    simp only [if_true] at hmm
    subst hmm
    simp only [Prod.mk.injEq] at hx
    have each : ∀ i, i < len → ∃ q : List UInt8, q.length = 32 ∧ ∀ j, j < 32 → w.cell? ((x.add (i * 32)).add j) = some (.int .u8 (nth q j)) := by
      intro i hi
      obtain ⟨cs', hc, htr⟩ := hel i (by omega)
      obtain ⟨q, hq, rfl⟩ := bytes_of_trod he hf hcf hce htr
      refine ⟨q, hq, fun j hj => ?_⟩
      rw [hce] at hc
      have hs := World.cells?_some hc
      rw [hs.2.2 j hj, ← cellsB_at q j (by omega)]
    let ls := (List.range len).map fun i => if h : i < len then (each i h).choose else []
    have hls : ∀ i, i < len → ∃ h : i < len, ls.getD i [] = (each i h).choose := fun i hi => ⟨hi, by simp [ls, List.getD_eq_getElem?_getD, hi]⟩
    refine ⟨ls, ⟨by simp [ls], ?_, ?_⟩, .inr ⟨_, _, hx.1, by simp⟩⟩
    · intro l hl
      obtain ⟨i, hi, rfl⟩ := List.mem_map.1 hl
      have hi' := List.mem_range.1 hi
      rw [dif_pos hi']
      exact (each i hi').choose_spec.1
    · by_cases h0 : len = 0
      · exact .inl h0
      · obtain ⟨b, off, spot⟩ := x
        have hspot : spot = none := by
          obtain ⟨q, hq, hc⟩ := each 0 (by omega)
          simpa [Addr.add] using World.cell?_spot (hc 0 (by omega))
        subst hspot
        refine .inr ⟨b, off, rfl, fun i hi => ?_⟩
        obtain ⟨hi', e1⟩ := hls i hi
        rw [e1]
        have sp := (each i hi').choose_spec
        refine DAt.mk fun j hj => ?_
        have := sp.2 j (by omega)
        refine Eq.trans (congrArg w.cell? ?_) this
        rw [add_plain, add_plain, show off + 32 * i + j = off + i * 32 + j from by omega]
end Go.Proofs.YtbpkhpkllokbhaaDoor
