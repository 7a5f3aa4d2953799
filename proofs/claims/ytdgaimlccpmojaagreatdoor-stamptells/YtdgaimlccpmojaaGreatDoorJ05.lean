/- Texts of this claim, joined: Dsub, OpenR, OpenS, Zd. -/
import Derived.Test.YtdgaimlccpmojaaGreatDoorJ04
import Derived.Test.YtdgaimlccpmojaaGreatDoorJ03
import Derived.Test.YtdgaimlccpmojaaGreatDoorJ01
import Derived.Deep.Slices
import Derived.Deep.Strs
import Derived.SizedLaws
import Derived.Test.YtdgaimlccpmojaaGreatDoorJ02
/- Parts of slices of digests. -/
namespace Go.Proofs.YtdgaimlccpmojaaGreatDoor
open Go.RowKit
set_option linter.unusedVariables false
set_option linter.unusedSimpArgs false

theorem DRow.take {w : World} {a : Option Addr} {n : Nat} {ls : List (List UInt8)} (h : DRow w a n ls) (k : Nat) (hk : k ≤ n) : DRow w a k (ls.take k) := by
  obtain ⟨h1, h2, h3⟩ := h
  refine ⟨by rw [List.length_take]; omega, fun l hl => h2 l (List.mem_of_mem_take hl), ?_⟩
  rcases h3 with h3 | ⟨b, o, ha, hc⟩
  · exact .inl (by omega)
  · exact .inr ⟨b, o, ha, fun i hi => by rw [getD_take hi]; exact hc i (by omega)⟩
theorem DRow.drop {w : World} {b o : Nat} {n : Nat} {ls : List (List UInt8)} (h : DRow w (some ⟨b, o, none⟩) n ls) (k : Nat) (hk : k ≤ n) : DRow w (some ⟨b, o + k * 32, none⟩) (n - k) (ls.drop k) := by
  obtain ⟨h1, h2, h3⟩ := h
  refine ⟨by rw [List.length_drop]; omega, fun l hl => h2 l (List.mem_of_mem_drop hl), ?_⟩
  rcases h3 with h3 | ⟨b', o', ha, hc⟩
  · exact .inl (by omega)
  · cases ha
    refine .inr ⟨b, o + k * 32, rfl, fun i hi => ?_⟩
    rw [getD_drop]
    have := hc (k + i) (by omega)
    rwa [show o + k * 32 + 32 * i = o + 32 * (k + i) by omega]
theorem DRow.addr {w : World} {a : Option Addr} {n : Nat} {ls : List (List UInt8)} (h : DRow w a n ls) (hn : 0 < n) : ∃ b o, a = some ⟨b, o, none⟩ := by
  rcases h.2.2 with h3 | ⟨b, o, ha, hc⟩
  · omega
  · exact ⟨b, o, ha⟩
theorem DRow.at {w : World} {b o : Nat} {n : Nat} {ls : List (List UInt8)} (h : DRow w (some ⟨b, o, none⟩) n ls) (i : Nat) (hi : i < n) : DAt w b (o + i * 32) (ls.getD i []) := by
  rcases h.2.2 with h3 | ⟨b', o', ha, hc⟩
  · omega
  · cases ha
    rw [show o + i * 32 = o + 32 * i by omega]
    exact hc i hi
end Go.Proofs.YtdgaimlccpmojaaGreatDoor
/- How an argument that is a slice of slices of bytes is opened, and how its bulk bounds it. -/
namespace Go.Proofs.YtdgaimlccpmojaaGreatDoor
open Go.ChangeShapes Go.WideShapes Go.ChangeAt Go.RowKit
set_option linter.unusedVariables false
set_option linter.unusedSimpArgs false

theorem bulk_ge {H : Type} (l : List (DataW H)) : l.length ≤ Rows.uptoBulkAll l := by
  induction l with
  | nil => exact Nat.zero_le _
  | cons d r ih =>
    have : 1 ≤ Rows.uptoBulk d := by cases d with
      | lit x => cases x <;> simp [Rows.uptoBulk]
      | _ => simp [Rows.uptoBulk]
    simp only [Rows.uptoBulkAll, List.length_cons]
    omega
theorem open_cap {H : Type} {enc : TypeId × Value → H} {P : Program} {w : World} {base : Nat} {held : Bool} {t e : TypeId} {fuel : Nat} {a : Option Addr} {len cap : Nat} {x : DataW H × List MemPlace}
    (ht : P.underlying t = some (.slice e)) (h : DataW.trod enc P w base (fun _ => true) held fuel t [.slice a len cap] = some x) : len ≤ cap := by
  rcases Go.Deep.open_slice ht h with ⟨hcs, _⟩ | ⟨y, l, c, m, n, D, Pl, hcs, _, hlc, _⟩
  · simp at hcs
    omega
  · simp at hcs
    omega
theorem open_bytes_any {H : Type} {enc : TypeId × Value → H} {P : Program} {w : World} {base : Nat} {held : Bool} {t e : TypeId} {fuel : Nat} {cs : List Value} {d : DataW H} {p : List MemPlace}
    (ht : P.underlying t = some (.slice e)) (he : P.underlying e = some (.int .u8)) (hc : P.cellsOf e = 1)
    (h : DataW.trod enc P w base (fun _ => true) held fuel t cs = some (d, p)) :
    ∃ a len cap l, cs = [.slice a len cap] ∧ Row w a len l ∧ len ≤ cap ∧ len ≤ Rows.uptoBulk d := by
  have key : ∃ a len cap, cs = [.slice a len cap] := by
    rcases open_ints ht he hc h with ⟨hcs, _⟩ | ⟨x, l, c, zs, hcs, _⟩
    · exact ⟨_, _, _, hcs⟩
    · exact ⟨_, _, _, hcs⟩
  obtain ⟨a, len, cap, rfl⟩ := key
  obtain ⟨l, hl, hd⟩ := open_bytes ht he hc h
  refine ⟨a, len, cap, l, rfl, hl, open_cap ht h, ?_⟩
  rcases hd with h0 | ⟨es, sp, rfl, h1⟩
  · omega
  · have := bulk_ge es
    simp only [Rows.uptoBulk]
    omega

/-- A slice of n slices of bytes at a reads as the list ls. -/
def BRows (w : World) (a : Option Addr) (n : Nat) (ls : List (List UInt8)) : Prop :=
  ls.length = n ∧ (n = 0 ∨ ∃ b o, a = some ⟨b, o, none⟩ ∧ ∀ i, i < n → ∃ (ai : Option Addr) (ni ci : Nat), w.cell? ⟨b, o + i, none⟩ = some (.slice ai ni ci) ∧ ni ≤ ci ∧ Row w ai ni (ls.getD i []))
theorem BRows.nil (w : World) : BRows w none 0 [] := ⟨rfl, .inl rfl⟩
theorem BRows.below {w w' : World} {a : Option Addr} {n : Nat} {ls : List (List UInt8)} (h : BRows w a n ls) (hb : Below w.heap.size w w') : BRows w' a n ls := by
  obtain ⟨h1, h3⟩ := h
  refine ⟨h1, ?_⟩
  rcases h3 with h3 | ⟨b, o, ha, hc⟩
  · exact .inl h3
  · refine .inr ⟨b, o, ha, fun i hi => ?_⟩
    obtain ⟨ai, ni, ci, e1, e3, e2⟩ := hc i hi
    exact ⟨ai, ni, ci, (hb.cell (p := ⟨b, o + i, none⟩) (cell_block e1)).trans e1, e3, e2.below hb⟩

theorem bulk_map {H : Type} (D : Nat → DataW H) (f : Nat → List UInt8) : ∀ n, (∀ i, i < n → (f i).length ≤ Rows.uptoBulk (D i)) → (((List.range n).map f).flatten).length ≤ Rows.uptoBulkAll ((List.range n).map D)
  | 0, _ => by simp
  | n + 1, h => by
    have ih := bulk_map D f n (fun i hi => h i (by omega))
    have hn := h n (by omega)
    have app : ∀ (x y : List (DataW H)), Rows.uptoBulkAll (x ++ y) = Rows.uptoBulkAll x + Rows.uptoBulkAll y := by
      intro x y
      induction x with
      | nil => simp [Rows.uptoBulkAll]
      | cons a r ih => simp only [List.cons_append, Rows.uptoBulkAll, ih]; omega
    rw [List.range_succ, List.map_append, List.map_append, List.flatten_append, List.length_append, app]
    simp only [List.map_cons, List.map_nil, List.flatten_cons, List.flatten_nil, List.append_nil, Rows.uptoBulkAll]
    omega
theorem open_rows {H : Type} {enc : TypeId × Value → H} {P : Program} {w : World} {base : Nat} {held : Bool} {t e f : TypeId} {fuel : Nat} {a : Option Addr} {len cap : Nat} {d : DataW H} {p : List MemPlace}
    (ht : P.underlying t = some (.slice e)) (he : P.underlying e = some (.slice f)) (hf : P.underlying f = some (.int .u8)) (hcf : P.cellsOf f = 1) (hce : P.cellsOf e = 1)
    (h : DataW.trod enc P w base (fun _ => true) held fuel t [.slice a len cap] = some (d, p)) :
    ∃ ls, BRows w a len ls ∧ ls.flatten.length + len ≤ 2 * Rows.uptoBulk d := by
  rcases Go.Deep.open_slice ht h with ⟨hcs, _⟩ | ⟨x, l, c, m, n, D, Pl, hcs, _, hlc, hm, hmm, hx, hel⟩
  · simp at hcs
    obtain ⟨rfl, rfl, rfl⟩ := hcs
    exact ⟨[], BRows.nil w, by simp⟩
  · simp at hcs
    obtain ⟨rfl, rfl, rfl⟩ := hcs
    simp only [if_true] at hmm
    subst hmm
    simp only [Prod.mk.injEq] at hx
    have each : ∀ i, i < len → ∃ q : List UInt8, q.length ≤ Rows.uptoBulk (D i) ∧ ∃ (ai : Option Addr) (ni ci : Nat), w.cell? (x.add i) = some (.slice ai ni ci) ∧ ni ≤ ci ∧ Row w ai ni q := by
      intro i hi
      obtain ⟨cs', hc, htr⟩ := hel i (by omega)
      obtain ⟨ai, ni, ci, q, rfl, hR, hcc, hb⟩ := open_bytes_any he hf hcf htr
      refine ⟨q, by rw [hR.1]; exact hb, ai, ni, ci, ?_, hcc, hR⟩
      rw [hce, Nat.mul_one] at hc
      have hs := World.cells?_some hc
      have := hs.2.2 0 (by omega)
      simpa [Addr.add] using this
    let g : Nat → List UInt8 := fun i => if h : i < len then (each i h).choose else []
    have hg : ∀ i (hi : i < len), g i = (each i hi).choose := fun i hi => by simp [g, hi]
    refine ⟨(List.range len).map g, ⟨by simp, ?_⟩, ?_⟩
    · by_cases h0 : len = 0
      · exact .inl h0
      · obtain ⟨b, off, spot⟩ := x
        have hspot : spot = none := by
          obtain ⟨q, _, ai, ni, ci, hc, _, _⟩ := each 0 (by omega)
          simpa [Addr.add] using World.cell?_spot hc
        subst hspot
        refine .inr ⟨b, off, rfl, fun i hi => ?_⟩
        obtain ⟨_, ai, ni, ci, hc, hcc, hR⟩ := (each i hi).choose_spec
        refine ⟨ai, ni, ci, ?_, hcc, ?_⟩
        · rw [← add_plain]; exact hc
        · have : ((List.range len).map g).getD i [] = (each i hi).choose := by
            rw [← hg i hi]; simp [List.getD_eq_getElem?_getD, hi]
          rw [this]; exact hR
    · have h1 := bulk_map D g len (fun i hi => by rw [hg i hi]; exact (each i hi).choose_spec.1)
      have h2 := bulk_ge ((List.range len).map D)
      simp only [List.length_map, List.length_range] at h2
      rw [hx.1]
      simp only [Rows.uptoBulk]
      omega
end Go.Proofs.YtdgaimlccpmojaaGreatDoor
/- How an argument that is a struct of a number and two slices of digests is opened. -/
namespace Go.Proofs.YtdgaimlccpmojaaGreatDoor
open Go.ChangeShapes Go.WideShapes Go.ChangeAt Go.RowKit
set_option linter.unusedVariables false
set_option linter.unusedSimpArgs false

/-- A signature as a value. -/
def sigV (m : Int) (a1 : Option Addr) (n1 c1 : Nat) (a2 : Option Addr) (n2 c2 : Nat) : Value := .agg #[.int .i64 m, .slice a1 n1 c1, .slice a2 n2 c2]
theorem slice_cell {H : Type} {enc : TypeId × Value → H} {P : Program} {w : World} {base : Nat} {held : Bool} {t e : TypeId} {fuel : Nat} {cs : List Value} {x : DataW H × List MemPlace} (ht : P.underlying t = some (.slice e))
    (h : DataW.trod enc P w base (fun _ => true) held fuel t cs = some x) : ∃ a n c, cs = [.slice a n c] := by
  rcases Go.Deep.open_slice ht h with ⟨hcs, _⟩ | ⟨y, l, c, m, n, D, Pl, hcs, _⟩
  · exact ⟨_, _, _, hcs⟩
  · exact ⟨_, _, _, hcs⟩
theorem open_sig {H : Type} {enc : TypeId × Value → H} {P : Program} {w : World} {base : Nat} {held : Bool} {t e f : TypeId} {f0 f1 f2 : Field} {r : Reach} {b0 : Nat} {v : Value} {d : DataW H} {p : List MemPlace}
    (ht : P.underlying t = some (.struct #[f0, f1, f2])) (hct : P.cellsOf t = 3) (o0 : f0.offset = 0) (o1 : f1.offset = 1) (o2 : f2.offset = 2)
    (h0 : P.underlying f0.type = some (.int .i64)) (c0 : P.cellsOf f0.type = 1) (h1 : P.underlying f1.type = some (.slice e)) (c1 : P.cellsOf f1.type = 1) (h2 : P.underlying f2.type = some (.slice e)) (c2 : P.cellsOf f2.type = 1)
    (he : P.underlying e = some (.array 32 f)) (hf : P.underlying f = some (.int .u8)) (hcf : P.cellsOf f = 1) (hce : P.cellsOf e = 32)
    (hv : Value.okWide P w r b0 t v) (h : DataW.Trod enc P w base (fun _ => true) held t v d p) :
    ∃ (m : Int) (a1 : Option Addr) (n1 k1 : Nat) (l1 : List (List UInt8)) (a2 : Option Addr) (n2 k2 : Nat) (l2 : List (List UInt8)) (x0 x1 x2 : DataW H),
      v = sigV m a1 n1 k1 a2 n2 k2 ∧ -9223372036854775808 ≤ m ∧ m ≤ 9223372036854775807 ∧ (DRow w a1 n1 l1 ∧ n1 ≤ k1) ∧ (DRow w a2 n2 l2 ∧ n2 ≤ k2) ∧ d = .agg [x0, x1, x2] ∧
      (n1 = 0 ∨ ∃ elems spare, x1 = .slice elems spare ∧ elems.length = n1) ∧ (n2 = 0 ∨ ∃ elems spare, x2 = .slice elems spare ∧ elems.length = n2) := by
  obtain ⟨cs, rfl⟩ : ∃ cs, v = .agg cs := by
    simp only [Value.okWide, ht] at hv
    obtain ⟨cs, h1, _⟩ := hv
    exact ⟨cs, h1⟩
  obtain ⟨fuel, hfu⟩ := h
  obtain ⟨y0, y1, y2, n, hx, hl, u0, u1, u2⟩ := Go.Deep.trod_struct3 ht hfu
  rw [hct] at hl
  rw [o0, c0] at u0
  rw [o1, c1] at u1
  rw [o2, c2] at u2
  obtain ⟨z0, z1, z2, hcs⟩ : ∃ z0 z1 z2, cs.toList = [z0, z1, z2] := by
    have hl' : cs.toList.length = 3 := hl
    match cs.toList, hl' with
    | [z0, z1, z2], _ => exact ⟨z0, z1, z2, rfl⟩
  have hcs' : (Value.agg cs).cells.toList = [z0, z1, z2] := hcs
  rw [hcs'] at u0 u1 u2
  simp only [List.drop_zero, List.take_succ_cons, List.take_zero, List.drop_succ_cons] at u0 u1 u2
  obtain ⟨m, hm, _, hwf⟩ := DataW.trod_int h0 u0
  obtain ⟨a1, n1, k1, e1⟩ := slice_cell h1 u1
  obtain ⟨a2, n2, k2, e2⟩ := slice_cell h2 u2
  cases hm
  cases e1
  cases e2
  have hb := wf_i64 hwf
  obtain ⟨l1, r1, w1⟩ := open_digests h1 he hf hcf hce (show DataW.trod enc P w base (fun _ => true) held n f1.type [.slice a1 n1 k1] = some (y1.1, y1.2) from u1)
  obtain ⟨l2, r2, w2⟩ := open_digests h2 he hf hcf hce (show DataW.trod enc P w base (fun _ => true) held n f2.type [.slice a2 n2 k2] = some (y2.1, y2.2) from u2)
  refine ⟨m, a1, n1, k1, l1, a2, n2, k2, l2, y0.1, y1.1, y2.1, ?_, hb.1, hb.2, ⟨r1, open_cap h1 u1⟩, ⟨r2, open_cap h2 u2⟩, ?_, w1, w2⟩
  · unfold sigV
    rw [← hcs]
  · exact (Prod.mk.inj hx).1
theorem sized_sig {H : Type} {P : Program} {ts : List TypeId} {ds : List (DataW H)} (h : (DataW.weightsEach P ts ds).all (· ≤ reachBytes) = true) {j : Nat} {t e : TypeId} {f0 f1 f2 : Field} {x0 x1 x2 : DataW H} (ht : ts[j]? = some t) (hd : ds[j]? = some (.agg [x0, x1, x2]))
    (hu : P.underlying t = some (.struct #[f0, f1, f2])) (h1 : P.underlying f1.type = some (.slice e)) (h2 : P.underlying f2.type = some (.slice e)) (hb : P.bytesOf e = 32) {n1 n2 : Nat}
    (w1 : n1 = 0 ∨ ∃ elems spare, x1 = .slice elems spare ∧ elems.length = n1) (w2 : n2 = 0 ∨ ∃ elems spare, x2 = .slice elems spare ∧ elems.length = n2) : 32 * n1 ≤ 140737488351232 ∧ 32 * n2 ≤ 140737488351232 := by
  have all := List.all_eq_true.1 h
  constructor
  · rcases w1 with h0 | ⟨el, sp, rfl, hl⟩
    · omega
    · have := all _ (DataW.weights_mem_each ht hd ((el.length + sp.length) * P.bytesOf e) (by simp [DataW.weights, hu, DataW.weightsEach, h1]))
      rw [hb] at this
      have := of_decide_eq_true this
      simp only [reachBytes] at this
      omega
  · rcases w2 with h0 | ⟨el, sp, rfl, hl⟩
    · omega
    · have := all _ (DataW.weights_mem_each ht hd ((el.length + sp.length) * P.bytesOf e) (by simp [DataW.weights, hu, DataW.weightsEach, h2]))
      rw [hb] at this
      have := of_decide_eq_true this
      simp only [reachBytes] at this
      omega
end Go.Proofs.YtdgaimlccpmojaaGreatDoor
/- A new variable for a digest: bytes 0. -/
namespace Go.Proofs.YtdgaimlccpmojaaGreatDoor
open Go.RowKit
set_option linter.unusedVariables false
set_option linter.unusedSimpArgs false

/-- A new variable for a digest. -/
def zD : List UInt8 := List.replicate 32 0
theorem zD_size : (cellsB zD).toArray.size = 32 := by rw [cellsB_size]; rfl
theorem Tryz.zeroDg : (Tryz.prog.info? 23).map (·.zero) = some (some (.agg (cellsB zD).toArray)) := by kernel_rfl
theorem Tryz.sizeDg : (Tryz.prog.info? 23).map (·.size) = some 32 := by kernel_rfl
theorem zD_lit : (cellsB zD).toArray = #[.int .u8 0, .int .u8 0, .int .u8 0, .int .u8 0, .int .u8 0, .int .u8 0, .int .u8 0, .int .u8 0, .int .u8 0, .int .u8 0, .int .u8 0, .int .u8 0, .int .u8 0, .int .u8 0, .int .u8 0, .int .u8 0, .int .u8 0, .int .u8 0, .int .u8 0, .int .u8 0, .int .u8 0, .int .u8 0, .int .u8 0, .int .u8 0, .int .u8 0, .int .u8 0, .int .u8 0, .int .u8 0, .int .u8 0, .int .u8 0, .int .u8 0, .int .u8 0] := by kernel_rfl
theorem there_block {w : World} {b o n : Nat} (h : w.there b o n) (hn : 0 < n) : b < w.heap.size := by
  have := (h 0 hn).1
  obtain ⟨v, hv⟩ := Option.isSome_iff_exists.1 this
  exact cell_block hv
/-- An answer of two: a digest that lies in a variable, and a value. -/
theorem run_results_row2 {P : Program} {fn : Func} {p q : Tmp} {ty : TypeId} (h : fn.results = #[.cell p ty, .tmp q]) (tmps : Array Value) (w : World) (b o : Nat) (hp : tmps.getD p undef = .pointer (some ⟨b, o, none⟩)) (v : Value) (hv : tmps.getD q undef = v)
    (cs : List Value) (hc : w.rangeAt b o cs) (d : TypeDesc) (hu : P.underlying ty = some d) (hd : d.isRow = true) (hi : (P.info? ty).map (·.size) = some cs.length) :
    (results fn tmps).run P w = .ok (.tuple #[.agg cs.toArray, v]) w := by
  have hp' : tmps[p]?.getD undef = .pointer (some ⟨b, o, none⟩) := by simpa using hp
  have hv' : tmps[q]?.getD undef = v := by simpa using hv
  simp only [results, h]
  simp [Sem.run_bind, Result.andThen, hp', hv', asAddr, run_loadVar_mid w b o ty cs d hc hu hd hi]
end Go.Proofs.YtdgaimlccpmojaaGreatDoor
