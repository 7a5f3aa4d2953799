/- Texts of this claim, joined: OpenSh, Splitp, Rsplitf, Rfield. -/
import Derived.Test.YtnffmegicgbinaaJ07
import Derived.Test.YtnffmegicgbinaaJ05
import Derived.SizedLaws
import Derived.Test.YtnffmegicgbinaaJ04
import Derived.Deep.DeepCutAuto
import Derived.WalkKit
import Derived.Test.YtnffmegicgbinaaJ02
/- How slices of shares, and of slices of bytes, are opened as arguments, and how the reach bounds each of their rows. -/
namespace Go.Proofs.Ytnffmegicgbinaa
open Go.ChangeShapes Go.WideShapes Go.ChangeAt Go.RowKit
set_option linter.unusedVariables false
set_option linter.unusedSimpArgs false

section
variable {H : Type} {enc : TypeId × Value → H} {P : Program} {w : World} {base : Nat} {held : Bool} {fuel : Nat}
theorem weightsAll_mem {e : TypeId} {m : Nat} : ∀ {l : List (DataW H)} {d : DataW H}, d ∈ l → m ∈ d.weights P e → m ∈ DataW.weightsAll P e l
  | [], d, h, _ => by cases h
  | x :: r, d, h, hm => by
    rw [DataW.weightsAll, List.mem_append]
    rcases List.mem_cons.1 h with rfl | h
    · exact .inl hm
    · exact .inr (weightsAll_mem h hm)
theorem weights_elem {s t : TypeId} {elems spare : List (DataW H)} {d : DataW H} {m : Nat} (hs : P.underlying s = some (.slice t)) (hd : d ∈ elems) (hm : m ∈ d.weights P t) : m ∈ (DataW.slice elems spare).weights P s := by
  simp only [DataW.weights, hs]
  exact List.mem_cons_of_mem _ (List.mem_append.2 (.inl (weightsAll_mem hd hm)))
theorem weights_len {s t : TypeId} {elems spare : List (DataW H)} (hs : P.underlying s = some (.slice t)) : (elems.length + spare.length) * P.bytesOf t ∈ (DataW.slice elems spare).weights P s := by
  simp only [DataW.weights, hs]
  exact List.mem_cons_self ..
theorem open_bytes_cs {t e : TypeId} {cs : List Value} {d : DataW H} {p : List MemPlace} (ht : P.underlying t = some (.slice e)) (he : P.underlying e = some (.int .u8)) (hc : P.cellsOf e = 1)
    (h : DataW.trod enc P w base (fun _ => true) held fuel t cs = some (d, p)) :
    ∃ a len cap l, cs = [.slice a len cap] ∧ Row w a len l ∧ len ≤ cap ∧ (len = 0 ∨ ∃ elems spare, d = .slice elems spare ∧ elems.length = len) := by
  obtain ⟨a, len, cap, rfl⟩ : ∃ a len cap, cs = [.slice a len cap] := by
    rcases open_ints ht he hc h with ⟨hcs, _⟩ | ⟨x, l, c, zs, hcs, _⟩
    · exact ⟨_, _, _, hcs⟩
    · exact ⟨_, _, _, hcs⟩
  obtain ⟨l, hl, hd⟩ := open_bytes ht he hc h
  exact ⟨a, len, cap, l, rfl, hl, open_cap ht h, hd⟩
theorem bytes_bound {t e : TypeId} {d : DataW H} {n : Nat} (ht : P.underlying t = some (.slice e)) (hb : P.bytesOf e = 1) (hw : ∀ m ∈ d.weights P t, m ≤ reachBytes) (h : n = 0 ∨ ∃ elems spare, d = .slice elems spare ∧ elems.length = n) : n ≤ 140737488351232 := by
  rcases h with h | ⟨el, sp, rfl, h⟩
  · omega
  · have := hw _ (weights_len ht)
    rw [hb] at this
    simp only [reachBytes] at this
    omega
/-- A slice of n slices of bytes, each of a length that a machine can hold. -/
def BRowsB (w : World) (a : Option Addr) (n : Nat) (ls : List (List UInt8)) : Prop := BRows w a n ls ∧ ∀ i, i < n → (ls.getD i []).length ≤ 140737488351232
theorem BRowsB.below {w w' : World} {a : Option Addr} {n : Nat} {ls : List (List UInt8)} (h : BRowsB w a n ls) (hb : Below w.heap.size w w') : BRowsB w' a n ls := ⟨h.1.below hb, h.2⟩
theorem open_rowsB {t e f : TypeId} {a : Option Addr} {len cap : Nat} {d : DataW H} {p : List MemPlace}
    (ht : P.underlying t = some (.slice e)) (he : P.underlying e = some (.slice f)) (hf : P.underlying f = some (.int .u8)) (hcf : P.cellsOf f = 1) (hce : P.cellsOf e = 1) (hbf : P.bytesOf f = 1)
    (hw : ∀ m ∈ d.weights P t, m ≤ reachBytes)
    (h : DataW.trod enc P w base (fun _ => true) held fuel t [.slice a len cap] = some (d, p)) :
    ∃ ls, BRowsB w a len ls ∧ (len = 0 ∨ ∃ elems spare, d = .slice elems spare ∧ elems.length = len) := by
  rcases Go.Deep.open_slice ht h with ⟨hcs, _⟩ | ⟨x, l, c, m, n, D, Pl, hcs, _, hlc, hm, hmm, hx, hel⟩
  · simp at hcs
    obtain ⟨rfl, rfl, rfl⟩ := hcs
    exact ⟨[], ⟨BRows.nil w, fun i hi => by omega⟩, .inl rfl⟩
  · simp at hcs
    obtain ⟨rfl, rfl, rfl⟩ := hcs
    simp only [if_true] at hmm
    subst hmm
    simp only [Prod.mk.injEq] at hx
    have each : ∀ i, i < len → ∃ q : List UInt8, q.length ≤ 140737488351232 ∧ ∃ (ai : Option Addr) (ni ci : Nat), w.cell? (x.add i) = some (.slice ai ni ci) ∧ ni ≤ ci ∧ Row w ai ni q := by
      intro i hi
      obtain ⟨cs', hc, htr⟩ := hel i (by omega)
      obtain ⟨ai, ni, ci, q, rfl, hR, hcc, hb⟩ := open_bytes_cs he hf hcf htr
      have hDi : D i ∈ (List.range len).map D := List.mem_map.2 ⟨i, List.mem_range.2 hi, rfl⟩
      have hbd := bytes_bound he hbf (fun m hm => hw m (by rw [hx.1]; exact weights_elem ht hDi hm)) hb
      refine ⟨q, by rw [hR.1]; exact hbd, ai, ni, ci, ?_, hcc, hR⟩
      rw [hce, Nat.mul_one] at hc
      have hs := World.cells?_some hc
      have := hs.2.2 0 (by omega)
      simpa [Addr.add] using this
    let g : Nat → List UInt8 := fun i => if h : i < len then (each i h).choose else []
    have hg : ∀ i (hi : i < len), ((List.range len).map g).getD i [] = (each i hi).choose := fun i hi => by simp [g, hi, List.getD_eq_getElem?_getD]
    refine ⟨(List.range len).map g, ⟨⟨by simp, ?_⟩, fun i hi => by rw [hg i hi]; exact (each i hi).choose_spec.1⟩, .inr ⟨_, _, hx.1, by simp⟩⟩
    by_cases h0 : len = 0
    · exact .inl h0
    · obtain ⟨b, off, spot⟩ := x
      have hspot : spot = none := by
        obtain ⟨q, _, ai, ni, ci, hc, _, _⟩ := each 0 (by omega)
        simpa [Addr.add] using World.cell?_spot hc
      subst hspot
      refine .inr ⟨b, off, rfl, fun i hi => ?_⟩
      rw [hg i hi]
      obtain ⟨_, ai, ni, ci, hc, hcc, hR⟩ := (each i hi).choose_spec
      refine ⟨ai, ni, ci, ?_, hcc, hR⟩
      rw [← add_plain]; exact hc
variable {t f : TypeId} {f0 f1 : Field}
theorem share_of_trod {cs : List Value} {x : DataW H × List MemPlace} (ht : P.underlying t = some (.struct #[f0, f1])) (hct : P.cellsOf t = 2) (o0 : f0.offset = 0) (o1 : f1.offset = 1)
    (h0 : P.underlying f0.type = some (.int .u8)) (c0 : P.cellsOf f0.type = 1) (h1 : P.underlying f1.type = some (.slice f)) (c1 : P.cellsOf f1.type = 1) (hf : P.underlying f = some (.int .u8)) (hcf : P.cellsOf f = 1) (hbf : P.bytesOf f = 1)
    (hw : ∀ m ∈ x.1.weights P t, m ≤ reachBytes)
    (h : DataW.trod enc P w base (fun _ => true) held fuel t cs = some x) : ∃ (s : Shr) (a : Option Addr) (n c : Nat), cs = [.int .u8 (s.1 : Int), .slice a n c] ∧ s.1 < 256 ∧ n ≤ c ∧ n ≤ 140737488351232 ∧ Row w a n s.2 := by
  obtain ⟨xs, n, _, rfl, hl, hlen, hfd⟩ := DataW.trod_struct ht h
  have u0 := hfd 0 f0 rfl
  have u1 := hfd 1 f1 rfl
  obtain ⟨y0, y1, rfl⟩ : ∃ y0 y1, xs = [y0, y1] := by
    have hlen' : xs.length = 2 := hlen
    match xs, hlen' with
    | [y0, y1], _ => exact ⟨y0, y1, rfl⟩
  rw [hct] at hl
  rw [o0, c0] at u0
  rw [o1, c1] at u1
  obtain ⟨z0, z1, rfl⟩ : ∃ z0 z1, cs = [z0, z1] := by
    match cs, hl with
    | [z0, z1], _ => exact ⟨z0, z1, rfl⟩
  simp only [List.drop_zero, List.take_succ_cons, List.take_zero, List.drop_succ_cons] at u0 u1
  obtain ⟨m, hm, _, hwf⟩ := DataW.trod_int h0 (show DataW.trod enc P w base (fun _ => true) held n f0.type [z0] = some y0 from by simpa using u0)
  obtain ⟨a, k, c, l, hcs, hR, hkc, hd⟩ := open_bytes_cs h1 hf hcf (show DataW.trod enc P w base (fun _ => true) held n f1.type [z1] = some (y1.1, y1.2) from by simpa using u1)
  cases hm
  cases hcs
  have hb := wf_u8 hwf
  have hk := bytes_bound h1 hbf (fun m hm => hw m (by
    show m ∈ (DataW.agg [y0.1, y1.1]).weights P t
    simp only [DataW.weights, ht, DataW.weightsEach, List.map_cons, List.map_nil, List.mem_append]
    exact .inr (.inl hm))) hd
  refine ⟨(m.toNat, l), a, k, c, ?_, by show m.toNat < 256; omega, hkc, hk, hR⟩
  rw [show (((m.toNat, l) : Shr).1 : Int) = m by show (m.toNat : Int) = m; omega]
theorem open_shares {s : TypeId} {a : Option Addr} {len cap : Nat} {d : DataW H} {p : List MemPlace} (hs : P.underlying s = some (.slice t)) (ht : P.underlying t = some (.struct #[f0, f1])) (hct : P.cellsOf t = 2) (o0 : f0.offset = 0) (o1 : f1.offset = 1)
    (h0 : P.underlying f0.type = some (.int .u8)) (c0 : P.cellsOf f0.type = 1) (h1 : P.underlying f1.type = some (.slice f)) (c1 : P.cellsOf f1.type = 1) (hf : P.underlying f = some (.int .u8)) (hcf : P.cellsOf f = 1) (hbf : P.bytesOf f = 1)
    (hw : ∀ m ∈ d.weights P s, m ≤ reachBytes)
    (h : DataW.trod enc P w base (fun _ => true) held fuel s [.slice a len cap] = some (d, p)) :
    ∃ ss, SRow w a len ss ∧ (len = 0 ∨ ∃ elems spare, d = .slice elems spare ∧ elems.length = len) := by
  rcases Go.Deep.open_slice hs h with ⟨hcs, _⟩ | ⟨x, l, c, m, n, D, Pl, hcs, _, hlc, hm, hmm, hx, hel⟩
  · simp at hcs
    obtain ⟨rfl, rfl, rfl⟩ := hcs
    exact ⟨[], SRow.nil w _, .inl rfl⟩
  · simp at hcs
    obtain ⟨rfl, rfl, rfl⟩ := hcs
    simp only [if_true] at hmm
    subst hmm
    simp only [Prod.mk.injEq] at hx
    have each : ∀ i, i < len → ∃ s : Shr, s.1 < 256 ∧ w.cell? (x.add (i * 2)) = some (.int .u8 (s.1 : Int)) ∧ ∃ (a : Option Addr) (n c : Nat), w.cell? ((x.add (i * 2)).add 1) = some (.slice a n c) ∧ n ≤ c ∧ n ≤ 140737488351232 ∧ Row w a n s.2 := by
      intro i hi
      obtain ⟨cs', hc, htr⟩ := hel i (by omega)
      have hDi : D i ∈ (List.range len).map D := List.mem_map.2 ⟨i, List.mem_range.2 hi, rfl⟩
      obtain ⟨s, a, k, c, rfl, hs1, hkc, hk, hR⟩ := share_of_trod ht hct o0 o1 h0 c0 h1 c1 hf hcf hbf (fun m hm => hw m (by rw [hx.1]; exact weights_elem hs hDi hm)) htr
      rw [hct] at hc
      have hsm := World.cells?_some hc
      have q0 := hsm.2.2 0 (by omega)
      have q1 := hsm.2.2 1 (by omega)
      refine ⟨s, hs1, ?_, a, k, c, ?_, hkc, hk, hR⟩
      · simpa [Addr.add] using q0
      · simpa using q1
    let g : Nat → Shr := fun i => if h : i < len then (each i h).choose else noS
    have hg : ∀ i (hi : i < len), ((List.range len).map g).getD i noS = (each i hi).choose := fun i hi => by simp [g, hi, List.getD_eq_getElem?_getD]
    refine ⟨(List.range len).map g, ⟨by simp, ?_⟩, .inr ⟨_, _, hx.1, by simp⟩⟩
    by_cases h0 : len = 0
    · exact .inl h0
    · obtain ⟨b, off, spot⟩ := x
      have hspot : spot = none := by
        obtain ⟨q, _, hc, _⟩ := each 0 (by omega)
        simpa [Addr.add] using World.cell?_spot hc
      subst hspot
      refine .inr ⟨b, off, rfl, fun i hi => ?_⟩
      rw [hg i hi]
      have sp := (each i hi).choose_spec
      generalize (each i hi).choose = s at sp
      obtain ⟨h1, h2, a, k, c, h3, h4, h5, h6⟩ := sp
      rw [add_plain] at h2 h3
      rw [add_plain] at h3
      exact ⟨h1, h2, a, k, c, h3, h4, h5, h6⟩
end
end Go.Proofs.Ytnffmegicgbinaa
/- Plain definitions for a secret in parts. -/
namespace Go.Proofs.Ytnffmegicgbinaa
open Go.RowKit
set_option linter.unusedVariables false
set_option linter.unusedSimpArgs false

/-- What is wrong with what is to be split. -/
def splitE (len : Nat) (n : Int) (ls : List (List UInt8)) : Int := if n < 1 ∨ 20 < n then 2 else if 100 < len ∨ 20 < ls.length then 4 else if ∀ l ∈ ls, l.length = len then 0 else 3
theorem splitE_ok {m : Nat} {n : Int} {ls : List (List UInt8)} (h : splitE m n ls = 0) : 1 ≤ n ∧ n ≤ 20 ∧ m ≤ 100 ∧ ls.length ≤ 20 ∧ ∀ l ∈ ls, l.length = m := by
  unfold splitE at h
  by_cases c1 : n < 1 ∨ 20 < n
  · rw [if_pos c1] at h; omega
  · rw [if_neg c1] at h
    by_cases c2 : 100 < m ∨ 20 < ls.length
    · rw [if_pos c2] at h; omega
    · rw [if_neg c2] at h
      by_cases c3 : ∀ l ∈ ls, l.length = m
      · exact ⟨by omega, by omega, by omega, by omega, c3⟩
      · rw [if_neg c3] at h; omega
/-- The polynomial at a place: the secret's byte, and behind it those of the first j rows. -/
def polyT (secret : List UInt8) (ls : List (List UInt8)) (i j : Nat) : List UInt8 := secret.getD i 0 :: (ls.take j).map fun l => l.getD i 0
def polyC (secret : List UInt8) (ls : List (List UInt8)) (i : Nat) : List UInt8 := secret.getD i 0 :: ls.map fun l => l.getD i 0
theorem polyT_zero (secret : List UInt8) (ls : List (List UInt8)) (i : Nat) : polyT secret ls i 0 = [secret.getD i 0] := by simp [polyT]
theorem polyT_succ {secret : List UInt8} {ls : List (List UInt8)} {i j : Nat} (h : j < ls.length) : polyT secret ls i j ++ [(ls.getD j []).getD i 0] = polyT secret ls i (j + 1) := by
  unfold polyT
  rw [List.take_succ_eq_append_getElem h, List.map_append]
  simp [List.getD_eq_getElem?_getD, List.getElem?_eq_getElem h]
theorem polyT_all (secret : List UInt8) (ls : List (List UInt8)) (i : Nat) : polyT secret ls i ls.length = polyC secret ls i := by
  unfold polyT polyC
  rw [List.take_length]
theorem polyT_length {secret : List UInt8} {ls : List (List UInt8)} {i j : Nat} (h : j ≤ ls.length) : (polyT secret ls i j).length = j + 1 := by
  simp [polyT]
  omega
theorem polyC_length (secret : List UInt8) (ls : List (List UInt8)) (i : Nat) : (polyC secret ls i).length = ls.length + 1 := by simp [polyC]
/-- A share's byte. -/
def shareN (secret : List UInt8) (ls : List (List UInt8)) (k i : Nat) : Nat := polyv (nb (polyC secret ls i)) k
theorem shareN_lt (secret : List UInt8) (ls : List (List UInt8)) (k i : Nat) : shareN secret ls k i < 256 := polyv_lt (nb_bys _) _
def dataS (secret : List UInt8) (ls : List (List UInt8)) (k m : Nat) : List UInt8 := (List.range m).map fun i => UInt8.ofNat (shareN secret ls k i)
theorem dataS_length (secret : List UInt8) (ls : List (List UInt8)) (k m : Nat) : (dataS secret ls k m).length = m := by simp [dataS]
theorem dataS_succ (secret : List UInt8) (ls : List (List UInt8)) (k m : Nat) : dataS secret ls k m ++ [UInt8.ofNat (shareN secret ls k m)] = dataS secret ls k (m + 1) := by
  unfold dataS
  rw [List.range_succ, List.map_append]
  rfl
def splitL (secret : List UInt8) (ls : List (List UInt8)) (n : Nat) : List Shr := (List.range n).map fun k => (k + 1, dataS secret ls (k + 1) secret.length)
theorem splitL_length (secret : List UInt8) (ls : List (List UInt8)) (n : Nat) : (splitL secret ls n).length = n := by simp [splitL]
theorem splitL_succ (secret : List UInt8) (ls : List (List UInt8)) (n : Nat) : splitL secret ls n ++ [(n + 1, dataS secret ls (n + 1) secret.length)] = splitL secret ls (n + 1) := by
  unfold splitL
  rw [List.range_succ, List.map_append]
  rfl
theorem splitL_at (secret : List UInt8) (ls : List (List UInt8)) (n k : Nat) (h : k < n) : (splitL secret ls n).getD k noS = (k + 1, dataS secret ls (k + 1) secret.length) := by
  unfold splitL
  rw [List.getD_eq_getElem?_getD, List.getElem?_map, List.getElem?_range h]
  rfl
end Go.Proofs.Ytnffmegicgbinaa
/- The contract of oathbookref2.SplitFault. -/
namespace Go.Proofs.Ytnffmegicgbinaa
open Go.RowKit
set_option linter.unusedVariables false
set_option linter.unusedSimpArgs false

theorem BRowsB.head {w : World} {b o n : Nat} {ls : List (List UInt8)} (R : BRowsB w (some ⟨b, o, none⟩) n ls) (i : Nat) (hi : i < n) : ∃ (ai : Option Addr) (ni ci : Nat), ni ≤ ci ∧ ni = (ls.getD i []).length ∧ (∀ k, k < ni → ∃ bi oi, ai = some ⟨bi, oi, none⟩) ∧ ∀ wx, Below w.heap.size w wx → wx.cell? ⟨b, o + i, none⟩ = some (.slice ai ni ci) ∧
    ∀ bi oi, ai = some ⟨bi, oi, none⟩ → ∀ k, k < ni → wx.cell? ⟨bi, oi + k, none⟩ = some (.int .u8 (nth (ls.getD i []) k)) := by
  rcases R.1.2 with h0 | ⟨b', o', e, hc⟩
  · omega
  · cases e
    obtain ⟨ai, ni, ci, c1, h4, hR⟩ := hc i hi
    refine ⟨ai, ni, ci, h4, hR.1.symm, fun k hk => ?_, fun wx hb => ⟨(hb.cell (p := ⟨b, o + i, none⟩) (cell_block c1)).trans c1, fun bi oi e k hk => ?_⟩⟩
    · rcases hR.2 with h0 | ⟨bi, oi, e, _⟩
      · omega
      · exact ⟨bi, oi, e⟩
    · rcases hR.2 with h0 | ⟨bi', oi', e', hcell⟩
      · omega
      · rw [e] at e'
        cases e'
        have ck := hcell k hk
        exact (hb.cell (p := ⟨bi, oi + k, none⟩) (cell_block ck)).trans ck
theorem BRowsB.addr {w : World} {a : Option Addr} {n : Nat} {ls : List (List UInt8)} (R : BRowsB w a n ls) (hn : 0 < n) : ∃ b o, a = some ⟨b, o, none⟩ := by
  rcases R.1.2 with h0 | ⟨b, o, e, _⟩
  · omega
  · exact ⟨b, o, e⟩
end Go.Proofs.Ytnffmegicgbinaa
/- The contracts of oathbookref2.bit, flip, Mul, Inv and Pow. -/
namespace Go.Proofs.Ytnffmegicgbinaa
open Go.RowKit
set_option linter.unusedVariables false
set_option linter.unusedSimpArgs false

set_option maxRecDepth 100000 in
set_option maxHeartbeats 1000000 in
theorem rbit_any (n i : Nat) (w : World) (hn : n ≤ 1000000) (hi : i ≤ 100) :
    Calls Try.prog 23 #[.int .i64 (n : Int), .int .i64 (i : Int)] w fun e w' => e = .returned (.int .i64 ((n / 2 ^ i % 2 : Nat) : Int)) ∧ w' = w := by
  go_enter Try.func23, Try.ntmps23
  go_wp2_with fail
  go_loopw [0, 5] (fun nv kv wr => ∃ m k : Nat, nv = .int .i64 (m : Int) ∧ kv = .int .i64 (k : Int) ∧ m ≤ 1000000 ∧ k ≤ i ∧ Hid (m = n / 2 ^ k) ∧ Hid (wr = w)) (fun _ kv _ => i - (intOf kv).toNat)
  case atStart => exact ⟨n, 0, rfl, rfl, hn, Nat.zero_le _, by show n = n / 2 ^ 0; simp, rfl⟩
  case round =>
    obtain ⟨m, k, rfl, rfl, hm, hk, HM, HW⟩ := hrel
    by_cases hlt : k < i
    · have g1 : (k : Int) < (i : Int) := by omega
      have HM2 : Hid (m / 2 = n / 2 ^ (k + 1)) := by unfold Hid; rw [HM.out, Nat.div_div_eq_div_mul, Nat.pow_succ]
      have d1 : (m : Int).tdiv 2 = ((m / 2 : Nat) : Int) := by rw [Int.tdiv_eq_ediv_of_nonneg (by omega)]; omega
      have d2 : (m : Int) / 2 = ((m / 2 : Nat) : Int) := by omega
      have hb : m / 2 ≤ 1000000 := by omega
      have HI : Hid (k + 1 ≤ i) := hlt
      clear HM
      generalize m / 2 = m' at *
      go_wp2_with fail
      go_roundw
      case rel => exact ⟨m', k + 1, by go_num, by go_num, hb, HI.out, HM2, HW⟩
      case measure => have := HI.out; simp [intOf]; omega
    · obtain rfl : k = i := by omega
      have g1 : ¬ (k : Int) < (k : Int) := by omega
      have d3 : (m : Int).tmod 2 = ((m % 2 : Nat) : Int) := by rw [Int.tmod_eq_emod_of_nonneg (by omega)]; omega
      have d4 : (m : Int) % 2 = ((m % 2 : Nat) : Int) := by omega
      have HR : Hid (m % 2 = n / 2 ^ k % 2) := by unfold Hid; rw [HM.out]
      have hb : m % 2 ≤ 1 := by omega
      clear HM
      generalize m % 2 = m' at *
      go_wp2_with fail
      go_ret
      rw [HR.out]
      exact ⟨rfl, HW.out⟩
set_option maxRecDepth 100000 in
set_option maxHeartbeats 1000000 in
theorem rflip_any (n i : Nat) (w : World) (hn : n < 65536) (hi : i < 16) :
    Calls Try.prog 24 #[.int .i64 (n : Int), .int .i64 (i : Int)] w fun e w' => e = .returned (.int .i64 ((n ^^^ 2 ^ i : Nat) : Int)) ∧ w' = w := by
  have HFX : Hid (n ^^^ 2 ^ i = if n / 2 ^ i % 2 = 1 then n - 2 ^ i else n + 2 ^ i) := flip_xor i n
  have HPB : Hid (∀ k, k ≤ i → 2 ^ k ≤ 65536) := fun k hk => Nat.pow_le_pow_right (n := 2) (by omega) (show k ≤ 16 by omega)
  have HLE : Hid (n / 2 ^ i % 2 = 1 → 2 ^ i ≤ n) := fun h => by
    have : 0 < n / 2 ^ i := Nat.pos_of_ne_zero fun e => by rw [e] at h; exact absurd h (by decide)
    exact (Nat.div_pos_iff.1 this).2
  go_enter Try.func24, Try.ntmps24
  go_wp2_with fail
  go_loopw [5, 6] (fun av kv wr => ∃ m k : Nat, av = .int .i64 (m : Int) ∧ kv = .int .i64 (k : Int) ∧ m ≤ 65536 ∧ k ≤ i ∧ Hid (m = 2 ^ k) ∧ Hid (wr = w)) (fun _ kv _ => i - (intOf kv).toNat)
  case atStart => exact ⟨1, 0, rfl, rfl, by omega, Nat.zero_le _, rfl, rfl⟩
  case round =>
    obtain ⟨m, k, rfl, rfl, hm, hk, HM, HW⟩ := hrel
    by_cases hlt : k < i
    · have g1 : (k : Int) < (i : Int) := by omega
      have HM2 : Hid (2 * m = 2 ^ (k + 1)) := by unfold Hid; rw [HM.out, Nat.pow_succ, Nat.mul_comm]
      have hb : 2 * m ≤ 65536 := by rw [HM2.out]; exact HPB.out (k + 1) hlt
      have HI : Hid (k + 1 ≤ i) := hlt
      clear HM
      go_wp2_with fail
      go_roundw
      case rel => exact ⟨2 * m, k + 1, by go_num, by go_num, hb, HI.out, HM2, HW⟩
      case measure => have := HI.out; simp [intOf]; omega
    · obtain rfl : k = i := by omega
      have g1 : ¬ (k : Int) < (k : Int) := by omega
      have hw := HW.out
      subst hw
      go_wp2_with fail
      refine (rbit_any n k wr (by omega) (by omega)).mono ?_
      rintro e wq ⟨rfl, hq⟩
      have hq' : wr = wq := hq.symm
      subst hq'
      by_cases c : n / 2 ^ k % 2 = 1
      · have HE : Hid (n ^^^ 2 ^ k = n - m) := by unfold Hid; rw [HFX.out, if_pos c, HM.out]
        have hle : m ≤ n := by rw [HM.out]; exact HLE.out c
        rw [c]
        clear HFX HLE HPB HM c
        have k1 : IntKind.i64.wrap ((n : Int) - (m : Int)) = ((n - m : Nat) : Int) := by rw [IntKind.wrap_i64]; omega
        have k2 : wrap64 ((n : Int) - (m : Int)) = ((n - m : Nat) : Int) := by simp only [wrap64]; omega
        generalize n - m = d at *
        go_wp2_with fail
        go_ret
        rw [HE.out]
        exact ⟨rfl, rfl⟩
      · have HE : Hid (n ^^^ 2 ^ k = n + m) := by unfold Hid; rw [HFX.out, if_neg c, HM.out]
        have hc : n / 2 ^ k % 2 = 0 := by omega
        rw [hc]
        clear HFX HLE HPB HM c hc
        go_wp2_with fail
        go_ret
        rw [HE.out]
        exact ⟨by go_num, rfl⟩
end Go.Proofs.Ytnffmegicgbinaa
