/- Texts of this claim, joined: Open, OpenR, Wsumof, Env. -/
import Derived.Test.YtbhoijnhpmkglabDoorJ01
import Derived.ProofKit
import Derived.OpenShut
import Derived.ShutString
import Derived.ChangeOld
import Derived.SizedLaws
import Derived.Deep.Slices
import Derived.Test.YtbhoijnhpmkglabDoorJ04
import Derived.Test.YtbhoijnhpmkglabDoorJ03
/- How an argument that is a slice of bytes is opened: it reads as a list of bytes. -/
namespace Go.Proofs.YtbhoijnhpmkglabDoor
open Go.ChangeShapes Go.WideShapes Go.ChangeAt Go.RowKit
open Go.ChangeMaps (open_string shut_string)
set_option linter.unusedVariables false
set_option linter.unusedSimpArgs false

theorem wf_u8 {n : Int} (h : (Lit.int .u8 n).wf = true) : 0 ≤ n ∧ n ≤ 255 := by
  have hmin : IntKind.u8.min = 0 := rfl
  have hmax : IntKind.u8.max = 255 := rfl
  simp only [Lit.wf, Bool.and_eq_true, decide_eq_true_eq] at h
  omega
theorem wf_i64 {n : Int} (h : (Lit.int .i64 n).wf = true) : -9223372036854775808 ≤ n ∧ n ≤ 9223372036854775807 := by
  have hmin : IntKind.i64.min = -9223372036854775808 := rfl
  have hmax : IntKind.i64.max = 9223372036854775807 := rfl
  simp only [Lit.wf, Bool.and_eq_true, decide_eq_true_eq] at h
  omega

theorem open_bytes {H : Type} {enc : TypeId × Value → H} {P : Program} {w : World} {base : Nat} {held : Bool} {t e : TypeId} {fuel : Nat} {a : Option Addr} {len cap : Nat} {d : DataW H} {p : List MemPlace}
    (ht : P.underlying t = some (.slice e)) (he : P.underlying e = some (.int .u8)) (hc : P.cellsOf e = 1)
    (h : DataW.trod enc P w base (fun _ => true) held fuel t [.slice a len cap] = some (d, p)) :
    ∃ l, Row w a len l ∧ (len = 0 ∨ ∃ elems spare, d = .slice elems spare ∧ elems.length = len) := by
  rcases open_ints ht he hc h with ⟨hcs, _⟩ | ⟨x, l, c, zs, hcs, _, hl, hm, hz, hx, hcell, hwz⟩
  · simp at hcs
    obtain ⟨rfl, rfl, rfl⟩ := hcs
    exact ⟨[], Row.nil w, .inl rfl⟩
  · simp at hcs
    obtain ⟨rfl, rfl, rfl⟩ := hcs
    simp only [Prod.mk.injEq] at hx
    simp at hz
    refine ⟨(zs.take len).map fun z => UInt8.ofNat z.toNat, ⟨by simp; omega, ?_⟩, .inr ⟨_, _, hx.1, by simp [lits]; omega⟩⟩
    by_cases h0 : len = 0
    · exact .inl h0
    · obtain ⟨b, off, spot⟩ := x
      have hspot : spot = none := by simpa [Addr.add] using World.cell?_spot (hcell 0 (by omega))
      subst hspot
      refine .inr ⟨b, off, rfl, fun i hi => ?_⟩
      rw [← add_plain, hcell i (by omega)]
      have hb := wf_u8 (hwz (zs.getD i 0) (by
        have : zs.getD i 0 = zs[i]'(by omega) := by simp [List.getD_eq_getElem?_getD, List.getElem?_eq_getElem (show i < zs.length by omega)]
        rw [this]
        exact List.getElem_mem _))
      have e : nth ((zs.take len).map fun z => UInt8.ofNat z.toNat) i = zs.getD i 0 := by
        unfold nth
        have h1 : i < zs.length := by omega
        simp only [List.getD_eq_getElem?_getD, List.getElem?_map, List.getElem?_take, if_pos hi, List.getElem?_eq_getElem h1, Option.map_some, Option.getD_some] at hb ⊢
        rw [UInt8.toNat_ofNat']
        omega
      rw [e]
end Go.Proofs.YtbhoijnhpmkglabDoor
/- How an argument that is a slice of slices of bytes is opened, and how its bulk bounds it. -/
namespace Go.Proofs.YtbhoijnhpmkglabDoor
open Go.ChangeShapes Go.WideShapes Go.ChangeAt Go.RowKit
set_option linter.unusedVariables false
set_option linter.unusedSimpArgs false

theorem bulk_ge {H : Type} (l : List (DataW H)) : l.length ≤ Rows.uptoBulkAll l := by
  induction l with
  | nil => exact Nat.zero_le _
  | cons d r ih =>
    have : 1 ≤ Rows.uptoBulk d := by cases d with
      | lit x => cases x <;> simp [Rows.uptoBulk]
      | _ => simp [Rows.uptoBulk]
    simp only [Rows.uptoBulkAll, List.length_cons]
    omega
theorem open_cap {H : Type} {enc : TypeId × Value → H} {P : Program} {w : World} {base : Nat} {held : Bool} {t e : TypeId} {fuel : Nat} {a : Option Addr} {len cap : Nat} {x : DataW H × List MemPlace}
    (ht : P.underlying t = some (.slice e)) (h : DataW.trod enc P w base (fun _ => true) held fuel t [.slice a len cap] = some x) : len ≤ cap := by
  rcases Go.Deep.open_slice ht h with ⟨hcs, _⟩ | ⟨y, l, c, m, n, D, Pl, hcs, _, hlc, _⟩
  · simp at hcs
    omega
  · simp at hcs
    omega
theorem open_bytes_any {H : Type} {enc : TypeId × Value → H} {P : Program} {w : World} {base : Nat} {held : Bool} {t e : TypeId} {fuel : Nat} {cs : List Value} {d : DataW H} {p : List MemPlace}
    (ht : P.underlying t = some (.slice e)) (he : P.underlying e = some (.int .u8)) (hc : P.cellsOf e = 1)
    (h : DataW.trod enc P w base (fun _ => true) held fuel t cs = some (d, p)) :
    ∃ a len cap l, cs = [.slice a len cap] ∧ Row w a len l ∧ len ≤ cap ∧ len ≤ Rows.uptoBulk d := by
  have key : ∃ a len cap, cs = [.slice a len cap] := by
    rcases open_ints ht he hc h with ⟨hcs, _⟩ | ⟨x, l, c, zs, hcs, _⟩
    · exact ⟨_, _, _, hcs⟩
    · exact ⟨_, _, _, hcs⟩
  obtain ⟨a, len, cap, rfl⟩ := key
  obtain ⟨l, hl, hd⟩ := open_bytes ht he hc h
  refine ⟨a, len, cap, l, rfl, hl, open_cap ht h, ?_⟩
  rcases hd with h0 | ⟨es, sp, rfl, h1⟩
  · omega
  · have := bulk_ge es
    simp only [Rows.uptoBulk]
    omega

/-- A slice of n slices of bytes at a reads as the list ls. -/
def BRows (w : World) (a : Option Addr) (n : Nat) (ls : List (List UInt8)) : Prop :=
  ls.length = n ∧ (n = 0 ∨ ∃ b o, a = some ⟨b, o, none⟩ ∧ ∀ i, i < n → ∃ (ai : Option Addr) (ni ci : Nat), w.cell? ⟨b, o + i, none⟩ = some (.slice ai ni ci) ∧ ni ≤ ci ∧ Row w ai ni (ls.getD i []))
theorem BRows.nil (w : World) : BRows w none 0 [] := ⟨rfl, .inl rfl⟩
theorem BRows.below {w w' : World} {a : Option Addr} {n : Nat} {ls : List (List UInt8)} (h : BRows w a n ls) (hb : Below w.heap.size w w') : BRows w' a n ls := by
  obtain ⟨h1, h3⟩ := h
  refine ⟨h1, ?_⟩
  rcases h3 with h3 | ⟨b, o, ha, hc⟩
  · exact .inl h3
  · refine .inr ⟨b, o, ha, fun i hi => ?_⟩
    obtain ⟨ai, ni, ci, e1, e3, e2⟩ := hc i hi
    exact ⟨ai, ni, ci, (hb.cell (p := ⟨b, o + i, none⟩) (cell_block e1)).trans e1, e3, e2.below hb⟩

theorem bulk_map {H : Type} (D : Nat → DataW H) (f : Nat → List UInt8) : ∀ n, (∀ i, i < n → (f i).length ≤ Rows.uptoBulk (D i)) → (((List.range n).map f).flatten).length ≤ Rows.uptoBulkAll ((List.range n).map D)
  | 0, _ => by simp
  | n + 1, h => by
    have ih := bulk_map D f n (fun i hi => h i (by omega))
    have hn := h n (by omega)
    have app : ∀ (x y : List (DataW H)), Rows.uptoBulkAll (x ++ y) = Rows.uptoBulkAll x + Rows.uptoBulkAll y := by
      intro x y
      induction x with
      | nil => simp [Rows.uptoBulkAll]
      | cons a r ih => simp only [List.cons_append, Rows.uptoBulkAll, ih]; omega
    rw [List.range_succ, List.map_append, List.map_append, List.flatten_append, List.length_append, app]
    simp only [List.map_cons, List.map_nil, List.flatten_cons, List.flatten_nil, List.append_nil, Rows.uptoBulkAll]
    omega
theorem open_rows {H : Type} {enc : TypeId × Value → H} {P : Program} {w : World} {base : Nat} {held : Bool} {t e f : TypeId} {fuel : Nat} {a : Option Addr} {len cap : Nat} {d : DataW H} {p : List MemPlace}
    (ht : P.underlying t = some (.slice e)) (he : P.underlying e = some (.slice f)) (hf : P.underlying f = some (.int .u8)) (hcf : P.cellsOf f = 1) (hce : P.cellsOf e = 1)
    (h : DataW.trod enc P w base (fun _ => true) held fuel t [.slice a len cap] = some (d, p)) :
    ∃ ls, BRows w a len ls ∧ ls.flatten.length + len ≤ 2 * Rows.uptoBulk d := by
  rcases Go.Deep.open_slice ht h with ⟨hcs, _⟩ | ⟨x, l, c, m, n, D, Pl, hcs, _, hlc, hm, hmm, hx, hel⟩
  · simp at hcs
    obtain ⟨rfl, rfl, rfl⟩ := hcs
    exact ⟨[], BRows.nil w, by simp⟩
  · simp at hcs
    obtain ⟨rfl, rfl, rfl⟩ := hcs
    simp only [if_true] at hmm
    subst hmm
    simp only [Prod.mk.injEq] at hx
    have each : ∀ i, i < len → ∃ q : List UInt8, q.length ≤ Rows.uptoBulk (D i) ∧ ∃ (ai : Option Addr) (ni ci : Nat), w.cell? (x.add i) = some (.slice ai ni ci) ∧ ni ≤ ci ∧ Row w ai ni q := by
      intro i hi
      obtain ⟨cs', hc, htr⟩ := hel i (by omega)
      obtain ⟨ai, ni, ci, q, rfl, hR, hcc, hb⟩ := open_bytes_any he hf hcf htr
      refine ⟨q, by rw [hR.1]; exact hb, ai, ni, ci, ?_, hcc, hR⟩
      rw [hce, Nat.mul_one] at hc
      have hs := World.cells?_some hc
      have := hs.2.2 0 (by omega)
      simpa [Addr.add] using this
    let g : Nat → List UInt8 := fun i => if h : i < len then (each i h).choose else []
    have hg : ∀ i (hi : i < len), g i = (each i hi).choose := fun i hi => by simp [g, hi]
    refine ⟨(List.range len).map g, ⟨by simp, ?_⟩, ?_⟩
    · by_cases h0 : len = 0
      · exact .inl h0
      · obtain ⟨b, off, spot⟩ := x
        have hspot : spot = none := by
          obtain ⟨q, _, ai, ni, ci, hc, _, _⟩ := each 0 (by omega)
          simpa [Addr.add] using World.cell?_spot hc
        subst hspot
        refine .inr ⟨b, off, rfl, fun i hi => ?_⟩
        obtain ⟨_, ai, ni, ci, hc, hcc, hR⟩ := (each i hi).choose_spec
        refine ⟨ai, ni, ci, ?_, hcc, ?_⟩
        · rw [← add_plain]; exact hc
        · have : ((List.range len).map g).getD i [] = (each i hi).choose := by
            rw [← hg i hi]; simp [List.getD_eq_getElem?_getD, hi]
          rw [this]; exact hR
    · have h1 := bulk_map D g len (fun i hi => by rw [hg i hi]; exact (each i hi).choose_spec.1)
      have h2 := bulk_ge ((List.range len).map D)
      simp only [List.length_map, List.length_range] at h2
      rw [hx.1]
      simp only [Rows.uptoBulk]
      omega
end Go.Proofs.YtbhoijnhpmkglabDoor
/- The contract of sha.SumOf: the digest of pieces, each behind the one ahead of it. -/
namespace Go.Proofs.YtbhoijnhpmkglabDoor
open Go.RowKit
set_option linter.unusedVariables false
set_option linter.unusedSimpArgs false

/-- All of the first k pieces. -/
def firstL (ls : List (List UInt8)) (k : Nat) : List UInt8 := (ls.take k).flatten
theorem firstL_zero (ls : List (List UInt8)) : firstL ls 0 = [] := rfl
theorem firstL_all (ls : List (List UInt8)) (k : Nat) (h : ls.length ≤ k) : firstL ls k = ls.flatten := by
  unfold firstL
  rw [List.take_of_length_le h]
theorem firstL_succ (ls : List (List UInt8)) (k : Nat) (h : k < ls.length) : firstL ls (k + 1) = firstL ls k ++ ls.getD k [] := by
  unfold firstL
  rw [List.take_succ_eq_append_getElem h, List.flatten_append]
  simp [List.getD_eq_getElem?_getD, h]
theorem firstL_le (ls : List (List UInt8)) (k : Nat) : (firstL ls k).length ≤ ls.flatten.length := by
  have h : ls.flatten = (ls.take k).flatten ++ (ls.drop k).flatten := by rw [← List.flatten_append, List.take_append_drop]
  rw [h, List.length_append]
  exact Nat.le_add_right _ _

/-- A literal of slices of bytes. -/
theorem BRows.lit {w : World} {cs : Array Value} {t : TypeId} {ls : List (List UInt8)} (h : ∀ i, i < ls.length → ∃ (ai : Option Addr) (ni ci : Nat), cs[i]? = some (.slice ai ni ci) ∧ ni ≤ ci ∧ Row w ai ni (ls.getD i [])) :
    BRows (w.alloc (.cells cs t)) (some ⟨w.heap.size, 0, none⟩) ls.length ls := by
  refine ⟨rfl, .inr ⟨w.heap.size, 0, rfl, fun i hi => ?_⟩⟩
  obtain ⟨ai, ni, ci, h1, h2, h3⟩ := h i hi
  refine ⟨ai, ni, ci, ?_, h2, h3.below ((Below.refl _ _).alloc (Nat.le_refl _) _)⟩
  have hb : (w.alloc (.cells cs t)).heap[w.heap.size]? = some (.cells cs t) := by
    show (w.heap.push _)[w.heap.size]? = _
    simp
  unfold World.cell?
  rw [hb, Nat.zero_add]
  simpa using h1
theorem BRows.lit1 {w : World} {t : TypeId} {a : Option Addr} {n c : Nat} {l : List UInt8} (hc : n ≤ c) (R : Row w a n l) : BRows (w.alloc (.cells #[.slice a n c] t)) (some ⟨w.heap.size, 0, none⟩) 1 [l] := by
  refine BRows.lit (ls := [l]) fun i hi => ?_
  obtain rfl : i = 0 := by simp at hi; omega
  exact ⟨a, n, c, rfl, hc, R⟩
theorem BRows.lit2 {w : World} {t : TypeId} {a a' : Option Addr} {n c n' c' : Nat} {l l' : List UInt8} (hc : n ≤ c) (R : Row w a n l) (hc' : n' ≤ c') (R' : Row w a' n' l') : BRows (w.alloc (.cells #[.slice a n c, .slice a' n' c'] t)) (some ⟨w.heap.size, 0, none⟩) 2 [l, l'] := by
  refine BRows.lit (ls := [l, l']) fun i hi => ?_
  have : i = 0 ∨ i = 1 := by simp at hi; omega
  rcases this with rfl | rfl
  · exact ⟨a, n, c, rfl, hc, R⟩
  · exact ⟨a', n', c', rfl, hc', R'⟩
theorem BRows.lit3 {w : World} {t : TypeId} {a a' b : Option Addr} {n c n' c' m d : Nat} {l l' k : List UInt8} (hc : n ≤ c) (R : Row w a n l) (hc' : n' ≤ c') (R' : Row w a' n' l') (hd : m ≤ d) (Rk : Row w b m k) : BRows (w.alloc (.cells #[.slice a n c, .slice a' n' c', .slice b m d] t)) (some ⟨w.heap.size, 0, none⟩) 3 [l, l', k] := by
  refine BRows.lit (ls := [l, l', k]) fun i hi => ?_
  have : i = 0 ∨ i = 1 ∨ i = 2 := by simp at hi; omega
  rcases this with rfl | rfl | rfl
  · exact ⟨a, n, c, rfl, hc, R⟩
  · exact ⟨a', n', c', rfl, hc', R'⟩
  · exact ⟨b, m, d, rfl, hd, Rk⟩

set_option maxRecDepth 100000 in
set_option maxHeartbeats 1000000 in
theorem wsumof_any (a : Option Addr) (n c : Nat) (ls : List (List UInt8)) (w : World) (G : Tab w) (R : BRows w a n ls) (hl : ls.flatten.length ≤ 1000000000000000000) (hn : n ≤ 1000000000000000000) :
    Calls Tryd.prog 22 #[.slice a n c] w fun e w' => e = .returned (digestV (shaL ls.flatten)) ∧ Below w.heap.size w w' := by
  have h0 : 0 < w.heap.size := cell_block (G 0 (by omega))
  obtain ⟨w1, hw1⟩ : ∃ w1, w.alloc (.cells (cellsB z32).toArray 25) = w1 := ⟨_, rfl⟩
  have hs1 : w1.heap.size = w.heap.size + 1 := by rw [← hw1]; simp
  have hb1 : Below w.heap.size w w1 := by rw [← hw1]; exact (Below.refl _ _).alloc (Nat.le_refl _) _
  have ht1 : Hid (w1.there w.heap.size 0 32) := by rw [← hw1]; exact alloc_thereAt _ _ _ 32 _ rfl z32_size.symm
  have HG : Hid (Tab w ∧ BRows w a n ls) := ⟨G, R⟩
  have hln := R.1
  clear G R
  go_enter Tryd.func22, Tryd.ntmps22
  go_wp2_with (refine wpList_allocE (by rfl) 25 (by rfl) (cellsB z32).toArray Tryd.zeroDigest w.heap.size rfl w1 hw1 ?_)
  refine (wnew_any w1).mono ?_
  rintro e w2 ⟨rfl, H2, hb2⟩
  have HH2 : Hid (Hasher w2 w1.heap.size []) := H2
  have HB2 : Hid (Below w.heap.size w w2 ∧ w2.there w.heap.size 0 32) := ⟨below_trans hb1 hb2, there_below ht1.out hb2 (by omega)⟩
  rw [hs1] at HH2 ⊢
  clear H2 hb2 ht1 hb1 hw1
  go_wp2_with fail
  go_loopw [9] (fun i wr => ∃ k : Nat, k ≤ n ∧ i = .int .i64 (k : Int) ∧ Hasher wr (w.heap.size + 1) (firstL ls k) ∧ Below w.heap.size w wr ∧ wr.there w.heap.size 0 32) (fun i _ => n - (intOf i).toNat)
  case atStart => exact ⟨0, Nat.zero_le _, rfl, HH2.out, HB2.out.1, HB2.out.2⟩
  case round =>
    clear HH2 HB2
    obtain ⟨k, hk, rfl, hH, hB, hT⟩ := hrel
    have hle := firstL_le ls k
    have HH : Hid (Hasher wr (w.heap.size + 1) (firstL ls k)) := hH
    have hgs : w.heap.size + 1 < wr.heap.size := hH.block
    have HT : Hid (wr.there w.heap.size 0 32) := hT
    by_cases hlt : k < n
    · rcases HG.out.2.2 with hq | ⟨b, o, rfl, hcells⟩
      · omega
      obtain ⟨ai, ni, ci, e1, e3, e2⟩ := hcells k hlt
      have hcell := (hB.cell (p := ⟨b, o + k, none⟩) (cell_block e1)).trans e1
      have hni := e2.1
      have hsucc := firstL_succ ls k (by omega)
      have hle1 := firstL_le ls (k + 1)
      rw [hsucc, List.length_append] at hle1
      have HS : Hid (firstL ls (k + 1) = firstL ls k ++ ls.getD k []) := hsucc
      clear hsucc
      generalize ls.getD k [] = x at *
      generalize hp : firstL ls k = p at *
      clear hp
      have HB : Hid (Below w.heap.size w wr) := hB
      have HR : Hid (Row w ai ni x) := e2
      clear hH hB e2 e1 hT
      have hk0 : (0 : Int) ≤ (k : Int) := by omega
      have hkn : (k : Int) < (n : Int) := by omega
      go_wp2_with fail
      refine (wwrite_any (w.heap.size + 1) p ai ni ci x wr (HG.out.1.below HB.out) HH.out (HR.out.below HB.out) e3 (row_ne HR.out (by omega)) (by omega) (by omega)).mono ?_
      rintro e w3 ⟨rfl, H3, hg3⟩
      have HX : Hid (Hasher w3 (w.heap.size + 1) (firstL ls (k + 1)) ∧ Below w.heap.size w w3 ∧ w3.there w.heap.size 0 32) := by
        refine ⟨by rw [HS.out]; exact H3, below_gr HB.out hg3 HB.out.size (by omega), ?_⟩
        have hkk := hg3.block w.heap.size (by omega) (by intro e; have := Option.some.inj e; omega)
        intro j hj
        rw [World.cell?_of_block (w := wr) (a := ⟨w.heap.size, 0 + j, none⟩) hkk, World.frozen?_of_block (w := wr) (a := ⟨w.heap.size, 0 + j, none⟩) hkk]
        exact HT.out j hj
      clear H3 hg3 HH HB HT hcell hgs
      go_wp2
      go_roundw
      case rel => exact ⟨k + 1, by omega, by go_num, HX.out.1, HX.out.2.1, HX.out.2.2⟩
      case measure => simp [intOf]; omega
    · obtain rfl : k = n := by omega
      rw [firstL_all ls k (by omega)] at HH hle
      have HB : Hid (Below w.heap.size w wr) := hB
      clear hH hB hT
      go_wp2_with fail
      refine (wsumh_any (w.heap.size + 1) ls.flatten wr (HG.out.1.below HB.out) HH.out (by omega)).mono ?_
      rintro e w4 ⟨rfl, hb4⟩
      have HB4 : Hid (Below w.heap.size w w4) := below_trans HB.out hb4
      have HT4 : Hid (w4.there w.heap.size 0 32) := there_below HT.out hb4 (by omega)
      have hlen := shaL_length ls.flatten
      clear hb4 HB HT HH
      generalize hD : shaL ls.flatten = D at *
      have HD : Hid (shaL ls.flatten = D) := hD
      clear hD
      go_wp2_with (refine wpList_store_mid (by rfl) 25 (.tmp 2) (.tmp 18) (by rfl) w.heap.size 0 (cellsB D).toArray (by rfl) (by rfl) (by rw [cellsB_size, hlen]; exact HT4.out) (by rw [cellsB_size, hlen]; exact Tryd.sizeDigest) (all_oneCell_toArray (cellsB_one _)) ?_)
      refine bodyPost_ret (v := digestV D) (run_results_row Tryd.results22 _ _ w.heap.size 0 (by rfl) (cellsB D) (World.rangeAt_setCells_same _ _ _ _ (by rw [cellsB_length, hlen]; exact HT4.out)) _ Tryd.underlying25 (by rfl) (by rw [cellsB_length, hlen]; exact Tryd.sizeDigest)) rfl ⟨by rw [HD.out], ?_⟩
      exact below_setCells _ (Nat.le_refl _) _ _ _ HB4.out
end Go.Proofs.YtbhoijnhpmkglabDoor
/- What the program's functions want of the world: the table of rounds, where the seat reaches it. -/
namespace Go.Proofs.YtbhoijnhpmkglabDoor
open Go.RowKit
set_option linter.unusedVariables false
def Env (w : World) : Prop := Tab w
theorem Env.below {w w' : World} (h : Env w) (hb : Below w.heap.size w w') : Env w' := Tab.below h hb
end Go.Proofs.YtbhoijnhpmkglabDoor
