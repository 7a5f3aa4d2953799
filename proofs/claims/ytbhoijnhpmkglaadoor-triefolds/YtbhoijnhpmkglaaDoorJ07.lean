/- Texts of this claim, joined: OpenD, Trie, OpenE, Wput. -/
import Derived.Test.YtbhoijnhpmkglaaDoorJ05
import Derived.Test.YtbhoijnhpmkglaaDoorJ02
import Derived.Deep.Slices
import Derived.Test.YtbhoijnhpmkglaaDoorJ01
import Derived.Deep.Strs
import Derived.SizedLaws
/- How an argument that is a digest, or a slice of digests, is opened. -/
namespace Go.Proofs.YtbhoijnhpmkglaaDoor
open Go.ChangeShapes Go.WideShapes Go.ChangeAt Go.RowKit
set_option linter.unusedVariables false
set_option linter.unusedSimpArgs false

/-- The byte that a value holds. -/
def byteOf : Value → UInt8
  | .int _ n => UInt8.ofNat n.toNat
  | _ => 0

section
variable {H : Type} {enc : TypeId × Value → H} {P : Program} {w : World} {base : Nat} {spare : Nat → Bool} {held : Bool} {t e : TypeId} {fuel : Nat}
theorem bytes_of_trod {cs : List Value} {x : DataW H × List MemPlace} (ht : P.underlying t = some (.array 32 e)) (he : P.underlying e = some (.int .u8)) (hce : P.cellsOf e = 1) (hct : P.cellsOf t = 32)
    (h : DataW.trod enc P w base spare held fuel t cs = some x) : ∃ l : List UInt8, l.length = 32 ∧ cs = cellsB l := by
  obtain ⟨xs, m, _, _, hl, hxs, hi⟩ := DataW.trod_array ht h
  rw [hct] at hl
  refine ⟨cs.map byteOf, by simp [hl], ?_⟩
  apply List.ext_getElem
  · simp [cellsB]
  · intro i h1 h2
    have hi' := hi i (by omega)
    rw [hce, Nat.mul_one, List.getElem?_eq_getElem (by omega)] at hi'
    obtain ⟨n, hn, _, hwf⟩ := DataW.trod_int he hi'
    have hb := wf_u8 hwf
    have hc : cs[i] = .int .u8 n := by
      have := congrArg List.head? hn
      simpa [List.head?_take, List.getElem?_eq_getElem h1] using this
    simp only [cellsB, List.getElem_map, hc, byteOf, UInt8.toNat_ofNat']
    congr 1
    omega
theorem open_digest {r : Reach} {b0 : Nat} {v : Value} {d : DataW H} {p : List MemPlace} (ht : P.underlying t = some (.array 32 e)) (he : P.underlying e = some (.int .u8)) (hce : P.cellsOf e = 1) (hct : P.cellsOf t = 32)
    (hv : Value.okWide P w r b0 t v) (h : DataW.Trod enc P w base spare held t v d p) : ∃ l : List UInt8, l.length = 32 ∧ v = digestV l := by
  obtain ⟨cs, rfl⟩ : ∃ cs, v = .agg cs := by
    simp only [Value.okWide, ht] at hv
    obtain ⟨cs, h1, _⟩ := hv
    exact ⟨cs, h1⟩
  obtain ⟨fuel, hf⟩ := h
  obtain ⟨l, hl, hc⟩ := bytes_of_trod ht he hce hct hf
  refine ⟨l, hl, ?_⟩
  have : cs.toList = cellsB l := hc
  show Value.agg cs = Value.agg (cellsB l).toArray
  rw [← this]
end

/-- A slice of n digests at a reads as the list ls. -/
def DRow (w : World) (a : Option Addr) (n : Nat) (ls : List (List UInt8)) : Prop :=
  ls.length = n ∧ (∀ l ∈ ls, l.length = 32) ∧ (n = 0 ∨ ∃ b o, a = some ⟨b, o, none⟩ ∧ ∀ i, i < n → DAt w b (o + 32 * i) (ls.getD i []))
theorem DRow.nil (w : World) : DRow w none 0 [] := ⟨rfl, (fun l hl => by cases hl), .inl rfl⟩
theorem DRow.len {w : World} {a : Option Addr} {n : Nat} {ls : List (List UInt8)} (h : DRow w a n ls) (i : Nat) (hi : i < n) : (ls.getD i []).length = 32 := by
  rw [List.getD_eq_getElem?_getD, List.getElem?_eq_getElem (by rw [h.1]; exact hi)]
  exact h.2.1 _ (List.getElem_mem _)
theorem DRow.below {w w' : World} {a : Option Addr} {n : Nat} {ls : List (List UInt8)} (h : DRow w a n ls) (hb : Below w.heap.size w w') : DRow w' a n ls := by
  have hlen := h.len
  obtain ⟨h1, h2, h3⟩ := h
  refine ⟨h1, h2, ?_⟩
  rcases h3 with h3 | ⟨b, o, ha, hc⟩
  · exact .inl h3
  · exact .inr ⟨b, o, ha, fun i hi => (hc i hi).below hb (cell_block ((hc i hi).cell 0 (by rw [hlen i hi]; omega)))⟩

theorem open_digests {H : Type} {enc : TypeId × Value → H} {P : Program} {w : World} {base : Nat} {held : Bool} {t e f : TypeId} {fuel : Nat} {a : Option Addr} {len cap : Nat} {d : DataW H} {p : List MemPlace}
    (ht : P.underlying t = some (.slice e)) (he : P.underlying e = some (.array 32 f)) (hf : P.underlying f = some (.int .u8)) (hcf : P.cellsOf f = 1) (hce : P.cellsOf e = 32)
    (h : DataW.trod enc P w base (fun _ => true) held fuel t [.slice a len cap] = some (d, p)) :
    ∃ ls, DRow w a len ls ∧ (len = 0 ∨ ∃ elems spare, d = .slice elems spare ∧ elems.length = len) := by
  rcases Go.Deep.open_slice ht h with ⟨hcs, _⟩ | ⟨x, l, c, m, n, D, Pl, hcs, _, hlc, hm, hmm, hx, hel⟩
  · simp at hcs
    obtain ⟨rfl, rfl, rfl⟩ := hcs
    exact ⟨[], DRow.nil w, .inl rfl⟩
  · simp at hcs
    obtain ⟨rfl, rfl, rfl⟩ := hcs
    simp only [if_true] at hmm
    subst hmm
    simp only [Prod.mk.injEq] at hx
    have each : ∀ i, i < len → ∃ q : List UInt8, q.length = 32 ∧ ∀ j, j < 32 → w.cell? ((x.add (i * 32)).add j) = some (.int .u8 (nth q j)) := by
      intro i hi
      obtain ⟨cs', hc, htr⟩ := hel i (by omega)
      obtain ⟨q, hq, rfl⟩ := bytes_of_trod he hf hcf hce htr
      refine ⟨q, hq, fun j hj => ?_⟩
      rw [hce] at hc
      have hs := World.cells?_some hc
      rw [hs.2.2 j hj, ← cellsB_at q j (by omega)]
    let ls := (List.range len).map fun i => if h : i < len then (each i h).choose else []
    have hls : ∀ i, i < len → ∃ h : i < len, ls.getD i [] = (each i h).choose := fun i hi => ⟨hi, by simp [ls, List.getD_eq_getElem?_getD, hi]⟩
    refine ⟨ls, ⟨by simp [ls], ?_, ?_⟩, .inr ⟨_, _, hx.1, by simp⟩⟩
    · intro l hl
      obtain ⟨i, hi, rfl⟩ := List.mem_map.1 hl
      have hi' := List.mem_range.1 hi
      rw [dif_pos hi']
      exact (each i hi').choose_spec.1
    · by_cases h0 : len = 0
      · exact .inl h0
      · obtain ⟨b, off, spot⟩ := x
        have hspot : spot = none := by
          obtain ⟨q, hq, hc⟩ := each 0 (by omega)
          simpa [Addr.add] using World.cell?_spot (hc 0 (by omega))
        subst hspot
        refine .inr ⟨b, off, rfl, fun i hi => ?_⟩
        obtain ⟨hi', e1⟩ := hls i hi
        rw [e1]
        have sp := (each i hi').choose_spec
        refine DAt.mk fun j hj => ?_
        have := sp.2 j (by omega)
        refine Eq.trans (congrArg w.cell? ?_) this
        rw [add_plain, add_plain, show off + 32 * i + j = off + i * 32 + j from by omega]
end Go.Proofs.YtbhoijnhpmkglaaDoor
/- Plain definitions for one digest of a map: no theorem of the program yet. -/
namespace Go.Proofs.YtbhoijnhpmkglaaDoor
set_option linter.unusedVariables false
set_option linter.unusedSimpArgs false

/-- Nothing. -/
def zT : List UInt8 := List.replicate 32 0
theorem zT_length : zT.length = 32 := rfl
/-- An entry: its key and what it has. -/
abbrev Ent := Int × List UInt8
def leafE (e : Ent) : List UInt8 := shaL (9 :: (putL e.1 4 ++ e.2))
theorem leafE_length (e : Ent) : (leafE e).length = 32 := shaL_length _
/-- The Node of two. -/
def mnode (l r : List UInt8) : List UInt8 := if l = zT ∧ r = zT then zT else shaL (10 :: (l ++ r))
theorem mnode_z : mnode zT zT = zT := if_pos ⟨rfl, rfl⟩
theorem mnode_length (l r : List UInt8) : (mnode l r).length = 32 := by
  unfold mnode
  split
  · rfl
  · exact shaL_length _
/-- What stands at a key: its first entry's leaf, or nothing. -/
def gE (es : List Ent) (k : Nat) : List UInt8 := match es.find? (fun e => e.1 == (k : Int)) with
  | some e => leafE e
  | none => zT
theorem gE_length (es : List Ent) (k : Nat) : (gE es k).length = 32 := by
  unfold gE
  split
  · exact leafE_length _
  · rfl
theorem gE_nil (k : Nat) : gE [] k = zT := rfl
theorem gE_of {es : List Ent} {k : Nat} {e : Ent} (h : es.find? (fun e => e.1 == (k : Int)) = some e) : gE es k = leafE e := by unfold gE; rw [h]
theorem gE_none {es : List Ent} {k : Nat} (h : es.find? (fun e => e.1 == (k : Int)) = none) : gE es k = zT := by unfold gE; rw [h]
/-- The root of 2^d keys from f on, of which each has g of it. -/
def mapL (g : Nat → List UInt8) (f : Nat) : Nat → List UInt8
  | 0 => g f
  | d + 1 => mnode (mapL g f d) (mapL g (f + 2 ^ d) d)
theorem mapL_length {g : Nat → List UInt8} (hg : ∀ k, (g k).length = 32) : ∀ d f, (mapL g f d).length = 32
  | 0, f => hg f
  | d + 1, f => mnode_length _ _
theorem mapL_congr {g g' : Nat → List UInt8} : ∀ d f, (∀ x, f ≤ x → x < f + 2 ^ d → g x = g' x) → mapL g f d = mapL g' f d
  | 0, f, h => h f (Nat.le_refl _) (by omega)
  | d + 1, f, h => by
    rw [Nat.pow_succ] at h
    rw [mapL, mapL, mapL_congr d f (fun x h1 h2 => h x h1 (by omega)), mapL_congr d (f + 2 ^ d) (fun x h1 h2 => h x (by omega) (by omega))]
theorem mapL_zero : ∀ d f, mapL (fun _ => zT) f d = zT
  | 0, f => rfl
  | d + 1, f => by rw [mapL, mapL_zero, mapL_zero, mnode_z]
theorem mapL_none {g : Nat → List UInt8} (d f : Nat) (h : ∀ x, f ≤ x → x < f + 2 ^ d → g x = zT) : mapL g f d = zT := by
  rw [mapL_congr (g' := fun _ => zT) d f h, mapL_zero]
/-- The entries whose keys are from f on, so many. -/
def underL (es : List Ent) (f many : Int) : List Ent := es.filter fun e => decide (e.1 ≥ f ∧ e.1 - f < many)
theorem gE_under (es : List Ent) (f many : Int) (k : Nat) (h1 : f ≤ k) (h2 : (k : Int) - f < many) : gE (underL es f many) k = gE es k := by
  have : (underL es f many).find? (fun e => e.1 == (k : Int)) = es.find? (fun e => e.1 == (k : Int)) := by
    unfold underL
    rw [List.find?_filter]
    congr 1
    funext e
    by_cases c : e.1 = (k : Int)
    · simp [c, h1, h2]
    · have : (e.1 == (k : Int)) = false := by simp [c]
      rw [this]; simp
  unfold gE
  rw [this]
theorem under_none {es : List Ent} {f many : Int} (h : (underL es f many).length = 0) (k : Nat) (h1 : f ≤ k) (h2 : (k : Int) - f < many) : gE es k = zT := by
  rw [← gE_under es f many k h1 h2, List.eq_nil_of_length_eq_zero h]
  rfl
theorem under_first {es : List Ent} {k : Nat} {e : Ent} {r : List Ent} (h : underL es (k : Int) 1 = e :: r) : gE es k = leafE e := by
  rw [← gE_under es k 1 k (by omega) (by omega), h]
  have he : e ∈ underL es (k : Int) 1 := by rw [h]; simp
  have := (List.mem_filter.1 he).2
  have hk : e.1 = (k : Int) := by
    have := of_decide_eq_true this
    omega
  exact gE_of (by simp [hk])
/-- A root by the entries there alone. -/
theorem mapL_under (es : List Ent) (f : Nat) (many : Nat) (d b : Nat) (h1 : f ≤ b) (h2 : b + 2 ^ d ≤ f + many) : mapL (gE (underL es (f : Int) (many : Int))) b d = mapL (gE es) b d :=
  mapL_congr d b (fun x hx1 hx2 => gE_under es _ _ x (by omega) (by omega))

/-! paths -/
def baseM (k i : Nat) : Nat := k - k % 2 ^ i
def sibM (k i : Nat) : Nat := if k - baseM k (i + 1) < 2 ^ i then baseM k (i + 1) + 2 ^ i else baseM k (i + 1)
def pathM (g : Nat → List UInt8) (k : Nat) (n : Nat) : List (List UInt8) := (List.range n).map fun i => mapL g (sibM k i) i
theorem pathM_length (g : Nat → List UInt8) (k n : Nat) : (pathM g k n).length = n := by simp [pathM]
theorem pathM_succ (g : Nat → List UInt8) (k n : Nat) : pathM g k (n + 1) = pathM g k n ++ [mapL g (sibM k n) n] := by
  unfold pathM; rw [List.range_succ, List.map_append]; rfl
theorem pathM_32 {g : Nat → List UInt8} (hg : ∀ k, (g k).length = 32) (k n : Nat) : ∀ p ∈ pathM g k n, p.length = 32 := fun p hp => by
  obtain ⟨i, _, rfl⟩ := List.mem_map.1 hp
  exact mapL_length hg _ _
theorem pathM_at (g : Nat → List UInt8) (k n i : Nat) (h : i < n) : (pathM g k n).getD i [] = mapL g (sibM k i) i := by
  unfold pathM
  rw [List.getD_eq_getElem?_getD, List.getElem?_map, List.getElem?_range h]
  rfl
def foldM (k : Nat) (l : List UInt8) : List (List UInt8) → List UInt8
  | [] => l
  | p :: ps => foldM (k / 2) (if k % 2 = 1 then mnode p l else mnode l p) ps
theorem foldM_length : ∀ (ps : List (List UInt8)) (k : Nat) (l : List UInt8), l.length = 32 → (foldM k l ps).length = 32
  | [], k, l, h => h
  | p :: ps, k, l, h => foldM_length ps (k / 2) _ (by split <;> exact mnode_length _ _)
theorem foldM_append : ∀ (ps : List (List UInt8)) (k : Nat) (l p : List UInt8), foldM k l (ps ++ [p]) = if k / 2 ^ ps.length % 2 = 1 then mnode p (foldM k l ps) else mnode (foldM k l ps) p
  | [], k, l, p => by
    rw [List.nil_append, List.length_nil, Nat.pow_zero, Nat.div_one]
    rfl
  | q :: ps, k, l, p => by
    rw [List.cons_append, foldM, foldM_append ps, foldM, List.length_cons, Nat.pow_succ, Nat.mul_comm, ← Nat.div_div_eq_div_mul]
theorem bit_base (k i : Nat) : k % 2 ^ (i + 1) = k / 2 ^ i % 2 * 2 ^ i + k % 2 ^ i := by
  rw [Nat.pow_succ, Nat.mod_mul, Nat.mul_comm, Nat.add_comm]
theorem base_hi {k i : Nat} (h : k / 2 ^ i % 2 = 1) : baseM k i = baseM k (i + 1) + 2 ^ i ∧ sibM k i = baseM k (i + 1) := by
  have hb := bit_base k i
  rw [h, Nat.one_mul] at hb
  have h1 := Nat.mod_le k (2 ^ (i + 1))
  have hp : 0 < 2 ^ i := Nat.pow_pos (by omega)
  unfold sibM baseM
  refine ⟨by omega, ?_⟩
  rw [if_neg (by omega)]
theorem base_lo {k i : Nat} (h : ¬ k / 2 ^ i % 2 = 1) : baseM k i = baseM k (i + 1) ∧ sibM k i = baseM k (i + 1) + 2 ^ i := by
  have hb := bit_base k i
  have h2 : k / 2 ^ i % 2 = 0 := by omega
  rw [h2, Nat.zero_mul, Nat.zero_add] at hb
  have h1 := Nat.mod_le k (2 ^ (i + 1))
  have hp : 0 < 2 ^ i := Nat.pow_pos (by omega)
  have hl := Nat.mod_lt k hp
  unfold sibM baseM
  refine ⟨by omega, ?_⟩
  rw [if_pos (by omega)]
theorem fold_way (g : Nat → List UInt8) (k : Nat) : ∀ n, foldM k (g k) (pathM g k n) = mapL g (baseM k n) n
  | 0 => by
    show g k = g (k - k % 2 ^ 0)
    rw [Nat.pow_zero, Nat.mod_one, Nat.sub_zero]
  | n + 1 => by
    rw [pathM_succ, foldM_append, pathM_length, fold_way g k n, mapL]
    by_cases h : k / 2 ^ n % 2 = 1
    · rw [if_pos h, (base_hi h).1, (base_hi h).2]
    · rw [if_neg h, (base_lo h).1, (base_lo h).2]
theorem fold_map (g : Nat → List UInt8) (k n : Nat) (h : k < 2 ^ n) : foldM k (g k) (pathM g k n) = mapL g 0 n := by
  rw [fold_way]
  unfold baseM
  rw [Nat.mod_eq_of_lt h, Nat.sub_self]
/-- What stands beside a key is not the key. -/
theorem sib_not (k i : Nat) : ¬ (sibM k i ≤ k ∧ k < sibM k i + 2 ^ i) := by
  have hp : 0 < 2 ^ i := Nat.pow_pos (by omega)
  have hb := bit_base k i
  have h1 := Nat.mod_le k (2 ^ (i + 1))
  have hl := Nat.mod_lt k hp
  have hm : k / 2 ^ i % 2 = 0 ∨ k / 2 ^ i % 2 = 1 := by omega
  unfold sibM baseM
  rcases hm with h | h
  · rw [h, Nat.zero_mul, Nat.zero_add] at hb
    rw [if_pos (by omega)]
    omega
  · rw [h, Nat.one_mul] at hb
    rw [if_neg (by omega)]
    omega
theorem path_but {g g' : Nat → List UInt8} (k n : Nat) (h : ∀ x, x ≠ k → g x = g' x) : pathM g k n = pathM g' k n := by
  unfold pathM
  refine List.map_congr_left fun i _ => mapL_congr i _ fun x h1 h2 => h x fun e => ?_
  subst e
  exact sib_not x i ⟨h1, h2⟩
/-- With another one at a key. -/
theorem fold_sets {g g' : Nat → List UInt8} (k n : Nat) (hk : k < 2 ^ n) (h : ∀ x, x ≠ k → g' x = g x) : foldM k (g' k) (pathM g k n) = mapL g' 0 n := by
  rw [← path_but k n h, fold_map g' k n hk]
/-- Have two ways up two unlike pairs with one Node? -/
theorem fold_cons {k : Nat} {x : List UInt8} {path : List (List UInt8)} {i : Nat} (h : i < path.length) : foldM k x (path.drop i) = foldM (k / 2) (if k % 2 = 1 then mnode (path.getD i []) x else mnode x (path.getD i [])) (path.drop (i + 1)) := by
  have hd : path.drop i = path.getD i [] :: path.drop (i + 1) := by
    rw [List.drop_eq_getElem_cons h, List.getD_eq_getElem?_getD, List.getElem?_eq_getElem h]
    rfl
  rw [hd]
  rfl
def clashM : Nat → List UInt8 → List (List UInt8) → List UInt8 → List (List UInt8) → Bool
  | k, a, p :: ps, b, q :: qs =>
    if k % 2 = 1 then if ¬ (p = q ∧ a = b) ∧ mnode p a = mnode q b then true else clashM (k / 2) (mnode p a) ps (mnode q b) qs
    else if ¬ (a = b ∧ p = q) ∧ mnode a p = mnode b q then true else clashM (k / 2) (mnode a p) ps (mnode b q) qs
  | _, _, _, _, _ => false
theorem clash_is : ∀ (ps qs : List (List UInt8)) (k : Nat) (a b : List UInt8), ps.length = qs.length → a ≠ b → foldM k a ps = foldM k b qs → clashM k a ps b qs = true
  | [], [], k, a, b, _, hn, h => absurd h hn
  | [], _ :: _, _, _, _, hl, _, _ => by simp at hl
  | _ :: _, [], _, _, _, hl, _, _ => by simp at hl
  | p :: ps, q :: qs, k, a, b, hl, hn, h => by
    have hl' : ps.length = qs.length := by simpa using hl
    rw [foldM, foldM] at h
    unfold clashM
    by_cases hk : k % 2 = 1
    · rw [if_pos hk] at h
      rw [if_pos hk] at h
      rw [if_pos hk]
      by_cases c : mnode p a = mnode q b
      · rw [if_pos ⟨fun e => hn e.2, c⟩]
      · rw [if_neg (fun e => c e.2)]
        exact clash_is ps qs (k / 2) _ _ hl' c h
    · rw [if_neg hk] at h
      rw [if_neg hk] at h
      rw [if_neg hk]
      by_cases c : mnode a p = mnode b q
      · rw [if_pos ⟨fun e => hn e.1, c⟩]
      · rw [if_neg (fun e => c e.2)]
        exact clash_is ps qs (k / 2) _ _ hl' c h

/-! entries in another order -/
theorem nodup_le : ∀ (n : Nat) (l : List Nat), l.Nodup → (∀ x ∈ l, x < n) → l.length ≤ n
  | 0, l, _, h => by
    cases l with
    | nil => simp
    | cons x r => exact absurd (h x (by simp)) (by omega)
  | n + 1, l, hd, h => by
    have hf : (l.filter (· ≠ n)).length ≤ n := nodup_le n _ (hd.filter _) (fun x hx => by
      have := List.mem_filter.1 hx
      have h1 := h x this.1
      have h2 : x ≠ n := by simpa using this.2
      omega)
    by_cases c : n ∈ l
    · have : l.length ≤ (l.filter (· ≠ n)).length + 1 := by
        have he : l.filter (· ≠ n) = l.erase n := by rw [hd.erase_eq_filter]; congr 1; funext x; by_cases e : x = n <;> simp [e]
        rw [he, List.length_erase_of_mem c]
        omega
      omega
    · have : l.filter (· ≠ n) = l := List.filter_eq_self.2 (fun x hx => by
        have : x ≠ n := fun e => c (e ▸ hx)
        simpa using this)
      rw [this] at hf
      omega
/-- So many unlike numbers below n are all of them. -/
theorem nodup_all {n : Nat} {l : List Nat} (hd : l.Nodup) (h : ∀ x ∈ l, x < n) (hl : l.length = n) (j : Nat) (hj : j < n) : j ∈ l := by
  apply Classical.byContradiction
  intro c
  have := nodup_le n (j :: l) (List.nodup_cons.2 ⟨c, hd⟩) (fun x hx => by
    rcases List.mem_cons.1 hx with rfl | hx
    · exact hj
    · exact h x hx)
  rw [List.length_cons] at this
  omega
/-- No two have one key. -/
def onceE (es : List Ent) : Prop := ∀ i j, i < j → j < es.length → (es.getD i (0, [])).1 ≠ (es.getD j (0, [])).1
theorem once_find {es : List Ent} (h : onceE es) {i : Nat} (hi : i < es.length) {k : Nat} (hk : (es.getD i (0, [])).1 = (k : Int)) : es.find? (fun e => e.1 == (k : Int)) = some (es.getD i (0, [])) := by
  rw [List.find?_eq_some_iff_getElem]
  refine ⟨beq_iff_eq.2 hk, i, hi, ?_, fun j hj => ?_⟩
  · rw [List.getD_eq_getElem?_getD, List.getElem?_eq_getElem hi]; rfl
  · have := h j i hj hi
    rw [hk, List.getD_eq_getElem?_getD, List.getElem?_eq_getElem (by omega)] at this
    have h2 : es[j].1 ≠ (k : Int) := this
    simp [h2]
theorem none_find {es : List Ent} {k : Nat} (h : ∀ i, i < es.length → (es.getD i (0, [])).1 ≠ (k : Int)) : es.find? (fun e => e.1 == (k : Int)) = none := by
  rw [List.find?_eq_none]
  intro e he
  obtain ⟨i, hi, rfl⟩ := List.getElem_of_mem he
  have := h i hi
  rw [List.getD_eq_getElem?_getD, List.getElem?_eq_getElem hi] at this
  have h2 : es[i].1 ≠ (k : Int) := this
  simp [h2]
theorem order_same {es fs : List Ent} {order : List Nat} (h1 : onceE es) (h2 : onceE fs) (hl : order.length = es.length) (hf : fs.length = es.length) (ho : ∀ i, i < es.length → order.getD i 0 < es.length ∧ fs.getD i (0, []) = es.getD (order.getD i 0) (0, [])) (k : Nat) : gE fs k = gE es k := by
  have hd : order.Nodup := by
    refine List.pairwise_iff_getElem.2 fun i j hi0 hj hij e => ?_
    have hi : i < es.length := by omega
    have hj' : j < es.length := by omega
    have hne := h2 i j hij (by omega)
    rw [(ho i hi).2, (ho j hj').2] at hne
    refine hne ?_
    rw [List.getD_eq_getElem?_getD (l := order), List.getD_eq_getElem?_getD (l := order), List.getElem?_eq_getElem hi0, List.getElem?_eq_getElem hj, e]
  have hb : ∀ x ∈ order, x < es.length := fun x hx => by
    obtain ⟨i, hi, rfl⟩ := List.getElem_of_mem hx
    have := (ho i (by omega)).1
    rw [List.getD_eq_getElem?_getD, List.getElem?_eq_getElem hi] at this
    exact this
  by_cases c : ∃ j, j < es.length ∧ (es.getD j (0, [])).1 = (k : Int)
  · obtain ⟨j, hj, hk⟩ := c
    have hm := nodup_all hd hb hl j hj
    obtain ⟨i, hi, hij⟩ := List.getElem_of_mem hm
    have hi' : i < es.length := by omega
    have hoi := ho i hi'
    have hg : order.getD i 0 = j := by rw [List.getD_eq_getElem?_getD, List.getElem?_eq_getElem hi]; exact hij
    rw [hg] at hoi
    rw [gE_of (once_find h1 hj hk), gE_of (once_find h2 (i := i) (by omega) (by rw [hoi.2, hk])), hoi.2]
  · rw [gE_none (none_find (fun i hi e => c ⟨i, hi, e⟩)), gE_none (none_find (fun i hi e => by
      rw [hf] at hi
      rw [(ho i hi).2] at e
      exact c ⟨_, (ho i hi).1, e⟩))]
/-! what is wrong with entries -/
def isKey (k : Int) : Bool := decide (0 ≤ k ∧ k ≤ 4294967295)
def faultG (seen : List Ent) : List Ent → Int
  | [] => 0
  | e :: r => if isKey e.1 = false then 2 else if seen.any (fun x => x.1 == e.1) = true then 7 else faultG (seen ++ [e]) r
def faultE (es : List Ent) : Int := if 64 < es.length then 4 else faultG [] es
theorem faultG_ok : ∀ (r seen : List Ent), faultG seen r = 0 → (∀ e ∈ r, isKey e.1 = true) ∧ (onceE seen → onceE (seen ++ r))
  | [], seen, _ => ⟨(fun e he => by cases he), fun h => by rw [List.append_nil]; exact h⟩
  | e :: r, seen, h => by
    unfold faultG at h
    by_cases c : isKey e.1 = false
    · rw [if_pos c] at h; omega
    · rw [if_neg c] at h
      by_cases d : seen.any (fun x => x.1 == e.1) = true
      · rw [if_pos d] at h; omega
      · rw [if_neg d] at h
        obtain ⟨h1, h2⟩ := faultG_ok r (seen ++ [e]) h
        refine ⟨fun x hx => ?_, fun ho => ?_⟩
        · rcases List.mem_cons.1 hx with rfl | hx
          · simpa using c
          · exact h1 x hx
        · rw [show seen ++ e :: r = seen ++ [e] ++ r by simp]
          refine h2 fun i j hij hj => ?_
          rw [List.length_append, List.length_singleton] at hj
          have gi : (seen ++ [e]).getD i (0, []) = seen.getD i (0, []) := by
            rw [List.getD_eq_getElem?_getD, List.getD_eq_getElem?_getD, List.getElem?_append_left (by omega)]
          rw [gi]
          by_cases q : j < seen.length
          · have gj : (seen ++ [e]).getD j (0, []) = seen.getD j (0, []) := by
              rw [List.getD_eq_getElem?_getD, List.getD_eq_getElem?_getD, List.getElem?_append_left q]
            rw [gj]
            exact ho i j hij q
          · have gj : (seen ++ [e]).getD j (0, []) = e := by
              have : j = seen.length := by omega
              subst this
              simp [List.getD_eq_getElem?_getD]
            rw [gj]
            intro hk
            refine d (List.any_eq_true.2 ⟨seen.getD i (0, []), ?_, beq_iff_eq.2 hk⟩)
            rw [List.getD_eq_getElem?_getD, List.getElem?_eq_getElem (by omega)]
            exact List.getElem_mem _
theorem faultE_ok {es : List Ent} (h : faultE es = 0) : es.length ≤ 64 ∧ (∀ e ∈ es, isKey e.1 = true) ∧ onceE es := by
  unfold faultE at h
  by_cases c : 64 < es.length
  · rw [if_pos c] at h; omega
  · rw [if_neg c] at h
    obtain ⟨h1, h2⟩ := faultG_ok es [] h
    exact ⟨by omega, h1, by simpa using h2 (fun i j hij hj => by simp at hj)⟩
theorem faultG_at : ∀ (r seen : List Ent) (i : Nat), (∀ j, j < i → j < r.length → isKey (r.getD j (0, [])).1 = true ∧ (seen ++ r.take j).any (fun x => x.1 == (r.getD j (0, [])).1) = false) → faultG seen r = faultG (seen ++ r.take i) (r.drop i)
  | [], seen, i, h => by simp
  | e :: r, seen, 0, h => by simp
  | e :: r, seen, i + 1, h => by
    have h0 := h 0 (by omega) (by simp)
    have e1 : isKey e.1 = true := h0.1
    have e2 : seen.any (fun x => x.1 == e.1) = false := by simpa using h0.2
    rw [List.take_succ_cons, List.drop_succ_cons]
    have ih := faultG_at r (seen ++ [e]) i (fun j h1 h2 => by
      have := h (j + 1) (by omega) (by simpa using h2)
      simpa using this)
    rw [show seen ++ e :: r.take i = seen ++ [e] ++ r.take i by simp, ← ih]
    conv => lhs; unfold faultG
    rw [if_neg (by simp [e1]), if_neg (by simp [e2])]
end Go.Proofs.YtbhoijnhpmkglaaDoor
/- Entries in memory: a key and a digest, 33 cells; how an argument that is one, or a slice of them, is opened. -/
namespace Go.Proofs.YtbhoijnhpmkglaaDoor
open Go.ChangeShapes Go.WideShapes Go.ChangeAt Go.RowKit
set_option linter.unusedVariables false
set_option linter.unusedSimpArgs false

/-- An entry's cells. -/
def entC (e : Ent) : List Value := .int .i64 e.1 :: cellsB e.2
def entV (e : Ent) : Value := .agg (entC e).toArray
def okE (e : Ent) : Prop := e.2.length = 32 ∧ -9223372036854775808 ≤ e.1 ∧ e.1 ≤ 9223372036854775807
theorem entC_length {e : Ent} (h : okE e) : (entC e).length = 33 := by unfold entC; rw [List.length_cons, cellsB_length, h.1]
theorem entC_size {e : Ent} (h : okE e) : (entC e).toArray.size = 33 := entC_length h
theorem entC_one (e : Ent) : ∀ u ∈ entC e, u.oneCell' = true := fun u hu => by
  rcases List.mem_cons.1 hu with rfl | hu
  · rfl
  · exact cellsB_one _ u hu
def noE : Ent := (0, [])
/-- An entry of nothing, as a value. -/
def zerosEn : Value := .agg (.int .i64 0 :: List.replicate 32 (.int .u8 0)).toArray
/-- A slice of n entries at a reads as the list es. -/
def ERow (w : World) (a : Option Addr) (n : Nat) (es : List Ent) : Prop :=
  es.length = n ∧ (∀ e ∈ es, okE e) ∧ (n = 0 ∨ ∃ b o, a = some ⟨b, o, none⟩ ∧ ∀ i, i < n → w.rangeAt b (o + 33 * i) (entC (es.getD i noE)))
theorem ERow.nil (w : World) (a : Option Addr) : ERow w a 0 [] := ⟨rfl, (fun l hl => by cases hl), .inl rfl⟩
theorem ERow.ok {w : World} {a : Option Addr} {n : Nat} {es : List Ent} (h : ERow w a n es) (i : Nat) (hi : i < n) : okE (es.getD i noE) := by
  rw [List.getD_eq_getElem?_getD, List.getElem?_eq_getElem (by rw [h.1]; exact hi)]
  exact h.2.1 _ (List.getElem_mem _)
theorem ent_block {w : World} {b o : Nat} {e : Ent} (h : w.rangeAt b o (entC e)) : b < w.heap.size := cell_block (h 0 _ rfl)
theorem ent_below {w w' : World} {b o B : Nat} {e : Ent} (h : w.rangeAt b o (entC e)) (hb : Below B w w') (hlt : b < B) : w'.rangeAt b o (entC e) := fun j v hj => (hb.cell (p := ⟨b, o + j, none⟩) hlt).trans (h j v hj)
theorem ERow.below {w w' : World} {a : Option Addr} {n : Nat} {es : List Ent} (h : ERow w a n es) (hb : Below w.heap.size w w') : ERow w' a n es := by
  obtain ⟨h1, h2, h3⟩ := h
  refine ⟨h1, h2, ?_⟩
  rcases h3 with h3 | ⟨b, o, ha, hc⟩
  · exact .inl h3
  · exact .inr ⟨b, o, ha, fun i hi => ent_below (hc i hi) hb (ent_block (hc i hi))⟩
theorem ERow.addr {w : World} {a : Option Addr} {n : Nat} {es : List Ent} (h : ERow w a n es) (hn : 0 < n) : ∃ b o, a = some ⟨b, o, none⟩ := by
  rcases h.2.2 with h3 | ⟨b, o, ha, _⟩
  · omega
  · exact ⟨b, o, ha⟩
theorem ERow.at {w : World} {b o : Nat} {n : Nat} {es : List Ent} (h : ERow w (some ⟨b, o, none⟩) n es) (i : Nat) (hi : i < n) : w.rangeAt b (o + i * 33) (entC (es.getD i noE)) := by
  rcases h.2.2 with h3 | ⟨b', o', ha, hc⟩
  · omega
  · cases ha
    rw [Nat.mul_comm]
    exact hc i hi
section
variable {H : Type} {enc : TypeId × Value → H} {P : Program} {w : World} {base : Nat} {held : Bool} {t f : TypeId} {f0 f1 : Field} {fuel : Nat}
theorem entry_of_trod {cs : List Value} {x : DataW H × List MemPlace} (ht : P.underlying t = some (.struct #[f0, f1])) (hct : P.cellsOf t = 33) (o0 : f0.offset = 0) (o1 : f1.offset = 1)
    (h0 : P.underlying f0.type = some (.int .i64)) (c0 : P.cellsOf f0.type = 1) (h1 : P.underlying f1.type = some (.array 32 f)) (c1 : P.cellsOf f1.type = 32) (hf : P.underlying f = some (.int .u8)) (hcf : P.cellsOf f = 1)
    (h : DataW.trod enc P w base (fun _ => true) held fuel t cs = some x) : ∃ e : Ent, okE e ∧ cs = entC e := by
  obtain ⟨xs, n, _, rfl, hl, hlen, hfd⟩ := DataW.trod_struct ht h
  have u0 := hfd 0 f0 rfl
  have u1 := hfd 1 f1 rfl
  obtain ⟨y0, y1, rfl⟩ : ∃ y0 y1, xs = [y0, y1] := by
    have hlen' : xs.length = 2 := hlen
    match xs, hlen' with
    | [y0, y1], _ => exact ⟨y0, y1, rfl⟩
  rw [hct] at hl
  rw [o0, c0] at u0
  rw [o1, c1] at u1
  obtain ⟨z, zs, rfl⟩ : ∃ z zs, cs = z :: zs := by
    cases cs with
    | nil => simp at hl
    | cons z zs => exact ⟨z, zs, rfl⟩
  simp only [List.drop_zero, List.take_succ_cons, List.take_zero, List.drop_succ_cons] at u0 u1
  have hz : zs.length = 32 := by simpa using hl
  rw [List.take_of_length_le (by omega)] at u1
  obtain ⟨m, hm, _, hwf⟩ := DataW.trod_int h0 (show DataW.trod enc P w base (fun _ => true) held n f0.type [z] = some y0 from by simpa using u0)
  obtain ⟨l, hll, rfl⟩ := bytes_of_trod h1 hf hcf c1 (show DataW.trod enc P w base (fun _ => true) held n f1.type zs = some y1 from by simpa using u1)
  cases hm
  have hb := wf_i64 hwf
  exact ⟨(m, l), ⟨hll, hb.1, hb.2⟩, rfl⟩
theorem open_entry {r : Reach} {b0 : Nat} {v : Value} {d : DataW H} {p : List MemPlace} (ht : P.underlying t = some (.struct #[f0, f1])) (hct : P.cellsOf t = 33) (o0 : f0.offset = 0) (o1 : f1.offset = 1)
    (h0 : P.underlying f0.type = some (.int .i64)) (c0 : P.cellsOf f0.type = 1) (h1 : P.underlying f1.type = some (.array 32 f)) (c1 : P.cellsOf f1.type = 32) (hf : P.underlying f = some (.int .u8)) (hcf : P.cellsOf f = 1)
    (hv : Value.okWide P w r b0 t v) (h : DataW.Trod enc P w base (fun _ => true) held t v d p) : ∃ e : Ent, okE e ∧ v = entV e := by
  obtain ⟨cs, rfl⟩ : ∃ cs, v = .agg cs := by
    simp only [Value.okWide, ht] at hv
    obtain ⟨cs, h1, _⟩ := hv
    exact ⟨cs, h1⟩
  obtain ⟨fuel, hfu⟩ := h
  obtain ⟨e, he, hc⟩ := entry_of_trod ht hct o0 o1 h0 c0 h1 c1 hf hcf hfu
  refine ⟨e, he, ?_⟩
  have : cs.toList = entC e := hc
  show Value.agg cs = Value.agg (entC e).toArray
  rw [← this]
theorem open_entries {s : TypeId} {a : Option Addr} {len cap : Nat} {d : DataW H} {p : List MemPlace} (hs : P.underlying s = some (.slice t)) (ht : P.underlying t = some (.struct #[f0, f1])) (hct : P.cellsOf t = 33) (o0 : f0.offset = 0) (o1 : f1.offset = 1)
    (h0 : P.underlying f0.type = some (.int .i64)) (c0 : P.cellsOf f0.type = 1) (h1 : P.underlying f1.type = some (.array 32 f)) (c1 : P.cellsOf f1.type = 32) (hf : P.underlying f = some (.int .u8)) (hcf : P.cellsOf f = 1)
    (h : DataW.trod enc P w base (fun _ => true) held fuel s [.slice a len cap] = some (d, p)) :
    ∃ es, ERow w a len es ∧ (len = 0 ∨ ∃ elems spare, d = .slice elems spare ∧ elems.length = len) := by
  rcases Go.Deep.open_slice hs h with ⟨hcs, _⟩ | ⟨x, l, c, m, n, D, Pl, hcs, _, hlc, hm, hmm, hx, hel⟩
  · simp at hcs
    obtain ⟨rfl, rfl, rfl⟩ := hcs
    exact ⟨[], ERow.nil w _, .inl rfl⟩
  · simp at hcs
    obtain ⟨rfl, rfl, rfl⟩ := hcs
    simp only [if_true] at hmm
    subst hmm
    simp only [Prod.mk.injEq] at hx
    have each : ∀ i, i < len → ∃ e : Ent, okE e ∧ ∀ j v, (entC e)[j]? = some v → w.cell? ((x.add (i * 33)).add j) = some v := by
      intro i hi
      obtain ⟨cs', hc, htr⟩ := hel i (by omega)
      obtain ⟨e, he, rfl⟩ := entry_of_trod ht hct o0 o1 h0 c0 h1 c1 hf hcf htr
      refine ⟨e, he, fun j v hj => ?_⟩
      rw [hct] at hc
      have hs := World.cells?_some hc
      have hlt := (List.getElem?_eq_some_iff.1 hj).1
      rw [entC_length he] at hlt
      rw [hs.2.2 j hlt, hj]
    let es := (List.range len).map fun i => if h : i < len then (each i h).choose else noE
    have hes : ∀ i, i < len → ∃ h : i < len, es.getD i noE = (each i h).choose := fun i hi => ⟨hi, by simp [es, List.getD_eq_getElem?_getD, hi]⟩
    refine ⟨es, ⟨by simp [es], ?_, ?_⟩, .inr ⟨_, _, hx.1, by simp⟩⟩
    · intro l hl
      obtain ⟨i, hi, rfl⟩ := List.mem_map.1 hl
      have hi' := List.mem_range.1 hi
      rw [dif_pos hi']
      exact (each i hi').choose_spec.1
    · by_cases h0 : len = 0
      · exact .inl h0
      · obtain ⟨b, off, spot⟩ := x
        have hspot : spot = none := by
          obtain ⟨q, hq, hc⟩ := each 0 (by omega)
          simpa [Addr.add] using World.cell?_spot (hc 0 _ rfl)
        subst hspot
        refine .inr ⟨b, off, rfl, fun i hi => ?_⟩
        obtain ⟨hi', e1⟩ := hes i hi
        rw [e1]
        have sp := (each i hi').choose_spec
        intro j v hj
        have := sp.2 j v hj
        refine Eq.trans (congrArg w.cell? ?_) this
        rw [add_plain, add_plain, show off + 33 * i + j = off + i * 33 + j from by omega]
end
end Go.Proofs.YtbhoijnhpmkglaaDoor
/- The contract of octet.Put. -/
namespace Go.Proofs.YtbhoijnhpmkglaaDoor
open Go.RowKit
set_option linter.unusedVariables false
set_option linter.unusedSimpArgs false
theorem Tryd.info5 : (Tryd.prog.info? 5).map (fun i => (i.zero, i.size, i.bytes)) = some (some (.int .u8 0), 1, 1) := by kernel_rfl

set_option maxRecDepth 100000 in
set_option maxHeartbeats 400000 in
theorem put_in (n : Int) (size : Nat) (w : World) (h1 : 1 ≤ size) (h8 : size ≤ 8) (hn0 : 0 ≤ n) (hn : n ≤ 9223372036854775807) :
    Calls Tryd.prog 34 #[.int .i64 n, .int .i64 size] w fun e w' =>
      (n / 256 ^ size = 0 ∧ (∃ g, e = .returned (.tuple #[.slice (some ⟨g, 0, none⟩) size size, .nilIface]) ∧ w.heap.size ≤ g ∧ Row w' (some ⟨g, 0, none⟩) size (putL n size)) ∨
       n / 256 ^ size ≠ 0 ∧ e = .returned (.tuple #[.slice none 0 0, .iface 27 (.int .i64 2)])) ∧ Below w.heap.size w w' := by
  obtain ⟨i0, hi, hz0, hz1, hz2⟩ := info_parts Tryd.info5
  go_enter Tryd.func34, Tryd.ntmps34
  go_wp2_with (at_make; refine wpList_make_full _ rfl _ _ 65 rfl w.heap.size 5 i0 (.int .u8 0) 1 Tryd.underlying65 hi hz0 hz1 _ _ _ _ size rfl rfl rfl rfl (by rw [hz2]; omega) (by unfold maxLen; omega) (Nat.le_refl _) ?_; intro w1 hown hgrow)
  have hO := OwnB.zero hown
  have hB : Below w.heap.size w w1 := (Below.refl _ _).grown hgrow (Nat.le_refl _) (fun _ h => by cases h)
  clear hown hgrow
  go_loopw [0, 7] (fun t i wr => ∃ j : Nat, j ≤ size ∧ i = .int .i64 ((j : Int) - 1) ∧ t = .int .i64 (n / 256 ^ (size - j)) ∧ OwnB wr w.heap.size w.heap.size size size (fun x => if x < j then 0 else putB n size x) ∧ Below w.heap.size w wr) (fun _ i _ => (intOf i + 1).toNat)
  case atStart => exact ⟨size, Nat.le_refl _, rfl, by simp, hO.congr (fun i hi => by rw [if_pos hi]), hB⟩
  case round =>
    clear hO hB
    obtain ⟨j, hj, rfl, rfl, hO, hB⟩ := hrel
    have hm := put_bd n (size - j) hn0 hn
    by_cases h0 : j = 0
    · subst h0
      rw [Nat.sub_zero] at *
      have HR : Hid (Row wr (some ⟨w.heap.size, 0, none⟩) size (putL n size)) := hO.row (putL_length _ _) (fun i hi => by rw [if_neg (by omega), nth_putL _ _ _ hi])
      by_cases hz : n / 256 ^ size = 0
      · have hb : ((n / 256 ^ size) != 0) = false := by simp [hz]
        have HZ : Hid (n / 256 ^ size = 0) := hz
        clear hz
        go_wp2
        go_ret2
        exact ⟨.inl ⟨HZ.out, w.heap.size, rfl, Nat.le_refl _, HR.out⟩, hB⟩
      · have hb : ((n / 256 ^ size) != 0) = true := by simp [hz]
        have HZ : Hid (n / 256 ^ size ≠ 0) := hz
        clear hz
        go_wp2
        go_ret2
        exact ⟨.inr ⟨HZ.out, rfl⟩, hB⟩
    · obtain ⟨q, rfl⟩ : ∃ q, j = q + 1 := ⟨j - 1, by omega⟩
      rw [show ((q + 1 : Nat) : Int) - 1 = (q : Int) from by omega]
      have hc := hO.cell q (by omega)
      have hf := hO.frozen q
      have HS : Hid (n / 256 ^ (size - q) = n / 256 ^ (size - (q + 1)) / 256) := put_step n size q hj
      have HP : Hid (putB n size q = n / 256 ^ (size - (q + 1)) % 256) := putB_at n size q
      have hq1 : (0 : Int) ≤ (q : Int) := by omega
      have hq2 : (q : Int) < (size : Int) := by omega
      generalize n / 256 ^ (size - (q + 1)) = m at *
      go_wp2
      go_roundw
      case rel =>
        refine ⟨q, by omega, by go_num, by rw [HS.out], ?_, hO.below hB _ _⟩
        refine (hO.store q _).congr fun i hi => ?_
        by_cases hiq : i = q
        · subst hiq
          rw [if_pos rfl, if_neg (by omega), HP.out]
        · rw [if_neg hiq]
          by_cases hlt : i < q
          · rw [if_pos (by omega), if_pos hlt]
          · rw [if_neg (by omega), if_neg hlt]
      case measure => simp [intOf]

theorem put_some (n : Int) (size : Nat) (w : World) (hw : n ≤ 9223372036854775807) (hk : putOk n size = true) :
    Calls Tryd.prog 34 #[.int .i64 n, .int .i64 size] w fun e w' => (∃ g, e = .returned (.tuple #[.slice (some ⟨g, 0, none⟩) size size, .nilIface]) ∧ w.heap.size ≤ g ∧ Row w' (some ⟨g, 0, none⟩) size (putL n size)) ∧ Below w.heap.size w w' := by
  unfold putOk at hk
  rw [decide_eq_true_iff] at hk
  obtain ⟨k1, k2, k3, k4⟩ := hk
  rw [Int.toNat_natCast] at k4
  refine (put_in n size w (by omega) (by omega) k3 hw).mono fun e w' h => ?_
  obtain ⟨⟨_, h⟩ | ⟨h, _⟩, hb⟩ := h
  · exact ⟨h, hb⟩
  · exact absurd ((ediv_zero n _ k3 (Int.pow_pos (by decide))).2 k4) h

set_option maxRecDepth 100000 in
set_option maxHeartbeats 400000 in
theorem put_none (n size : Int) (w : World) (hw : n ≤ 9223372036854775807) (hw2 : -9223372036854775808 ≤ n) (hs1 : size ≤ 9223372036854775807) (hs2 : -9223372036854775808 ≤ size) (hk : putOk n size = false) :
    Calls Tryd.prog 34 #[.int .i64 n, .int .i64 size] w fun e w' => e = .returned (.tuple #[.slice none 0 0, .iface 27 (.int .i64 2)]) ∧ Below w.heap.size w w' := by
  unfold putOk at hk
  rw [decide_eq_false_iff_not] at hk
  by_cases h1 : size < 1
  · clear hk
    go_enter Tryd.func34, Tryd.ntmps34
    go_wp2
    go_ret2
    exact ⟨rfl, Below.refl _ _⟩
  · by_cases h2 : 8 < size
    · clear hk
      go_enter Tryd.func34, Tryd.ntmps34
      go_wp2
      go_ret2
      exact ⟨rfl, Below.refl _ _⟩
    · by_cases h3 : n < 0
      · clear hk
        go_enter Tryd.func34, Tryd.ntmps34
        go_wp2
        go_ret2
        exact ⟨rfl, Below.refl _ _⟩
      · obtain ⟨m, rfl⟩ := Int.eq_ofNat_of_zero_le (show 0 ≤ size by omega)
        rw [Int.toNat_natCast] at hk
        refine (put_in n m w (by omega) (by omega) (by omega) hw).mono fun e w' h => ?_
        obtain ⟨⟨h, _⟩ | ⟨_, h⟩, hb⟩ := h
        · exact absurd ⟨by omega, by omega, by omega, (ediv_zero n _ (by omega) (Int.pow_pos (by decide))).1 h⟩ hk
        · exact ⟨h, hb⟩
end Go.Proofs.YtbhoijnhpmkglaaDoor
