/- Texts of this claim, joined: Sha, Words, OwnSh, Splitp. -/
import Derived.Test.YtnffmegicgbinabDoorJ07
import Derived.Test.YtnffmegicgbinabDoorJ01
import Derived.Test.YtnffmegicgbinabDoorJ04
/- Plain definitions and arithmetic for digests: no theorem of the program yet. -/
namespace Go.Proofs.YtnffmegicgbinabDoor
open Go.RowKit
set_option linter.unusedVariables false
set_option linter.unusedSimpArgs false

/-! words of 32 bits, as numbers -/
def rotr (x n : Nat) : Nat := (x >>> n) ||| ((x <<< (32 - n)) &&& 4294967295)
def ss0 (x : Nat) : Nat := rotr x 7 ^^^ rotr x 18 ^^^ (x >>> 3)
def ss1 (x : Nat) : Nat := rotr x 17 ^^^ rotr x 19 ^^^ (x >>> 10)
def bs0 (x : Nat) : Nat := rotr x 2 ^^^ rotr x 13 ^^^ rotr x 22
def bs1 (x : Nat) : Nat := rotr x 6 ^^^ rotr x 11 ^^^ rotr x 25
def chW (e f g : Nat) : Nat := (e &&& f) ^^^ ((4294967295 - e) &&& g)
def mjW (a b c : Nat) : Nat := (a &&& b) ^^^ (a &&& c) ^^^ (b &&& c)
def kW : List Nat := [0x428a2f98, 0x71374491, 0xb5c0fbcf, 0xe9b5dba5, 0x3956c25b, 0x59f111f1, 0x923f82a4, 0xab1c5ed5,
  0xd807aa98, 0x12835b01, 0x243185be, 0x550c7dc3, 0x72be5d74, 0x80deb1fe, 0x9bdc06a7, 0xc19bf174,
  0xe49b69c1, 0xefbe4786, 0x0fc19dc6, 0x240ca1cc, 0x2de92c6f, 0x4a7484aa, 0x5cb0a9dc, 0x76f988da,
  0x983e5152, 0xa831c66d, 0xb00327c8, 0xbf597fc7, 0xc6e00bf3, 0xd5a79147, 0x06ca6351, 0x14292967,
  0x27b70a85, 0x2e1b2138, 0x4d2c6dfc, 0x53380d13, 0x650a7354, 0x766a0abb, 0x81c2c92e, 0x92722c85,
  0xa2bfe8a1, 0xa81a664b, 0xc24b8b70, 0xc76c51a3, 0xd192e819, 0xd6990624, 0xf40e3585, 0x106aa070,
  0x19a4c116, 0x1e376c08, 0x2748774c, 0x34b0bcb5, 0x391c0cb3, 0x4ed8aa4a, 0x5b9cca4f, 0x682e6ff3,
  0x748f82ee, 0x78a5636f, 0x84c87814, 0x8cc70208, 0x90befffa, 0xa4506ceb, 0xbef9a3f7, 0xc67178f2]
def hW : List Nat := [0x6a09e667, 0xbb67ae85, 0x3c6ef372, 0xa54ff53a, 0x510e527f, 0x9b05688c, 0x1f83d9ab, 0x5be0cd19]
/-- The t-th word of 64 bytes. -/
def wordB (m : List UInt8) (t : Nat) : Nat := (((m.getD (4 * t) 0).toNat * 256 + (m.getD (4 * t + 1) 0).toNat) * 256 + (m.getD (4 * t + 2) 0).toNat) * 256 + (m.getD (4 * t + 3) 0).toNat
/-- The first t words that 64 bytes are spread to. -/
def wTo (m : List UInt8) : Nat → List Nat
  | 0 => []
  | t + 1 => wTo m t ++ [if t < 16 then wordB m t else (ss1 (at' (wTo m t) (t - 2)) + at' (wTo m t) (t - 7) + ss0 (at' (wTo m t) (t - 15)) + at' (wTo m t) (t - 16)) % 4294967296]
def pW (v : List Nat) (k w : Nat) : Nat := at' v 7 + bs1 (at' v 4) + chW (at' v 4) (at' v 5) (at' v 6) + k + w
def qW (v : List Nat) : Nat := bs0 (at' v 0) + mjW (at' v 0) (at' v 1) (at' v 2)
/-- One round. -/
def stepW (v : List Nat) (k w : Nat) : List Nat := [(pW v k w + qW v) % 4294967296, at' v 0, at' v 1, at' v 2, (at' v 3 + pW v k w) % 4294967296, at' v 4, at' v 5, at' v 6]
/-- The first t rounds. -/
def rTo (h : List Nat) (ws : List Nat) : Nat → List Nat
  | 0 => h
  | t + 1 => stepW (rTo h ws t) (at' kW t) (at' ws t)
def addW (u v : List Nat) : List Nat := (List.range 8).map fun i => (at' u i + at' v i) % 4294967296
def blockW (h : List Nat) (m : List UInt8) : List Nat := addW (rTo h (wTo m 64) 64) h
/-- The words after b times 64 bytes. -/
def hTo (p : List UInt8) : Nat → List Nat
  | 0 => hW
  | b + 1 => blockW (hTo p b) ((p.drop (64 * b)).take 64)
def padL (l : List UInt8) : List UInt8 := l ++ [128] ++ List.replicate ((119 - l.length % 64) % 64) 0 ++ putL (8 * l.length) 8
def outL (h : List Nat) : List UInt8 := (List.range 32).map fun i => UInt8.ofNat (at' h (i / 4) >>> (24 - i % 4 * 8))
def shaL (l : List UInt8) : List UInt8 := outL (hTo (padL l) ((padL l).length / 64))

theorem sha_abc : (shaL [97, 98, 99]).take 2 = [186, 120] ∧ (shaL [97, 98, 99]).getD 31 0 = 173 := by decide +kernel

/-! bit operations of a signed word of 64 bits, on numbers that are not negative -/
theorem wrap_i64_in (n : Nat) (h : n < 9223372036854775808) : IntKind.i64.wrap (n : Int) = n := by
  simp only [IntKind.wrap, IntKind.bits, IntKind.signed, Bool.true_and]
  rw [if_neg (by simp; omega)]
  omega
theorem i64_and_nat (a b : Nat) (ha : a < 9223372036854775808) (hb : b < 9223372036854775808) : bits .and .i64 (a : Int) (b : Int) = ((a &&& b : Nat) : Int) := by
  have hx : a &&& b < 2 ^ 63 := Nat.and_lt_two_pow _ (by omega)
  show IntKind.i64.wrap ((BitVec.ofInt 64 (a : Int) &&& BitVec.ofInt 64 (b : Int)).toNat : Int) = _
  rw [BitVec.toNat_and, ofInt_u64 a (by omega), ofInt_u64 b (by omega), wrap_i64_in _ (by omega)]
theorem i64_or_nat (a b : Nat) (ha : a < 9223372036854775808) (hb : b < 9223372036854775808) : bits .or .i64 (a : Int) (b : Int) = ((a ||| b : Nat) : Int) := by
  have hx : a ||| b < 2 ^ 63 := Nat.or_lt_two_pow (by omega) (by omega)
  show IntKind.i64.wrap ((BitVec.ofInt 64 (a : Int) ||| BitVec.ofInt 64 (b : Int)).toNat : Int) = _
  rw [BitVec.toNat_or, ofInt_u64 a (by omega), ofInt_u64 b (by omega), wrap_i64_in _ (by omega)]
theorem i64_xor_nat (a b : Nat) (ha : a < 9223372036854775808) (hb : b < 9223372036854775808) : bits .xor .i64 (a : Int) (b : Int) = ((a ^^^ b : Nat) : Int) := by
  have hx : a ^^^ b < 2 ^ 63 := Nat.xor_lt_two_pow (by omega) (by omega)
  show IntKind.i64.wrap ((BitVec.ofInt 64 (a : Int) ^^^ BitVec.ofInt 64 (b : Int)).toNat : Int) = _
  rw [BitVec.toNat_xor, ofInt_u64 a (by omega), ofInt_u64 b (by omega), wrap_i64_in _ (by omega)]
theorem and_all (x : Nat) : x &&& 4294967295 = x % 4294967296 := Nat.and_two_pow_sub_one_eq_mod x 32
theorem rotr_lt (x n : Nat) (h : x < 4294967296) : rotr x n < 4294967296 := by
  unfold rotr
  have h1 : x >>> n < 2 ^ 32 := by rw [Nat.shiftRight_eq_div_pow]; exact Nat.lt_of_le_of_lt (Nat.div_le_self _ _) h
  have h2 : (x <<< (32 - n)) &&& 4294967295 < 2 ^ 32 := by rw [and_all]; omega
  exact Nat.or_lt_two_pow h1 h2
theorem xor_lt32 {a b : Nat} (ha : a < 4294967296) (hb : b < 4294967296) : a ^^^ b < 4294967296 := Nat.xor_lt_two_pow (n := 32) ha hb
theorem and_lt32 {a b : Nat} (hb : b < 4294967296) : a &&& b < 4294967296 := Nat.and_lt_two_pow (n := 32) _ hb
theorem shr_lt32 {x : Nat} (n : Nat) (h : x < 4294967296) : x >>> n < 4294967296 := by rw [Nat.shiftRight_eq_div_pow]; exact Nat.lt_of_le_of_lt (Nat.div_le_self _ _) h
theorem ss0_lt {x : Nat} (h : x < 4294967296) : ss0 x < 4294967296 := xor_lt32 (xor_lt32 (rotr_lt _ _ h) (rotr_lt _ _ h)) (shr_lt32 _ h)
theorem ss1_lt {x : Nat} (h : x < 4294967296) : ss1 x < 4294967296 := xor_lt32 (xor_lt32 (rotr_lt _ _ h) (rotr_lt _ _ h)) (shr_lt32 _ h)
theorem bs0_lt {x : Nat} (h : x < 4294967296) : bs0 x < 4294967296 := xor_lt32 (xor_lt32 (rotr_lt _ _ h) (rotr_lt _ _ h)) (rotr_lt _ _ h)
theorem bs1_lt {x : Nat} (h : x < 4294967296) : bs1 x < 4294967296 := xor_lt32 (xor_lt32 (rotr_lt _ _ h) (rotr_lt _ _ h)) (rotr_lt _ _ h)
theorem chW_lt {e f g : Nat} (hf : f < 4294967296) (hg : g < 4294967296) : chW e f g < 4294967296 := xor_lt32 (and_lt32 hf) (and_lt32 hg)
theorem mjW_lt {a b c : Nat} (hb : b < 4294967296) (hc : c < 4294967296) : mjW a b c < 4294967296 := xor_lt32 (xor_lt32 (and_lt32 hb) (and_lt32 hc)) (and_lt32 hc)
/-- All words fit. -/
def Fit (l : List Nat) : Prop := ∀ i, at' l i < 4294967296
theorem fit_of_all {l : List Nat} (h : ∀ x ∈ l, x < 4294967296) : Fit l := by
  intro i
  unfold at'
  rw [List.getD_eq_getElem?_getD]
  rcases hi : l[i]? with _ | x
  · simp
  · exact h x (List.mem_of_getElem? hi)
theorem fit_kW : Fit kW := fit_of_all (by decide +kernel)
theorem fit_hW : Fit hW := fit_of_all (by decide +kernel)
theorem wordB_lt (m : List UInt8) (t : Nat) : wordB m t < 4294967296 := by
  unfold wordB
  have a := (m.getD (4 * t) 0).toNat_lt
  have b := (m.getD (4 * t + 1) 0).toNat_lt
  have c := (m.getD (4 * t + 2) 0).toNat_lt
  have d := (m.getD (4 * t + 3) 0).toNat_lt
  omega
theorem wTo_length (m : List UInt8) : ∀ t, (wTo m t).length = t
  | 0 => rfl
  | t + 1 => by rw [wTo, List.length_append, wTo_length m t]; rfl
theorem at_append_left {l r : List Nat} {i : Nat} (h : i < l.length) : at' (l ++ r) i = at' l i := by
  unfold at'; rw [List.getD_eq_getElem?_getD, List.getD_eq_getElem?_getD, List.getElem?_append_left h]
theorem at_snoc {l : List Nat} {x : Nat} : at' (l ++ [x]) l.length = x := by
  unfold at'; simp
theorem fit_snoc {l : List Nat} {x : Nat} (h : Fit l) (hx : x < 4294967296) : Fit (l ++ [x]) := by
  intro i
  by_cases hi : i < l.length
  · rw [at_append_left hi]; exact h i
  · by_cases he : i = l.length
    · subst he; rw [at_snoc]; exact hx
    · unfold at'; rw [List.getD_eq_getElem?_getD, List.getElem?_eq_none (by simp; omega)]; simp
theorem fit_wTo (m : List UInt8) : ∀ t, Fit (wTo m t)
  | 0 => fit_of_all (by intro x hx; cases hx)
  | t + 1 => by
    rw [wTo]
    refine fit_snoc (fit_wTo m t) ?_
    split
    · exact wordB_lt m t
    · omega
/-- A word once laid stays. -/
theorem wTo_at (m : List UInt8) (i t : Nat) (h : i < t) : at' (wTo m t) i = at' (wTo m (i + 1)) i := by
  induction t with
  | zero => omega
  | succ t ih =>
    by_cases e : i = t
    · subst e; rfl
    · rw [wTo, at_append_left (by rw [wTo_length]; omega), ih (by omega)]
theorem fit_stepW {v : List Nat} {k w : Nat} (h : Fit v) : Fit (stepW v k w) := fit_of_all (by
  intro x hx
  unfold stepW at hx
  simp only [List.mem_cons, List.not_mem_nil, or_false] at hx
  rcases hx with rfl | rfl | rfl | rfl | rfl | rfl | rfl | rfl
  · omega
  · exact h 0
  · exact h 1
  · exact h 2
  · omega
  · exact h 4
  · exact h 5
  · exact h 6)
theorem fit_rTo {h ws : List Nat} (hf : Fit h) : ∀ t, Fit (rTo h ws t)
  | 0 => hf
  | t + 1 => fit_stepW (fit_rTo hf t)
theorem fit_addW (u v : List Nat) : Fit (addW u v) := fit_of_all (by
  intro x hx
  unfold addW at hx
  obtain ⟨i, _, rfl⟩ := List.mem_map.1 hx
  omega)
theorem fit_hTo (p : List UInt8) : ∀ b, Fit (hTo p b)
  | 0 => fit_hW
  | b + 1 => fit_addW _ _
theorem at_map_range (f : Nat → Nat) (n i : Nat) (h : i < n) : at' ((List.range n).map f) i = f i := by
  unfold at'; simp [List.getD_eq_getElem?_getD, h]
theorem wTo_rec (m : List UInt8) (t : Nat) (h : t < 64) : at' (wTo m 64) t = if t < 16 then wordB m t else (ss1 (at' (wTo m 64) (t - 2)) + at' (wTo m 64) (t - 7) + ss0 (at' (wTo m 64) (t - 15)) + at' (wTo m 64) (t - 16)) % 4294967296 := by
  have e : ∀ i, i < t → at' (wTo m 64) i = at' (wTo m t) i := fun i hi => by rw [wTo_at m i 64 (by omega), wTo_at m i t hi]
  rw [wTo_at m t 64 h]
  have hs : at' (wTo m (t + 1)) t = if t < 16 then wordB m t else (ss1 (at' (wTo m t) (t - 2)) + at' (wTo m t) (t - 7) + ss0 (at' (wTo m t) (t - 15)) + at' (wTo m t) (t - 16)) % 4294967296 := by
    have := @at_snoc (wTo m t) (if t < 16 then wordB m t else (ss1 (at' (wTo m t) (t - 2)) + at' (wTo m t) (t - 7) + ss0 (at' (wTo m t) (t - 15)) + at' (wTo m t) (t - 16)) % 4294967296)
    rw [wTo_length] at this
    exact this
  rw [hs]
  by_cases h16 : t < 16
  · rw [if_pos h16, if_pos h16]
  · rw [if_neg h16, if_neg h16, e _ (by omega), e _ (by omega), e _ (by omega), e _ (by omega)]
/-- The number of four bytes. -/
theorem numTo_word (m : List UInt8) (t : Nat) : numTo ((m.drop (4 * t)).take 4) 4 = ((wordB m t : Nat) : Int) := by
  have g : ∀ i, i < 4 → nth ((m.drop (4 * t)).take 4) i = (((m.getD (4 * t + i) 0).toNat : Nat) : Int) := fun i hi => by
    unfold nth
    simp [List.getD_eq_getElem?_getD, List.getElem?_take, hi, List.getElem?_drop]
  simp only [numTo, g 0 (by omega), g 1 (by omega), g 2 (by omega), g 3 (by omega), wordB]
  simp only [Nat.add_zero]
  omega
theorem outL_length (h : List Nat) : (outL h).length = 32 := by simp [outL]
theorem nth_outL (h : List Nat) (i : Nat) (hi : i < 32) : nth (outL h) i = ((at' h (i / 4) >>> (24 - i % 4 * 8) % 256 : Nat) : Int) := by
  unfold outL
  rw [nth_map_range _ _ _ hi, UInt8.toNat_ofNat']
theorem shaL_length (l : List UInt8) : (shaL l).length = 32 := outL_length _
end Go.Proofs.YtnffmegicgbinabDoor
/- Arrays of words of 32 bits, as values and in memory. -/
namespace Go.Proofs.YtnffmegicgbinabDoor
open Go.RowKit
set_option linter.unusedVariables false
set_option linter.unusedSimpArgs false

def cellsW (l : List Nat) : List Value := l.map fun (x : Nat) => Value.int .u32 ((x : Nat) : Int)
theorem cellsW_length (l : List Nat) : (cellsW l).length = l.length := by simp [cellsW]
theorem cellsW_at (l : List Nat) (i : Nat) (h : i < l.length) : (cellsW l)[i]? = some (.int .u32 ((at' l i : Nat) : Int)) := by
  unfold cellsW at'
  simp [List.getElem?_eq_getElem h, List.getD_eq_getElem?_getD]
theorem cellsW_one (l : List Nat) : ∀ v ∈ cellsW l, v.oneCell' = true := by
  intro v hv
  obtain ⟨i, _, rfl⟩ := List.mem_map.1 hv
  rfl
theorem cellsW_size (l : List Nat) : (cellsW l).toArray.size = l.length := by
  show (cellsW l).length = _
  exact cellsW_length l
theorem cellsB_size (l : List UInt8) : (cellsB l).toArray.size = l.length := by
  show (cellsB l).length = _
  exact cellsB_length l
/-- Words in memory, from a place of a block on. -/
def WAt (w : World) (b o : Nat) (l : List Nat) : Prop := w.rangeAt b o (cellsW l)
theorem WAt.cell {w : World} {b o : Nat} {l : List Nat} (h : WAt w b o l) (i : Nat) (hi : i < l.length) : w.cell? ⟨b, o + i, none⟩ = some (.int .u32 ((at' l i : Nat) : Int)) := h i _ (cellsW_at l i hi)
theorem WAt.mk {w : World} {b o : Nat} {l : List Nat} (h : ∀ i, i < l.length → w.cell? ⟨b, o + i, none⟩ = some (.int .u32 ((at' l i : Nat) : Int))) : WAt w b o l := by
  intro j v hj
  have hj' : j < l.length := by have := (List.getElem?_eq_some_iff.1 hj).1; rwa [cellsW_length] at this
  rw [h j hj', ← cellsW_at l j hj', hj]
theorem range_below {w w' : World} {b o B : Nat} {cs : List Value} (h : w.rangeAt b o cs) (hb : Below B w w') (hlt : b < B) : w'.rangeAt b o cs := by
  intro j v hj
  rw [hb.cell (p := ⟨b, o + j, none⟩) hlt]
  exact h j v hj
theorem range_set {w : World} {b o : Nat} {cs : List Value} (h : w.rangeAt b o cs) (g j : Nat) (v : Value) (hne : b ≠ g) : (w.setCell ⟨g, j, none⟩ v).rangeAt b o cs := World.rangeAt_setCells_apart h g j [v] (.inl hne)
/-- What a parameter was boxed with. -/
theorem box_range (w : World) (cs : List Value) (t : TypeId) : (w.alloc (.cells cs.toArray t)).rangeAt w.heap.size 0 cs := by
  intro j v hj
  have h : (w.alloc (.cells cs.toArray t)).heap[w.heap.size]? = some (.cells cs.toArray t) := by
    show (w.heap.push _)[w.heap.size]? = _
    simp
  unfold World.cell?
  rw [h]
  simpa using hj
theorem box_rangeAt (w : World) (cs : List Value) (t : TypeId) (g : Nat) (hg : w.heap.size = g) : (w.alloc (.cells cs.toArray t)).rangeAt g 0 cs := by
  subst hg
  exact box_range w cs t
theorem alloc_range (w : World) (cs : Array Value) (t : TypeId) : (w.alloc (.cells cs t)).rangeAt w.heap.size 0 cs.toList := by
  have := box_range w cs.toList t
  simpa using this
theorem alloc_there (w : World) (cs : Array Value) (t : TypeId) (n : Nat) (hn : n ≤ cs.size) : (w.alloc (.cells cs t)).there w.heap.size 0 n := by
  intro j hj
  have h : (w.alloc (.cells cs t)).heap[w.heap.size]? = some (.cells cs t) := by
    show (w.heap.push _)[w.heap.size]? = _
    simp
  refine ⟨?_, ?_⟩
  · rw [alloc_range w cs t j cs[j] (by simp)]
    rfl
  · unfold World.frozen?
    rw [h]
    simp
/-- A new row of n numbers. -/
theorem OwnK.new {k : IntKind} (w : World) (cs : Array Value) (t : TypeId) (n : Nat) (hn : n ≤ 100000) (f : Nat → Int) (h : cs.toList = (List.range n).map fun i => Value.int k (f i)) :
    OwnK k t (w.alloc (.cells cs t)) w.heap.size w.heap.size n n f := by
  have hs : cs.size = n := by rw [← Array.length_toList, h]; simp
  have := World.ownsRow_lit (e := t) (base := w.heap.size) (size := 1) w cs n (Nat.le_refl _) (by unfold maxLen; omega) (by omega)
  rw [h] at this
  exact this
theorem OwnK.newAt {k : IntKind} (w : World) (cs : Array Value) (t : TypeId) (n : Nat) (hn : n ≤ 100000) (f : Nat → Int) (g : Nat) (hg : w.heap.size = g) (h : cs.toList = (List.range n).map fun i => Value.int k (f i)) :
    OwnK k t (w.alloc (.cells cs t)) g g n n f := by
  subst hg
  exact OwnK.new w cs t n hn f h
theorem alloc_thereAt (w : World) (cs : Array Value) (t : TypeId) (n g : Nat) (hg : w.heap.size = g) (hn : n = cs.size) : (w.alloc (.cells cs t)).there g 0 n := by
  subst hg
  exact alloc_there w cs t n (Nat.le_of_eq hn)
theorem OwnK.wat {t : TypeId} {w : World} {B g n cap : Nat} {f : Nat → Int} {l : List Nat} (h : OwnK .u32 t w B g n cap f) (hl : l.length = n) (he : ∀ i, i < n → f i = ((at' l i : Nat) : Int)) : WAt w g 0 l :=
  WAt.mk fun i hi => by rw [Nat.zero_add, h.cell i (by omega), he i (by omega)]
theorem OwnK.bat {t : TypeId} {w : World} {B g n cap : Nat} {f : Nat → Int} {l : List UInt8} (h : OwnK .u8 t w B g n cap f) (hl : l.length = n) (he : ∀ i, i < n → f i = nth l i) : DAt w g 0 l :=
  DAt.mk fun i hi => by rw [Nat.zero_add, h.cell i (by omega), he i (by omega)]
/-- An answer that lies in a variable. -/
theorem run_results_row {P : Program} {fn : Func} {p : Tmp} {ty : TypeId} (h : fn.results = #[.cell p ty]) (tmps : Array Value) (w : World) (b o : Nat) (hp : tmps.getD p undef = .pointer (some ⟨b, o, none⟩))
    (cs : List Value) (hc : w.rangeAt b o cs) (d : TypeDesc) (hu : P.underlying ty = some d) (hd : d.isRow = true) (hi : (P.info? ty).map (·.size) = some cs.length) :
    (results fn tmps).run P w = .ok (.agg cs.toArray) w := by
  have hp' : tmps[p]?.getD undef = .pointer (some ⟨b, o, none⟩) := by simpa using hp
  simp only [results, h]
  simp [Sem.run_bind, Result.andThen, hp', asAddr, run_loadVar_mid w b o ty cs d hc hu hd hi]
/-- A place of an array as a value. -/
theorem run_index_int {P : Program} (w : World) (t e : TypeId) (n : Nat) (k : IntKind) (i0 : TypeInfo) (cs : Array Value) (i : Nat) (v : Value) (hn : i < n) (ht : P.underlying t = some (.array n e)) (he : P.underlying e = some (.int k)) (hi : P.info? e = some i0) (hs : i0.size = 1) (hv : cs[i]? = some v) :
    (Instr.index t (.agg cs) (.int .i64 (i : Int))).run P w = .ok v w := by
  have h1 : (0 : Int) ≤ (i : Int) ∧ (i : Int) < (n : Int) := by omega
  simp [Instr.index, asIntOf, run_underlying ht, sizeOf, typeInfo, hi, hs, part, isAgg, run_underlying he, Result.andThen, h1, hv, hn, Sem.run_bind]
/-- A literal of an array or a struct, whose cells are told. -/
theorem wpList_buildC {P : Program} {ops : Array Oper} {rest : List Oper} {o : Oper} {a : Act} {w : World} {Q : Exit → Act → World → Prop} (hg : o.guard = none) (t : TypeId) (parts : Array (Nat × Operand)) (ho : o.op = .build t parts) (cells : Array Value)
    (hf : P.built t (parts.map fun (i, x) => (i, a.eval x)).toList = some cells)
    (h : wpList P ops Q rest (a.put o.dst (.agg cells)) w) : wpList P ops Q (o :: rest) a w :=
  wpList_build hg t parts ho (by rw [hf]; rfl) (by rw [hf]; exact h)
theorem wpList_buildE {P : Program} {ops : Array Oper} {rest : List Oper} {o : Oper} {a : Act} {w : World} {Q : Exit → Act → World → Prop} (hg : o.guard = none) (t : TypeId) (parts : Array (Nat × Operand)) (ho : o.op = .build t parts) (cells cells' : Array Value) (he : cells = cells')
    (hf : P.built t (parts.map fun (i, x) => (i, a.eval x)).toList = some cells)
    (h : wpList P ops Q rest (a.put o.dst (.agg cells')) w) : wpList P ops Q (o :: rest) a w := by
  subst he
  exact wpList_buildC hg t parts ho cells hf h
/-- A new variable, whose cells are told. -/
theorem wpList_allocE {P : Program} {ops : Array Oper} {rest : List Oper} {o : Oper} {a : Act} {w : World} {Q : Exit → Act → World → Prop} (hg : o.guard = none) (t : TypeId) (ho : o.op = .alloc t) (cells : Array Value) (hz : (P.info? t).map (·.zero) = some (some (.agg cells))) (g : Nat) (hgs : w.heap.size = g) (w1 : World) (hw : w.alloc (.cells cells t) = w1)
    (h : wpList P ops Q rest (a.put o.dst (.pointer (some ⟨g, 0, none⟩))) w1) : wpList P ops Q (o :: rest) a w := by
  subst hw hgs
  refine wpList_plain hg fun K hK => ?_
  have hK := hK _ _ h
  cases hi : P.info? t with
  | none => simp [hi] at hz
  | some i =>
    have hz' : i.zero = some (.agg cells) := by simpa [hi] using hz
    unfold Oper.wp
    simp [execOp, ho, Instr.alloc, zeroValue, typeInfo, hi, hz', newVar, newRow, newObj, Value.cells, Result.andThen, Sem.run_bind]
    exact hK
end Go.Proofs.YtnffmegicgbinabDoor
/- Rows of shares that a call itself made: a literal of one, append of one. -/
namespace Go.Proofs.YtnffmegicgbinabDoor
open Go.RowKit
set_option linter.unusedVariables false
set_option linter.unusedSimpArgs false

/-- A share as it lies: its place, and where its bytes are. -/
abbrev Hdr := Nat × Option Addr × Nat × Nat
def noH : Hdr := (0, none, 0, 0)
def hdC (h : Hdr) : List Value := [.int .u8 (h.1 : Int), .slice h.2.1 h.2.2.1 h.2.2.2]
def hdV (h : Hdr) : Value := .agg #[.int .u8 (h.1 : Int), .slice h.2.1 h.2.2.1 h.2.2.2]
theorem hdC_length (h : Hdr) : (hdC h).length = 2 := rfl
theorem hdC_one (h : Hdr) : ∀ u ∈ hdC h, u.oneCell' = true := fun u hu => by
  unfold hdC at hu
  rcases List.mem_cons.1 hu with rfl | hu
  · rfl
  · rw [List.mem_singleton.1 hu]; rfl
def flatH (hs : List Hdr) : List Value := (hs.map hdC).flatten
theorem flatH_append (es fs : List Hdr) : flatH (es ++ fs) = flatH es ++ flatH fs := by simp [flatH]
theorem flatH_len (hs : List Hdr) : (flatH hs).length = 2 * hs.length := by
  induction hs with
  | nil => rfl
  | cons e r ih =>
    unfold flatH at *
    rw [List.map_cons, List.flatten_cons, List.length_append, ih, hdC_length, List.length_cons]
    omega
theorem flatH_at : ∀ (hs : List Hdr) (i j : Nat), i < hs.length → j < 2 → (flatH hs)[2 * i + j]? = (hdC (hs.getD i noH))[j]?
  | [], i, j, hi, _ => by simp at hi
  | e :: r, 0, j, hi, hj => by
    unfold flatH
    rw [List.map_cons, List.flatten_cons, Nat.mul_zero, Nat.zero_add, List.getElem?_append_left (by rw [hdC_length]; exact hj)]
    rfl
  | e :: r, i + 1, j, hi, hj => by
    have ih := flatH_at r i j (by simpa using hi) hj
    have he := hdC_length e
    unfold flatH at *
    rw [List.map_cons, List.flatten_cons, List.getElem?_append_right (by omega), he, show 2 * (i + 1) + j - 2 = 2 * i + j by omega, ih]
    rfl
theorem flatH_cells (hs : List Hdr) : ∀ u ∈ flatH hs, u.oneCell' = true := fun u hu => by
  unfold flatH at hu
  obtain ⟨l, hl, hu⟩ := List.mem_flatten.1 hu
  obtain ⟨e, _, rfl⟩ := List.mem_map.1 hl
  exact hdC_one e u hu
/-- What lies there is the share. -/
def DatH (w : World) (h : Hdr) (s : Shr) : Prop := h.1 = s.1 ∧ s.1 < 256 ∧ h.2.2.1 ≤ h.2.2.2 ∧ h.2.2.1 ≤ 140737488351232 ∧ Row w h.2.1 h.2.2.1 s.2
/-- Its bytes lie in another block. -/
def ApartH (h : Hdr) (row : Option Nat) : Prop := h.2.2.1 = 0 ∨ ∀ ad, h.2.1 = some ad → row ≠ some ad.block
theorem row_grown {w w' : World} {row : Option Nat} {a : Option Addr} {n : Nat} {l : List UInt8} (h : Row w a n l) (hg : w.grownBy w' row) (hne : n = 0 ∨ ∀ ad, a = some ad → row ≠ some ad.block) : Row w' a n l := by
  refine ⟨h.1, ?_⟩
  rcases h.2 with h0 | ⟨b, o, ha, hc⟩
  · exact .inl h0
  · rcases hne with h0 | hne
    · exact .inl h0
    · refine .inr ⟨b, o, ha, fun i hi => ?_⟩
      have c := hc i hi
      have hb := cell_block c
      exact (World.cell?_of_block (w := w) (hg.block b hb (fun e => hne _ ha e.symm))).trans c
theorem DatH.grown {w w' : World} {row : Option Nat} {h : Hdr} {s : Shr} (d : DatH w h s) (hg : w.grownBy w' row) (hne : ApartH h row) : DatH w' h s := ⟨d.1, d.2.1, d.2.2.1, d.2.2.2.1, row_grown d.2.2.2.2 hg hne⟩
theorem DatH.below {w w' : World} {h : Hdr} {s : Shr} (d : DatH w h s) (hb : Below w.heap.size w w') : DatH w' h s := ⟨d.1, d.2.1, d.2.2.1, d.2.2.2.1, d.2.2.2.2.below hb⟩
theorem DatH.next {w : World} {h : Hdr} {s : Shr} (d : DatH w h s) : ApartH h (some w.heap.size) := by
  rcases d.2.2.2.2.2 with h0 | ⟨b, o, ha, hc⟩
  · exact .inl h0
  · by_cases h0 : h.2.2.1 = 0
    · exact .inl h0
    · refine .inr fun ad e => ?_
      rw [ha] at e
      cases e
      have := cell_block (hc 0 (by omega))
      intro e
      have := Option.some.inj e
      simp only at this
      omega
theorem DatH.sat {w : World} {h : Hdr} {s : Shr} {b o : Nat} (d : DatH w h s) (hc : ∀ j v, (hdC h)[j]? = some v → w.cell? ⟨b, o + j, none⟩ = some v) : SAt w b o s := by
  obtain ⟨h1, h2, h3, h4, h5⟩ := d
  refine ⟨h2, ?_, h.2.1, h.2.2.1, h.2.2.2, hc 1 _ rfl, h3, h4, h5⟩
  rw [← h1]
  exact hc 0 _ rfl
/-- The call's own slice of shares v reads as ss. -/
def OwnS (w : World) (B : Nat) (v : Value) (ss : List Shr) : Prop :=
  ∃ hs : List Hdr, hs.length = ss.length ∧ w.ownsRow B 36 2 v ss.length (flatH hs) ∧ ∀ i, i < ss.length → DatH w (hs.getD i noH) (ss.getD i noS) ∧ ApartH (hs.getD i noH) v.ownBlock
theorem OwnS.nil (w : World) (B : Nat) : OwnS w B (.slice none 0 0) [] := ⟨[], rfl, World.ownsRow_nil _ _ _ _, fun i hi => absurd hi (by simp)⟩
theorem OwnS.form {w : World} {B : Nat} {v : Value} {ss : List Shr} (h : OwnS w B v ss) : ∃ a cap, v = .slice a ss.length cap ∧ SRow w a ss.length ss ∧ ss.length ≤ cap := by
  obtain ⟨hs, hl, h, hd⟩ := h
  rcases h.2 with ⟨rfl, h0⟩ | ⟨g, cap, cur, rfl, h1, h2, h3, _⟩
  · exact ⟨none, 0, by rw [h0], ⟨rfl, .inl h0⟩, by omega⟩
  · refine ⟨_, cap, rfl, ⟨rfl, .inr ⟨g, 0, rfl, fun i hi => (hd i hi).1.sat fun j v hj => ?_⟩⟩, h3⟩
    have hlt := (List.getElem?_eq_some_iff.1 hj).1
    rw [hdC_length] at hlt
    rw [show 0 + i * 2 + j = 2 * i + j by omega, World.ownsRow.cellAt h (2 * i + j) (by omega), flatH_at hs i j (by omega) hlt, hj]
theorem OwnS.below {w w' : World} {B : Nat} {v : Value} {ss : List Shr} (h : OwnS w B v ss) (hb : Below w.heap.size w w') : OwnS w' B v ss := by
  obtain ⟨hs, hl, h, hd⟩ := h
  refine ⟨hs, hl, ?_, fun i hi => ⟨(hd i hi).1.below hb, (hd i hi).2⟩⟩
  rcases h.2 with ⟨h1, h0⟩ | ⟨g, cap, cur, e1, e2, e3, e4⟩
  · exact ⟨h.1, .inl ⟨h1, h0⟩⟩
  · have hg : g < w.heap.size := (World.ownsRow.lt h g (by rw [e1]; rfl)).2
    exact ⟨h.1, .inr ⟨g, cap, cur, e1, e2, (hb.block g hg).trans e3, e4⟩⟩
theorem OwnS.lt {w : World} {B : Nat} {v : Value} {ss : List Shr} (h : OwnS w B v ss) (g : Nat) (hg : v.ownBlock = some g) : B ≤ g ∧ g < w.heap.size := by
  obtain ⟨hs, hl, h, hd⟩ := h
  exact World.ownsRow.lt h g hg
theorem OwnS.grown {w w0 w' : World} {B B0 : Nat} {v : Value} {ss : List Shr} (h : OwnS w B v ss) (hb : Below B0 w0 w) (hg : w.grownBy w' v.ownBlock) (h0 : B0 ≤ B) (hs : B0 ≤ w.heap.size) : Below B0 w0 w' :=
  hb.grown hg hs (fun k hk => Nat.le_trans h0 (h.lt k hk).1)
theorem OwnS.alloc {w : World} {B : Nat} {v : Value} {ss : List Shr} (h : OwnS w B v ss) (o : Obj) : OwnS (w.alloc o) B v ss := h.below ((Below.refl _ _).alloc (Nat.le_refl _) _)
theorem Tryd.infoSh : (Tryd.prog.info? 36).map (fun i => (i.zero, i.size, i.bytes)) = some (some (.agg #[.int .u8 0, .slice none 0 0]), 2, 32) := by kernel_rfl
theorem Tryd.sizeSh : (Tryd.prog.info? 36).map (·.size) = some 2 := by kernel_rfl
theorem Tryd.zeroSh : (Tryd.prog.info? 36).map (·.zero) = some (some (.agg #[.int .u8 0, .slice none 0 0])) := by kernel_rfl
/-- 'append(v, s)', v the call's own row of shares. -/
theorem wpList_append_share {w : World} {ops : Array Oper} {rest : List Oper} {o : Oper} {a : Act} {Q : Exit → Act → World → Prop} (hgd : o.guard = none) (s x : Operand)
    (ho : o.op = .call { callee := .builtin .append, args := #[s, x], argTypes := #[22, 22] })
    (base : Nat) (v : Value) (ss : List Shr) (hs : a.eval s = v) (hown : OwnS w base v ss)
    (b off c : Nat) (hd : Hdr) (t : Shr) (hx : a.eval x = .slice (some ⟨b, off, none⟩) 1 c) (hr : ∀ j u, (hdC hd)[j]? = some u → w.cell? ⟨b, off + j, none⟩ = some u) (hdat : DatH w hd t) (hap : ApartH hd v.ownBlock) (h47 : (ss.length + 1) * 32 ≤ 140737488355328) (hbase : base ≤ w.heap.size)
    (h : ∀ v' w', OwnS w' base v' (ss ++ [t]) → w.grownBy w' v.ownBlock → (v'.ownBlock = v.ownBlock ∨ v'.ownBlock = some w.heap.size) → wpList Tryd.prog ops Q rest (a.put o.dst v') w') : wpList Tryd.prog ops Q (o :: rest) a w := by
  obtain ⟨i0, hi, hz0, hz1, hz2⟩ := info_parts Tryd.infoSh
  obtain ⟨hs', hl, hrow, hd'⟩ := hown
  refine wpList_append_own_at w hgd s x 22 ho base 36 i0 (.agg #[.int .u8 0, .slice none 0 0]) 2 32 Tryd.underlying22 hi hz0 hz1 hz2 rfl (by decide) v ss.length (flatH hs') hs hrow ⟨b, off, none⟩ 1 c (hdC hd) hx rfl ?_ (hdC_one hd) (by unfold maxLen; omega) h47 hbase ?_
  · intro j u hj
    rw [Go.WideShapes.add_plain]
    exact hr j u hj
  · intro v' w' hown' hgrow _ hat
    refine h v' w' ⟨hs' ++ [hd], by simp [hl], ?_, ?_⟩ hgrow hat
    · rw [List.length_append, flatH_append]
      have e : flatH [hd] = hdC hd := by simp [flatH]
      rw [e]
      exact hown'
    · intro i hi2
      have key : ∀ (k : Hdr) (u : Shr), DatH w k u → ApartH k v.ownBlock → DatH w' k u ∧ ApartH k v'.ownBlock := fun k u d ap => by
        refine ⟨d.grown hgrow ap, ?_⟩
        rcases hat with e | e
        · rw [e]; exact ap
        · rw [e]; exact d.next
      rw [List.length_append, List.length_singleton] at hi2
      by_cases c1 : i < ss.length
      · have g1 : (hs' ++ [hd]).getD i noH = hs'.getD i noH := by simp only [List.getD_eq_getElem?_getD, List.getElem?_append_left (show i < hs'.length by omega)]
        have g2 : (ss ++ [t]).getD i noS = ss.getD i noS := by simp only [List.getD_eq_getElem?_getD, List.getElem?_append_left c1]
        rw [g1, g2]
        exact key _ _ (hd' i c1).1 (hd' i c1).2
      · have ei : i = ss.length := by omega
        have g1 : (hs' ++ [hd]).getD i noH = hd := by simp only [List.getD_eq_getElem?_getD]; rw [ei, ← hl]; simp
        have g2 : (ss ++ [t]).getD i noS = t := by simp only [List.getD_eq_getElem?_getD]; rw [ei]; simp
        rw [g1, g2]
        exact key _ _ hdat hap
theorem fill_oneS (cs : List Value) (b : Array Value) (n : Nat) (hb : b.size = n) (hc : cs.length = n) : Instr.fill (fun i => some (i * n, n)) b [(0, .agg cs.toArray)] = some cs.toArray := by
  have h1 : (Value.agg cs.toArray).cells.size = n := hc
  have hb' : (Value.agg cs.toArray).cells.zipIdx.foldl (fun cs (x : Value × Nat) => cs.setIfInBounds (0 * n + x.2) x.1) b = cs.toArray := by
    apply Array.ext'
    have := fold_set (0 * n) cs 0 b (by omega)
    rw [Nat.add_zero, Nat.zero_mul, List.take_zero, List.nil_append, Nat.zero_add, List.drop_of_length_le (by rw [Array.length_toList]; omega), List.append_nil] at this
    show (cs.toArray.zipIdx.foldl _ b).toList = cs
    rw [← Array.foldl_toList, Array.toList_zipIdx, Nat.zero_mul]
    exact this
  unfold Instr.fill
  simp only
  rw [if_neg (by simp only [h1]; simp; omega)]
  unfold Instr.fill
  exact congrArg some hb'
/-- A literal of one share. -/
theorem wpList_buildSh {w : World} {ops : Array Oper} {rest : List Oper} {o : Oper} {a : Act} {Q : Exit → Act → World → Prop} (hgd : o.guard = none) (x : Operand) (ho : o.op = .buildSlice 22 1 #[(0, x)])
    (hd : Hdr) (hx : a.eval x = hdV hd)
    (h : wpList Tryd.prog ops Q rest (a.put o.dst (.slice (some ⟨w.heap.size, 0, none⟩) 1 1)) (w.alloc (.cells (hdC hd).toArray 36))) : wpList Tryd.prog ops Q (o :: rest) a w := by
  obtain ⟨i, hi, hz, hsize, hz2⟩ := info_parts Tryd.infoSh
  have hr := fill_oneS (hdC hd) ((Array.range (1 * 2)).map ((Value.agg #[.int .u8 0, .slice none 0 0]).cells[· % (Value.agg #[.int .u8 0, .slice none 0 0]).cells.size]!)) 2 (by simp) (hdC_length hd)
  have hrun : (Instr.buildSlice 22 1 #[(0, hdV hd)]).run Tryd.prog w = .ok (.slice (some ⟨w.heap.size, 0, none⟩) 1 1) (w.alloc (.cells (hdC hd).toArray 36)) := by
    simp [Instr.buildSlice, run_underlying Tryd.underlying22, sizeOf, typeInfo, hi, hsize, zeroValue, hz, newRow]
    have e : hdV hd = .agg (hdC hd).toArray := rfl
    rw [e, hr]
    simp
  refine wpList_plain hgd fun K hK' => ?_
  unfold Oper.wp
  simp [execOp, ho, hx, hrun, Result.andThen]
  exact hK' _ _ h
theorem Tryd.zeroSh2 : (Tryd.prog.info? 36).map (·.zero) = some (some (.agg (hdC noH).toArray)) := by kernel_rfl
theorem wpList_allocSh {ops : Array Oper} {rest : List Oper} {o : Oper} {a : Act} {w : World} {Q : Exit → Act → World → Prop} (hg : o.guard = none) (ho : o.op = .alloc 36) (g : Nat) (hgs : w.heap.size = g) (w1 : World) (hw : w.alloc (.cells (hdC noH).toArray 36) = w1)
    (h : wpList Tryd.prog ops Q rest (a.put o.dst (.pointer (some ⟨g, 0, none⟩))) w1) : wpList Tryd.prog ops Q (o :: rest) a w :=
  wpList_allocE hg 36 ho (hdC noH).toArray Tryd.zeroSh2 g hgs w1 hw h
theorem wpList_storeSh {ops : Array Oper} {rest : List Oper} {o : Oper} {a : Act} {w : World} {Q : Exit → Act → World → Prop} (hg : o.guard = none) (x y : Operand) (ho : o.op = .store 36 x y)
    (b : Nat) (hd : Hdr) (hx : a.eval x = .pointer (some ⟨b, 0, none⟩)) (hy : a.eval y = hdV hd) (ht : w.there b 0 2) (w1 : World) (hw : w.setCells b 0 (hdC hd) = w1)
    (h : wpList Tryd.prog ops Q rest (a.put o.dst undef) w1) : wpList Tryd.prog ops Q (o :: rest) a w := by
  subst hw
  exact wpList_store_mid hg 36 x y ho b 0 (hdC hd).toArray hx hy ht Tryd.sizeSh (all_oneCell_toArray (hdC_one hd)) h
theorem wpList_loadSh {ops : Array Oper} {rest : List Oper} {o : Oper} {a : Act} {w : World} {Q : Exit → Act → World → Prop} (hg : o.guard = none) (x : Operand) (ho : o.op = .load 36 x)
    (b k : Nat) (hd : Hdr) (hx : a.eval x = .pointer (some ⟨b, k, none⟩)) (hr : w.rangeAt b k (hdC hd))
    (h : wpList Tryd.prog ops Q rest (a.put o.dst (hdV hd)) w) : wpList Tryd.prog ops Q (o :: rest) a w :=
  wpList_load_mid hg 36 x ho b k hx (hdC hd) _ hr Tryd.underlying36 (by rfl) Tryd.sizeSh h
/-- A share in a variable: its place, and a value where its bytes are. -/
def SVar (w : World) (g K : Nat) (v : Value) : Prop := w.cell? ⟨g, 0, none⟩ = some (.int .u8 (K : Int)) ∧ w.cell? ⟨g, 1, none⟩ = some v ∧ w.there g 0 2
theorem SVar.below {w w' : World} {g K B : Nat} {v : Value} (h : SVar w g K v) (hb : Below B w w') (hg : g < B) : SVar w' g K v := by
  obtain ⟨h1, h2, h3⟩ := h
  exact ⟨(hb.cell (p := ⟨g, 0, none⟩) hg).trans h1, (hb.cell (p := ⟨g, 1, none⟩) hg).trans h2, fun j hj => by
    have := h3 j hj
    rwa [← hb.cell (p := ⟨g, 0 + j, none⟩) hg, ← hb.frozen (p := ⟨g, 0 + j, none⟩) hg] at this⟩
theorem SVar.lt {w : World} {g K : Nat} {v : Value} (h : SVar w g K v) : g < w.heap.size := cell_block h.1
theorem SVar.new {w w1 w2 : World} {g : Nat} {hd : Hdr} (hg : w.heap.size = g) (hw1 : w.alloc (.cells (hdC noH).toArray 36) = w1) (hw2 : w1.setCells g 0 (hdC hd) = w2) :
    w1.there g 0 2 ∧ SVar w2 g hd.1 (.slice hd.2.1 hd.2.2.1 hd.2.2.2) ∧ Below g w w2 := by
  have ht : w1.there g 0 2 := by rw [← hw1]; exact alloc_thereAt _ _ _ 2 _ hg rfl
  have hr : w2.rangeAt g 0 (hdC hd) := by rw [← hw2]; exact World.rangeAt_setCells_same _ _ _ _ ht
  refine ⟨ht, ⟨hr 0 _ rfl, hr 1 _ rfl, ?_⟩, ?_⟩
  · rw [← hw2]
    exact World.there_setCells ht _ _ _
  · rw [← hw2, ← hw1]
    exact below_setCells _ (Nat.le_refl _) _ _ _ ((Below.refl _ _).alloc (by omega) _)
theorem SVar.put {w : World} {g K : Nat} {v : Value} (h : SVar w g K v) (u : Value) : SVar (w.setCell ⟨g, 1, none⟩ u) g K u := by
  obtain ⟨h1, h2, h3⟩ := h
  have e : w.setCell ⟨g, 1, none⟩ u = w.setCells g 1 [u] := rfl
  refine ⟨?_, ?_, ?_⟩
  · have := World.cell?_setCell_other w ⟨g, 1, none⟩ ⟨g, 0, none⟩ u (by simp)
    exact this.trans h1
  · exact World.cell?_setCell_same w ⟨g, 1, none⟩ u h2
  · rw [e]
    exact World.there_setCells h3 _ _ _
theorem SVar.range {w : World} {g K : Nat} {a : Option Addr} {n c : Nat} (h : SVar w g K (.slice a n c)) : w.rangeAt g 0 (hdC (K, a, n, c)) := fun j v hj => by
  match j, hj with
  | 0, hj => rw [← hj]; exact h.1
  | 1, hj => rw [← hj]; exact h.2.1
theorem lit_cells (w : World) (hd : Hdr) (t : TypeId) : ∀ j u, (hdC hd)[j]? = some u → (w.alloc (.cells (hdC hd).toArray t)).cell? ⟨w.heap.size, 0 + j, none⟩ = some u := fun j u hj => by
  rw [Nat.zero_add, cells_new]
  exact hj
end Go.Proofs.YtnffmegicgbinabDoor
/- Plain definitions for a secret in parts. -/
namespace Go.Proofs.YtnffmegicgbinabDoor
open Go.RowKit
set_option linter.unusedVariables false
set_option linter.unusedSimpArgs false

/-- What is wrong with what is to be split. -/
def splitE (len : Nat) (n : Int) (ls : List (List UInt8)) : Int := if n < 1 ∨ 20 < n then 2 else if 100 < len ∨ 20 < ls.length then 4 else if ∀ l ∈ ls, l.length = len then 0 else 3
theorem splitE_ok {m : Nat} {n : Int} {ls : List (List UInt8)} (h : splitE m n ls = 0) : 1 ≤ n ∧ n ≤ 20 ∧ m ≤ 100 ∧ ls.length ≤ 20 ∧ ∀ l ∈ ls, l.length = m := by
  unfold splitE at h
  by_cases c1 : n < 1 ∨ 20 < n
  · rw [if_pos c1] at h; omega
  · rw [if_neg c1] at h
    by_cases c2 : 100 < m ∨ 20 < ls.length
    · rw [if_pos c2] at h; omega
    · rw [if_neg c2] at h
      by_cases c3 : ∀ l ∈ ls, l.length = m
      · exact ⟨by omega, by omega, by omega, by omega, c3⟩
      · rw [if_neg c3] at h; omega
/-- The polynomial at a place: the secret's byte, and behind it those of the first j rows. -/
def polyT (secret : List UInt8) (ls : List (List UInt8)) (i j : Nat) : List UInt8 := secret.getD i 0 :: (ls.take j).map fun l => l.getD i 0
def polyC (secret : List UInt8) (ls : List (List UInt8)) (i : Nat) : List UInt8 := secret.getD i 0 :: ls.map fun l => l.getD i 0
theorem polyT_zero (secret : List UInt8) (ls : List (List UInt8)) (i : Nat) : polyT secret ls i 0 = [secret.getD i 0] := by simp [polyT]
theorem polyT_succ {secret : List UInt8} {ls : List (List UInt8)} {i j : Nat} (h : j < ls.length) : polyT secret ls i j ++ [(ls.getD j []).getD i 0] = polyT secret ls i (j + 1) := by
  unfold polyT
  rw [List.take_succ_eq_append_getElem h, List.map_append]
  simp [List.getD_eq_getElem?_getD, List.getElem?_eq_getElem h]
theorem polyT_all (secret : List UInt8) (ls : List (List UInt8)) (i : Nat) : polyT secret ls i ls.length = polyC secret ls i := by
  unfold polyT polyC
  rw [List.take_length]
theorem polyT_length {secret : List UInt8} {ls : List (List UInt8)} {i j : Nat} (h : j ≤ ls.length) : (polyT secret ls i j).length = j + 1 := by
  simp [polyT]
  omega
theorem polyC_length (secret : List UInt8) (ls : List (List UInt8)) (i : Nat) : (polyC secret ls i).length = ls.length + 1 := by simp [polyC]
/-- A share's byte. -/
def shareN (secret : List UInt8) (ls : List (List UInt8)) (k i : Nat) : Nat := polyv (nb (polyC secret ls i)) k
theorem shareN_lt (secret : List UInt8) (ls : List (List UInt8)) (k i : Nat) : shareN secret ls k i < 256 := polyv_lt (nb_bys _) _
def dataS (secret : List UInt8) (ls : List (List UInt8)) (k m : Nat) : List UInt8 := (List.range m).map fun i => UInt8.ofNat (shareN secret ls k i)
theorem dataS_length (secret : List UInt8) (ls : List (List UInt8)) (k m : Nat) : (dataS secret ls k m).length = m := by simp [dataS]
theorem dataS_succ (secret : List UInt8) (ls : List (List UInt8)) (k m : Nat) : dataS secret ls k m ++ [UInt8.ofNat (shareN secret ls k m)] = dataS secret ls k (m + 1) := by
  unfold dataS
  rw [List.range_succ, List.map_append]
  rfl
def splitL (secret : List UInt8) (ls : List (List UInt8)) (n : Nat) : List Shr := (List.range n).map fun k => (k + 1, dataS secret ls (k + 1) secret.length)
theorem splitL_length (secret : List UInt8) (ls : List (List UInt8)) (n : Nat) : (splitL secret ls n).length = n := by simp [splitL]
theorem splitL_succ (secret : List UInt8) (ls : List (List UInt8)) (n : Nat) : splitL secret ls n ++ [(n + 1, dataS secret ls (n + 1) secret.length)] = splitL secret ls (n + 1) := by
  unfold splitL
  rw [List.range_succ, List.map_append]
  rfl
theorem splitL_at (secret : List UInt8) (ls : List (List UInt8)) (n k : Nat) (h : k < n) : (splitL secret ls n).getD k noS = (k + 1, dataS secret ls (k + 1) secret.length) := by
  unfold splitL
  rw [List.getD_eq_getElem?_getD, List.getElem?_map, List.getElem?_range h]
  rfl
end Go.Proofs.YtnffmegicgbinabDoor
