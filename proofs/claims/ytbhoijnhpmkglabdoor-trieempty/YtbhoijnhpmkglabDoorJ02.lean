/- Texts of this claim, joined: Wturn, Bytes, Digest, Words. -/
import Derived.Test.YtbhoijnhpmkglabDoorJ01
import Derived.Deep.QuietTactic
import Derived.BigQuiet
import Derived.Laws.AppendOwnNone
import Derived.Maps.AppendAt
import Derived.Deep.MidRow
/- The contract of sha.turn: a word turned down. -/
namespace Go.Proofs.YtbhoijnhpmkglabDoor
open Go.RowKit
set_option linter.unusedVariables false
set_option linter.unusedSimpArgs false

/-! bit operations of a word of 32 bits -/
theorem ofInt_u32 (a : Nat) (h : a < 4294967296) : (BitVec.ofInt 32 (a : Int)).toNat = a := by
  rw [BitVec.ofInt_natCast, BitVec.toNat_ofNat]
  omega
theorem wrap_u32_in (n : Nat) (h : n < 4294967296) : IntKind.u32.wrap (n : Int) = n := by
  simp only [IntKind.wrap, IntKind.bits, IntKind.signed, Bool.false_and]
  rw [if_neg (by simp)]
  omega
theorem u32_and_nat (a b : Nat) (ha : a < 4294967296) (hb : b < 4294967296) : bits .and .u32 (a : Int) (b : Int) = ((a &&& b : Nat) : Int) := by
  have hx : a &&& b < 2 ^ 32 := Nat.and_lt_two_pow _ (by omega)
  show IntKind.u32.wrap ((BitVec.ofInt 32 (a : Int) &&& BitVec.ofInt 32 (b : Int)).toNat : Int) = _
  rw [BitVec.toNat_and, ofInt_u32 a ha, ofInt_u32 b hb, wrap_u32_in _ (by omega)]
theorem u32_or_nat (a b : Nat) (ha : a < 4294967296) (hb : b < 4294967296) : bits .or .u32 (a : Int) (b : Int) = ((a ||| b : Nat) : Int) := by
  have hx : a ||| b < 2 ^ 32 := Nat.or_lt_two_pow (by omega) (by omega)
  show IntKind.u32.wrap ((BitVec.ofInt 32 (a : Int) ||| BitVec.ofInt 32 (b : Int)).toNat : Int) = _
  rw [BitVec.toNat_or, ofInt_u32 a ha, ofInt_u32 b hb, wrap_u32_in _ (by omega)]
theorem u32_xor_nat (a b : Nat) (ha : a < 4294967296) (hb : b < 4294967296) : bits .xor .u32 (a : Int) (b : Int) = ((a ^^^ b : Nat) : Int) := by
  have hx : a ^^^ b < 2 ^ 32 := Nat.xor_lt_two_pow (by omega) (by omega)
  show IntKind.u32.wrap ((BitVec.ofInt 32 (a : Int) ^^^ BitVec.ofInt 32 (b : Int)).toNat : Int) = _
  rw [BitVec.toNat_xor, ofInt_u32 a ha, ofInt_u32 b hb, wrap_u32_in _ (by omega)]

theorem and31 : ∀ n : Nat, n < 32 → 1 ≤ n → bits BinOp.and IntKind.u64 (IntKind.u64.wrap (-(n : Int))) 31 = ((32 - n : Nat) : Int) := by decide +kernel
theorem rot_eq (x n : Nat) (hx : x < 4294967296) (h1 : 1 ≤ n) (h2 : n ≤ 31) : bits .or .u32 ((x : Int) * 2 ^ (32 - n) % 4294967296) ((x : Int) / 2 ^ (32 - (32 - n))) = ((rotr x n : Nat) : Int) := by
  have e0 : 32 - (32 - n) = n := by omega
  have e1 : (x : Int) / 2 ^ n = ((x >>> n : Nat) : Int) := by rw [Nat.shiftRight_eq_div_pow, Int.natCast_ediv, Int.natCast_pow]; rfl
  have e2 : (x : Int) * 2 ^ (32 - n) % 4294967296 = ((x <<< (32 - n) &&& 4294967295 : Nat) : Int) := by rw [and_all, Nat.shiftLeft_eq, Int.natCast_emod, Int.natCast_mul, Int.natCast_pow]; rfl
  have hs := shr_lt32 n hx
  have hc : x <<< (32 - n) &&& 4294967295 < 4294967296 := by rw [and_all]; omega
  rw [e0, e1, e2, u32_or_nat _ _ hc hs, Nat.or_comm]
  rfl

set_option maxRecDepth 100000 in
set_option maxHeartbeats 400000 in
theorem wrot_any (x n : Nat) (w : World) (hx : x < 4294967296) (h1 : 1 ≤ n) (h2 : n ≤ 31) :
    Calls Tryd.prog 36 #[.int .u32 x, .int .i64 (-(n : Int))] w fun e w' => e = .returned (.int .u32 (rotr x n : Nat)) ∧ w' = w := by
  have he := and31 n (by omega) h1
  go_enter Tryd.func36, Tryd.ntmps36
  go_wp2
  go_ret
  exact ⟨ret_int (rot_eq x n hx h1 h2), rfl⟩
set_option maxRecDepth 100000 in
theorem wturn_any (x n : Nat) (z : Int) (w : World) (hx : x < 4294967296) (hz : z = (n : Int)) (h1 : 1 ≤ n) (h2 : n ≤ 31) :
    Calls Tryd.prog 35 #[.int .u32 x, .int .i64 z] w fun e w' => e = .returned (.int .u32 (rotr x n : Nat)) ∧ w' = w := by
  subst hz
  go_enter Tryd.func35, Tryd.ntmps35
  go_wp2_with fail
  refine (wrot_any x n _ hx h1 h2).mono ?_
  rintro e w' ⟨rfl, rfl⟩
  go_wp2
  go_ret
  exact ⟨rfl, rfl⟩
theorem wturn_z (x : Nat) (z : Int) (w : World) (hx : x < 4294967296) (h1 : 1 ≤ z) (h2 : z ≤ 31) :
    Calls Tryd.prog 35 #[.int .u32 x, .int .i64 z] w fun e w' => e = .returned (.int .u32 (rotr x z.toNat : Nat)) ∧ ∃ q, w' = w.drewN q :=
  (wturn_any x z.toNat z w hx (by omega) (by omega) (by omega)).mono fun e w' h => ⟨h.1, 0, h.2⟩
/-! the sums of turned words -/
theorem wxor3 {a b c : Nat} (ha : a < 4294967296) (hb : b < 4294967296) (hc : c < 4294967296) : bits .xor .u32 (bits .xor .u32 (a : Int) (b : Int)) (c : Int) = ((a ^^^ b ^^^ c : Nat) : Int) := by
  have hx := xor_lt32 ha hb
  rw [u32_xor_nat _ _ ha hb, u32_xor_nat _ _ hx hc]
theorem wshr3 (x : Nat) : (x : Int) / (8 : Int) = ((x >>> 3 : Nat) : Int) := by rw [Nat.shiftRight_eq_div_pow]; rfl
theorem wshr10 (x : Nat) : (x : Int) / (1024 : Int) = ((x >>> 10 : Nat) : Int) := by rw [Nat.shiftRight_eq_div_pow]; rfl
theorem wss0_eq {x : Nat} (h : x < 4294967296) : bits .xor .u32 (bits .xor .u32 ((rotr x 7 : Nat) : Int) ((rotr x 18 : Nat) : Int)) ((x : Int) / (8 : Int)) = ((ss0 x : Nat) : Int) := by
  rw [wshr3, wxor3 (rotr_lt _ _ h) (rotr_lt _ _ h) (shr_lt32 _ h)]; rfl
theorem wss1_eq {x : Nat} (h : x < 4294967296) : bits .xor .u32 (bits .xor .u32 ((rotr x 17 : Nat) : Int) ((rotr x 19 : Nat) : Int)) ((x : Int) / (1024 : Int)) = ((ss1 x : Nat) : Int) := by
  rw [wshr10, wxor3 (rotr_lt _ _ h) (rotr_lt _ _ h) (shr_lt32 _ h)]; rfl
theorem wbs0_eq {x : Nat} (h : x < 4294967296) : bits .xor .u32 (bits .xor .u32 ((rotr x 2 : Nat) : Int) ((rotr x 13 : Nat) : Int)) ((rotr x 22 : Nat) : Int) = ((bs0 x : Nat) : Int) := by
  rw [wxor3 (rotr_lt _ _ h) (rotr_lt _ _ h) (rotr_lt _ _ h)]; rfl
theorem wbs1_eq {x : Nat} (h : x < 4294967296) : bits .xor .u32 (bits .xor .u32 ((rotr x 6 : Nat) : Int) ((rotr x 11 : Nat) : Int)) ((rotr x 25 : Nat) : Int) = ((bs1 x : Nat) : Int) := by
  rw [wxor3 (rotr_lt _ _ h) (rotr_lt _ _ h) (rotr_lt _ _ h)]; rfl
theorem wch_eq {e f g : Nat} (he : e < 4294967296) (hf : f < 4294967296) (hg : g < 4294967296) : bits .xor .u32 (bits .and .u32 (e : Int) (f : Int)) (bits .and .u32 (4294967295 - (e : Int)) (g : Int)) = ((chW e f g : Nat) : Int) := by
  have e1 : (4294967295 - (e : Int)) = ((4294967295 - e : Nat) : Int) := by omega
  rw [e1, u32_and_nat _ _ he hf, u32_and_nat _ _ (by omega) hg, u32_xor_nat _ _ (and_lt32 hf) (and_lt32 hg)]
  rfl
theorem wmj_eq {a b c : Nat} (ha : a < 4294967296) (hb : b < 4294967296) (hc : c < 4294967296) : bits .xor .u32 (bits .xor .u32 (bits .and .u32 (a : Int) (b : Int)) (bits .and .u32 (a : Int) (c : Int))) (bits .and .u32 (b : Int) (c : Int)) = ((mjW a b c : Nat) : Int) := by
  rw [u32_and_nat _ _ ha hb, u32_and_nat _ _ ha hc, u32_and_nat _ _ hb hc, wxor3 (and_lt32 hb) (and_lt32 hc) (and_lt32 hc)]
  rfl
theorem wnot_eq {x : Nat} (h : x < 4294967296) : bits .xor .u32 (if IntKind.u32.signed = true then -1 else IntKind.u32.max) (x : Int) = 4294967295 - (x : Int) := by
  have e : (if IntKind.u32.signed = true then (-1 : Int) else IntKind.u32.max) = ((4294967295 : Nat) : Int) := by rfl
  rw [e, u32_xor_nat _ _ (by omega) h]
  have : 4294967295 ^^^ x = 4294967295 - x := by
    have h1 : (BitVec.allOnes 32 ^^^ BitVec.ofNat 32 x) = ~~~ (BitVec.ofNat 32 x) := by rw [BitVec.allOnes_xor]
    have h2 := congrArg BitVec.toNat h1
    rw [BitVec.toNat_xor, BitVec.toNat_not, BitVec.toNat_allOnes, BitVec.toNat_ofNat, Nat.mod_eq_of_lt (by omega)] at h2
    simpa using h2
  rw [this]
  omega
end Go.Proofs.YtbhoijnhpmkglabDoor
/- Rows of bytes that grow by append. -/
namespace Go.Proofs.YtbhoijnhpmkglabDoor
open Go.RowKit
set_option linter.unusedVariables false
set_option linter.unusedSimpArgs false

def cellsB (l : List UInt8) : List Value := l.map fun b => Value.int .u8 (b.toNat : Int)
theorem cellsB_append (l r : List UInt8) : cellsB (l ++ r) = cellsB l ++ cellsB r := by simp [cellsB]
theorem cellsB_length (l : List UInt8) : (cellsB l).length = l.length := by simp [cellsB]
theorem cellsB_at (l : List UInt8) (i : Nat) (h : i < l.length) : (cellsB l)[i]? = some (.int .u8 (nth l i)) := by
  unfold cellsB nth
  simp [List.getElem?_eq_getElem h]
theorem cellsB_one (l : List UInt8) : ∀ u ∈ cellsB l, u.oneCell' = true := by
  intro u hu
  obtain ⟨i, _, rfl⟩ := List.mem_map.1 hu
  rfl
/-- The call's own slice of bytes v reads as l. -/
def OwnL (w : World) (B : Nat) (v : Value) (l : List UInt8) : Prop := w.ownsRow B 5 1 v l.length (cellsB l)
theorem OwnL.form {w : World} {B : Nat} {v : Value} {l : List UInt8} (h : OwnL w B v l) : ∃ a cap, v = .slice a l.length cap ∧ Row w a l.length l ∧ l.length ≤ cap := by
  rcases h.2 with ⟨rfl, h0⟩ | ⟨g, cap, cur, rfl, h1, h2, h3, _⟩
  · exact ⟨none, 0, by rw [h0], ⟨rfl, .inl h0⟩, by omega⟩
  · refine ⟨_, cap, rfl, ⟨rfl, .inr ⟨g, 0, rfl, fun i hi => ?_⟩⟩, h3⟩
    rw [Nat.zero_add, World.ownsRow.cellAt h i (by omega), cellsB_at l i hi]
theorem OwnL.formSome {w : World} {B : Nat} {v : Value} {l : List UInt8} (h : OwnL w B v l) (hl : 0 < l.length) : ∃ g cap, v = .slice (some ⟨g, 0, none⟩) l.length cap ∧ Row w (some ⟨g, 0, none⟩) l.length l ∧ l.length ≤ cap ∧ B ≤ g ∧ g < w.heap.size := by
  have hlt := World.ownsRow.lt h
  rcases h.2 with ⟨rfl, h0⟩ | ⟨g, cap, cur, rfl, h1, h2, h3, _⟩
  · omega
  · refine ⟨g, cap, rfl, ⟨rfl, .inr ⟨g, 0, rfl, fun i hi => ?_⟩⟩, h3, (hlt g rfl).1, (hlt g rfl).2⟩
    rw [Nat.zero_add, World.ownsRow.cellAt h i (by omega), cellsB_at l i hi]
theorem OwnL.nil (w : World) (B : Nat) : OwnL w B (.slice none 0 0) [] := World.ownsRow_nil _ _ _ _
theorem OwnL.lit0 (w : World) (B : Nat) (hB : B ≤ w.heap.size) : OwnL (w.alloc (.cells #[] 5)) B (.slice (some ⟨w.heap.size, 0, none⟩) 0 0) [] :=
  World.ownsRow_lit w #[] 0 hB (by unfold maxLen; omega) rfl
theorem OwnL.lit0' (w : World) (B s : Nat) (hs : w.heap.size = s) (hB : B ≤ s) : OwnL (w.alloc (.cells #[] 5)) B (.slice (some ⟨s, 0, none⟩) 0 0) [] := by
  subst hs
  exact OwnL.lit0 w B hB
theorem OwnL.drewN {w : World} {B : Nat} {v : Value} {l : List UInt8} (h : OwnL w B v l) (q : Nat) : OwnL (w.drewN q) B v l := by
  induction q with
  | zero => exact h
  | succ q ih => exact World.ownsRow.drew ih
theorem OwnL.below {w w' : World} {B : Nat} {v : Value} {l : List UInt8} (h : OwnL w B v l) (hb : Below w.heap.size w w') : OwnL w' B v l := by
  rcases h.2 with ⟨h1, h0⟩ | ⟨g, cap, cur, e1, e2, e3, e4⟩
  · exact ⟨h.1, .inl ⟨h1, h0⟩⟩
  · have hg : g < w.heap.size := (World.ownsRow.lt h g (by rw [e1]; rfl)).2
    exact ⟨h.1, .inr ⟨g, cap, cur, e1, e2, (hb.block g hg).trans e3, e4⟩⟩

theorem OwnL.grown {w w0 w' : World} {B B0 : Nat} {v : Value} {l : List UInt8} (h : OwnL w B v l) (hb : Below B0 w0 w) (hg : w.grownBy w' v.ownBlock) (h0 : B0 ≤ B) (hs : B0 ≤ w.heap.size) : Below B0 w0 w' :=
  hb.grown hg hs (fun k hk => Nat.le_trans h0 (World.ownsRow.lt h k hk).1)
/-- Two slices that lie apart. -/
def Sep (v v' : Value) : Prop := v.ownBlock = none ∨ v'.ownBlock = none ∨ v.ownBlock ≠ v'.ownBlock
theorem Sep.symm {v v' : Value} (h : Sep v v') : Sep v' v := by
  rcases h with h | h | h
  · exact .inr (.inl h)
  · exact .inl h
  · exact .inr (.inr fun e => h e.symm)
theorem OwnL.other {w w1 : World} {B : Nat} {v v' : Value} {l' : List UInt8} (h' : OwnL w B v' l') (hg : w.grownBy w1 v.ownBlock) (hs : Sep v v') : OwnL w1 B v' l' := by
  refine World.ownsRow.kept h' hg ?_
  rcases hs with h | h | h
  · by_cases hn : v'.ownBlock = none
    · exact .inl hn
    · rw [h]; exact .inr hn
  · exact .inl h
  · exact .inr fun e => h e.symm
theorem Sep.next {w : World} {B : Nat} {v v1 v' : Value} {l' : List UInt8} (hs : Sep v v') (hat : v1.ownBlock = v.ownBlock ∨ v1.ownBlock = some w.heap.size) (h' : OwnL w B v' l') : Sep v1 v' := by
  rcases hat with h | h
  · unfold Sep at *; rw [h]; exact hs
  · by_cases hn : v'.ownBlock = none
    · exact .inr (.inl hn)
    · refine .inr (.inr fun e => ?_)
      have := (World.ownsRow.lt h' w.heap.size (by rw [← e, h])).2
      omega
section
variable {P : Program}
theorem run_append_nothing (w : World) (base : Nat) (t ty e : TypeId) (i : TypeInfo) (size : Nat) (ht : P.underlying t = some (.slice e)) (hi : P.info? e = some i)
    (v : Value) (n c : Nat) (xs : List Value) (hown : w.ownsRow base e size v n xs) :
    (Builtin.append_ #[t, t] ty #[v, .slice none 0 c]).run P w = .ok v w := by
  rcases hown.2 with ⟨rfl, rfl⟩ | ⟨g, cap, cur, rfl, _, _, hnc, _⟩
  · simp [Builtin.append_, run_underlying ht, sizeOf, typeInfo, hi, Builtin.lenOf, Builtin.firstCells]
  · simp [Builtin.append_, run_underlying ht, sizeOf, typeInfo, hi, Builtin.lenOf, Builtin.firstCells, hnc, storeCells]

/-- 'append(v, x...)', v the call's own row of bytes, x any slice of bytes. -/
theorem wpList_append_bytes_at {w : World} {ops : Array Oper} {rest : List Oper} {o : Oper} {a : Act} {Q : Exit → Act → World → Prop} (hgd : o.guard = none) (s x : Operand) (t : TypeId)
    (ho : o.op = .call { callee := .builtin .append, args := #[s, x], argTypes := #[t, t] })
    (base : Nat) (i : TypeInfo) (ht : P.underlying t = some (.slice 5)) (hi : P.info? 5 = some i) (hz : i.zero = some (.int .u8 0)) (hsize : i.size = 1) (hby : i.bytes = 1)
    (v : Value) (l : List UInt8) (hs : a.eval s = v) (hown : OwnL w base v l)
    (ad : Option Addr) (n c : Nat) (r : List UInt8) (hx : a.eval x = .slice ad n c) (hr : Row w ad n r) (h47 : l.length + n ≤ 140737488355328) (hbase : base ≤ w.heap.size)
    (h : ∀ v' w', OwnL w' base v' (l ++ r) → w.grownBy w' v.ownBlock → (v'.ownBlock = v.ownBlock ∨ v'.ownBlock = some w.heap.size) → wpList P ops Q rest (a.put o.dst v') w') : wpList P ops Q (o :: rest) a w := by
  obtain ⟨hl, hr⟩ := hr
  cases ad with
  | none =>
    have h0 : n = 0 := by
      rcases hr with h0 | ⟨b, o, h1, _⟩
      · exact h0
      · cases h1
    subst h0
    have hr0 : r = [] := List.eq_nil_of_length_eq_zero hl
    subst hr0
    have hrun := run_append_nothing (P := P) w base t o.type 5 i 1 ht hi v l.length c (cellsB l) hown
    refine wpList_plain hgd fun K hK' => ?_
    unfold Oper.wp
    simp [execOp, ho, resolve, invoke, builtin, hs, hx, hrun, Result.andThen]
    exact hK' _ _ (h v w (by rw [List.append_nil]; exact hown) (World.grownBy.refl _ _) (.inl rfl))
  | some ad =>
    refine wpList_append_own_at w hgd s x t ho base 5 i (.int .u8 0) 1 1 ht hi hz hsize hby rfl (by decide) v l.length (cellsB l) hs hown ad n c (cellsB r) hx (by rw [cellsB_length, hl, Nat.mul_one]) ?_ (cellsB_one r) (by unfold maxLen; omega) (by omega) hbase ?_
    · intro j u hj
      have hj' : j < r.length := by have := (List.getElem?_eq_some_iff.1 hj).1; rwa [cellsB_length] at this
      rcases hr with h0 | ⟨b, off, h1, hc⟩
      · omega
      · cases h1
        rw [Go.WideShapes.add_plain, hc j (by omega), ← cellsB_at r j hj', hj]
    · intro v' w' hown' hgrow _ hat
      refine h v' w' ?_ hgrow hat
      unfold OwnL
      rw [List.length_append, cellsB_append, hl]
      exact hown'
/-- 'append(v, x...)', v the call's own row of bytes, x any slice of bytes. -/
theorem wpList_append_bytes {w : World} {ops : Array Oper} {rest : List Oper} {o : Oper} {a : Act} {Q : Exit → Act → World → Prop} (hgd : o.guard = none) (s x : Operand) (t : TypeId)
    (ho : o.op = .call { callee := .builtin .append, args := #[s, x], argTypes := #[t, t] })
    (base : Nat) (i : TypeInfo) (ht : P.underlying t = some (.slice 5)) (hi : P.info? 5 = some i) (hz : i.zero = some (.int .u8 0)) (hsize : i.size = 1) (hby : i.bytes = 1)
    (v : Value) (l : List UInt8) (hs : a.eval s = v) (hown : OwnL w base v l)
    (ad : Option Addr) (n c : Nat) (r : List UInt8) (hx : a.eval x = .slice ad n c) (hr : Row w ad n r) (h47 : l.length + n ≤ 140737488355328) (hbase : base ≤ w.heap.size)
    (h : ∀ v' w', OwnL w' base v' (l ++ r) → w.grownBy w' v.ownBlock → wpList P ops Q rest (a.put o.dst v') w') : wpList P ops Q (o :: rest) a w :=
  wpList_append_bytes_at hgd s x t ho base i ht hi hz hsize hby v l hs hown ad n c r hx hr h47 hbase fun v' w' h1 h2 _ => h v' w' h1 h2
end
end Go.Proofs.YtbhoijnhpmkglabDoor
/- Digests: arrays of 32 bytes, as values and in memory. -/
namespace Go.Proofs.YtbhoijnhpmkglabDoor
open Go.RowKit
set_option linter.unusedVariables false
set_option linter.unusedSimpArgs false

/-- A digest as a value. -/
abbrev digestV (l : List UInt8) : Value := .agg (cellsB l).toArray
theorem cells32 {l : List UInt8} (h : l.length = 32) : (cellsB l).toArray.size = 32 := by
  have : (cellsB l).toArray.size = (cellsB l).length := rfl
  rw [this, cellsB_length, h]
/-- A digest in memory, from a place of a block on. -/
def DAt (w : World) (b o : Nat) (l : List UInt8) : Prop := w.rangeAt b o (cellsB l)
theorem DAt.cell {w : World} {b o : Nat} {l : List UInt8} (h : DAt w b o l) (i : Nat) (hi : i < l.length) : w.cell? ⟨b, o + i, none⟩ = some (.int .u8 (nth l i)) := h i _ (cellsB_at l i hi)
theorem DAt.mk {w : World} {b o : Nat} {l : List UInt8} (h : ∀ i, i < l.length → w.cell? ⟨b, o + i, none⟩ = some (.int .u8 (nth l i))) : DAt w b o l := by
  intro j v hj
  have hj' : j < l.length := by have := (List.getElem?_eq_some_iff.1 hj).1; rwa [cellsB_length] at this
  rw [h j hj', ← cellsB_at l j hj', hj]
theorem DAt.below {w w' : World} {b o B : Nat} {l : List UInt8} (h : DAt w b o l) (hb : Below B w w') (hlt : b < B) : DAt w' b o l := by
  intro j v hj
  rw [hb.cell (p := ⟨b, o + j, none⟩) hlt]
  exact h j v hj
theorem run_results_digest {P : Program} {fn : Func} {p : Tmp} {ty : TypeId} (h : fn.results = #[.cell p ty]) (tmps : Array Value) (w : World) (b o : Nat) (hp : tmps.getD p undef = .pointer (some ⟨b, o, none⟩))
    (l : List UInt8) (hc : DAt w b o l) (d : TypeDesc) (hu : P.underlying ty = some d) (hd : d.isRow = true) (hi : (P.info? ty).map (·.size) = some l.length) :
    (results fn tmps).run P w = .ok (digestV l) w := by
  have hp' : tmps[p]?.getD undef = .pointer (some ⟨b, o, none⟩) := by simpa using hp
  simp only [results, h]
  simp [Sem.run_bind, Result.andThen, hp', asAddr, run_loadVar_mid w b o ty (cellsB l) d hc hu hd (by rw [hi, cellsB_length])]
/-- A new digest variable. -/
def zeros32 : Array Value := #[.int .u8 0, .int .u8 0, .int .u8 0, .int .u8 0, .int .u8 0, .int .u8 0, .int .u8 0, .int .u8 0, .int .u8 0, .int .u8 0, .int .u8 0, .int .u8 0, .int .u8 0, .int .u8 0, .int .u8 0, .int .u8 0, .int .u8 0, .int .u8 0, .int .u8 0, .int .u8 0, .int .u8 0, .int .u8 0, .int .u8 0, .int .u8 0, .int .u8 0, .int .u8 0, .int .u8 0, .int .u8 0, .int .u8 0, .int .u8 0, .int .u8 0, .int .u8 0]
theorem OwnK.zero32 (w : World) (t : TypeId) : OwnK .u8 t (w.alloc (.cells #[.int .u8 0, .int .u8 0, .int .u8 0, .int .u8 0, .int .u8 0, .int .u8 0, .int .u8 0, .int .u8 0, .int .u8 0, .int .u8 0, .int .u8 0, .int .u8 0, .int .u8 0, .int .u8 0, .int .u8 0, .int .u8 0, .int .u8 0, .int .u8 0, .int .u8 0, .int .u8 0, .int .u8 0, .int .u8 0, .int .u8 0, .int .u8 0, .int .u8 0, .int .u8 0, .int .u8 0, .int .u8 0, .int .u8 0, .int .u8 0, .int .u8 0, .int .u8 0] t)) w.heap.size w.heap.size 32 32 (fun _ => 0) :=
  World.ownsRow_lit w zeros32 32 (Nat.le_refl _) (by unfold maxLen; omega) rfl
theorem OwnK.dat {t : TypeId} {w : World} {B g : Nat} {f : Nat → Int} {l : List UInt8} (h : OwnK .u8 t w B g 32 32 f) (hl : l.length = 32) (he : ∀ i, i < 32 → f i = nth l i) : DAt w g 0 l :=
  DAt.mk fun i hi => by rw [Nat.zero_add, h.cell i (by omega), he i (by omega)]
theorem below_setCells {B : Nat} {w0 : World} (b : Nat) (hb : B ≤ b) : ∀ (vs : List Value) (o : Nat) (w : World), Below B w0 w → Below B w0 (w.setCells b o vs)
  | [], _, _, h => h
  | v :: r, o, w, h => by
    rw [World.setCells]
    exact below_setCells b hb r (o + 1) _ (h.setCell hb _)
/-- The cells of a new digest variable are there, as long as nothing turns its block. -/
theorem there_digest {w w' : World} {t : TypeId} (h : Below (w.heap.size + 1) (w.alloc (.cells #[.int .u8 0, .int .u8 0, .int .u8 0, .int .u8 0, .int .u8 0, .int .u8 0, .int .u8 0, .int .u8 0, .int .u8 0, .int .u8 0, .int .u8 0, .int .u8 0, .int .u8 0, .int .u8 0, .int .u8 0, .int .u8 0, .int .u8 0, .int .u8 0, .int .u8 0, .int .u8 0, .int .u8 0, .int .u8 0, .int .u8 0, .int .u8 0, .int .u8 0, .int .u8 0, .int .u8 0, .int .u8 0, .int .u8 0, .int .u8 0, .int .u8 0, .int .u8 0] t)) w') : w'.there w.heap.size 0 32 := by
  intro j hj
  have o := OwnK.zero32 w t
  rw [Nat.zero_add, h.cell (p := ⟨w.heap.size, j, none⟩) (Nat.lt_succ_self _), h.frozen (p := ⟨w.heap.size, j, none⟩) (Nat.lt_succ_self _), o.cell j hj, o.frozen j]
  exact ⟨rfl, rfl⟩
theorem there_new (w : World) (t : TypeId) : (w.alloc (.cells #[.int .u8 0, .int .u8 0, .int .u8 0, .int .u8 0, .int .u8 0, .int .u8 0, .int .u8 0, .int .u8 0, .int .u8 0, .int .u8 0, .int .u8 0, .int .u8 0, .int .u8 0, .int .u8 0, .int .u8 0, .int .u8 0, .int .u8 0, .int .u8 0, .int .u8 0, .int .u8 0, .int .u8 0, .int .u8 0, .int .u8 0, .int .u8 0, .int .u8 0, .int .u8 0, .int .u8 0, .int .u8 0, .int .u8 0, .int .u8 0, .int .u8 0, .int .u8 0] t)).there w.heap.size 0 32 := there_digest (Below.refl _ _)
theorem dat_stored {w : World} {b o : Nat} {l : List UInt8} (ht : w.there b o 32) (hl : l.length = 32) : DAt (w.setCells b o (cellsB l)) b o l :=
  World.rangeAt_setCells_same _ _ _ _ (by rw [cellsB_length, hl]; exact ht)
theorem DAt.row {w : World} {b o : Nat} {l : List UInt8} (h : DAt w b o l) (hl : l.length = 32) : Row w (some ⟨b, o, none⟩) 32 l :=
  ⟨hl, .inr ⟨b, o, rfl, fun i hi => h.cell i (by omega)⟩⟩
theorem new_stored (w : World) (ob : Obj) (vs : List Value) : Below w.heap.size w ((w.alloc ob).setCells w.heap.size 0 vs) := below_setCells _ (Nat.le_refl _) _ _ _ ((Below.refl _ _).alloc (Nat.le_refl _) _)
/-- A digest that a parameter was boxed with. -/
theorem box_dat (w : World) (l : List UInt8) (t : TypeId) : DAt (w.alloc (.cells (cellsB l).toArray t)) w.heap.size 0 l := by
  refine DAt.mk fun i hi => ?_
  have h : (w.alloc (.cells (cellsB l).toArray t)).heap[w.heap.size]? = some (.cells (cellsB l).toArray t) := by
    show (w.heap.push _)[w.heap.size]? = _
    simp
  unfold World.cell?
  rw [h]
  have := cellsB_at l i hi
  simpa using this
theorem box_there (w : World) (l : List UInt8) (t : TypeId) (hl : l.length = 32) : (w.alloc (.cells (cellsB l).toArray t)).there w.heap.size 0 32 := by
  intro j hj
  refine ⟨by rw [(box_dat w l t).cell j (by omega)]; rfl, ?_⟩
  have h : (w.alloc (.cells (cellsB l).toArray t)).heap[w.heap.size]? = some (.cells (cellsB l).toArray t) := by
    show (w.heap.push _)[w.heap.size]? = _
    simp
  unfold World.frozen?
  rw [h]
  simp
theorem there_below {w w' : World} {B b o n : Nat} (h : w.there b o n) (hb : Below B w w') (hlt : b < B) : w'.there b o n := by
  intro j hj
  rw [hb.cell (p := ⟨b, o + j, none⟩) hlt, hb.frozen (p := ⟨b, o + j, none⟩) hlt]
  exact h j hj
end Go.Proofs.YtbhoijnhpmkglabDoor
/- Arrays of words of 32 bits, as values and in memory. -/
namespace Go.Proofs.YtbhoijnhpmkglabDoor
open Go.RowKit
set_option linter.unusedVariables false
set_option linter.unusedSimpArgs false

def cellsW (l : List Nat) : List Value := l.map fun (x : Nat) => Value.int .u32 ((x : Nat) : Int)
theorem cellsW_length (l : List Nat) : (cellsW l).length = l.length := by simp [cellsW]
theorem cellsW_at (l : List Nat) (i : Nat) (h : i < l.length) : (cellsW l)[i]? = some (.int .u32 ((at' l i : Nat) : Int)) := by
  unfold cellsW at'
  simp [List.getElem?_eq_getElem h, List.getD_eq_getElem?_getD]
theorem cellsW_one (l : List Nat) : ∀ v ∈ cellsW l, v.oneCell' = true := by
  intro v hv
  obtain ⟨i, _, rfl⟩ := List.mem_map.1 hv
  rfl
theorem cellsW_size (l : List Nat) : (cellsW l).toArray.size = l.length := by
  show (cellsW l).length = _
  exact cellsW_length l
theorem cellsB_size (l : List UInt8) : (cellsB l).toArray.size = l.length := by
  show (cellsB l).length = _
  exact cellsB_length l
/-- Words in memory, from a place of a block on. -/
def WAt (w : World) (b o : Nat) (l : List Nat) : Prop := w.rangeAt b o (cellsW l)
theorem WAt.cell {w : World} {b o : Nat} {l : List Nat} (h : WAt w b o l) (i : Nat) (hi : i < l.length) : w.cell? ⟨b, o + i, none⟩ = some (.int .u32 ((at' l i : Nat) : Int)) := h i _ (cellsW_at l i hi)
theorem WAt.mk {w : World} {b o : Nat} {l : List Nat} (h : ∀ i, i < l.length → w.cell? ⟨b, o + i, none⟩ = some (.int .u32 ((at' l i : Nat) : Int))) : WAt w b o l := by
  intro j v hj
  have hj' : j < l.length := by have := (List.getElem?_eq_some_iff.1 hj).1; rwa [cellsW_length] at this
  rw [h j hj', ← cellsW_at l j hj', hj]
theorem range_below {w w' : World} {b o B : Nat} {cs : List Value} (h : w.rangeAt b o cs) (hb : Below B w w') (hlt : b < B) : w'.rangeAt b o cs := by
  intro j v hj
  rw [hb.cell (p := ⟨b, o + j, none⟩) hlt]
  exact h j v hj
theorem range_set {w : World} {b o : Nat} {cs : List Value} (h : w.rangeAt b o cs) (g j : Nat) (v : Value) (hne : b ≠ g) : (w.setCell ⟨g, j, none⟩ v).rangeAt b o cs := World.rangeAt_setCells_apart h g j [v] (.inl hne)
/-- What a parameter was boxed with. -/
theorem box_range (w : World) (cs : List Value) (t : TypeId) : (w.alloc (.cells cs.toArray t)).rangeAt w.heap.size 0 cs := by
  intro j v hj
  have h : (w.alloc (.cells cs.toArray t)).heap[w.heap.size]? = some (.cells cs.toArray t) := by
    show (w.heap.push _)[w.heap.size]? = _
    simp
  unfold World.cell?
  rw [h]
  simpa using hj
theorem box_rangeAt (w : World) (cs : List Value) (t : TypeId) (g : Nat) (hg : w.heap.size = g) : (w.alloc (.cells cs.toArray t)).rangeAt g 0 cs := by
  subst hg
  exact box_range w cs t
theorem alloc_range (w : World) (cs : Array Value) (t : TypeId) : (w.alloc (.cells cs t)).rangeAt w.heap.size 0 cs.toList := by
  have := box_range w cs.toList t
  simpa using this
theorem alloc_there (w : World) (cs : Array Value) (t : TypeId) (n : Nat) (hn : n ≤ cs.size) : (w.alloc (.cells cs t)).there w.heap.size 0 n := by
  intro j hj
  have h : (w.alloc (.cells cs t)).heap[w.heap.size]? = some (.cells cs t) := by
    show (w.heap.push _)[w.heap.size]? = _
    simp
  refine ⟨?_, ?_⟩
  · rw [alloc_range w cs t j cs[j] (by simp)]
    rfl
  · unfold World.frozen?
    rw [h]
    simp
/-- A new row of n numbers. -/
theorem OwnK.new {k : IntKind} (w : World) (cs : Array Value) (t : TypeId) (n : Nat) (hn : n ≤ 100000) (f : Nat → Int) (h : cs.toList = (List.range n).map fun i => Value.int k (f i)) :
    OwnK k t (w.alloc (.cells cs t)) w.heap.size w.heap.size n n f := by
  have hs : cs.size = n := by rw [← Array.length_toList, h]; simp
  have := World.ownsRow_lit (e := t) (base := w.heap.size) (size := 1) w cs n (Nat.le_refl _) (by unfold maxLen; omega) (by omega)
  rw [h] at this
  exact this
theorem OwnK.newAt {k : IntKind} (w : World) (cs : Array Value) (t : TypeId) (n : Nat) (hn : n ≤ 100000) (f : Nat → Int) (g : Nat) (hg : w.heap.size = g) (h : cs.toList = (List.range n).map fun i => Value.int k (f i)) :
    OwnK k t (w.alloc (.cells cs t)) g g n n f := by
  subst hg
  exact OwnK.new w cs t n hn f h
theorem alloc_thereAt (w : World) (cs : Array Value) (t : TypeId) (n g : Nat) (hg : w.heap.size = g) (hn : n = cs.size) : (w.alloc (.cells cs t)).there g 0 n := by
  subst hg
  exact alloc_there w cs t n (Nat.le_of_eq hn)
theorem OwnK.wat {t : TypeId} {w : World} {B g n cap : Nat} {f : Nat → Int} {l : List Nat} (h : OwnK .u32 t w B g n cap f) (hl : l.length = n) (he : ∀ i, i < n → f i = ((at' l i : Nat) : Int)) : WAt w g 0 l :=
  WAt.mk fun i hi => by rw [Nat.zero_add, h.cell i (by omega), he i (by omega)]
theorem OwnK.bat {t : TypeId} {w : World} {B g n cap : Nat} {f : Nat → Int} {l : List UInt8} (h : OwnK .u8 t w B g n cap f) (hl : l.length = n) (he : ∀ i, i < n → f i = nth l i) : DAt w g 0 l :=
  DAt.mk fun i hi => by rw [Nat.zero_add, h.cell i (by omega), he i (by omega)]
/-- An answer that lies in a variable. -/
theorem run_results_row {P : Program} {fn : Func} {p : Tmp} {ty : TypeId} (h : fn.results = #[.cell p ty]) (tmps : Array Value) (w : World) (b o : Nat) (hp : tmps.getD p undef = .pointer (some ⟨b, o, none⟩))
    (cs : List Value) (hc : w.rangeAt b o cs) (d : TypeDesc) (hu : P.underlying ty = some d) (hd : d.isRow = true) (hi : (P.info? ty).map (·.size) = some cs.length) :
    (results fn tmps).run P w = .ok (.agg cs.toArray) w := by
  have hp' : tmps[p]?.getD undef = .pointer (some ⟨b, o, none⟩) := by simpa using hp
  simp only [results, h]
  simp [Sem.run_bind, Result.andThen, hp', asAddr, run_loadVar_mid w b o ty cs d hc hu hd hi]
/-- A place of an array as a value. -/
theorem run_index_int {P : Program} (w : World) (t e : TypeId) (n : Nat) (k : IntKind) (i0 : TypeInfo) (cs : Array Value) (i : Nat) (v : Value) (hn : i < n) (ht : P.underlying t = some (.array n e)) (he : P.underlying e = some (.int k)) (hi : P.info? e = some i0) (hs : i0.size = 1) (hv : cs[i]? = some v) :
    (Instr.index t (.agg cs) (.int .i64 (i : Int))).run P w = .ok v w := by
  have h1 : (0 : Int) ≤ (i : Int) ∧ (i : Int) < (n : Int) := by omega
  simp [Instr.index, asIntOf, run_underlying ht, sizeOf, typeInfo, hi, hs, part, isAgg, run_underlying he, Result.andThen, h1, hv, hn, Sem.run_bind]
/-- A literal of an array or a struct, whose cells are told. -/
theorem wpList_buildC {P : Program} {ops : Array Oper} {rest : List Oper} {o : Oper} {a : Act} {w : World} {Q : Exit → Act → World → Prop} (hg : o.guard = none) (t : TypeId) (parts : Array (Nat × Operand)) (ho : o.op = .build t parts) (cells : Array Value)
    (hf : P.built t (parts.map fun (i, x) => (i, a.eval x)).toList = some cells)
    (h : wpList P ops Q rest (a.put o.dst (.agg cells)) w) : wpList P ops Q (o :: rest) a w :=
  wpList_build hg t parts ho (by rw [hf]; rfl) (by rw [hf]; exact h)
theorem wpList_buildE {P : Program} {ops : Array Oper} {rest : List Oper} {o : Oper} {a : Act} {w : World} {Q : Exit → Act → World → Prop} (hg : o.guard = none) (t : TypeId) (parts : Array (Nat × Operand)) (ho : o.op = .build t parts) (cells cells' : Array Value) (he : cells = cells')
    (hf : P.built t (parts.map fun (i, x) => (i, a.eval x)).toList = some cells)
    (h : wpList P ops Q rest (a.put o.dst (.agg cells')) w) : wpList P ops Q (o :: rest) a w := by
  subst he
  exact wpList_buildC hg t parts ho cells hf h
/-- A new variable, whose cells are told. -/
theorem wpList_allocE {P : Program} {ops : Array Oper} {rest : List Oper} {o : Oper} {a : Act} {w : World} {Q : Exit → Act → World → Prop} (hg : o.guard = none) (t : TypeId) (ho : o.op = .alloc t) (cells : Array Value) (hz : (P.info? t).map (·.zero) = some (some (.agg cells))) (g : Nat) (hgs : w.heap.size = g) (w1 : World) (hw : w.alloc (.cells cells t) = w1)
    (h : wpList P ops Q rest (a.put o.dst (.pointer (some ⟨g, 0, none⟩))) w1) : wpList P ops Q (o :: rest) a w := by
  subst hw hgs
  refine wpList_plain hg fun K hK => ?_
  have hK := hK _ _ h
  cases hi : P.info? t with
  | none => simp [hi] at hz
  | some i =>
    have hz' : i.zero = some (.agg cells) := by simpa [hi] using hz
    unfold Oper.wp
    simp [execOp, ho, Instr.alloc, zeroValue, typeInfo, hi, hz', newVar, newRow, newObj, Value.cells, Result.andThen, Sem.run_bind]
    exact hK
end Go.Proofs.YtbhoijnhpmkglabDoor
