/- Texts of this claim, joined: Rwots, OwnI, Digs, Rnib. -/
import Derived.Test.YtdplajhebapkgaaDoorJ08
import Derived.Test.YtdplajhebapkgaaDoorJ02
/- The contracts of oathbookref1's WotsSecret and WotsPublic. -/
namespace Go.Proofs.YtdplajhebapkgaaDoor
open Go.RowKit
set_option linter.unusedVariables false
set_option linter.unusedSimpArgs false

theorem wotsEndsL_len (seed : List UInt8) (n : Nat) : (wotsEndsL seed n).length = n := by simp [wotsEndsL]
theorem wotsEndsL_succ (seed : List UInt8) (n : Nat) : wotsEndsL seed n ++ [walkL (wotsSecL seed n) 15] = wotsEndsL seed (n + 1) := by
  unfold wotsEndsL; rw [List.range_succ, List.map_append]; rfl

set_option maxRecDepth 100000 in
set_option maxHeartbeats 1000000 in
theorem rwotsSecret_any (seed : List UInt8) (i : Nat) (w : World) (hs : seed.length = 32) (hi : i < 256) :
    Calls Tryd.prog 18 #[digestV seed, .int .i64 (i : Int)] w fun e w' => e = .returned (digestV (wotsSecL seed i)) ∧ Below w.heap.size w w' := by
  obtain ⟨w2, hw2⟩ : ∃ w2, (w.alloc (.cells (cellsB seed).toArray 23)).alloc (.cells (cellsB zD).toArray 23) = w2 := ⟨_, rfl⟩
  have hs1 : (w.alloc (.cells (cellsB seed).toArray 23)).heap.size = w.heap.size + 1 := by simp
  have hs2 : w2.heap.size = w.heap.size + 1 + 1 := by rw [← hw2]; simp
  have HD2 : Hid (DAt w2 w.heap.size 0 seed) := by rw [← hw2]; exact World.rangeAt_alloc (box_dat w seed _) _
  have HT2 : Hid (w2.there (w.heap.size + 1) 0 32) := by rw [← hw2]; exact alloc_thereAt _ _ _ 32 _ hs1 zD_size.symm
  have HB2 : Hid (Below w.heap.size w w2) := by rw [← hw2]; exact ((Below.refl _ _).alloc (Nat.le_refl _) _).alloc (by simp) _
  have hR3 : Row (w2.alloc (.cells #[.int .u8 5, .int .u8 (i : Int)] 5)) (some ⟨w2.heap.size, 0, none⟩) 2 [5, UInt8.ofNat i] := by
    refine Row.litL _ _ _ _ ?_ 2 rfl
    have e1 : (UInt8.ofNat i).toNat = i := by rw [UInt8.toNat_ofNat']; omega
    simp [cellsB, e1]
  have HR3 : Hid (Row (w2.alloc (.cells #[.int .u8 5, .int .u8 (i : Int)] 5)) (some ⟨w.heap.size + 1 + 1, 0, none⟩) 2 [5, UInt8.ofNat i]) := by rw [← hs2]; exact hR3
  have hb3 : Below w2.heap.size w2 (w2.alloc (.cells #[.int .u8 5, .int .u8 (i : Int)] 5)) := (Below.refl _ _).alloc (Nat.le_refl _) _
  have HB3 : Hid (Below w.heap.size w (w2.alloc (.cells #[.int .u8 5, .int .u8 (i : Int)] 5))) := below_trans HB2.out hb3
  have HT3 : Hid ((w2.alloc (.cells #[.int .u8 5, .int .u8 (i : Int)] 5)).there (w.heap.size + 1) 0 32) := there_below HT2.out hb3 (by omega)
  clear hR3 hb3
  have i0 : (0 : Int) ≤ (i : Int) := by omega
  have i1 : (i : Int) < 256 := by omega
  go_enter Tryd.func18, Tryd.ntmps18
  go_wp2_with (first
    | (refine wpList_allocE (by rfl) 23 (by rfl) (cellsB zD).toArray Tryd.zeroDg (w.heap.size + 1) hs1 w2 hw2 ?_)
    | (refine wpList_load_mid (by rfl) 23 (.tmp 2) (by rfl) w.heap.size 0 (by rfl) (cellsB seed) _ HD2.out Tryd.underlying23 (by rfl) (by rw [cellsB_length, hs]; exact Tryd.sizeDg) ?_))
  refine (rkeyed_any seed _ 2 2 _ _ hs HR3.out (by omega)).mono ?_
  rintro e w4 ⟨rfl, hb4⟩
  have hE : macL seed [5, UInt8.ofNat i] = wotsSecL seed i := rfl
  rw [hE]
  have HB4 : Hid (Below w.heap.size w w4) := below_trans HB3.out hb4
  have HT4 : Hid (w4.there (w.heap.size + 1) 0 32) := there_below HT3.out hb4 (by simp; omega)
  have hlen := wotsSecL_length seed i
  clear hb4 HB2 HT2 HD2 hw2 hs2 hs1 HR3 HB3 HT3 hE
  generalize hD : wotsSecL seed i = D at *
  have HD : Hid (wotsSecL seed i = D) := hD
  clear hD
  go_wp2_with (refine wpList_store_mid (by rfl) 23 (.tmp 4) (.tmp 9) (by rfl) (w.heap.size + 1) 0 (cellsB D).toArray (by rfl) (by rfl) (by rw [cellsB_size, hlen]; exact HT4.out) (by rw [cellsB_size, hlen]; exact Tryd.sizeDg) (all_oneCell_toArray (cellsB_one _)) ?_)
  refine bodyPost_ret (v := digestV D) (run_results_row Tryd.results18 _ _ (w.heap.size + 1) 0 (by rfl) (cellsB D) (World.rangeAt_setCells_same _ _ _ _ (by rw [cellsB_length, hlen]; exact HT4.out)) _ Tryd.underlying23 (by rfl) (by rw [cellsB_length, hlen]; exact Tryd.sizeDg)) rfl ⟨by rw [HD.out], ?_⟩
  exact below_setCells _ (by omega) _ _ _ HB4.out

set_option maxRecDepth 100000 in
set_option maxHeartbeats 1000000 in
theorem rwotsPublic_any (seed : List UInt8) (w : World) (hs : seed.length = 32) :
    Calls Tryd.prog 13 #[digestV seed] w fun e w' => e = .returned (digestV (wotsPubL seed)) ∧ Below w.heap.size w w' := by
  obtain ⟨iD, hiD, hzD0, hzD1, hzD2⟩ := info_parts Tryd.infoDg
  obtain ⟨w2, hw2⟩ : ∃ w2, (w.alloc (.cells (cellsB seed).toArray 23)).alloc (.cells (cellsB zD).toArray 23) = w2 := ⟨_, rfl⟩
  have hs1 : (w.alloc (.cells (cellsB seed).toArray 23)).heap.size = w.heap.size + 1 := by simp
  have hs2 : w2.heap.size = w.heap.size + 1 + 1 := by rw [← hw2]; simp
  have HS2 : Hid (w2.heap.size = w.heap.size + 1 + 1) := hs2
  have HD2 : Hid (DAt w2 w.heap.size 0 seed) := by rw [← hw2]; exact World.rangeAt_alloc (box_dat w seed _) _
  have HT2 : Hid (w2.there (w.heap.size + 1) 0 32) := by rw [← hw2]; exact alloc_thereAt _ _ _ 32 _ hs1 zD_size.symm
  have HB2 : Hid (Below w.heap.size w w2) := by rw [← hw2]; exact ((Below.refl _ _).alloc (Nat.le_refl _) _).alloc (by simp) _
  clear hs2
  go_enter Tryd.func13, Tryd.ntmps13
  go_wp2_with (refine wpList_allocE (by rfl) 23 (by rfl) (cellsB zD).toArray Tryd.zeroDg (w.heap.size + 1) hs1 w2 hw2 ?_)
  clear hw2 hs1
  go_loopw [3, 4] (fun v i wr => ∃ k : Nat, k ≤ 67 ∧ i = .int .i64 (k : Int) ∧ OwnD wr w2.heap.size v (wotsEndsL seed k) ∧ Below w2.heap.size w2 wr) (fun _ i _ => 67 - (intOf i).toNat)
  case atStart => exact ⟨0, Nat.zero_le _, rfl, OwnD.nil _ _, Below.refl _ _⟩
  case round =>
    obtain ⟨k, hk, rfl, hO, hB⟩ := hrel
    have hs2 := HS2.out
    by_cases hlt : k < 67
    · have HO : Hid (OwnD wr w2.heap.size u3 (wotsEndsL seed k)) := hO
      have HB : Hid (Below w2.heap.size w2 wr) := hB
      have HDr : Hid (DAt wr w.heap.size 0 seed) := HD2.out.below hB (by omega)
      have HSN : Hid (wotsEndsL seed k ++ [walkL (wotsSecL seed k) 15] = wotsEndsL seed (k + 1)) := wotsEndsL_succ seed k
      have HLN : Hid ((wotsEndsL seed k).length = k) := wotsEndsL_len seed k
      clear hO hB hs2
      go_wp2_with (refine wpList_load_mid (by rfl) 23 (.tmp 1) (by rfl) w.heap.size 0 (by rfl) (cellsB seed) _ HDr.out Tryd.underlying23 (by rfl) (by rw [cellsB_length, hs]; exact Tryd.sizeDg) ?_)
      refine (rwotsSecret_any seed k wr hs (by omega)).mono ?_
      rintro e w3 ⟨rfl, hb3⟩
      have hl3 := wotsSecL_length seed k
      generalize wotsSecL seed k = X at *
      go_wp2_with fail
      refine (rwalk_any X 15 w3 hl3 (by omega)).mono ?_
      rintro e w4 ⟨rfl, hb4⟩
      have hl4 := walkL_length hl3 15
      have b4 := below_trans hb3 hb4
      have HO4 : Hid (OwnD w4 w2.heap.size u3 (wotsEndsL seed k)) := OwnD.below HO.out b4
      have HB4 : Hid (Below w2.heap.size w2 w4) := HB.out.trans (b4.mono HB.out.size)
      clear hb3 hb4 b4 HO HB HDr
      generalize walkL X 15 = Y at *
      have hs4 := HB4.out.size
      go_wp2_with (first
        | (refine wpList_build1 (by rfl) (.tmp 13) 24 (by rfl) 23 (.agg zeros32) iD Y hl4 (by rfl) Tryd.underlying24 hiD hzD0 (by rfl) hzD1 ?_)
        | (at_builtin; refine wpList_append_digests (by rfl) (.tmp 9) (.tmp 14) (by rfl) w2.heap.size u3 (wotsEndsL seed k) (by rfl) (OwnD.alloc HO4.out _) ⟨w4.heap.size, 0, none⟩ 1 1 [Y] (by rfl) (DRow.lit1 w4 Y _ hl4) (by omega) (by rw [HLN.out]; omega) (by simp; omega) ?_; intro v5 w5 ho5 hg5 _))
      have B5 := OwnD.grown (OwnD.alloc HO4.out _) (Below.alloc HB4.out hs4 _) hg5 (Nat.le_refl _) (by simp; omega)
      rw [HSN.out] at ho5
      clear hg5 HO4 HB4 HSN HLN
      go_wp2
      go_roundw
      case rel => exact ⟨k + 1, by omega, by go_num, ho5, B5⟩
      case measure => simp [intOf]; omega
    · obtain rfl : k = 67 := by omega
      obtain ⟨a5, c5, rfl, R5, hc5⟩ := OwnD.form hO
      have hl5 := wotsEndsL_len seed 67
      rw [hl5] at R5
      rw [hl5]
      have HR5 : Hid (DRow wr a5 67 (wotsEndsL seed 67)) := R5
      have HB : Hid (Below w2.heap.size w2 wr) := hB
      have hE : shaL (7 :: (wotsEndsL seed 67).flatten) = wotsPubL seed := rfl
      have HE : Hid (shaL (7 :: (wotsEndsL seed 67).flatten) = wotsPubL seed) := hE
      clear hO hB R5 hl5 hE hc5
      generalize wotsEndsL seed 67 = L at *
      go_wp2_with fail
      refine (rof_any 7 a5 67 c5 L wr HR5.out (by omega)).mono ?_
      rintro e w6 ⟨rfl, hb6⟩
      rw [HE.out]
      have HB6 : Hid (Below w2.heap.size w2 w6) := HB.out.trans (hb6.mono HB.out.size)
      have HT6 : Hid (w6.there (w.heap.size + 1) 0 32) := there_below HT2.out HB6.out (by omega)
      have hlen : (wotsPubL seed).length = 32 := by rw [← HE.out]; exact shaL_length _
      clear hb6 HB HR5 HE
      generalize hD : wotsPubL seed = D at *
      have HD : Hid (wotsPubL seed = D) := hD
      clear hD
      go_wp2_with (refine wpList_store_mid (by rfl) 23 (.tmp 2) (.tmp 17) (by rfl) (w.heap.size + 1) 0 (cellsB D).toArray (by rfl) (by rfl) (by rw [cellsB_size, hlen]; exact HT6.out) (by rw [cellsB_size, hlen]; exact Tryd.sizeDg) (all_oneCell_toArray (cellsB_one _)) ?_)
      refine bodyPost_ret (v := digestV D) (run_results_row Tryd.results13 _ _ (w.heap.size + 1) 0 (by rfl) (cellsB D) (World.rangeAt_setCells_same _ _ _ _ (by rw [cellsB_length, hlen]; exact HT6.out)) _ Tryd.underlying23 (by rfl) (by rw [cellsB_length, hlen]; exact Tryd.sizeDg)) rfl ⟨by rw [HD.out], ?_⟩
      exact below_setCells _ (by omega) _ _ _ (HB2.out.trans (HB6.out.mono (by omega)))
end Go.Proofs.YtdplajhebapkgaaDoor
/- Slices of ints: read, and rows that a call itself made and appends to. -/
namespace Go.Proofs.YtdplajhebapkgaaDoor
open Go.RowKit
set_option linter.unusedVariables false
set_option linter.unusedSimpArgs false

def cellsI (l : List Int) : List Value := l.map fun x => Value.int .i64 x
theorem cellsI_length (l : List Int) : (cellsI l).length = l.length := by simp [cellsI]
theorem cellsI_append (l r : List Int) : cellsI (l ++ r) = cellsI l ++ cellsI r := by simp [cellsI]
theorem cellsI_at (l : List Int) (i : Nat) (h : i < l.length) : (cellsI l)[i]? = some (.int .i64 (l.getD i 0)) := by
  unfold cellsI
  simp [List.getElem?_eq_getElem h, List.getD_eq_getElem?_getD]
theorem cellsI_one (l : List Int) : ∀ u ∈ cellsI l, u.oneCell' = true := by
  intro u hu
  obtain ⟨i, _, rfl⟩ := List.mem_map.1 hu
  rfl
/-- A slice of n ints at a reads as the list l. -/
def IRow (w : World) (a : Option Addr) (n : Nat) (l : List Int) : Prop :=
  l.length = n ∧ (n = 0 ∨ ∃ b o, a = some ⟨b, o, none⟩ ∧ ∀ i, i < n → w.cell? ⟨b, o + i, none⟩ = some (.int .i64 (l.getD i 0)))
theorem IRow.nil (w : World) : IRow w none 0 [] := ⟨rfl, .inl rfl⟩
theorem IRow.below {w w' : World} {a : Option Addr} {n : Nat} {l : List Int} (h : IRow w a n l) (hb : Below w.heap.size w w') : IRow w' a n l := by
  obtain ⟨h1, h2⟩ := h
  refine ⟨h1, ?_⟩
  rcases h2 with h2 | ⟨b, o, ha, hc⟩
  · exact .inl h2
  · exact .inr ⟨b, o, ha, fun i hi => (hb.cell (p := ⟨b, o + i, none⟩) (cell_block (hc i hi))).trans (hc i hi)⟩
theorem IRow.lit (w : World) (cs : Array Value) (t : TypeId) (l : List Int) (h : cs.toList = cellsI l) (n : Nat) (hn : l.length = n) : IRow (w.alloc (.cells cs t)) (some ⟨w.heap.size, 0, none⟩) n l := by
  refine ⟨hn, .inr ⟨w.heap.size, 0, rfl, fun i hi => ?_⟩⟩
  have hb : (w.alloc (.cells cs t)).heap[w.heap.size]? = some (.cells cs t) := by
    show (w.heap.push _)[w.heap.size]? = _
    simp
  have := cellsI_at l i (by omega)
  rw [← h] at this
  unfold World.cell?
  rw [hb, Nat.zero_add]
  simpa using this
/-- The call's own slice of ints v reads as l. -/
def OwnI (w : World) (B : Nat) (v : Value) (l : List Int) : Prop := w.ownsRow B 3 1 v l.length (cellsI l)
theorem OwnI.nil (w : World) (B : Nat) : OwnI w B (.slice none 0 0) [] := World.ownsRow_nil _ _ _ _
theorem OwnI.form {w : World} {B : Nat} {v : Value} {l : List Int} (h : OwnI w B v l) : ∃ a cap, v = .slice a l.length cap ∧ IRow w a l.length l ∧ l.length ≤ cap := by
  rcases h.2 with ⟨rfl, h0⟩ | ⟨g, cap, cur, rfl, h1, h2, h3, _⟩
  · exact ⟨none, 0, by rw [h0], ⟨rfl, .inl h0⟩, by omega⟩
  · refine ⟨_, cap, rfl, ⟨rfl, .inr ⟨g, 0, rfl, fun i hi => ?_⟩⟩, h3⟩
    rw [Nat.zero_add, World.ownsRow.cellAt h i (by omega), cellsI_at l i hi]
theorem OwnI.below {w w' : World} {B : Nat} {v : Value} {l : List Int} (h : OwnI w B v l) (hb : Below w.heap.size w w') : OwnI w' B v l := by
  rcases h.2 with ⟨h1, h0⟩ | ⟨g, cap, cur, e1, e2, e3, e4⟩
  · exact ⟨h.1, .inl ⟨h1, h0⟩⟩
  · have hg : g < w.heap.size := (World.ownsRow.lt h g (by rw [e1]; rfl)).2
    exact ⟨h.1, .inr ⟨g, cap, cur, e1, e2, (hb.block g hg).trans e3, e4⟩⟩
theorem OwnI.grown {w w0 w' : World} {B B0 : Nat} {v : Value} {l : List Int} (h : OwnI w B v l) (hb : Below B0 w0 w) (hg : w.grownBy w' v.ownBlock) (h0 : B0 ≤ B) (hs : B0 ≤ w.heap.size) : Below B0 w0 w' :=
  hb.grown hg hs (fun k hk => Nat.le_trans h0 (World.ownsRow.lt h k hk).1)
theorem OwnI.alloc {w : World} {B : Nat} {v : Value} {l : List Int} (h : OwnI w B v l) (o : Obj) : OwnI (w.alloc o) B v l := h.below ((Below.refl _ _).alloc (Nat.le_refl _) _)
theorem Tryd.infoIntO : (Tryd.prog.info? 3).map (fun i => (i.zero, i.size, i.bytes)) = some (some (.int .i64 0), 1, 8) := by kernel_rfl
/-- 'append(v, x...)', v the call's own row of ints, x a slice of some. -/
theorem wpList_append_ints {w : World} {ops : Array Oper} {rest : List Oper} {o : Oper} {a : Act} {Q : Exit → Act → World → Prop} (hgd : o.guard = none) (s x : Operand)
    (ho : o.op = .call { callee := .builtin .append, args := #[s, x], argTypes := #[26, 26] })
    (base : Nat) (v : Value) (l : List Int) (hs : a.eval s = v) (hown : OwnI w base v l)
    (ad : Addr) (n c : Nat) (r : List Int) (hx : a.eval x = .slice (some ad) n c) (hr : IRow w (some ad) n r) (hn0 : 0 < n) (h47 : (l.length + n) * 8 ≤ 140737488355328) (hbase : base ≤ w.heap.size)
    (h : ∀ v' w', OwnI w' base v' (l ++ r) → w.grownBy w' v.ownBlock → (v'.ownBlock = v.ownBlock ∨ v'.ownBlock = some w.heap.size) → wpList Tryd.prog ops Q rest (a.put o.dst v') w') : wpList Tryd.prog ops Q (o :: rest) a w := by
  obtain ⟨i0, hi, hz0, hz1, hz2⟩ := info_parts Tryd.infoIntO
  obtain ⟨hl, h1 | ⟨b, off, e1, hc⟩⟩ := hr
  · omega
  cases e1
  refine wpList_append_own_at w hgd s x 26 ho base 3 i0 (.int .i64 0) 1 8 Tryd.underlying26 hi hz0 hz1 hz2 rfl (by decide) v l.length (cellsI l) hs hown ⟨b, off, none⟩ n c (cellsI r) hx (by rw [cellsI_length, hl]; omega) ?_ (cellsI_one _) (by unfold maxLen; omega) h47 hbase ?_
  · intro j u hj
    have hj' : j < r.length := by have := (List.getElem?_eq_some_iff.1 hj).1; rwa [cellsI_length] at this
    rw [Go.WideShapes.add_plain, hc j (by omega), ← hj, cellsI_at r j hj']
  · intro v' w' hown' hgrow _ hat
    refine h v' w' ?_ hgrow hat
    unfold OwnI
    rw [List.length_append, cellsI_append, hl]
    exact hown'
end Go.Proofs.YtdplajhebapkgaaDoor
/- Plain facts on the digits that a digest is signed by, as lists of numbers. -/
namespace Go.Proofs.YtdplajhebapkgaaDoor
open Go.RowKit
set_option linter.unusedVariables false
set_option linter.unusedSimpArgs false

/-- The first n digits that a digest is signed by. -/
def digsL (m : List UInt8) (n : Nat) : List Int := (List.range n).map fun i => (digL m i : Int)
theorem digsL_len (m : List UInt8) (n : Nat) : (digsL m n).length = n := by simp [digsL]
theorem digsL_at (m : List UInt8) (n i : Nat) (h : i < n) : (digsL m n).getD i 0 = (digL m i : Int) := by
  simp [digsL, List.getD_eq_getElem?_getD, h]
def nibsL (m : List UInt8) (n : Nat) : List Int := (List.range n).map fun i => (nibL m i : Int)
theorem nibsL_len (m : List UInt8) (n : Nat) : (nibsL m n).length = n := by simp [nibsL]
theorem nibsL_succ (m : List UInt8) (n : Nat) : nibsL m n ++ [(nibL m n : Int)] = nibsL m (n + 1) := by
  unfold nibsL; rw [List.range_succ, List.map_append]; rfl
theorem digs_nibs (m : List UInt8) : nibsL m 64 ++ [((lackL m 64 / 256 : Nat) : Int), ((lackL m 64 / 16 % 16 : Nat) : Int), ((lackL m 64 % 16 : Nat) : Int)] = digsL m 67 := by
  have e : nibsL m 64 = digsL m 64 := by
    unfold nibsL digsL
    refine List.map_congr_left fun i hi => ?_
    have hi' : i < 64 := List.mem_range.1 hi
    unfold digL
    rw [if_pos hi']
  rw [e]
  unfold digsL
  rw [show (67 : Nat) = 64 + 1 + 1 + 1 from rfl, List.range_succ, List.range_succ, List.range_succ, List.map_append, List.map_append, List.map_append, List.append_assoc, List.append_assoc]
  rfl
end Go.Proofs.YtdplajhebapkgaaDoor
/- The contract of oathbookref1.Nibbles. -/
namespace Go.Proofs.YtdplajhebapkgaaDoor
open Go.RowKit
set_option linter.unusedVariables false
set_option linter.unusedSimpArgs false

set_option maxRecDepth 100000 in
set_option maxHeartbeats 1000000 in
theorem rnib_any (m : List UInt8) (w : World) (hm : m.length = 32) :
    Calls Tryd.prog 8 #[digestV m] w fun e w' => (∃ a c, e = .returned (.slice a 67 c) ∧ 67 ≤ c ∧ IRow w' a 67 (digsL m 67)) ∧ Below w.heap.size w w' := by
  obtain ⟨w2, hw2⟩ : ∃ w2, w.alloc (.cells (cellsB m).toArray 23) = w2 := ⟨_, rfl⟩
  have HS2 : Hid (w2.heap.size = w.heap.size + 1) := by unfold Hid; rw [← hw2]; simp
  have HM2 : Hid (DAt w2 w.heap.size 0 m) := by rw [← hw2]; exact box_dat w m _
  have HB2 : Hid (Below w.heap.size w w2) := by rw [← hw2]; exact (Below.refl _ _).alloc (Nat.le_refl _) _
  go_enter Tryd.func8, Tryd.ntmps8
  go_wp2_with fail
  try rw [hw2]
  clear hw2
  go_loopw [3, 4, 5] (fun v s i wr => ∃ k : Nat, k ≤ 64 ∧ i = .int .i64 (k : Int) ∧ s = .int .i64 (lackL m k : Nat) ∧ OwnI wr w2.heap.size v (nibsL m k) ∧ Below w2.heap.size w2 wr) (fun _ _ i _ => 64 - (intOf i).toNat)
  case atStart => exact ⟨0, Nat.zero_le _, rfl, rfl, OwnI.nil _ _, Below.refl _ _⟩
  case round =>
    obtain ⟨k, hk, rfl, rfl, hO, hB⟩ := hrel
    have hs2 := HS2.out
    have hll := lackL_le m k
    by_cases hlt : k < 64
    · have HO : Hid (OwnI wr w2.heap.size u3 (nibsL m k)) := hO
      have HB : Hid (Below w2.heap.size w2 wr) := hB
      have HSN : Hid (nibsL m k ++ [(nibL m k : Int)] = nibsL m (k + 1)) := nibsL_succ m k
      have HLN : Hid ((nibsL m k).length = k) := nibsL_len m k
      have HLK : Hid (lackL m (k + 1) = lackL m k + (15 - nibL m k)) := rfl
      have HNB : Hid (nibL m k = if k % 2 = 1 then (m.getD (k / 2) 0).toNat % 16 else (m.getD (k / 2) 0).toNat / 16) := rfl
      have hnl := nibL_lt m k
      obtain ⟨e1, e2, e3, e4⟩ := half_int k
      have hc := (HM2.out.below hB (by omega)).cell (k / 2) (by omega)
      rw [Nat.zero_add] at hc
      unfold nth at hc
      have hx := (m.getD (k / 2) 0).toNat_lt
      have hq : k / 2 < 32 := by omega
      have hr : k % 2 < 2 := by omega
      have hsz := hB.size
      clear hO hB
      generalize (m.getD (k / 2) 0).toNat = x at *
      generalize k / 2 = q at *
      generalize k % 2 = r at *
      have q0 : (0 : Int) ≤ (q : Int) := by omega
      have q1 : (q : Int) < 32 := by omega
      have d1 : (x : Int).tdiv 16 = ((x / 16 : Nat) : Int) := by rw [Int.tdiv_eq_ediv_of_nonneg (by omega)]; omega
      have d2 : (x : Int) / 16 = ((x / 16 : Nat) : Int) := by omega
      have d3 : (x : Int).tmod 16 = ((x % 16 : Nat) : Int) := by rw [Int.tmod_eq_emod_of_nonneg (by omega)]; omega
      have d4 : (x : Int) % 16 = ((x % 16 : Nat) : Int) := by omega
      have hy : x / 16 < 16 := by omega
      have hz : x % 16 < 16 := by omega
      generalize x / 16 = y at *
      generalize x % 16 = z at *
      have y0 : (0 : Int) ≤ (y : Int) := by omega
      have y1 : (y : Int) < 16 := by omega
      have z0 : (0 : Int) ≤ (z : Int) := by omega
      have z1 : (z : Int) < 16 := by omega
      generalize lackL m k = t at *
      have t0 : (0 : Int) ≤ (t : Int) := by omega
      have t1 : (t : Int) ≤ 960 := by omega
      generalize hn : nibL m k = nb at *
      have HNN : Hid (nibL m k = nb) := hn
      clear hn
      by_cases hr1 : r = 1
      · have hbe : ((r : Int) == 1) = true := by simp [hr1]
        rw [if_pos hr1] at HNB
        have HZ : Hid (nb = z) := HNB.out
        clear hr1 HNB
        go_wp2_with (at_builtin; refine wpList_append_ints (by rfl) (.tmp 26) (.tmp 28) (by rfl) w2.heap.size u3 (nibsL m k) (by rfl) (OwnI.alloc HO.out _) ⟨wr.heap.size, 0, none⟩ 1 1 [(z : Int)] (by rfl) (IRow.lit wr _ _ [(z : Int)] rfl 1 rfl) (by omega) (by rw [HLN.out]; omega) (by simp; omega) ?_; intro v5 w5 ho5 hg5 _)
        have B5 := OwnI.grown (OwnI.alloc HO.out _) (Below.alloc HB.out hsz _) hg5 (Nat.le_refl _) (by simp; omega)
        rw [HZ.out] at HSN HLK
        rw [HSN.out] at ho5
        clear hg5 HO HB HSN HLN
        first
          | (go_wp2; go_roundw; case rel => exact ⟨k + 1, by omega, by go_num, by rw [HLK.out]; simp; omega, ho5, B5⟩; case measure => simp [intOf]; omega)
          | exact ⟨⟨k + 1, by omega, by go_num, by rw [HLK.out]; simp; omega, ho5, B5⟩, by simp [intOf]; omega⟩
      · have hbe : ((r : Int) == 1) = false := by simp; omega
        rw [if_neg hr1] at HNB
        have HZ : Hid (nb = y) := HNB.out
        clear hr1 HNB
        go_wp2_with (at_builtin; refine wpList_append_ints (by rfl) (.tmp 26) (.tmp 28) (by rfl) w2.heap.size u3 (nibsL m k) (by rfl) (OwnI.alloc HO.out _) ⟨wr.heap.size, 0, none⟩ 1 1 [(y : Int)] (by rfl) (IRow.lit wr _ _ [(y : Int)] rfl 1 rfl) (by omega) (by rw [HLN.out]; omega) (by simp; omega) ?_; intro v5 w5 ho5 hg5 _)
        have B5 := OwnI.grown (OwnI.alloc HO.out _) (Below.alloc HB.out hsz _) hg5 (Nat.le_refl _) (by simp; omega)
        rw [HZ.out] at HSN HLK
        rw [HSN.out] at ho5
        clear hg5 HO HB HSN HLN
        first
          | (go_wp2; go_roundw; case rel => exact ⟨k + 1, by omega, by go_num, by rw [HLK.out]; simp; omega, ho5, B5⟩; case measure => simp [intOf]; omega)
          | exact ⟨⟨k + 1, by omega, by go_num, by rw [HLK.out]; simp; omega, ho5, B5⟩, by simp [intOf]; omega⟩
    · obtain rfl : k = 64 := by omega
      have HO : Hid (OwnI wr w2.heap.size u3 (nibsL m 64)) := hO
      have HB : Hid (Below w2.heap.size w2 wr) := hB
      have HDN : Hid (nibsL m 64 ++ [((lackL m 64 / 256 : Nat) : Int), ((lackL m 64 / 16 % 16 : Nat) : Int), ((lackL m 64 % 16 : Nat) : Int)] = digsL m 67) := digs_nibs m
      have HLN : Hid ((nibsL m 64).length = 64) := nibsL_len m 64
      have hsz := hB.size
      clear hO hB
      generalize lackL m 64 = t at *
      have d1 : (t : Int).tdiv 256 = ((t / 256 : Nat) : Int) := by rw [Int.tdiv_eq_ediv_of_nonneg (by omega)]; omega
      have d2 : (t : Int) / 256 = ((t / 256 : Nat) : Int) := by omega
      have d3 : (t : Int).tdiv 16 = ((t / 16 : Nat) : Int) := by rw [Int.tdiv_eq_ediv_of_nonneg (by omega)]; omega
      have d4 : (t : Int) / 16 = ((t / 16 : Nat) : Int) := by omega
      have d5 : (t : Int).tmod 16 = ((t % 16 : Nat) : Int) := by rw [Int.tmod_eq_emod_of_nonneg (by omega)]; omega
      have d6 : (t : Int) % 16 = ((t % 16 : Nat) : Int) := by omega
      have d7 : ((t / 16 : Nat) : Int).tmod 16 = ((t / 16 % 16 : Nat) : Int) := by rw [Int.tmod_eq_emod_of_nonneg (by omega)]; omega
      have d8 : ((t / 16 : Nat) : Int) % 16 = ((t / 16 % 16 : Nat) : Int) := by omega
      have l1 : t / 256 ≤ 3 := by omega
      have l2 : t / 16 ≤ 60 := by omega
      have l3 : t % 16 < 16 := by omega
      have l4 : t / 16 % 16 < 16 := by omega
      generalize t / 16 % 16 = c2 at *
      generalize t / 256 = c1 at *
      generalize t / 16 = c4 at *
      generalize t % 16 = c3 at *
      have m1 : (0 : Int) ≤ (c1 : Int) := by omega
      have m2 : (c1 : Int) ≤ 3 := by omega
      have m3 : (0 : Int) ≤ (c2 : Int) := by omega
      have m4 : (c2 : Int) ≤ 15 := by omega
      have m5 : (0 : Int) ≤ (c3 : Int) := by omega
      have m6 : (c3 : Int) ≤ 15 := by omega
      have m7 : (0 : Int) ≤ (c4 : Int) := by omega
      have m8 : (c4 : Int) ≤ 60 := by omega
      generalize nibsL m 64 = N at *
      go_wp2_with (at_builtin; refine wpList_append_ints (by rfl) (.tmp 34) (.tmp 42) (by rfl) w2.heap.size u3 N (by rfl) (OwnI.alloc HO.out _) ⟨wr.heap.size, 0, none⟩ 3 3 [(c1 : Int), (c2 : Int), (c3 : Int)] (by rfl) (IRow.lit wr _ _ [(c1 : Int), (c2 : Int), (c3 : Int)] rfl 3 rfl) (by omega) (by rw [HLN.out]; omega) (by simp; omega) ?_; intro v5 w5 ho5 hg5 _)
      have B5 := OwnI.grown (OwnI.alloc HO.out _) (Below.alloc HB.out hsz _) hg5 (Nat.le_refl _) (by simp; omega)
      rw [HDN.out] at ho5
      obtain ⟨a5, c5, rfl, R5, hc5⟩ := OwnI.form ho5
      rw [digsL_len] at R5 hc5
      have hl5 := digsL_len m 67
      have HR5 : Hid (IRow w5 a5 67 (digsL m 67)) := R5
      have HB5 : Hid (Below w2.heap.size w2 w5) := B5
      clear ho5 hg5 HO HB HDN HLN R5 B5
      try rw [hl5]
      clear hl5
      first
        | (go_wp2; go_ret; exact ⟨⟨a5, c5, rfl, hc5, HR5.out⟩, HB2.out.trans (HB5.out.mono (by omega))⟩)
        | (go_ret; exact ⟨⟨a5, c5, rfl, hc5, HR5.out⟩, HB2.out.trans (HB5.out.mono (by omega))⟩)
end Go.Proofs.YtdplajhebapkgaaDoor
