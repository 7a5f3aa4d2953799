/- Texts of this claim, joined: Wkpub, Wdigf, News1, Same. -/
import Derived.Test.YtdplajhebapkgaaDoorJ14
import Derived.Test.YtdplajhebapkgaaDoorJ03
import Derived.Test.YtdplajhebapkgaaDoorJ15
import Derived.Test.YtdplajhebapkgaaDoorYPairs
import Derived.Test.YtdplajhebapkgaaDoorJ02
import Derived.ChangeKeysEq
import Derived.WalkKit
/- The contract of knots.public: the digest of a byte 7 and the ends of all chains. -/
namespace Go.Proofs.YtdplajhebapkgaaDoor
open Go.RowKit
set_option linter.unusedVariables false
set_option linter.unusedSimpArgs false

def kpc (g gb k : Nat) : List Value := Value.slice (some ⟨gb, 0, none⟩) 1 1 :: (List.range k).map fun i => Value.slice (some ⟨g, i * 32, none⟩) 32 32
theorem kpc_succ (g gb k : Nat) : kpc g gb k ++ [Value.slice (some ⟨g, k * 32, none⟩) 32 32] = kpc g gb (k + 1) := by
  unfold kpc
  rw [List.range_succ, List.map_append]
  rfl
theorem kpc_len (g gb k : Nat) : (kpc g gb k).length = k + 1 := by simp [kpc]
theorem one_newK (w : World) (a : Value) (t : TypeId) (g : Nat) (hg : w.heap.size = g) : ∀ j u, [a][j]? = some u → (w.alloc (.cells #[a] t)).cell? ((⟨g, 0, none⟩ : Addr).add j) = some u := by
  intro j u hj
  subst hg
  have e : (w.alloc (.cells #[a] t)).cell? ((⟨w.heap.size, 0, none⟩ : Addr).add j) = (w.alloc (.cells #[a] t)).cell? ⟨w.heap.size, j, none⟩ := by rw [add0]
  rw [e, World.cell?_alloc_mark]
  simpa using hj
theorem ownsRow_belowK {w w' : World} {B : Nat} {e : TypeId} {sz : Nat} {v : Value} {n : Nat} {xs : List Value} (h : w.ownsRow B e sz v n xs) (hb : Below w.heap.size w w') : w'.ownsRow B e sz v n xs := by
  rcases h.2 with ⟨h1, h0⟩ | ⟨g, cap, cur, e1, e2, e3, e4⟩
  · exact ⟨h.1, .inl ⟨h1, h0⟩⟩
  · have hg : g < w.heap.size := (World.ownsRow.lt h g (by rw [e1]; rfl)).2
    exact ⟨h.1, .inr ⟨g, cap, cur, e1, e2, (hb.block g hg).trans e3, e4⟩⟩
/-- The pieces, in memory: a byte 7, and the digests. -/
theorem kpc_rows {w : World} {g gb g2 : Nat} {B : Nat} {ls : List (List UInt8)} (hA : ∀ i, i < 67 → DAt w g (i * 32) (ls.getD i [])) (hl : ls.length = 67) (h32 : ∀ l ∈ ls, l.length = 32) (h4 : w.cell? ⟨gb, 0, none⟩ = some (.int .u8 7))
    (ho : w.ownsRow B 57 1 (.slice (some ⟨g2, 0, none⟩) 68 68) 68 (kpc g gb 67)) : BRows w (some ⟨g2, 0, none⟩) 68 ([7] :: ls) := by
  refine ⟨by simp [hl], .inr ⟨g2, 0, rfl, fun i hi => ?_⟩⟩
  have hc := World.ownsRow.cellAt ho i (by omega)
  rw [Nat.zero_add]
  cases i with
  | zero =>
    refine ⟨some ⟨gb, 0, none⟩, 1, 1, hc, Nat.le_refl _, rfl, .inr ⟨gb, 0, rfl, fun j hj => ?_⟩⟩
    obtain rfl : j = 0 := by omega
    exact h4
  | succ i =>
    have hi' : i < 67 := by omega
    refine ⟨some ⟨g, i * 32, none⟩, 32, 32, ?_, Nat.le_refl _, ?_⟩
    · rw [hc]
      simp [kpc, hi']
    · have e : ([7] :: ls).getD (i + 1) [] = ls.getD i [] := by simp [List.getD_eq_getElem?_getD]
      rw [e]
      refine DAt.row (hA i hi') ?_
      rw [List.getD_eq_getElem?_getD, List.getElem?_eq_getElem (by omega)]
      exact h32 _ (List.getElem_mem _)

set_option maxRecDepth 100000 in
set_option maxHeartbeats 1000000 in
theorem wwots_knots (ls : List (List UInt8)) (w : World) (G : Env w) (hl : ls.length = 67) (h32 : ∀ l ∈ ls, l.length = 32) :
    Calls Tryd.prog 24 #[knotsV ls] w fun e w' => e = .returned (digestV (shaL (7 :: ls.flatten))) ∧ Below w.heap.size w w' := by
  unfold knotsV
  obtain ⟨i0, hi, hz0, hz1, hz2⟩ := info_parts Tryd.infoS8
  obtain ⟨w1, hw1⟩ : ∃ w1, (w.alloc (.cells (cellsB ls.flatten).toArray 47)).alloc (.cells (cellsB zD).toArray 23) = w1 := ⟨_, rfl⟩
  have hs0 : (w.alloc (.cells (cellsB ls.flatten).toArray 47)).heap.size = w.heap.size + 1 := by simp
  have hs1 : w1.heap.size = w.heap.size + 1 + 1 := by rw [← hw1]; simp
  have HB1 : Hid (Below w.heap.size w w1) := by rw [← hw1]; exact ((Below.refl _ _).alloc (Nat.le_refl _) _).alloc (by simp) _
  have HT1 : Hid (w1.there (w.heap.size + 1) 0 32) := by rw [← hw1]; exact alloc_thereAt _ _ _ 32 _ hs0 zD_size.symm
  have HM1 : Hid (w1.rangeAt w.heap.size 0 (cellsB ls.flatten)) := by rw [← hw1]; exact World.rangeAt_alloc (box_range w _ _) _
  have HG : Hid ((∀ wx, Below w.heap.size w wx → Env wx) ∧ ∀ wx, Below w1.heap.size w1 wx → ∀ i, i < 67 → DAt wx w.heap.size (i * 32) (ls.getD i [])) := ⟨fun wx hx => G.below hx, fun wx hx i hi' => (knots_at h32 HM1.out i (by omega)).below hx (by omega)⟩
  clear G
  go_enter Tryd.func24, Tryd.ntmps24
  go_wp2_with (first
    | (refine wpList_allocE (by rfl) 23 (by rfl) (cellsB zD).toArray Tryd.zeroDg (w.heap.size + 1) hs0 w1 hw1 ?_)
    | (at_make; refine wpList_make_own _ rfl _ _ 61 rfl w1.heap.size 57 i0 (.slice none 0 0) 1 Tryd.underlying61 hi hz0 hz1 _ _ _ 68 rfl rfl (by omega) (by rw [hz2]; omega) (by unfold maxLen; omega) (Nat.le_refl _) ?_; intro w2 hown hgrow; rw [hs1] at hown; have HO2 : Hid (w2.ownsRow (w.heap.size + 1 + 1) 57 1 (.slice (some ⟨w.heap.size + 1 + 1, 0, none⟩) 0 68) 0 []) := hown; have HB2 : Hid (Below w1.heap.size w1 w2) := (Below.refl _ _).grown hgrow (Nat.le_refl _) (fun _ h => by cases h); clear hown hgrow)
    | (at_builtin; refine wpList_append_fits _ (by rfl) (.tmp 6) (.tmp 8) 61 (by rfl) (w.heap.size + 1 + 1) 57 i0 1 Tryd.underlying61 hi hz1 (w.heap.size + 1 + 1) 0 68 [] (by rfl) (ownsRow_belowK (ownsRow_belowK HO2.out ((Below.refl _ _).alloc (Nat.le_refl _) _)) ((Below.refl _ _).alloc (Nat.le_refl _) _)) ⟨w2.heap.size + 1, 0, none⟩ 1 1 [.slice (some ⟨w2.heap.size, 0, none⟩) 1 1] (by rfl) (by rfl) (one_newK _ _ _ _ (by simp)) (by simp [Value.oneCell']) (by omega) ?_; intro w3 ho3 hg3))
  clear hs0
  have hgb : w.heap.size + 1 + 1 < w2.heap.size := (World.ownsRow.lt HO2.out (w.heap.size + 1 + 1) rfl).2
  have hsa : (w2.alloc (.cells #[.int .u8 7] 5)).heap.size = w2.heap.size + 1 := by simp
  have H4 : Hid (w3.cell? ⟨w2.heap.size, 0, none⟩ = some (.int .u8 7)) := by
    have hb : w3.heap[w2.heap.size]? = _ := hg3.block w2.heap.size (by simp; omega) (by intro e; have := Option.some.inj e; omega)
    refine (World.cell?_of_block (a := ⟨w2.heap.size, 0, none⟩) hb).trans ?_
    rw [((Below.refl (w2.heap.size + 1) (w2.alloc (.cells #[.int .u8 7] 5))).alloc (by simp) (.cells #[.slice (some ⟨w2.heap.size, 0, none⟩) 1 1] 57)).cell (p := ⟨w2.heap.size, 0, none⟩) (Nat.lt_succ_self _), World.cell?_alloc_mark]
    rfl
  have HB3 : Hid (Below w1.heap.size w1 w3) := ((HB2.out.alloc HB2.out.size _).alloc (by have := HB2.out.size; simp; omega) _).grown hg3 (by have := HB2.out.size; simp; omega) (fun k e => by have := Option.some.inj e; omega)
  have HO3 : Hid (w3.ownsRow (w.heap.size + 1 + 1) 57 1 (.slice (some ⟨w.heap.size + 1 + 1, 0, none⟩) 1 68) 1 (kpc w.heap.size w2.heap.size 0)) := ho3
  clear ho3 hg3 HO2 HB2 hsa
  generalize w2.heap.size = gb at *
  go_loopw [3, 10] (fun v i wr => ∃ k : Nat, k ≤ 67 ∧ i = .int .i64 (k : Int) ∧ v = .slice (some ⟨w.heap.size + 1 + 1, 0, none⟩) (k + 1) 68 ∧ wr.ownsRow (w.heap.size + 1 + 1) 57 1 (.slice (some ⟨w.heap.size + 1 + 1, 0, none⟩) (k + 1) 68) (k + 1) (kpc w.heap.size gb k) ∧ wr.cell? ⟨gb, 0, none⟩ = some (.int .u8 7) ∧ Below w1.heap.size w1 wr) (fun _ i _ => 67 - (intOf i).toNat)
  case atStart => exact ⟨0, Nat.zero_le _, rfl, rfl, HO3.out, H4.out, HB3.out⟩
  case round =>
    clear HO3 H4 HB3
    obtain ⟨k, hk, rfl, rfl, hO, h4, hB⟩ := hrel
    by_cases hlt : k < 67
    · have HO : Hid (wr.ownsRow (w.heap.size + 1 + 1) 57 1 (.slice (some ⟨w.heap.size + 1 + 1, 0, none⟩) (k + 1) 68) (k + 1) (kpc w.heap.size gb k)) := hO
      have H4 : Hid (wr.cell? ⟨gb, 0, none⟩ = some (.int .u8 7)) := h4
      have HB : Hid (Below w1.heap.size w1 wr) := hB
      have HSN : Hid (kpc w.heap.size gb k ++ [Value.slice (some ⟨w.heap.size, k * 32, none⟩) 32 32] = kpc w.heap.size gb (k + 1)) := kpc_succ w.heap.size gb k
      clear hO h4 hB
      go_wp2_with (at_builtin; refine wpList_append_fits _ (by rfl) (.tmp 13) (.tmp 17) 61 (by rfl) (w.heap.size + 1 + 1) 57 i0 1 Tryd.underlying61 hi hz1 (w.heap.size + 1 + 1) (k + 1) 68 (kpc w.heap.size gb k) (by rfl) (ownsRow_belowK HO.out ((Below.refl _ _).alloc (Nat.le_refl _) _)) ⟨wr.heap.size, 0, none⟩ 1 1 [.slice (some ⟨w.heap.size, k * 32, none⟩) 32 32] (by rfl) (by rfl) (one_newK _ _ _ _ rfl) (by simp [Value.oneCell']) (by omega) ?_; intro w5 ho5 hg5)
      have hgw : gb < wr.heap.size := cell_block H4.out
      have h4' : w5.cell? ⟨gb, 0, none⟩ = some (.int .u8 7) := by
        have hb := hg5.block gb (by simp; omega) (by intro e; have := Option.some.inj e; omega)
        exact ((World.cell?_of_block (a := ⟨gb, 0, none⟩) hb).trans (((Below.refl wr.heap.size wr).alloc (Nat.le_refl _) _).cell (p := ⟨gb, 0, none⟩) hgw)).trans H4.out
      have hB' : Below w1.heap.size w1 w5 := (HB.out.alloc HB.out.size _).grown hg5 (by have := HB.out.size; simp; omega) (fun k e => by have := Option.some.inj e; omega)
      rw [HSN.out] at ho5
      go_roundw
      case rel => exact ⟨k + 1, by omega, by go_num, rfl, ho5, h4', hB'⟩
      case measure => simp [intOf]; omega
    · obtain rfl : k = 67 := by omega
      have hbw : Below w.heap.size w wr := HB1.out.trans (hB.mono (by omega))
      have HR : Hid (BRows wr (some ⟨w.heap.size + 1 + 1, 0, none⟩) 68 ([7] :: ls)) := kpc_rows (HG.out.2 _ hB) hl h32 h4 hO
      have HE : Hid (Env wr) := HG.out.1 _ hbw
      have HB : Hid (Below w1.heap.size w1 wr) := hB
      have hfl : ls.flatten.length = 32 * 67 := by rw [flat_len h32, hl]
      have hE : [7] :: ls = [7] :: ls := rfl
      have HF : Hid (([7] :: ls).flatten = 7 :: ls.flatten) := rfl
      have hfl2 : ([7] :: ls).flatten.length ≤ 1000000000000000000 := by rw [HF.out, List.length_cons, hfl]; omega
      clear hO h4 hB hbw hE hfl
      generalize [7] :: ls = L at *
      go_wp2_with fail
      refine (wsumof_any _ 68 68 L wr HE.out HR.out hfl2 (by omega)).mono ?_
      rintro e w6 ⟨rfl, hb6⟩
      rw [HF.out]
      have HB6 : Hid (Below w1.heap.size w1 w6) := HB.out.trans (hb6.mono HB.out.size)
      have HT6 : Hid (w6.there (w.heap.size + 1) 0 32) := there_below HT1.out HB6.out (by omega)
      have hlen := shaL_length (7 :: ls.flatten)
      clear hb6 HB HR HE HF hfl2
      generalize hD : shaL (7 :: ls.flatten) = D at *
      have HD : Hid (shaL (7 :: ls.flatten) = D) := hD
      clear hD
      go_wp2_with (refine wpList_store_mid (by rfl) 23 (.tmp 2) (.tmp 21) (by rfl) (w.heap.size + 1) 0 (cellsB D).toArray (by rfl) (by rfl) (by rw [cellsB_size, hlen]; exact HT6.out) (by rw [cellsB_size, hlen]; exact Tryd.sizeDg) (all_oneCell_toArray (cellsB_one _)) ?_)
      refine bodyPost_ret (v := digestV D) (run_results_row Tryd.results24 _ _ (w.heap.size + 1) 0 (by rfl) (cellsB D) (World.rangeAt_setCells_same _ _ _ _ (by rw [cellsB_length, hlen]; exact HT6.out)) _ Tryd.underlying23 (by rfl) (by rw [cellsB_length, hlen]; exact Tryd.sizeDg)) rfl ⟨by rw [HD.out], ?_⟩
      exact below_setCells _ (by omega) _ _ _ (HB1.out.trans (HB6.out.mono (by omega)))
end Go.Proofs.YtdplajhebapkgaaDoor
/- The contract of wots.Digits. -/
namespace Go.Proofs.YtdplajhebapkgaaDoor
open Go.RowKit
set_option linter.unusedVariables false
set_option linter.unusedSimpArgs false

theorem rangeI_row {w : World} {g : Nat} {l : List Int} {n : Nat} (h : w.rangeAt g 0 (cellsI l)) (hl : l.length = n) : IRow w (some ⟨g, 0, none⟩) n l :=
  ⟨hl, .inr ⟨g, 0, rfl, fun i hi => h i _ (cellsI_at l i (by omega))⟩⟩
set_option maxRecDepth 100000 in
set_option maxHeartbeats 1000000 in
theorem wwots_digits0 (m : List UInt8) (w : World) (hm : m.length = 32) :
    Calls Tryd.prog 7 #[digestV m] w fun e w' => (∃ a c, e = .returned (.slice a 67 c) ∧ 67 ≤ c ∧ IRow w' a 67 (digsL m 67)) ∧ Below w.heap.size w w' := by
  obtain ⟨w2, hw2⟩ : ∃ w2, w.alloc (.cells (cellsB m).toArray 23) = w2 := ⟨_, rfl⟩
  have HB2 : Hid (Below w.heap.size w w2) := by rw [← hw2]; exact (Below.refl _ _).alloc (Nat.le_refl _) _
  have HM2 : Hid (w2.rangeAt w.heap.size 0 (cellsB m)) := by rw [← hw2]; exact box_range w (cellsB m) _
  go_enter Tryd.func7, Tryd.ntmps7
  go_wp2_with (refine wpList_load_mid (by rfl) 23 (.tmp 1) (by rfl) w.heap.size 0 (by rfl) (cellsB m) _ (by first | exact HM2.out | (rw [hw2]; exact HM2.out)) Tryd.underlying23 (by rfl) (by rw [cellsB_length, hm]; exact Tryd.sizeDg) ?_)
  try rw [hw2]
  clear hw2
  refine (wwots_digitsOf m w2 hm).mono ?_
  rintro e w3 ⟨rfl, hb3⟩
  have HB3 : Hid (Below w.heap.size w w3) := below_trans HB2.out hb3
  have h67 := digsL_len m 67
  clear hb3 HB2 HM2
  generalize hD : digsL m 67 = D at *
  have HD : Hid (digsL m 67 = D) := hD
  clear hD
  obtain ⟨w4, hw4⟩ : ∃ w4, w3.alloc (.cells (cellsI zI).toArray 44) = w4 := ⟨_, rfl⟩
  have HT4 : Hid (w4.there w3.heap.size 0 67) := by rw [← hw4]; exact alloc_thereAt _ _ _ 67 _ rfl zI_size.symm
  have HB5 : Hid (Below w.heap.size w (w4.setCells w3.heap.size 0 (cellsI D))) := below_trans HB3.out (by rw [← hw4]; exact new_stored _ _ _)
  have HR5 : Hid ((w4.setCells w3.heap.size 0 (cellsI D)).rangeAt w3.heap.size 0 (cellsI D)) := World.rangeAt_setCells_same _ _ _ _ (by rw [cellsI_length, h67]; exact HT4.out)
  go_wp2_with (first
    | (refine wpList_allocE (by rfl) 44 (by rfl) (cellsI zI).toArray Tryd.zeroDgt w3.heap.size rfl w4 hw4 ?_)
    | (refine wpList_store_mid (by rfl) 44 (.tmp 3) (.tmp 5) (by rfl) w3.heap.size 0 (cellsI D).toArray (by rfl) (by rfl) (by rw [cellsI_size, h67]; exact HT4.out) (by rw [cellsI_size, h67]; exact Tryd.sizeDgt) (all_oneCell_toArray (cellsI_one _)) ?_))
  go_ret
  exact ⟨⟨_, _, rfl, Nat.le_refl _, by rw [HD.out]; exact rangeI_row HR5.out h67⟩, HB5.out⟩
end Go.Proofs.YtdplajhebapkgaaDoor
/- A region that draws its order: operations in a row, and one new variable anywhere among them: every order at once. No theorem of the program yet. -/
namespace Go.Proofs.YtdplajhebapkgaaDoor
open Go.RowKit
set_option linter.unusedVariables false
set_option linter.unusedSimpArgs false
section
variable {P : Program} {ops : Array Oper} {Q : Exit → Act → World → Prop} {md : Region.Mode} {S : World → Prop}
theorem news1_any (N f0 : Nat) (St : Nat → Option Nat → Act → World → Prop) (L : Nat → Bool → Array Bool)
    (step : ∀ k p a w fuel, k < N → St k p a w → (∀ a' w', St (k + 1) p a' w' → wpAnyH P md ops Q S fuel (L (k + 1) p.isSome) a' w') → (∀ g a' w', p = none → St k (some g) a' w' → wpAnyH P md ops Q S fuel (L k true) a' w') → wpAnyH P md ops Q S (fuel + 1) (L k p.isSome) a w)
    (last : ∀ a w fuel, St N none a w → (∀ g a' w', St N (some g) a' w' → wpAnyH P md ops Q S fuel (L N true) a' w') → wpAnyH P md ops Q S (fuel + 1) (L N false) a w)
    (fin : ∀ g a w, St N (some g) a w → wpAnyH P md ops Q S f0 (L N true) a w) :
    ∀ n k p a w, (N - k) + left1 p = n → k ≤ N → St k p a w → wpAnyH P md ops Q S (f0 + n) (L k p.isSome) a w := by
  intro n
  induction n with
  | zero =>
    intro k p a w hn hk hSt
    cases p with
    | none => simp [left1] at hn
    | some g =>
      simp [left1] at hn
      obtain rfl : k = N := by omega
      exact fin g a w hSt
  | succ n ih =>
    intro k p a w hn hk hSt
    rw [← Nat.add_assoc]
    by_cases hkN : k < N
    · refine step k p a w (f0 + n) hkN hSt (fun a' w' h' => ih (k + 1) p a' w' (by omega) (by omega) h') (fun g a' w' hp h' => ?_)
      subst hp
      exact ih k (some g) a' w' (by simp [left1] at hn ⊢; omega) hk h'
    · obtain rfl : k = N := by omega
      cases p with
      | some g => simp [left1] at hn
      | none => exact last a w (f0 + n) hSt fun g a' w' h' => ih k (some g) a' w' (by simp [left1] at hn ⊢; omega) hk h'
end
end Go.Proofs.YtdplajhebapkgaaDoor
/- Digests compared: equal or not, as the lists of their bytes are. -/
namespace Go.Proofs.YtdplajhebapkgaaDoor
open Go.RowKit
set_option linter.unusedVariables false
set_option linter.unusedSimpArgs false

theorem run_eqItems_bytes {P : Program} (w : World) (d : Nat) (e : TypeId) (he : P.underlying e = some (.int .u8)) (X Y : List UInt8) (n : Nat) (hX : X.length = n) (hY : Y.length = n) :
    ∀ (is : List Nat), (∀ i ∈ is, i < n) → (Op.eqItems (d + 1) e 1 (cellsB X).toArray (cellsB Y).toArray is).run P w = .ok (is.all fun i => nth X i == nth Y i) w
  | [], _ => by simp [Op.eqItems]
  | i :: r, h => by
    have hi := h i (List.mem_cons_self ..)
    have ih := run_eqItems_bytes w d e he X Y n hX hY r (fun j hj => h j (List.mem_cons_of_mem _ hj))
    have px : (cellsB X).toArray[i]? = some (.int .u8 (nth X i)) := by simpa using cellsB_at X i (by omega)
    have py : (cellsB Y).toArray[i]? = some (.int .u8 (nth Y i)) := by simpa using cellsB_at Y i (by omega)
    have p1 : (part e (cellsB X).toArray (i * 1)).run P w = .ok (.int .u8 (nth X i)) w := by
      simp only [Nat.mul_one]
      simp [part, isAgg, run_underlying he, px, Result.andThen, Sem.run_bind]
    have p2 : (part e (cellsB Y).toArray (i * 1)).run P w = .ok (.int .u8 (nth Y i)) w := by
      simp only [Nat.mul_one]
      simp [part, isAgg, run_underlying he, py, Result.andThen, Sem.run_bind]
    have p3 : (Op.equalIn (d + 1) e (.int .u8 (nth X i)) (.int .u8 (nth Y i))).run P w = .ok (nth X i == nth Y i) w := run_equalIn_int w d e .u8 .u8 _ _ he
    simp only [Op.eqItems, Sem.run_bind, p1, p2, p3, Result.andThen_ok, List.all_cons]
    cases hb : nth X i == nth Y i
    · simp
    · simpa using ih
theorem all_nth {X Y : List UInt8} {n : Nat} (hX : X.length = n) (hY : Y.length = n) : ((List.range n).all fun i => nth X i == nth Y i) = decide (X = Y) := by
  by_cases h : X = Y
  · subst h
    simp
  · rw [decide_eq_false h]
    cases hb : (List.range n).all fun i => nth X i == nth Y i
    · rfl
    · refine absurd (nth_inj (by omega) fun j hj => ?_) h
      have := List.all_eq_true.1 hb j (List.mem_range.2 (by omega))
      simpa using this
/-- Two digests compared. -/
theorem run_same (w : World) (X Y : List UInt8) (hX : X.length = 32) (hY : Y.length = 32) :
    (Op.equalIn 10000 23 (.agg (cellsB X).toArray) (.agg (cellsB Y).toArray)).run Tryd.prog w = .ok (decide (X = Y)) w := by
  have hi : ∃ i, Tryd.prog.info? 5 = some i := info_of_underlying Tryd.underlying5
  obtain ⟨i, hi⟩ := hi
  have hc : Tryd.prog.cellsOf 5 = 1 := by kernel_rfl
  rw [run_equalIn_array w 9999 (cellsB X).toArray (cellsB Y).toArray Tryd.underlying23 hi, hc, run_eqItems_bytes w 9998 _ Tryd.underlying5 X Y 32 hX hY _ (fun i hi => List.mem_range.1 hi), all_nth hX hY]
theorem run_same_true (D : List UInt8) (h : D.length = 32) (w : World) : (Op.equalIn 10000 23 (.agg (cellsB D).toArray) (.agg (cellsB D).toArray)).run Tryd.prog w = .ok true w := by
  rw [run_same w D D h h, decide_eq_true rfl]
/-! the comparisons as steps: guarded or not (walked by simp, a guarded '!=' of digests runs the kernel out of memory) -/
theorem Tryd.eqGuardDigest : Tryd.prog.eqGuardType Tryd.prog.depth 23 = false := by kernel_rfl
theorem wpList_neqD {ops : Array Oper} {rest : List Oper} {o : Oper} {a : Act} {w : World} {Q : Exit → Act → World → Prop} (x y : Operand) (ho : o.op = .binOp .neq 23 x y 23) (hw : Region.wanted o (yielded ops a.tmps) = true) (X Y : List UInt8) (hX : X.length = 32) (hY : Y.length = 32)
    (hx : a.eval x = .agg (cellsB X).toArray) (hy : a.eval y = .agg (cellsB Y).toArray) (b : Bool) (hb : (!decide (X = Y)) = b) (h : wpList Tryd.prog ops Q rest (a.put o.dst (.bool b)) w) : wpList Tryd.prog ops Q (o :: rest) a w := by
  subst hb
  refine wpList_step fun K hK => ?_
  rw [if_pos hw]
  unfold Oper.wp
  simp [execOp, ho, hx, hy, eqGuard, Tryd.eqGuardDigest, binOp, Op.equal, Op.maxDepth, run_same _ X Y hX hY, Result.andThen, Sem.run_bind, -decide_not]
  exact hK _ _ h
theorem wpList_eqD {ops : Array Oper} {rest : List Oper} {o : Oper} {a : Act} {w : World} {Q : Exit → Act → World → Prop} (x y : Operand) (ho : o.op = .binOp .eql 23 x y 23) (hw : Region.wanted o (yielded ops a.tmps) = true) (X Y : List UInt8) (hX : X.length = 32) (hY : Y.length = 32)
    (hx : a.eval x = .agg (cellsB X).toArray) (hy : a.eval y = .agg (cellsB Y).toArray) (b : Bool) (hb : decide (X = Y) = b) (h : wpList Tryd.prog ops Q rest (a.put o.dst (.bool b)) w) : wpList Tryd.prog ops Q (o :: rest) a w := by
  subst hb
  refine wpList_step fun K hK => ?_
  rw [if_pos hw]
  unfold Oper.wp
  simp [execOp, ho, hx, hy, eqGuard, Tryd.eqGuardDigest, binOp, Op.equal, Op.maxDepth, run_same _ X Y hX hY, Result.andThen, Sem.run_bind]
  exact hK _ _ h
end Go.Proofs.YtdplajhebapkgaaDoor
