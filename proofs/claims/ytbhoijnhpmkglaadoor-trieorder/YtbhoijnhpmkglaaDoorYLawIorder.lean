/- The law TrieOrder: entries in any other order have one root. -/
import Derived.Test.YtbhoijnhpmkglaaDoorJ14
import Derived.Test.YtbhoijnhpmkglaaDoorJ08
import Derived.Test.YtbhoijnhpmkglaaDoorJ15
import Derived.Test.YtbhoijnhpmkglaaDoorJ06
namespace Go.Proofs.YtbhoijnhpmkglaaDoor
open Go.RowKit
set_option linter.unusedVariables false
set_option linter.unusedSimpArgs false

/-- The entries at the first places of an order. -/
def pickE (es : List Ent) (l : List Int) (i : Nat) : List Ent := (List.range i).map fun j => es.getD (l.getD j 0).toNat noE
theorem pickE_len (es : List Ent) (l : List Int) (i : Nat) : (pickE es l i).length = i := by simp [pickE]
theorem pickE_succ (es : List Ent) (l : List Int) (i : Nat) : pickE es l (i + 1) = pickE es l i ++ [es.getD (l.getD i 0).toNat noE] := by
  unfold pickE
  rw [List.range_succ, List.map_append]
  rfl
theorem pickE_at (es : List Ent) (l : List Int) (n i : Nat) (h : i < n) : (pickE es l n).getD i noE = es.getD (l.getD i 0).toNat noE := by
  unfold pickE
  rw [List.getD_eq_getElem?_getD, List.getElem?_map, List.getElem?_range h]
  rfl
theorem pickE_mem {es : List Ent} {l : List Int} {n : Nat} (h : ∀ j, j < n → 0 ≤ l.getD j 0 ∧ l.getD j 0 < (es.length : Int)) : ∀ e ∈ pickE es l n, e ∈ es := fun e he => by
  obtain ⟨j, hj, rfl⟩ := List.mem_map.1 he
  have := h j (List.mem_range.1 hj)
  rw [List.getD_eq_getElem?_getD, List.getElem?_eq_getElem (show (l.getD j 0).toNat < es.length by omega)]
  exact List.getElem_mem _
theorem faultG_seven : ∀ (r seen : List Ent), (∀ e ∈ r, isKey e.1 = true) → faultG seen r = 0 ∨ faultG seen r = 7
  | [], seen, _ => .inl rfl
  | e :: r, seen, h => by
    unfold faultG
    rw [if_neg (by rw [h e (List.mem_cons_self ..)]; simp)]
    split
    · exact .inr rfl
    · exact faultG_seven r _ (fun x hx => h x (List.mem_cons_of_mem _ hx))
theorem faultE_seven {fs : List Ent} (h1 : fs.length ≤ 64) (h2 : ∀ e ∈ fs, isKey e.1 = true) : faultE fs = 0 ∨ faultE fs = 7 := by
  unfold faultE
  rw [if_neg (by omega)]
  exact faultG_seven fs [] h2
theorem pick_same {es : List Ent} {l : List Int} {n : Nat} (hes : faultE es = 0) (hl : es.length = n) (hll : l.length = n) (h : ∀ j, j < n → 0 ≤ l.getD j 0 ∧ l.getD j 0 < (n : Int)) (hfs : faultE (pickE es l n) = 0) : mapL (gE (pickE es l n)) 0 32 = mapL (gE es) 0 32 := by
  refine mapL_congr 32 0 fun x _ _ => ?_
  refine order_same (order := l.map Int.toNat) (faultE_ok hes).2.2 (faultE_ok hfs).2.2 (by rw [List.length_map, hll, hl]) (by rw [pickE_len, hl]) (fun i hi => ?_) x
  have hi' : i < n := by omega
  have hm : (l.map Int.toNat).getD i 0 = (l.getD i 0).toNat := by
    simp only [List.getD_eq_getElem?_getD, List.getElem?_map]
    rw [List.getElem?_eq_getElem (by omega)]
    rfl
  rw [hm]
  have := h i hi'
  exact ⟨by omega, pickE_at es l n i hi'⟩
set_option maxRecDepth 100000 in
set_option maxHeartbeats 2000000 in
theorem iorder_walk (a : Option Addr) (n c : Nat) (es : List Ent) (a2 : Option Addr) (n2 c2 : Nat) (l : List Int) (w : World) (G : Env w) (HH : Handle w) (R : ERow w a n es) (hc : n ≤ c) (hn : 40 * n ≤ 140737488351232) (R2 : IRow w a2 n2 l) (hc2 : n2 ≤ c2) (hn2 : 8 * n2 ≤ 140737488351232) (hb : ∀ i, i < n2 → -9223372036854775808 ≤ l.getD i 0 ∧ l.getD i 0 ≤ 9223372036854775807) :
    Calls Tryd.prog 5 #[.slice a n c, .slice a2 n2 c2] w fun r w' => r = .returned (.bool true) ∧ Below w.heap.size w w' := by
  have HALL : Hid (∀ wx, Below w.heap.size w wx → Env wx ∧ Handle wx ∧ ERow wx a n es ∧ IRow wx a2 n2 l) := fun wx hx => ⟨G.below hx, HH.below hx, R.below hx, R2.below hx⟩
  have H0 : Hid (Below w.heap.size w w) := Below.refl _ _
  have HEL : Hid (es.length = n ∧ l.length = n2 ∧ ∀ i, i < n → okE (es.getD i noE)) := ⟨R.1, R2.1, R.ok⟩
  have HBD : Hid (∀ i, i < n2 → -9223372036854775808 ≤ l.getD i 0 ∧ l.getD i 0 ≤ 9223372036854775807) := hb
  clear G R R2 HH hb
  have lZ : zT.length = 32 := rfl
  by_cases hf : faultE es = 0
  · have lM : (mapL (gE es) 0 32).length = 32 := mapL_length (gE_length es) 32 0
    have HRT : Hid (∀ wx, Below w.heap.size w wx → Calls Tryd.prog 11 #[.slice a n c] wx fun r w' => r = .returned (.tuple #[digestV (mapL (gE es) 0 32), .nilIface]) ∧ Below wx.heap.size wx w') := fun wx hx => wtrie_root a n c es wx (HALL.out wx hx).1 (HALL.out wx hx).2.2.1 hc hn hf
    have HF : Hid (faultE es = 0) := hf
    have hn64 : n ≤ 64 := by rw [← HEL.out.1]; exact (faultE_ok hf).1
    have HSM : Hid (∀ M, mapL (gE es) 0 32 = M → n2 = n → (∀ j, j < n → 0 ≤ l.getD j 0 ∧ l.getD j 0 < (n : Int)) → faultE (pickE es l n) = 0 → mapL (gE (pickE es l n)) 0 32 = M) := fun M hM hnn hr hq => by
      rw [← hM]
      exact pick_same hf HEL.out.1 (by rw [HEL.out.2.1, hnn]) hr hq
    have HMM : Hid (∃ M, mapL (gE es) 0 32 = M) := ⟨_, rfl⟩
    clear hf
    obtain ⟨M, hM⟩ : ∃ M, mapL (gE es) 0 32 = M := ⟨_, rfl⟩
    have HSM2 := HSM.out M hM
    have HSM' : Hid (n2 = n → (∀ j, j < n → 0 ≤ l.getD j 0 ∧ l.getD j 0 < (n : Int)) → faultE (pickE es l n) = 0 → mapL (gE (pickE es l n)) 0 32 = M) := HSM2
    rw [hM] at HRT lM
    clear HSM HSM2 HMM hM
    by_cases hnn : n2 = n
    · subst hnn
      have gnn : ((n2 : Int) == (n2 : Int)) = true := by simp
      go_enter Tryd.func5, Tryd.ntmps5
      go_wp2_with fail
      refine (wleafed_any w (HALL.out w H0.out).1).mono ?_
      rintro r w3 ⟨rfl, hb3⟩
      have HB3 : Hid (Below w.heap.size w w3) := hb3
      clear hb3
      go_wp2_with fail
      refine (HRT.out w3 HB3.out).mono ?_
      rintro r w4 ⟨rfl, hb4⟩
      have HB4 : Hid (Below w.heap.size w w4) := HB3.out.trans (hb4.mono HB3.out.size)
      clear hb4
      obtain ⟨g6, hg6⟩ : ∃ g6, w4.heap.size = g6 := ⟨_, rfl⟩
      obtain ⟨w5, hw5⟩ : ∃ w5, w4.alloc (.cells (cellsB zD).toArray 24) = w5 := ⟨_, rfl⟩
      have HTw5 : Hid (w5.there g6 0 32) := by rw [← hw5]; exact alloc_thereAt _ _ _ 32 _ hg6 zD_size.symm
      have HKw5 : Hid (Below w4.heap.size w4 (w5.setCells g6 0 (cellsB M))) := below_setCells _ (by rw [hg6]; exact Nat.le_refl _) _ _ _ (by rw [← hw5]; exact (Below.refl _ _).alloc (Nat.le_refl _) _)
      have HXw5 : Hid (DAt (w5.setCells g6 0 (cellsB M)) g6 0 M) := dat_stored HTw5.out lM
      have HB6 : Hid (Below w.heap.size w (w5.setCells g6 0 (cellsB M))) := HB4.out.trans (HKw5.out.mono HB4.out.size)
      go_upto_region 5 with (first
        | (refine wpList_allocE (by rfl) 24 (by rfl) (cellsB zD).toArray Tryd.zeroDg g6 hg6 w5 hw5 ?_)
        | (refine wpList_store_mid (by rfl) 24 (.tmp 6) (.tmp 18) (by rfl) g6 0 (cellsB M).toArray (by rfl) (by rfl) (by rw [cellsB_size, lM]; exact HTw5.out) (by rw [cellsB_size, lM]; exact Tryd.sizeDg) (all_oneCell_toArray (cellsB_one _)) ?_))
      generalize w5.setCells g6 0 (cellsB M) = w6 at *
      clear hw5 HTw5 hg6 HRT
      try simp only [Act.put, List.setIfInBounds_toArray, List.set_cons_zero, List.set_cons_succ]
      have HBB : Hid (∀ wx, Below w6.heap.size w6 wx → Env wx ∧ Handle wx ∧ ERow wx a n2 es ∧ IRow wx a2 n2 l ∧ DAt wx g6 0 M ∧ Below w.heap.size w wx) := fun wx hx => by
        have b : Below w.heap.size w wx := HB6.out.trans (hx.mono HB6.out.size)
        have q := HALL.out wx b
        exact ⟨q.1, q.2.1, q.2.2.1, q.2.2.2, HXw5.out.below hx (cell_block (HXw5.out.cell 0 (by omega))), b⟩
      clear HXw5 HKw5
      go_wp2_with fail
      obtain ⟨B0, hB0⟩ : ∃ B0, w6.heap.size = B0 := ⟨_, rfl⟩
      have HB0 : Hid (w6.heap.size = B0) := hB0
      have H66 : Hid (Below w6.heap.size w6 w6) := Below.refl _ _
      rw [hB0] at HBB H66
      clear hB0
      go_loopw [8, 9] (fun v iv wr => ∃ i : Nat, i ≤ n2 ∧ iv = .int .i64 (i : Int) ∧ OwnE wr B0 v (pickE es l i) ∧ Hid (∀ j, j < i → 0 ≤ l.getD j 0 ∧ l.getD j 0 < (n2 : Int)) ∧ Below B0 w6 wr) (fun _ iv _ => n2 - (intOf iv).toNat)
      case atStart => exact ⟨0, Nat.zero_le _, rfl, OwnE.nil _ _, (fun j hj => by omega), H66.out⟩
      case round =>
        obtain ⟨i, hi, rfl, hO, HIN, hB⟩ := hrel
        have HO : Hid (OwnE wr B0 u8 (pickE es l i)) := hO
        have HB : Hid (Below B0 w6 wr) := hB
        have HSZ : Hid (B0 ≤ wr.heap.size) := by have := hB.size; rw [HB0.out] at this; exact this
        clear hO hB
        by_cases hlt : i < n2
        · obtain ⟨bi, oi, ha2, hcell⟩ := (HBB.out _ HB.out).2.2.2.1.2.resolve_left (by omega)
          subst ha2
          have k0 : wr.cell? ⟨bi, oi + i, none⟩ = some (.int .i64 (l.getD i 0)) := hcell i hlt
          have hq := HBD.out i hlt
          have q1 := hq.1
          have q2 := hq.2
          clear hcell hq
          have i0 : (0 : Int) ≤ (i : Int) := by omega
          have i1 : (i : Int) < (n2 : Int) := by omega
          by_cases c1 : l.getD i 0 < 0
          · generalize l.getD i 0 = q at *
            go_wp2_with fail
            go_ret
            exact ⟨rfl, (HBB.out _ HB.out).2.2.2.2.2⟩
          · by_cases c3 : (n2 : Int) ≤ l.getD i 0
            · generalize l.getD i 0 = q at *
              go_wp2_with fail
              go_ret
              exact ⟨rfl, (HBB.out _ HB.out).2.2.2.2.2⟩
            · obtain ⟨m, hm⟩ : ∃ m : Nat, l.getD i 0 = (m : Int) := ⟨(l.getD i 0).toNat, by omega⟩
              have HIN2 : Hid (∀ j, j < i + 1 → 0 ≤ l.getD j 0 ∧ l.getD j 0 < (n2 : Int)) := fun j hj => by
                by_cases h : j = i
                · subst h; omega
                · exact HIN.out j (by omega)
              have HPS : Hid (pickE es l (i + 1) = pickE es l i ++ [es.getD m noE]) := by
                have := pickE_succ es l i
                rw [hm] at this
                exact this
              rw [hm] at k0 c1 c3
              have m1 : (m : Int) < (n2 : Int) := by omega
              have m0 : (0 : Int) ≤ (m : Int) := by omega
              clear hm q1 q2 c1 HIN
              obtain ⟨b, ob, ha⟩ := (HBB.out _ HB.out).2.2.1.addr (by omega)
              subst ha
              have HRG : Hid (wr.rangeAt b (ob + m * 33) (entC (es.getD m noE))) := (HBB.out _ HB.out).2.2.1.at m (by omega)
              have HOK : Hid (okE (es.getD m noE)) := HEL.out.2.2 m (by omega)
              have HLP : Hid ((pickE es l i).length ≤ 64) := by unfold Hid; rw [pickE_len]; omega
              generalize es.getD m noE = e at *
              have HOa : Hid (OwnE (wr.alloc (.cells (entC e).toArray 26)) B0 u8 (pickE es l i)) := OwnE.alloc HO.out _
              have HBa : Hid (Below B0 w6 (wr.alloc (.cells (entC e).toArray 26))) := Below.alloc HB.out HSZ.out _
              have HSa : Hid (B0 ≤ (wr.alloc (.cells (entC e).toArray 26)).heap.size) := by have := HSZ.out; unfold Hid; simp; omega
              have HNa : Hid (ERow (wr.alloc (.cells (entC e).toArray 26)) (some ⟨wr.heap.size, 0, none⟩) 1 [e]) := ERow.new wr e _ HOK.out
              go_wp2_with (first
                | (refine wpList_load_mid (by rfl) 26 (.tmp 55) (by rfl) b (ob + m * 33) (by rfl) (entC e) _ HRG.out Tryd.underlying26 (by rfl) (by rw [entC_length HOK.out]; exact Tryd.sizeEn) ?_)
                | (refine wpList_buildEn (by rfl) (.tmp 56) (by rfl) e HOK.out (by rfl) ?_)
                | (at_builtin; refine wpList_append_entries (by rfl) (.tmp 49) (.tmp 57) (by rfl) B0 u8 (pickE es l i) (by rfl) HOa.out ⟨wr.heap.size, 0, none⟩ 1 1 [e] (by rfl) HNa.out (by omega) (by have := HLP.out; omega) HSa.out ?_; intro v5 w5 ho5 hg5 _; have HO5 : Hid (OwnE w5 B0 v5 (pickE es l i ++ [e])) := ho5; have HB5 : Hid (Below B0 w6 w5) := OwnE.grown HOa.out HBa.out hg5 (Nat.le_refl _) HSa.out; clear ho5 hg5))
              go_roundw
              case rel => exact ⟨i + 1, by omega, by go_num, by rw [HPS.out]; exact HO5.out, HIN2, HB5.out⟩
              case measure => simp [intOf]; omega
        · obtain rfl : i = n2 := by omega
          have g1 : ¬ (i : Int) < (i : Int) := by omega
          obtain ⟨a5, c5, hu, r5, hc5⟩ := HO.out.form
          rw [pickE_len] at hu r5 hc5
          subst hu
          have HR5 : Hid (ERow wr a5 i (pickE es l i)) := r5
          have HQ := HSM'.out (by trivial) HIN.out
          have HFS : Hid (faultE (pickE es l i) = 0 ∨ faultE (pickE es l i) = 7) := faultE_seven (by rw [pickE_len]; exact hn64) (fun e he => (faultE_ok HF.out).2.1 e (pickE_mem (by rw [HEL.out.1]; exact HIN.out) e he))
          clear r5 hlt
          rcases (show faultE (pickE es l i) = 0 ∨ faultE (pickE es l i) = 7 from HFS.out) with hfs | hfs
          · have HME : Hid (mapL (gE (pickE es l i)) 0 32 = M) := HQ hfs
            have HRT : Hid (∀ wx, Env wx → ERow wx a5 i (pickE es l i) → Calls Tryd.prog 11 #[.slice a5 i c5] wx fun r w' => r = .returned (.tuple #[digestV M, .nilIface]) ∧ Below wx.heap.size wx w') := fun wx hx hr => by
              have := wtrie_root a5 i c5 (pickE es l i) wx hx hr hc5 (by omega) hfs
              rw [HME.out] at this
              exact this
            clear HQ hfs HFS HME HSM' HIN HO
            go_wp2_with fail
            refine (HRT.out wr (HBB.out _ HB.out).1 HR5.out).mono ?_
            rintro r w7 ⟨rfl, hb7⟩
            have HB7 : Hid (Below B0 w6 w7) := HB.out.trans (hb7.mono HSZ.out)
            clear hb7 HRT HR5
            obtain ⟨g10, hg10⟩ : ∃ g10, w7.heap.size = g10 := ⟨_, rfl⟩
            obtain ⟨w8, hw8⟩ : ∃ w8, w7.alloc (.cells (cellsB zD).toArray 24) = w8 := ⟨_, rfl⟩
            have HTw8 : Hid (w8.there g10 0 32) := by rw [← hw8]; exact alloc_thereAt _ _ _ 32 _ hg10 zD_size.symm
            have HKw8 : Hid (Below w7.heap.size w7 (w8.setCells g10 0 (cellsB M))) := below_setCells _ (by rw [hg10]; exact Nat.le_refl _) _ _ _ (by rw [← hw8]; exact (Below.refl _ _).alloc (Nat.le_refl _) _)
            have HXw8 : Hid (DAt (w8.setCells g10 0 (cellsB M)) g10 0 M) := dat_stored HTw8.out lM
            have HS7 : Hid (B0 ≤ w7.heap.size) := by have := HB7.out.size; rw [HB0.out] at this; exact this
            have HB9 : Hid (Below B0 w6 (w8.setCells g10 0 (cellsB M))) := HB7.out.trans (HKw8.out.mono HS7.out)
            go_wp2_with (first
              | (refine wpList_allocE (by rfl) 24 (by rfl) (cellsB zD).toArray Tryd.zeroDg g10 hg10 w8 hw8 ?_)
              | (refine wpList_store_mid (by rfl) 24 (.tmp 10) (.tmp 62) (by rfl) g10 0 (cellsB M).toArray (by rfl) (by rfl) (by rw [cellsB_size, lM]; exact HTw8.out) (by rw [cellsB_size, lM]; exact Tryd.sizeDg) (all_oneCell_toArray (cellsB_one _)) ?_))
            generalize w8.setCells g10 0 (cellsB M) = w9 at *
            clear hw8 HTw8 hg10 HKw8
            refine (error_nil 7 w9).mono ?_
            rintro r w10 ⟨rfl, hb10⟩
            have HB10 : Hid (Below B0 w6 w10) := HB9.out.trans (hb10.mono (by have := HB9.out.size; rw [HB0.out] at this; exact this))
            have HY : Hid (w10.rangeAt g10 0 (cellsB M)) := HXw8.out.below hb10 (cell_block (HXw8.out.cell 0 (by omega)))
            have HX : Hid (w10.rangeAt g6 0 (cellsB M)) := (HBB.out _ HB10.out).2.2.2.2.1
            have HW : Hid (Below w.heap.size w w10) := (HBB.out _ HB10.out).2.2.2.2.2
            rw [show decide ((0 : Int) = 7) = false from rfl]
            clear hb10 HXw8 HB9 HB7
            go_wp2_with (first
              | (refine wpList_load_midG (by rfl) 24 (.tmp 10) (by rfl) g10 0 (by rfl) (cellsB M) _ HY.out Tryd.underlying24 (by rfl) (by rw [cellsB_length, lM]; exact Tryd.sizeDg) ?_)
              | (refine wpList_load_midG (by rfl) 24 (.tmp 6) (by rfl) g6 0 (by rfl) (cellsB M) _ HX.out Tryd.underlying24 (by rfl) (by rw [cellsB_length, lM]; exact Tryd.sizeDg) ?_)
              | (refine wpList_eqD (.tmp 71) (.tmp 72) (by rfl) (by rfl) M M lM lM (by rfl) (by rfl) true (decide_eq_true rfl) ?_))
            go_ret
            exact ⟨rfl, HW.out⟩
          · have HRT : Hid (∀ wx, Env wx → ERow wx a5 i (pickE es l i) → Calls Tryd.prog 11 #[.slice a5 i c5] wx fun r w' => r = .returned (.tuple #[digestV zT, .iface 27 (.int .i64 7)]) ∧ Below wx.heap.size wx w') := fun wx hx hr => wtrie_rootout a5 i c5 (pickE es l i) 7 wx hx hr hc5 (by omega) hfs (by omega)
            clear HQ hfs HFS HSM' HIN HO
            generalize zT = Z at *
            go_wp2_with fail
            refine (HRT.out wr (HBB.out _ HB.out).1 HR5.out).mono ?_
            rintro r w7 ⟨rfl, hb7⟩
            have HB7 : Hid (Below B0 w6 w7) := HB.out.trans (hb7.mono HSZ.out)
            clear hb7 HRT HR5
            obtain ⟨g10, hg10⟩ : ∃ g10, w7.heap.size = g10 := ⟨_, rfl⟩
            obtain ⟨w8, hw8⟩ : ∃ w8, w7.alloc (.cells (cellsB zD).toArray 24) = w8 := ⟨_, rfl⟩
            have HTw8 : Hid (w8.there g10 0 32) := by rw [← hw8]; exact alloc_thereAt _ _ _ 32 _ hg10 zD_size.symm
            have HKw8 : Hid (Below w7.heap.size w7 (w8.setCells g10 0 (cellsB Z))) := below_setCells _ (by rw [hg10]; exact Nat.le_refl _) _ _ _ (by rw [← hw8]; exact (Below.refl _ _).alloc (Nat.le_refl _) _)
            have HXw8 : Hid (DAt (w8.setCells g10 0 (cellsB Z)) g10 0 Z) := dat_stored HTw8.out lZ
            have HS7 : Hid (B0 ≤ w7.heap.size) := by have := HB7.out.size; rw [HB0.out] at this; exact this
            have HB9 : Hid (Below B0 w6 (w8.setCells g10 0 (cellsB Z))) := HB7.out.trans (HKw8.out.mono HS7.out)
            go_wp2_with (first
              | (refine wpList_allocE (by rfl) 24 (by rfl) (cellsB zD).toArray Tryd.zeroDg g10 hg10 w8 hw8 ?_)
              | (refine wpList_store_mid (by rfl) 24 (.tmp 10) (.tmp 62) (by rfl) g10 0 (cellsB Z).toArray (by rfl) (by rfl) (by rw [cellsB_size, lZ]; exact HTw8.out) (by rw [cellsB_size, lZ]; exact Tryd.sizeDg) (all_oneCell_toArray (cellsB_one _)) ?_))
            generalize w8.setCells g10 0 (cellsB Z) = w9 at *
            clear hw8 HTw8 hg10 HKw8
            refine (error_errno 7 7 w9 (HBB.out _ HB9.out).2.1).mono ?_
            rintro r w10 ⟨rfl, hb10⟩
            have HB10 : Hid (Below B0 w6 w10) := HB9.out.trans (hb10.mono (by have := HB9.out.size; rw [HB0.out] at this; exact this))
            have HW : Hid (Below w.heap.size w w10) := (HBB.out _ HB10.out).2.2.2.2.2
            rw [show decide ((7 : Int) = 7) = true from rfl]
            clear hb10 HXw8 HB9 HB7
            go_wp2_with fail
            go_ret
            exact ⟨rfl, HW.out⟩
    · have gnn : ((n2 : Int) == (n : Int)) = false := beq_eq_false_iff_ne.2 (by omega)
      go_enter Tryd.func5, Tryd.ntmps5
      go_wp2_with fail
      refine (wleafed_any w (HALL.out w H0.out).1).mono ?_
      rintro r w3 ⟨rfl, hb3⟩
      have HB3 : Hid (Below w.heap.size w w3) := hb3
      clear hb3
      go_wp2_with fail
      refine (HRT.out w3 HB3.out).mono ?_
      rintro r w4 ⟨rfl, hb4⟩
      have HB4 : Hid (Below w.heap.size w w4) := HB3.out.trans (hb4.mono HB3.out.size)
      clear hb4
      obtain ⟨g6, hg6⟩ : ∃ g6, w4.heap.size = g6 := ⟨_, rfl⟩
      obtain ⟨w5, hw5⟩ : ∃ w5, w4.alloc (.cells (cellsB zD).toArray 24) = w5 := ⟨_, rfl⟩
      have HTw5 : Hid (w5.there g6 0 32) := by rw [← hw5]; exact alloc_thereAt _ _ _ 32 _ hg6 zD_size.symm
      have HKw5 : Hid (Below w4.heap.size w4 (w5.setCells g6 0 (cellsB M))) := below_setCells _ (by rw [hg6]; exact Nat.le_refl _) _ _ _ (by rw [← hw5]; exact (Below.refl _ _).alloc (Nat.le_refl _) _)
      have HXw5 : Hid (DAt (w5.setCells g6 0 (cellsB M)) g6 0 M) := dat_stored HTw5.out lM
      have HB6 : Hid (Below w.heap.size w (w5.setCells g6 0 (cellsB M))) := HB4.out.trans (HKw5.out.mono HB4.out.size)
      go_upto_region 5 with (first
        | (refine wpList_allocE (by rfl) 24 (by rfl) (cellsB zD).toArray Tryd.zeroDg g6 hg6 w5 hw5 ?_)
        | (refine wpList_store_mid (by rfl) 24 (.tmp 6) (.tmp 18) (by rfl) g6 0 (cellsB M).toArray (by rfl) (by rfl) (by rw [cellsB_size, lM]; exact HTw5.out) (by rw [cellsB_size, lM]; exact Tryd.sizeDg) (all_oneCell_toArray (cellsB_one _)) ?_))
      generalize w5.setCells g6 0 (cellsB M) = w6 at *
      clear hw5 HTw5 hg6 HRT
      try simp only [Act.put, List.setIfInBounds_toArray, List.set_cons_zero, List.set_cons_succ]
      go_wp2_with fail
      go_ret
      exact ⟨rfl, HB6.out⟩
  · have HRT : Hid (∀ wx, Below w.heap.size w wx → Calls Tryd.prog 11 #[.slice a n c] wx fun r w' => r = .returned (.tuple #[digestV zT, .iface 27 (.int .i64 (faultE es))]) ∧ Below wx.heap.size wx w') := fun wx hx => wtrie_rootout a n c es _ wx (HALL.out wx hx).1 (HALL.out wx hx).2.2.1 hc hn rfl hf
    clear hf
    generalize zT = Z at *
    generalize faultE es = q at *
    go_enter Tryd.func5, Tryd.ntmps5
    go_wp2_with fail
    refine (wleafed_any w (HALL.out w H0.out).1).mono ?_
    rintro r w3 ⟨rfl, hb3⟩
    have HB3 : Hid (Below w.heap.size w w3) := hb3
    clear hb3
    go_wp2_with fail
    refine (HRT.out w3 HB3.out).mono ?_
    rintro r w4 ⟨rfl, hb4⟩
    have HB4 : Hid (Below w.heap.size w w4) := HB3.out.trans (hb4.mono HB3.out.size)
    clear hb4
    obtain ⟨g6, hg6⟩ : ∃ g6, w4.heap.size = g6 := ⟨_, rfl⟩
    obtain ⟨w5, hw5⟩ : ∃ w5, w4.alloc (.cells (cellsB zD).toArray 24) = w5 := ⟨_, rfl⟩
    have HTw5 : Hid (w5.there g6 0 32) := by rw [← hw5]; exact alloc_thereAt _ _ _ 32 _ hg6 zD_size.symm
    have HKw5 : Hid (Below w4.heap.size w4 (w5.setCells g6 0 (cellsB Z))) := below_setCells _ (by rw [hg6]; exact Nat.le_refl _) _ _ _ (by rw [← hw5]; exact (Below.refl _ _).alloc (Nat.le_refl _) _)
    have HXw5 : Hid (DAt (w5.setCells g6 0 (cellsB Z)) g6 0 Z) := dat_stored HTw5.out lZ
    have HB6 : Hid (Below w.heap.size w (w5.setCells g6 0 (cellsB Z))) := HB4.out.trans (HKw5.out.mono HB4.out.size)
    go_upto_region 5 with (first
      | (refine wpList_allocE (by rfl) 24 (by rfl) (cellsB zD).toArray Tryd.zeroDg g6 hg6 w5 hw5 ?_)
      | (refine wpList_store_mid (by rfl) 24 (.tmp 6) (.tmp 18) (by rfl) g6 0 (cellsB Z).toArray (by rfl) (by rfl) (by rw [cellsB_size, lZ]; exact HTw5.out) (by rw [cellsB_size, lZ]; exact Tryd.sizeDg) (all_oneCell_toArray (cellsB_one _)) ?_))
    generalize w5.setCells g6 0 (cellsB Z) = w6 at *
    clear hw5 HTw5 hg6 HRT
    try simp only [Act.put, List.setIfInBounds_toArray, List.set_cons_zero, List.set_cons_succ]
    go_wp2_with fail
    go_ret
    exact ⟨rfl, HB6.out⟩
end Go.Proofs.YtbhoijnhpmkglaaDoor
