/- The law TrieSound: one value at a key. -/
import Derived.Test.YtbhoijnhpmkglaaDoorJ14
import Derived.Test.YtbhoijnhpmkglaaDoorJ15
namespace Go.Proofs.YtbhoijnhpmkglaaDoor
open Go.RowKit
set_option linter.unusedVariables false
set_option linter.unusedSimpArgs false

set_option maxRecDepth 100000 in
set_option maxHeartbeats 2000000 in
theorem isound_walk (k : Int) (a : List UInt8) (pa : Option Addr) (p c : Nat) (ps : List (List UInt8)) (b : List UInt8) (qa : Option Addr) (q d : Nat) (qs : List (List UInt8)) (w : World) (G : Env w) (k1 : -9223372036854775808 ≤ k) (k2 : k ≤ 9223372036854775807) (ha : a.length = 32) (R : DRow w pa p ps) (hc : p ≤ c) (hp : 32 * p ≤ 140737488351232) (hb : b.length = 32) (S : DRow w qa q qs) (hd : q ≤ d) (hq : 32 * q ≤ 140737488351232) :
    Calls Tryd.prog 8 #[.int .i64 k, digestV a, .slice pa p c, digestV b, .slice qa q d] w fun r w' => r = .returned (.bool true) ∧ Below w.heap.size w w' := by
  obtain ⟨w2, hw2⟩ : ∃ w2, (w.alloc (.cells (cellsB a).toArray 24)).alloc (.cells (cellsB b).toArray 24) = w2 := ⟨_, rfl⟩
  have hs1 : (w.alloc (.cells (cellsB a).toArray 24)).heap.size = w.heap.size + 1 := by simp
  have HS2 : Hid (w2.heap.size = w.heap.size + 1 + 1) := by unfold Hid; rw [← hw2]; simp
  have HB2 : Hid (Below w.heap.size w w2) := by rw [← hw2]; exact ((Below.refl _ _).alloc (Nat.le_refl _) _).alloc (by simp) _
  have hx2 : w2.rangeAt w.heap.size 0 (cellsB a) ∧ w2.rangeAt (w.heap.size + 1) 0 (cellsB b) := by rw [← hw2]; exact ⟨World.rangeAt_alloc (box_dat w a _) _, box_rangeAt _ _ _ _ hs1⟩
  have HALL : Hid (∀ wx, Below w2.heap.size w2 wx → Env wx ∧ wx.rangeAt w.heap.size 0 (cellsB a) ∧ wx.rangeAt (w.heap.size + 1) 0 (cellsB b) ∧ DRow wx pa p ps ∧ DRow wx qa q qs ∧ Below w.heap.size w wx) := fun wx hx => by
    have s := HS2.out
    have b : Below w.heap.size w wx := HB2.out.trans (hx.mono (by omega))
    exact ⟨G.below b, range_below hx2.1 hx (by omega), range_below hx2.2 hx (by omega), R.below b, S.below b, b⟩
  have H0 : Hid (Below w2.heap.size w2 w2) := Below.refl _ _
  have HLEN : Hid (ps.length = p ∧ qs.length = q) := ⟨R.1, S.1⟩
  clear G R S hx2 hs1
  go_enter Tryd.func8, Tryd.ntmps8
  go_wp2_with fail
  try rw [hw2]
  clear hw2
  refine (wleafed_any w2 (HALL.out w2 H0.out).1).mono ?_
  rintro r w3 ⟨rfl, hb3⟩
  have HB3 : Hid (Below w2.heap.size w2 w3) := hb3
  have HA3 : Hid (w3.rangeAt w.heap.size 0 (cellsB a)) := (HALL.out w3 hb3).2.1
  clear hb3
  go_wp2_with (refine wpList_load_mid (by rfl) 24 (.tmp 6) (by rfl) w.heap.size 0 (by rfl) (cellsB a) _ HA3.out Tryd.underlying24 (by rfl) (by rw [cellsB_length, ha]; exact Tryd.sizeDg) ?_)
  refine (wtrie_foldall k a pa p c ps w3 (HALL.out w3 HB3.out).1 k1 k2 ha (HALL.out w3 HB3.out).2.2.2.1 hc hp).mono ?_
  rintro r w4 ⟨⟨X, er, lX, rfl, hv⟩, hb4⟩
  have HV : Hid ((er = .nilIface ∧ isKey k = true ∧ p = 32 ∧ X = foldM k.toNat a ps) ∨ (∃ z : Int, er = .iface 27 (.int .i64 z))) := hv
  have HB4 : Hid (Below w2.heap.size w2 w4) := HB3.out.trans (hb4.mono HB3.out.size)
  clear hb4 hv HA3
  obtain ⟨g12, hg12⟩ : ∃ g12, w4.heap.size = g12 := ⟨_, rfl⟩
  obtain ⟨w5, hw5⟩ : ∃ w5, w4.alloc (.cells (cellsB zD).toArray 24) = w5 := ⟨_, rfl⟩
  have HTw5 : Hid (w5.there g12 0 32) := by rw [← hw5]; exact alloc_thereAt _ _ _ 32 _ hg12 zD_size.symm
  have HKw5 : Hid (Below w4.heap.size w4 (w5.setCells g12 0 (cellsB X))) := below_setCells _ (by rw [hg12]; exact Nat.le_refl _) _ _ _ (by rw [← hw5]; exact (Below.refl _ _).alloc (Nat.le_refl _) _)
  have HXw5 : Hid (DAt (w5.setCells g12 0 (cellsB X)) g12 0 X) := dat_stored HTw5.out lX
  have HB6 : Hid (Below w2.heap.size w2 (w5.setCells g12 0 (cellsB X))) := HB4.out.trans (HKw5.out.mono HB4.out.size)
  have HA6 : Hid ((w5.setCells g12 0 (cellsB X)).rangeAt (w.heap.size + 1) 0 (cellsB b)) := (HALL.out _ HB6.out).2.2.1
  go_wp2_with (first
    | (refine wpList_allocE (by rfl) 24 (by rfl) (cellsB zD).toArray Tryd.zeroDg g12 hg12 w5 hw5 ?_)
    | (refine wpList_store_mid (by rfl) 24 (.tmp 12) (.tmp 25) (by rfl) g12 0 (cellsB X).toArray (by rfl) (by rfl) (by rw [cellsB_size, lX]; exact HTw5.out) (by rw [cellsB_size, lX]; exact Tryd.sizeDg) (all_oneCell_toArray (cellsB_one _)) ?_)
    | (refine wpList_load_mid (by rfl) 24 (.tmp 8) (by rfl) (w.heap.size + 1) 0 (by rfl) (cellsB b) _ HA6.out Tryd.underlying24 (by rfl) (by rw [cellsB_length, hb]; exact Tryd.sizeDg) ?_))
  generalize w5.setCells g12 0 (cellsB X) = w6 at *
  clear hw5 HTw5 hg12
  refine (wtrie_foldall k b qa q d qs w6 (HALL.out w6 HB6.out).1 k1 k2 hb (HALL.out w6 HB6.out).2.2.2.2.1 hd hq).mono ?_
  rintro r w7 ⟨⟨Y, es, lY, rfl, hv⟩, hb7⟩
  have HV2 : Hid ((es = .nilIface ∧ isKey k = true ∧ q = 32 ∧ Y = foldM k.toNat b qs) ∨ (∃ z : Int, es = .iface 27 (.int .i64 z))) := hv
  have HB7 : Hid (Below w2.heap.size w2 w7) := HB6.out.trans (hb7.mono HB6.out.size)
  have HX7 : Hid (DAt w7 g12 0 X) := HXw5.out.below hb7 (cell_block (HXw5.out.cell 0 (by omega)))
  clear hb7 hv HA6 HXw5 HKw5
  obtain ⟨g14, hg14⟩ : ∃ g14, w7.heap.size = g14 := ⟨_, rfl⟩
  obtain ⟨w8, hw8⟩ : ∃ w8, w7.alloc (.cells (cellsB zD).toArray 24) = w8 := ⟨_, rfl⟩
  have HTw8 : Hid (w8.there g14 0 32) := by rw [← hw8]; exact alloc_thereAt _ _ _ 32 _ hg14 zD_size.symm
  have HKw8 : Hid (Below w7.heap.size w7 (w8.setCells g14 0 (cellsB Y))) := below_setCells _ (by rw [hg14]; exact Nat.le_refl _) _ _ _ (by rw [← hw8]; exact (Below.refl _ _).alloc (Nat.le_refl _) _)
  have HXw8 : Hid (DAt (w8.setCells g14 0 (cellsB Y)) g14 0 Y) := dat_stored HTw8.out lY
  have HB9 : Hid (Below w2.heap.size w2 (w8.setCells g14 0 (cellsB Y))) := HB7.out.trans (HKw8.out.mono HB7.out.size)
  have HX9 : Hid ((w8.setCells g14 0 (cellsB Y)).rangeAt g12 0 (cellsB X)) := HX7.out.below HKw8.out (cell_block (HX7.out.cell 0 (by omega)))
  have HY9 : Hid ((w8.setCells g14 0 (cellsB Y)).rangeAt g14 0 (cellsB Y)) := HXw8.out
  go_upto_region 6 with (first
    | (refine wpList_allocE (by rfl) 24 (by rfl) (cellsB zD).toArray Tryd.zeroDg g14 hg14 w8 hw8 ?_)
    | (refine wpList_store_mid (by rfl) 24 (.tmp 14) (.tmp 32) (by rfl) g14 0 (cellsB Y).toArray (by rfl) (by rfl) (by rw [cellsB_size, lY]; exact HTw8.out) (by rw [cellsB_size, lY]; exact Tryd.sizeDg) (all_oneCell_toArray (cellsB_one _)) ?_))
  generalize w8.setCells g14 0 (cellsB Y) = w9 at *
  clear hw8 HTw8 hg14 HKw8 HX7 HXw8
  try simp only [Act.put, List.setIfInBounds_toArray, List.set_cons_zero, List.set_cons_succ]
  have HA9 : Hid (w9.rangeAt w.heap.size 0 (cellsB a)) := (HALL.out w9 HB9.out).2.1
  have HBB9 : Hid (w9.rangeAt (w.heap.size + 1) 0 (cellsB b)) := (HALL.out w9 HB9.out).2.2.1
  rcases HV.out with ⟨h1, h2, h3, h4⟩ | ⟨z, h1⟩
  · subst h1
    rcases HV2.out with ⟨e1, e2, e3, e4⟩ | ⟨z, e1⟩
    · subst e1
      have HKK : Hid (isKey k = true ∧ p = 32 ∧ q = 32 ∧ X = foldM k.toNat a ps ∧ Y = foldM k.toNat b qs) := ⟨h2, h3, e3, h4, e4⟩
      clear h2 h3 h4 e2 e3 e4 HV HV2
      by_cases hxy : X = Y
      · by_cases hab : a = b
        · have HD1 : Hid ((!decide (X = Y)) = false) := by unfold Hid; simp [hxy]
          have HD2 : Hid (decide (a = b) = true) := decide_eq_true hab
          clear hxy hab
          go_wp2_with (first
            | (refine wpList_load_midG (by rfl) 24 (.tmp 12) (by rfl) g12 0 (by rfl) (cellsB X) _ HX9.out Tryd.underlying24 (by rfl) (by rw [cellsB_length, lX]; exact Tryd.sizeDg) ?_)
            | (refine wpList_load_midG (by rfl) 24 (.tmp 14) (by rfl) g14 0 (by rfl) (cellsB Y) _ HY9.out Tryd.underlying24 (by rfl) (by rw [cellsB_length, lY]; exact Tryd.sizeDg) ?_)
            | (refine wpList_neqD (.tmp 41) (.tmp 42) (by rfl) (by rfl) X Y lX lY (by rfl) (by rfl) false HD1.out ?_)
            | (refine wpList_load_midG (by rfl) 24 (.tmp 6) (by rfl) w.heap.size 0 (by rfl) (cellsB a) _ HA9.out Tryd.underlying24 (by rfl) (by rw [cellsB_length, ha]; exact Tryd.sizeDg) ?_)
            | (refine wpList_load_midG (by rfl) 24 (.tmp 8) (by rfl) (w.heap.size + 1) 0 (by rfl) (cellsB b) _ HBB9.out Tryd.underlying24 (by rfl) (by rw [cellsB_length, hb]; exact Tryd.sizeDg) ?_)
            | (refine wpList_eqD (.tmp 46) (.tmp 47) (by rfl) (by rfl) a b ha hb (by rfl) (by rfl) true HD2.out ?_))
          go_ret
          exact ⟨rfl, (HALL.out _ HB9.out).2.2.2.2.2⟩
        · have HD1 : Hid ((!decide (X = Y)) = false) := by unfold Hid; simp [hxy]
          have HD2 : Hid (decide (a = b) = false) := decide_eq_false hab
          have HCL : Hid (clashM k.toNat a ps b qs = true) := clash_is ps qs k.toNat a b (by have := HLEN.out; have := HKK.out; omega) hab (by rw [← HKK.out.2.2.2.1, ← HKK.out.2.2.2.2]; exact hxy)
          obtain ⟨hkk, hp32, hq32, _, _⟩ := HKK.out
          have hkb := of_decide_eq_true hkk
          obtain ⟨j, rfl⟩ : ∃ j : Nat, k = (j : Int) := ⟨k.toNat, by omega⟩
          subst hp32 hq32
          have HM : Hid (Calls Tryd.prog 26 #[.int .i64 (j : Int), digestV a, .slice pa 32 c, digestV b, .slice qa 32 d] w9 fun r w' => r = .returned (.bool true) ∧ Below w9.heap.size w9 w') := by
            have := rmapclash_any j a pa c ps b qa d qs w9 (by omega) ha hb (HALL.out _ HB9.out).2.2.2.1 hc (HALL.out _ HB9.out).2.2.2.2.1 hd
            have h := HCL.out
            rw [Int.toNat_natCast] at h
            rw [h] at this
            exact this
          clear hxy hab hkk HKK hkb
          go_wp2_with (first
            | (refine wpList_load_midG (by rfl) 24 (.tmp 12) (by rfl) g12 0 (by rfl) (cellsB X) _ HX9.out Tryd.underlying24 (by rfl) (by rw [cellsB_length, lX]; exact Tryd.sizeDg) ?_)
            | (refine wpList_load_midG (by rfl) 24 (.tmp 14) (by rfl) g14 0 (by rfl) (cellsB Y) _ HY9.out Tryd.underlying24 (by rfl) (by rw [cellsB_length, lY]; exact Tryd.sizeDg) ?_)
            | (refine wpList_neqD (.tmp 41) (.tmp 42) (by rfl) (by rfl) X Y lX lY (by rfl) (by rfl) false HD1.out ?_)
            | (refine wpList_load_midG (by rfl) 24 (.tmp 6) (by rfl) w.heap.size 0 (by rfl) (cellsB a) _ HA9.out Tryd.underlying24 (by rfl) (by rw [cellsB_length, ha]; exact Tryd.sizeDg) ?_)
            | (refine wpList_load_midG (by rfl) 24 (.tmp 8) (by rfl) (w.heap.size + 1) 0 (by rfl) (cellsB b) _ HBB9.out Tryd.underlying24 (by rfl) (by rw [cellsB_length, hb]; exact Tryd.sizeDg) ?_)
            | (refine wpList_eqD (.tmp 46) (.tmp 47) (by rfl) (by rfl) a b ha hb (by rfl) (by rfl) false HD2.out ?_)
            | (refine wpList_load_mid (by rfl) 24 (.tmp 6) (by rfl) w.heap.size 0 (by rfl) (cellsB a) _ HA9.out Tryd.underlying24 (by rfl) (by rw [cellsB_length, ha]; exact Tryd.sizeDg) ?_)
            | (refine wpList_load_mid (by rfl) 24 (.tmp 8) (by rfl) (w.heap.size + 1) 0 (by rfl) (cellsB b) _ HBB9.out Tryd.underlying24 (by rfl) (by rw [cellsB_length, hb]; exact Tryd.sizeDg) ?_))
          refine HM.out.mono ?_
          rintro r w10 ⟨rfl, hb10⟩
          have HB10 : Hid (Below w2.heap.size w2 w10) := HB9.out.trans (hb10.mono HB9.out.size)
          clear hb10
          go_wp2_with fail
          go_ret
          exact ⟨rfl, (HALL.out _ HB10.out).2.2.2.2.2⟩
      · have HD1 : Hid ((!decide (X = Y)) = true) := by unfold Hid; simp [hxy]
        clear hxy
        go_wp2_with (first
          | (refine wpList_load_midG (by rfl) 24 (.tmp 12) (by rfl) g12 0 (by rfl) (cellsB X) _ HX9.out Tryd.underlying24 (by rfl) (by rw [cellsB_length, lX]; exact Tryd.sizeDg) ?_)
          | (refine wpList_load_midG (by rfl) 24 (.tmp 14) (by rfl) g14 0 (by rfl) (cellsB Y) _ HY9.out Tryd.underlying24 (by rfl) (by rw [cellsB_length, lY]; exact Tryd.sizeDg) ?_)
          | (refine wpList_neqD (.tmp 41) (.tmp 42) (by rfl) (by rfl) X Y lX lY (by rfl) (by rfl) true HD1.out ?_))
        go_ret
        exact ⟨rfl, (HALL.out _ HB9.out).2.2.2.2.2⟩
    · subst e1
      go_wp2_with fail
      go_ret
      exact ⟨rfl, (HALL.out _ HB9.out).2.2.2.2.2⟩
  · subst h1
    go_wp2_with fail
    go_ret
    exact ⟨rfl, (HALL.out _ HB9.out).2.2.2.2.2⟩
end Go.Proofs.YtbhoijnhpmkglaaDoor
