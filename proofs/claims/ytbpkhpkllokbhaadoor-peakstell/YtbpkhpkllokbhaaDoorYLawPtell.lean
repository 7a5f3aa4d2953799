/- The law PeaksTell: the program's Add and Root are the document's. -/
import Derived.Test.YtbpkhpkllokbhaaDoorJ11
import Derived.Test.YtbpkhpkllokbhaaDoorJ13
import Derived.Test.YtbpkhpkllokbhaaDoorJ08
import Derived.Test.YtbpkhpkllokbhaaDoorJ14
import Derived.Deep.DeepCutAuto
import Derived.Deep.RegionHeld3
namespace Go.Proofs.YtbpkhpkllokbhaaDoor
open Go.RowKit
set_option linter.unusedVariables false
set_option linter.unusedSimpArgs false

theorem perr_nil : ∀ (er : Value) (e : Int), er = .nilIface → e = 0 → ∀ wy, Handle wy → Calls Tryd.prog 10 #[er, .int .i64 e] wy fun r w' => r = .returned (.bool true) ∧ Below wy.heap.size wy w' := fun er e h1 h2 wy _ => by
  subst h1 h2
  refine (error_nil 0 wy).mono ?_
  rintro r w' ⟨rfl, hb⟩
  exact ⟨rfl, hb⟩
theorem perr_no (k : Int) : ∀ (er : Value) (e : Int), er = .iface 25 (.int .i64 k) → e = k → ∀ wy, Handle wy → Calls Tryd.prog 10 #[er, .int .i64 e] wy fun r w' => r = .returned (.bool true) ∧ Below wy.heap.size wy w' := fun er e h1 h2 wy hh => by
  subst h1 h2
  refine (error_errno e e wy hh).mono ?_
  rintro r w' ⟨rfl, hb⟩
  exact ⟨by simp, hb⟩
set_option maxRecDepth 100000 in
set_option maxHeartbeats 4000000 in
theorem ptell_walk (n : Int) (a : Option Addr) (p c : Nat) (ps : List (List UInt8)) (l : List UInt8) (w : World) (G : Env w) (HH : Handle w) (n1 : -9223372036854775808 ≤ n) (n2 : n ≤ 9223372036854775807) (R : DRow w a p ps) (hc : p ≤ c) (hp : 32 * p ≤ 140737488351232) (hl : l.length = 32) :
    Calls Tryd.prog 3 #[.int .i64 n, .slice a p c, digestV l] w fun e w' => e = .returned (.bool true) ∧ Below w.heap.size w w' := by
  have lZ : zD.length = 32 := rfl
  obtain ⟨w2, hw2⟩ : ∃ w2, (w.alloc (.cells (cellsB l).toArray 24)).alloc (.cells (cellsB zD).toArray 24) = w2 := ⟨_, rfl⟩
  have hs1 : (w.alloc (.cells (cellsB l).toArray 24)).heap.size = w.heap.size + 1 := by simp
  have HS2 : Hid (w2.heap.size = w.heap.size + 1 + 1) := by unfold Hid; rw [← hw2]; simp
  have HB2 : Hid (Below w.heap.size w w2) := by rw [← hw2]; exact ((Below.refl _ _).alloc (Nat.le_refl _) _).alloc (by simp) _
  have HL2 : Hid (DAt w2 w.heap.size 0 l) := by rw [← hw2]; exact World.rangeAt_alloc (box_dat w l _) _
  have HT2 : Hid (w2.there (w.heap.size + 1) 0 32) := by rw [← hw2]; exact alloc_thereAt _ _ _ 32 _ hs1 zD_size.symm
  have HZ2 : Hid (DAt w2 (w.heap.size + 1) 0 zD) := by rw [← hw2]; exact box_rangeAt _ _ _ _ hs1
  have HK : Hid (∀ wx, Below (w.heap.size + 1) w2 wx → wx.rangeAt w.heap.size 0 (cellsB l) ∧ Env wx ∧ Handle wx ∧ DRow wx a p ps ∧ Below w.heap.size w wx) := fun wx hx => by
    have b : Below w.heap.size w wx := HB2.out.trans (hx.mono (by omega))
    exact ⟨HL2.out.below hx (by omega), G.below b, HH.below b, R.below b, b⟩
  have H0 : Hid (Below (w.heap.size + 1) w2 w2) := Below.refl _ _
  have HPS : Hid (∀ q ∈ ps, q.length = 32) := R.2.1
  have HPL : Hid (ps.length = p) := R.1
  clear G HH R HL2 HB2
  go_enter Tryd.func3, Tryd.ntmps3
  go_upto_region 4 with (refine wpList_allocE (by rfl) 24 (by rfl) (cellsB zD).toArray Tryd.zeroDg (w.heap.size + 1) hs1 w2 hw2 ?_)
  clear hw2 hs1
  try simp only [Act.put, List.setIfInBounds_toArray, List.set_cons_zero, List.set_cons_succ]
  go_cut [20] (fun bv wq => bv = .bool (decide (n < 0 ∨ 1073741824 < n)) ∧ Hid (wq = w2))
  case first =>
    by_cases hneg : n < 0
    · go_wp2_with fail
      go_meet
      case rel => exact ⟨by rw [decide_eq_true (.inl hneg)], rfl⟩
    by_cases hbig : 1073741824 < n
    · go_wp2_with fail
      go_meet
      case rel => exact ⟨by rw [decide_eq_true (.inr hbig)], rfl⟩
    go_wp2_with fail
    go_meet
    case rel => exact ⟨by rw [decide_eq_false (by omega)], rfl⟩
  case rest =>
  obtain ⟨rfl, hwc⟩ := hcut
  have hwc' : w2 = wc := hwc.out.symm
  subst hwc'
  go_upto_if 20 with fail
  go_cut [7, 8] (fun ev vv wq => ∃ (e : Int) (a' : Option Addr) (q c' : Nat) (pl : List (List UInt8)) (D : List UInt8), ev = .int .i64 e ∧ vv = .slice a' q c' ∧ DRow wq a' q pl ∧ q ≤ 281474976710656 ∧ D.length = 32 ∧ DAt wq (w.heap.size + 1) 0 D ∧ Hid (∀ wx, Env wx → DRow wx a p ps → Calls Tryd.prog 9 #[.int .i64 n, .slice a p c, digestV l] wx fun r w' => (∃ a2 c2 er, r = .returned (.tuple #[.slice a2 q c2, er]) ∧ DRow w' a2 q pl ∧ (∀ wy, Handle wy → Calls Tryd.prog 10 #[er, .int .i64 e] wy fun r w' => r = .returned (.bool true) ∧ Below wy.heap.size wy w')) ∧ Below wx.heap.size wx w') ∧ Hid (∀ wx, Env wx → DRow wx a p ps → Calls Tryd.prog 12 #[.int .i64 n, .slice a p c] wx fun r w' => (∃ er, r = .returned (.tuple #[digestV D, er]) ∧ (∀ wy, Handle wy → Calls Tryd.prog 10 #[er, .int .i64 e] wy fun r w' => r = .returned (.bool true) ∧ Below wy.heap.size wy w')) ∧ Below wx.heap.size wx w') ∧ Below (w.heap.size + 1) w2 wq)
  case first =>
    have HOUT : Hid (n < 0 ∨ 1073741824 < n → (∀ wx, Env wx → DRow wx a p ps → Calls Tryd.prog 9 #[.int .i64 n, .slice a p c, digestV l] wx fun r w' => (∃ a2 c2 er, r = .returned (.tuple #[.slice a2 0 c2, er]) ∧ DRow w' a2 0 [] ∧ (∀ wy, Handle wy → Calls Tryd.prog 10 #[er, .int .i64 2] wy fun r w' => r = .returned (.bool true) ∧ Below wy.heap.size wy w')) ∧ Below wx.heap.size wx w') ∧ (∀ wx, Env wx → DRow wx a p ps → Calls Tryd.prog 12 #[.int .i64 n, .slice a p c] wx fun r w' => (∃ er, r = .returned (.tuple #[digestV zD, er]) ∧ (∀ wy, Handle wy → Calls Tryd.prog 10 #[er, .int .i64 2] wy fun r w' => r = .returned (.bool true) ∧ Below wy.heap.size wy w')) ∧ Below wx.heap.size wx w')) := fun h => ⟨fun wx hx hr => by
        refine (wpeaks_addout n p c a ps l wx hx hr hc hp h n1 n2 hl).mono ?_
        rintro r w' ⟨⟨a2, c2, rfl⟩, hb⟩
        exact ⟨⟨a2, c2, _, rfl, ⟨rfl, (fun l hl => by cases hl), .inl rfl⟩, perr_no 2 _ _ rfl rfl⟩, hb⟩, fun wx hx hr => by
        refine (wpeaks_rootout n p c a ps wx hx hr hc hp h n1 n2).mono ?_
        rintro r w' ⟨rfl, hb⟩
        exact ⟨⟨_, rfl, perr_no 2 _ _ rfl rfl⟩, hb⟩⟩
    by_cases hQ : n < 0 ∨ 1073741824 < n
    · rw [decide_eq_true hQ]
      have HQ : Hid (n < 0 ∨ 1073741824 < n) := hQ
      clear hQ
      go_wp2_with fail
      go_meet
      case rel => exact ⟨2, none, 0, 0, [], zD, rfl, rfl, DRow.nil _, by omega, lZ, HZ2.out, (HOUT.out HQ.out).1, (HOUT.out HQ.out).2, H0.out⟩
    rw [decide_eq_false hQ]
    clear HOUT
    obtain ⟨j, rfl⟩ : ∃ j : Nat, n = (j : Int) := ⟨n.toNat, by omega⟩
    have hj : j ≤ 1073741824 := by omega
    have h31 := onesT_30 hj
    go_wp2_with fail
    refine (rones_any j w2 hj).mono ?_
    rintro r w3 ⟨rfl, rfl⟩
    by_cases hpo : p = onesT j
    · have HPO : Hid (p = onesT j) := hpo
      have e1 : ((p : Int) == (onesT j : Int)) = true := by rw [hpo]; exact beq_self_eq_true _
      have hp31 : p ≤ 31 := by omega
      have HX3 : Hid (w3.rangeAt w.heap.size 0 (cellsB l)) := (HK.out _ H0.out).1
      have HGL : Hid ((grownT j ps l).length = onesT (j + 1)) := grownT_length j ps l (by rw [HPL.out]; exact hpo)
      clear hpo
      go_wp2_with (refine wpList_load_mid (by rfl) 24 (.tmp 5) (by rfl) w.heap.size 0 (by rfl) (cellsB l) _ HX3.out Tryd.underlying24 (by rfl) (by rw [cellsB_length, hl]; exact Tryd.sizeDg) ?_)
      refine (rgrown_any j a p c ps l w3 hj (HK.out _ H0.out).2.2.2.1 hc HPO.out hl).mono ?_
      rintro r w4 ⟨⟨v4, rfl, hv⟩, hb4⟩
      have HO4 : Hid (OwnD w4 w3.heap.size v4 (grownT j ps l)) := hv
      have HB4 : Hid (Below w3.heap.size w3 w4) := hb4
      have HB4' : Hid (Below (w.heap.size + 1) w3 w4) := HB4.out.mono (by have := HS2.out; omega)
      clear hv hb4
      go_wp2_with fail
      refine (rbag_any p a c ps w4 (HK.out _ HB4'.out).2.2.2.1 hc (by omega)).mono ?_
      rintro r w5 ⟨rfl, hb5⟩
      have HB5 : Hid (Below w3.heap.size w3 w5) := HB4.out.trans (hb5.mono HB4.out.size)
      have HO5 : Hid (OwnD w5 w3.heap.size v4 (grownT j ps l)) := OwnD.below HO4.out hb5
      have HT5 : Hid (w5.there (w.heap.size + 1) 0 32) := there_below HT2.out HB5.out (by have := HS2.out; omega)
      have lB := bagT_length HPS.out
      have HRC : Hid (∀ wx, Env wx → DRow wx a p ps → Calls Tryd.prog 12 #[.int .i64 (j : Int), .slice a p c] wx fun e w' => e = .returned (.tuple #[digestV (bagT ps), .nilIface]) ∧ Below wx.heap.size wx w') := fun wx hx hr => wpeaks_root j p c a ps wx hx hr hc hj HPO.out
      clear hb5 HO4 HB4 HB4' HX3
      generalize bagT ps = D at *
      go_wp2_with (refine wpList_store_mid (by rfl) 24 (.tmp 9) (.tmp 31) (by rfl) (w.heap.size + 1) 0 (cellsB D).toArray (by rfl) (by rfl) (by rw [cellsB_size, lB]; exact HT5.out) (by rw [cellsB_size, lB]; exact Tryd.sizeDg) (all_oneCell_toArray (cellsB_one _)) ?_)
      go_meet
      case rel =>
        have hO := OwnD.setCells HO5.out (w.heap.size + 1) 0 (cellsB D) (by have := HS2.out; omega)
        obtain ⟨a4, c4, hv4, R4, hc4⟩ := hO.form
        refine ⟨0, a4, _, c4, grownT j ps l, D, rfl, hv4, R4, ?_, lB, dat_stored HT5.out lB, fun wx hx hr => ?_, fun wx hx hr => ?_, below_setCells _ (Nat.le_refl _) _ _ _ (HB5.out.mono (by have := HS2.out; omega))⟩
        · rw [HGL.out]
          have := onesT_le (j + 1)
          omega
        · refine (wpeaks_add j p c a ps l wx hx hr hc hj HPO.out hl).mono ?_
          rintro r w' ⟨⟨a2, c2, rfl, _, hd⟩, hb⟩
          rw [HGL.out]
          exact ⟨⟨a2, c2, _, rfl, hd, perr_nil _ _ rfl rfl⟩, hb⟩
        · refine (HRC.out wx hx hr).mono ?_
          rintro r w' ⟨rfl, hb⟩
          exact ⟨⟨_, rfl, perr_nil _ _ rfl rfl⟩, hb⟩
    · have HPO : Hid (p ≠ onesT j) := hpo
      have e1 : ((p : Int) == (onesT j : Int)) = false := beq_eq_false_iff_ne.2 (by omega)
      clear hpo
      go_wp2_with fail
      go_meet
      case rel =>
        refine ⟨3, none, 0, 0, [], zD, rfl, rfl, DRow.nil _, by omega, lZ, HZ2.out, fun wx hx hr => ?_, fun wx hx hr => ?_, H0.out⟩
        · refine (wpeaks_addlen j p c a ps l wx hx hr hc hp hj HPO.out hl).mono ?_
          rintro r w' ⟨⟨a2, c2, rfl⟩, hb⟩
          exact ⟨⟨a2, c2, _, rfl, ⟨rfl, (fun l hl => by cases hl), .inl rfl⟩, perr_no 3 _ _ rfl rfl⟩, hb⟩
        · refine (wpeaks_rootlen j p c a ps wx hx hr hc hp hj HPO.out).mono ?_
          rintro r w' ⟨rfl, hb⟩
          exact ⟨⟨_, rfl, perr_no 3 _ _ rfl rfl⟩, hb⟩
  case rest =>
    obtain ⟨e, a', q, c', pl, D, rfl, rfl, hd, hq, lD, hD, HAC, HRC, hb⟩ := hcut
    have HD : Hid (∀ wx, Below wc.heap.size wc wx → DRow wx a' q pl ∧ wx.rangeAt (w.heap.size + 1) 0 (cellsB D)) := fun wx hx => ⟨hd.below hx, hD.below hx (cell_block (hD.cell 0 (by omega)))⟩
    have HB : Hid (Below (w.heap.size + 1) w2 wc) := hb
    have HKC : Hid (∀ wx, Below wc.heap.size wc wx → wx.rangeAt w.heap.size 0 (cellsB l) ∧ Env wx ∧ Handle wx ∧ DRow wx a p ps ∧ Below w.heap.size w wx) := fun wx hx => HK.out _ (HB.out.trans (hx.mono (by have := HB.out.size; have := HS2.out; omega)))
    have H1 : Hid (Below wc.heap.size wc wc) := Below.refl _ _
    have HXC : Hid (wc.rangeAt w.heap.size 0 (cellsB l)) := (HKC.out _ H1.out).1
    clear hd hD hb HK HB HT2 HZ2 H0
    go_wp2_with (refine wpList_load_mid (by rfl) 24 (.tmp 5) (by rfl) w.heap.size 0 (by rfl) (cellsB l) _ HXC.out Tryd.underlying24 (by rfl) (by rw [cellsB_length, hl]; exact Tryd.sizeDg) ?_)
    refine (HAC.out wc (HKC.out _ H1.out).2.1 (HKC.out _ H1.out).2.2.2.1).mono ?_
    rintro r w4 ⟨⟨a2, c2, er, rfl, hd2, hE⟩, hb4⟩
    have HE : Hid (∀ wy, Handle wy → Calls Tryd.prog 10 #[er, .int .i64 e] wy fun r w' => r = .returned (.bool true) ∧ Below wy.heap.size wy w') := hE
    have HD4 : Hid (DRow w4 a2 q pl) := hd2
    have HB4 : Hid (Below wc.heap.size wc w4) := hb4
    clear hE hd2 hb4 HAC HXC
    go_wp2_with fail
    refine (HE.out w4 (HKC.out _ HB4.out).2.2.1).mono ?_
    rintro r w5 ⟨rfl, hb5⟩
    have HD5 : Hid (DRow w5 a2 q pl) := HD4.out.below hb5
    have HB5 : Hid (Below wc.heap.size wc w5) := HB4.out.trans (hb5.mono HB4.out.size)
    clear hb5 HE HD4 HB4
    go_wp2_with fail
    refine (sdigests_any a2 a' q q c2 c' pl pl w5 HD5.out (HD.out _ HB5.out).1 hq).mono ?_
    rintro r w6 ⟨rfl, hb6⟩
    rw [decide_eq_true (rfl : pl = pl)]
    have HB6 : Hid (Below wc.heap.size wc w6) := HB5.out.trans (hb6.mono HB5.out.size)
    clear hb6 HD5 HB5
    go_wp2_with fail
    refine (HRC.out w6 (HKC.out _ HB6.out).2.1 (HKC.out _ HB6.out).2.2.2.1).mono ?_
    rintro r w7 ⟨⟨er2, rfl, hE⟩, hb7⟩
    have HE : Hid (∀ wy, Handle wy → Calls Tryd.prog 10 #[er2, .int .i64 e] wy fun r w' => r = .returned (.bool true) ∧ Below wy.heap.size wy w') := hE
    have HB7 : Hid (Below wc.heap.size wc w7) := HB6.out.trans (hb7.mono HB6.out.size)
    clear hE hb7 HRC HB6
    obtain ⟨g7, hg7⟩ : ∃ g7, w7.heap.size = g7 := ⟨_, rfl⟩
    obtain ⟨w8, hw8⟩ : ∃ w8, w7.alloc (.cells (cellsB zD).toArray 24) = w8 := ⟨_, rfl⟩
    have HT8 : Hid (w8.there g7 0 32) := by rw [← hw8]; exact alloc_thereAt _ _ _ 32 _ hg7 zD_size.symm
    have HN7 : Hid (wc.heap.size ≤ g7) := by rw [← hg7]; exact HB7.out.size
    have HB9 : Hid (Below wc.heap.size wc (w8.setCells g7 0 (cellsB D))) := below_setCells _ HN7.out _ _ _ (by rw [← hw8]; exact HB7.out.alloc HB7.out.size _)
    have HX9 : Hid (DAt (w8.setCells g7 0 (cellsB D)) g7 0 D) := dat_stored HT8.out lD
    go_wp2_with (first
      | (refine wpList_allocE (by rfl) 24 (by rfl) (cellsB zD).toArray Tryd.zeroDg g7 hg7 w8 hw8 ?_)
      | (refine wpList_store_mid (by rfl) 24 (.tmp 14) (.tmp 55) (by rfl) g7 0 (cellsB D).toArray (by rfl) (by rfl) (by rw [cellsB_size, lD]; exact HT8.out) (by rw [cellsB_size, lD]; exact Tryd.sizeDg) (all_oneCell_toArray (cellsB_one _)) ?_))
    generalize w8.setCells g7 0 (cellsB D) = w9 at *
    clear hg7 hw8 HT8 HB7
    refine (HE.out w9 (HKC.out _ HB9.out).2.2.1).mono ?_
    rintro r w10 ⟨rfl, hb10⟩
    have HX10 : Hid (w10.rangeAt g7 0 (cellsB D)) := HX9.out.below hb10 (cell_block (HX9.out.cell 0 (by omega)))
    have HB10 : Hid (Below wc.heap.size wc w10) := HB9.out.trans (hb10.mono HB9.out.size)
    have HY10 : Hid (w10.rangeAt (w.heap.size + 1) 0 (cellsB D)) := (HD.out _ HB10.out).2
    clear hb10 HX9 HB9 HE
    go_wp2_with (first
      | (refine wpList_load_midG (by rfl) 24 (.tmp 14) (by rfl) g7 0 (by rfl) (cellsB D) _ HX10.out Tryd.underlying24 (by rfl) (by rw [cellsB_length, lD]; exact Tryd.sizeDg) ?_)
      | (refine wpList_load_midG (by rfl) 24 (.tmp 9) (by rfl) (w.heap.size + 1) 0 (by rfl) (cellsB D) _ HY10.out Tryd.underlying24 (by rfl) (by rw [cellsB_length, lD]; exact Tryd.sizeDg) ?_)
      | (refine wpList_eqD (.tmp 62) (.tmp 63) (by rfl) (by rfl) D D lD lD (by rfl) (by rfl) true (decide_eq_true rfl) ?_))
    go_ret
    exact ⟨rfl, (HKC.out _ HB10.out).2.2.2.2⟩
end Go.Proofs.YtbpkhpkllokbhaaDoor
