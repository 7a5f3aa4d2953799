/- The law GrowTells: the program's Proof, Fold and Check are the document's. -/
import Derived.Test.YtdldkhhcicjbmabDoorJ14
import Derived.Test.YtdldkhhcicjbmabDoorJ07
import Derived.Test.YtdldkhhcicjbmabDoorJ15
import Derived.Test.YtdldkhhcicjbmabDoorJ16
import Derived.Deep.DeepCutAuto
import Derived.Deep.RegionHeld3
namespace Go.Proofs.YtdldkhhcicjbmabDoor
open Go.RowKit
set_option linter.unusedVariables false
set_option linter.unusedSimpArgs false

theorem gerr_nil : ∀ (er : Value) (e : Int), er = .nilIface → e = 0 → ∀ wy, Handle wy → Calls Tryd.prog 8 #[er, .int .i64 e] wy fun r w' => r = .returned (.bool true) ∧ Below wy.heap.size wy w' := fun er e h1 h2 wy _ => by
  subst h1 h2
  refine (error_nil 0 wy).mono ?_
  rintro r w' ⟨rfl, hb⟩
  exact ⟨rfl, hb⟩
theorem gerr_no (k : Int) : ∀ (er : Value) (e : Int), er = .iface 25 (.int .i64 k) → e = k → ∀ wy, Handle wy → Calls Tryd.prog 8 #[er, .int .i64 e] wy fun r w' => r = .returned (.bool true) ∧ Below wy.heap.size wy w' := fun er e h1 h2 wy hh => by
  subst h1 h2
  refine (error_errno e e wy hh).mono ?_
  rintro r w' ⟨rfl, hb⟩
  exact ⟨by simp, hb⟩
theorem check_out {m n : Int} {old now : List UInt8} {pf : List (List UInt8)} (h : n < 1 ∨ 256 < n ∨ m < 1 ∨ n < m) : checkB m n old now pf = false := by
  unfold checkB
  exact decide_eq_false (fun h' => by omega)
theorem check_len {m n : Nat} {old now : List UInt8} {pf : List (List UInt8)} (h : pf.length ≠ plongT m n true) : checkB (m : Int) (n : Int) old now pf = false := by
  unfold checkB
  rw [Int.toNat_natCast, Int.toNat_natCast]
  exact decide_eq_false (fun h' => h h'.2.2.2.1)
theorem check_in {m n : Nat} {old now : List UInt8} {pf : List (List UInt8)} (h1 : 1 ≤ m) (hm : m ≤ n) (hn : n ≤ 256) (h : pf.length = plongT m n true) : checkB (m : Int) (n : Int) old now pf = decide ((rootsT m n true old pf).1 = old ∧ (rootsT m n true old pf).2 = now) := by
  unfold checkB
  rw [Int.toNat_natCast, Int.toNat_natCast]
  refine decide_eq_decide.2 ⟨fun h' => ?_, fun h' => ⟨by omega, by omega, by omega, h, Prod.ext h'.1 h'.2⟩⟩
  rw [h'.2.2.2.2]
  exact ⟨rfl, rfl⟩

set_option maxRecDepth 100000 in
set_option maxHeartbeats 4000000 in
theorem gtells_walk (a : Option Addr) (N c : Nat) (ls : List (List UInt8)) (m n : Int) (old now : List UInt8) (pa : Option Addr) (p pc : Nat) (pf : List (List UInt8)) (w : World) (G : Env w) (HH : Handle w) (R : DRow w a N ls) (hc : N ≤ c) (hN : 32 * N ≤ 140737488351232) (m1 : -9223372036854775808 ≤ m) (m2 : m ≤ 9223372036854775807) (n1 : -9223372036854775808 ≤ n) (n2 : n ≤ 9223372036854775807) (ho : old.length = 32) (hw : now.length = 32) (RP : DRow w pa p pf) (hpc : p ≤ pc) (hp : 32 * p ≤ 140737488351232) :
    Calls Tryd.prog 3 #[.slice a N c, .int .i64 m, .int .i64 n, digestV old, digestV now, .slice pa p pc] w fun e w' => e = .returned (.bool true) ∧ Below w.heap.size w w' := by
  obtain ⟨iD, hiD, hzD0, hzD1, hzD2⟩ := info_parts Tryd.infoDg
  have lZ : zD.length = 32 := rfl
  obtain ⟨w2, hw2⟩ : ∃ w2, (w.alloc (.cells (cellsB old).toArray 24)).alloc (.cells (cellsB now).toArray 24) = w2 := ⟨_, rfl⟩
  have hs1 : (w.alloc (.cells (cellsB old).toArray 24)).heap.size = w.heap.size + 1 := by simp
  have HS2 : Hid (w2.heap.size = w.heap.size + 1 + 1) := by unfold Hid; rw [← hw2]; simp
  have HB2 : Hid (Below w.heap.size w w2) := by rw [← hw2]; exact ((Below.refl _ _).alloc (Nat.le_refl _) _).alloc (by simp) _
  have HL2 : Hid (DAt w2 w.heap.size 0 old ∧ DAt w2 (w.heap.size + 1) 0 now) := by rw [← hw2]; exact ⟨World.rangeAt_alloc (box_dat w old _) _, box_rangeAt _ _ _ _ hs1⟩
  have HK : Hid (∀ wx, Below w2.heap.size w2 wx → (wx.rangeAt w.heap.size 0 (cellsB old) ∧ wx.rangeAt (w.heap.size + 1) 0 (cellsB now)) ∧ Env wx ∧ Handle wx ∧ DRow wx a N ls ∧ DRow wx pa p pf ∧ Below w.heap.size w wx) := fun wx hx => by
    have s := HS2.out
    have b : Below w.heap.size w wx := HB2.out.trans (hx.mono (by omega))
    exact ⟨⟨HL2.out.1.below hx (by omega), HL2.out.2.below hx (by omega)⟩, G.below b, HH.below b, R.below b, RP.below b, b⟩
  have H0 : Hid (Below w2.heap.size w2 w2) := Below.refl _ _
  clear G HH R RP HL2 HB2 hs1
  go_enter Tryd.func3, Tryd.ntmps3
  go_upto_if 25 with fail
  try rw [hw2]
  clear hw2
  go_cut [13, 14] (fun ev vv wq => ∃ (e : Int) (a' : Option Addr) (p c' : Nat) (pl : List (List UInt8)), ev = .int .i64 e ∧ vv = .slice a' p c' ∧ DRow wq a' p pl ∧ p ≤ 281474976710656 ∧ Hid (∀ wx, Env wx → DRow wx a N ls → Calls Tryd.prog 7 #[.slice a N c, .int .i64 m] wx fun r w' => (∃ a2 c2 er, r = .returned (.tuple #[.slice a2 p c2, er]) ∧ DRow w' a2 p pl ∧ (∀ wy, Handle wy → Calls Tryd.prog 8 #[er, .int .i64 e] wy fun r w' => r = .returned (.bool true) ∧ Below wy.heap.size wy w')) ∧ Below wx.heap.size wx w') ∧ Below w2.heap.size w2 wq)
  case first =>
    by_cases hbig : 256 < N
    · have g1 : (256 : Int) < (N : Int) := by omega
      go_wp2_with fail
      go_meet
      case rel =>
        refine ⟨4, none, 0, 0, [], rfl, rfl, DRow.nil _, by omega, fun wx hx hr => ?_, H0.out⟩
        refine (wgrow_prooffull a N c m ls wx hx hr hc hbig hN m1 m2).mono ?_
        rintro r w' ⟨⟨a2, c2, rfl⟩, hb⟩
        exact ⟨⟨a2, c2, _, rfl, ⟨rfl, (fun l hl => by cases hl), .inl rfl⟩, gerr_no 4 _ _ rfl rfl⟩, hb⟩
    · have g1 : ¬ (256 : Int) < (N : Int) := by omega
      have HOUT : Hid (m < 1 ∨ (N : Int) < m → (∀ wx, Env wx → DRow wx a N ls → Calls Tryd.prog 7 #[.slice a N c, .int .i64 m] wx fun r w' => (∃ a2 c2 er, r = .returned (.tuple #[.slice a2 0 c2, er]) ∧ DRow w' a2 0 [] ∧ (∀ wy, Handle wy → Calls Tryd.prog 8 #[er, .int .i64 2] wy fun r w' => r = .returned (.bool true) ∧ Below wy.heap.size wy w')) ∧ Below wx.heap.size wx w')) := fun h wx hx hr => by
        refine (wgrow_proofout a N c m ls wx hx hr hc (by omega) h m1 m2).mono ?_
        rintro r w' ⟨⟨a2, c2, rfl⟩, hb⟩
        exact ⟨⟨a2, c2, _, rfl, ⟨rfl, (fun l hl => by cases hl), .inl rfl⟩, gerr_no 2 _ _ rfl rfl⟩, hb⟩
      by_cases hneg : m < 1
      · go_wp2_with fail
        go_meet
        case rel => exact ⟨2, none, 0, 0, [], rfl, rfl, DRow.nil _, by omega, HOUT.out (.inl hneg), H0.out⟩
      · by_cases hge : (N : Int) < m
        · go_wp2_with fail
          go_meet
          case rel => exact ⟨2, none, 0, 0, [], rfl, rfl, DRow.nil _, by omega, HOUT.out (.inr hge), H0.out⟩
        · obtain ⟨j, rfl⟩ : ∃ j : Nat, m = (j : Int) := ⟨m.toNat, by omega⟩
          have hj1 : 1 ≤ j := by omega
          have hj2 : j ≤ N := by omega
          clear HOUT
          go_wp2_with fail
          refine (rproof_any N a c j true ls w2 (HK.out _ H0.out).2.2.2.1 hc hj1 hj2 (by omega)).mono ?_
          rintro r w3 ⟨⟨v, rfl, hv⟩, hb3⟩
          obtain ⟨a3, c3, rfl, R3, hc3⟩ := OwnD.form hv
          have HLP : Hid ((proofT ls j true).length = plongT j N true) := (grow_ok N ls j true (rootT (ls.take j)) (HK.out _ H0.out).2.2.2.1.1 hj1 hj2 (fun _ => rfl)).2
          have HR3 : Hid (DRow w3 a3 (proofT ls j true).length (proofT ls j true)) := R3
          have HB3 : Hid (Below w2.heap.size w2 w3) := hb3
          have hlb := plongT_256 j N true (by omega)
          clear hv R3 hb3
          go_wp2_with fail
          go_meet
          case rel =>
            refine ⟨0, a3, _, c3, proofT ls j true, rfl, rfl, HR3.out, by rw [HLP.out]; omega, fun wx hx hr => ?_, HB3.out⟩
            refine (wgrow_proof a N c j ls wx hx hr hc (by omega) hj1 hj2).mono ?_
            rintro r w' ⟨⟨a2, c2, rfl, _, hd⟩, hb⟩
            rw [HLP.out]
            exact ⟨⟨a2, c2, _, rfl, hd, gerr_nil _ _ rfl rfl⟩, hb⟩
  case rest =>
    obtain ⟨e, a', pp, c', pl, rfl, rfl, hd, hpp, HC, hb⟩ := hcut
    have HD : Hid (∀ wx, Below wc.heap.size wc wx → DRow wx a' pp pl) := fun wx hx => hd.below hx
    have HB : Hid (Below w2.heap.size w2 wc) := hb
    clear hd hb
    go_wp2_with fail
    refine (HC.out wc (HK.out _ HB.out).2.1 (HK.out _ HB.out).2.2.2.1).mono ?_
    rintro r w4 ⟨⟨a2, c2, er, rfl, hd2, hE⟩, hb4⟩
    have HE : Hid (∀ wy, Handle wy → Calls Tryd.prog 8 #[er, .int .i64 e] wy fun r w' => r = .returned (.bool true) ∧ Below wy.heap.size wy w') := hE
    have HD4 : Hid (DRow w4 a2 pp pl ∧ DRow w4 a' pp pl) := ⟨hd2, HD.out _ hb4⟩
    have HB4 : Hid (Below w2.heap.size w2 w4) := HB.out.trans (hb4.mono HB.out.size)
    clear hE hd2 hb4 HC HD HB
    go_wp2_with fail
    refine (HE.out w4 (HK.out _ HB4.out).2.2.1).mono ?_
    rintro r w5 ⟨rfl, hb5⟩
    have HD5 : Hid (DRow w5 a2 pp pl ∧ DRow w5 a' pp pl) := ⟨HD4.out.1.below hb5, HD4.out.2.below hb5⟩
    have HB5 : Hid (Below w2.heap.size w2 w5) := HB4.out.trans (hb5.mono HB4.out.size)
    clear hb5 HE HD4 HB4
    go_wp2_with fail
    refine (sdigests_any a2 a' pp pp c2 c' pl pl w5 HD5.out.1 HD5.out.2 hpp).mono ?_
    rintro r w6 ⟨rfl, hb6⟩
    rw [decide_eq_true (rfl : pl = pl)]
    have HB6 : Hid (Below w2.heap.size w2 w6) := HB5.out.trans (hb6.mono HB5.out.size)
    clear hb6 HD5 HB5
    have HB7 : Hid (Below w2.heap.size w2 (w6.alloc (.cells (cellsB (zD ++ zD)).toArray 24))) := Below.alloc HB6.out HB6.out.size _
    have HZ7 : Hid (DRow (w6.alloc (.cells (cellsB (zD ++ zD)).toArray 24)) (some ⟨w6.heap.size, 0, none⟩) 2 [zD, zD]) := DRow.lit2 w6 zD zD _ lZ lZ
    go_upto_region 15 with (first
      | (refine wpList_buildC (by rfl) 24 _ (by rfl) (cellsB zD).toArray (by kernel_rfl) ?_)
      | (refine wpList_build2 (by rfl) (.tmp 55) (.tmp 56) 22 (by rfl) 24 (.agg zeros32) iD zD zD lZ lZ (by rfl) (by rfl) Tryd.underlying22 hiD hzD0 (by rfl) hzD1 ?_))
    clear HB6
    generalize w6.alloc (.cells (cellsB (zD ++ zD)).toArray 24) = w7 at *
    generalize w6.heap.size = g0 at *
    try simp only [Act.put, List.setIfInBounds_toArray, List.set_cons_zero, List.set_cons_succ]
    go_cut [72] (fun bv wq => bv = .bool (decide (n < 1 ∨ 256 < n ∨ m < 1 ∨ n < m)) ∧ Hid (wq = w7))
    case first =>
      by_cases hm1 : n < 1
      · go_wp2_with fail
        go_meet
        case rel => exact ⟨by rw [decide_eq_true (.inl hm1)], rfl⟩
      by_cases hm2 : 256 < n
      · go_wp2_with fail
        go_meet
        case rel => exact ⟨by rw [decide_eq_true (.inr (.inl hm2))], rfl⟩
      by_cases hi0 : m < 1
      · go_wp2_with fail
        go_meet
        case rel => exact ⟨by rw [decide_eq_true (.inr (.inr (.inl hi0)))], rfl⟩
      by_cases him : n < m
      · go_wp2_with fail
        go_meet
        case rel => exact ⟨by rw [decide_eq_true (.inr (.inr (.inr him)))], rfl⟩
      go_wp2_with fail
      go_meet
      case rel => exact ⟨by rw [decide_eq_false (by omega)], rfl⟩
    case rest =>
    obtain ⟨rfl, hwc⟩ := hcut
    have hwc' : w7 = wc := hwc.out.symm
    subst hwc'
    go_upto_if 72 with fail
    go_cut [13, 19] (fun ev rv wq => ∃ (e : Int) (A B : List UInt8) (g : Nat), ev = .int .i64 e ∧ rv = .slice (some ⟨g, 0, none⟩) 2 2 ∧ DRow wq (some ⟨g, 0, none⟩) 2 [A, B] ∧ Hid (∀ wx, Env wx → DRow wx pa p pf → Calls Tryd.prog 12 #[.int .i64 m, .int .i64 n, digestV old, .slice pa p pc] wx fun r w' => (∃ er, r = .returned (.tuple #[digestV A, digestV B, er]) ∧ (∀ wy, Handle wy → Calls Tryd.prog 8 #[er, .int .i64 e] wy fun r w' => r = .returned (.bool true) ∧ Below wy.heap.size wy w')) ∧ Below wx.heap.size wx w') ∧ Hid (checkB m n old now pf = decide (e = 0 ∧ A = old ∧ B = now)) ∧ Below w2.heap.size w2 wq)
    case first =>
      have HOUT : Hid (n < 1 ∨ 256 < n ∨ m < 1 ∨ n < m → (∀ wx, Env wx → DRow wx pa p pf → Calls Tryd.prog 12 #[.int .i64 m, .int .i64 n, digestV old, .slice pa p pc] wx fun r w' => (∃ er, r = .returned (.tuple #[digestV zD, digestV zD, er]) ∧ (∀ wy, Handle wy → Calls Tryd.prog 8 #[er, .int .i64 2] wy fun r w' => r = .returned (.bool true) ∧ Below wy.heap.size wy w')) ∧ Below wx.heap.size wx w')) := fun h wx hx hr => by
        refine (wgrow_foldout m n p pc old pa pf wx hx ho hr hpc hp h m1 m2 n1 n2).mono ?_
        rintro r w' ⟨rfl, hb⟩
        exact ⟨⟨_, rfl, gerr_no 2 _ _ rfl rfl⟩, hb⟩
      by_cases hQ : n < 1 ∨ 256 < n ∨ m < 1 ∨ n < m
      · rw [decide_eq_true hQ]
        have HQ : Hid (n < 1 ∨ 256 < n ∨ m < 1 ∨ n < m) := hQ
        clear hQ
        go_wp2_with fail
        go_meet
        case rel => exact ⟨2, zD, zD, g0, rfl, rfl, HZ7.out, HOUT.out HQ.out, by unfold Hid; rw [check_out HQ.out]; simp, HB7.out⟩
      rw [decide_eq_false hQ]
      clear HOUT
      obtain ⟨j, rfl⟩ : ∃ j : Nat, m = (j : Int) := ⟨m.toNat, by omega⟩
      obtain ⟨q, rfl⟩ : ∃ q : Nat, n = (q : Int) := ⟨n.toNat, by omega⟩
      have hj1 : 1 ≤ j := by omega
      have hq2 : q ≤ 256 := by omega
      have hjq : j ≤ q := by omega
      have hlb := plongT_256 j q true hq2
      have HPLN : Hid (pf.length = p) := (HK.out _ H0.out).2.2.2.2.1.1
      go_wp2_with fail
      refine (rplong_any q j true w7 hj1 hjq (by omega)).mono ?_
      rintro r w8 ⟨rfl, rfl⟩
      have HFO : Hid (∀ wx, p = plongT j q true → DRow wx pa p pf → Calls Tryd.prog 11 #[.int .i64 (j : Int), .int .i64 (q : Int), .bool true, digestV old, .slice pa p pc] wx fun e w' => (∃ g, e = .returned (.slice (some ⟨g, 0, none⟩) 2 2) ∧ DRow w' (some ⟨g, 0, none⟩) 2 [(rootsT j q true old pf).1, (rootsT j q true old pf).2]) ∧ Below wx.heap.size wx w') := fun wx hx hr => rroots_any q j p pc true old pa pf wx ho hr hx hpc hj1 hjq (by omega)
      have HTF : Hid (p = plongT j q true → (∀ wx, Env wx → DRow wx pa p pf → Calls Tryd.prog 12 #[.int .i64 (j : Int), .int .i64 (q : Int), digestV old, .slice pa p pc] wx fun r w' => (∃ er, r = .returned (.tuple #[digestV (rootsT j q true old pf).1, digestV (rootsT j q true old pf).2, er]) ∧ (∀ wy, Handle wy → Calls Tryd.prog 8 #[er, .int .i64 0] wy fun r w' => r = .returned (.bool true) ∧ Below wy.heap.size wy w')) ∧ Below wx.heap.size wx w')) := fun h wx hx hr => by
        refine (wgrow_fold j q p pc old pa pf wx hx ho hr h hpc hj1 hjq hq2).mono ?_
        rintro r w' ⟨rfl, hb⟩
        exact ⟨⟨_, rfl, gerr_nil _ _ rfl rfl⟩, hb⟩
      have HTL : Hid (p ≠ plongT j q true → (∀ wx, Env wx → DRow wx pa p pf → Calls Tryd.prog 12 #[.int .i64 (j : Int), .int .i64 (q : Int), digestV old, .slice pa p pc] wx fun r w' => (∃ er, r = .returned (.tuple #[digestV zD, digestV zD, er]) ∧ (∀ wy, Handle wy → Calls Tryd.prog 8 #[er, .int .i64 3] wy fun r w' => r = .returned (.bool true) ∧ Below wy.heap.size wy w')) ∧ Below wx.heap.size wx w')) := fun h wx hx hr => by
        refine (wgrow_foldlen j q p pc old pa pf wx hx ho hr hpc hp hj1 hjq hq2 h).mono ?_
        rintro r w' ⟨rfl, hb⟩
        exact ⟨⟨_, rfl, gerr_no 3 _ _ rfl rfl⟩, hb⟩
      have HCI : Hid (p = plongT j q true → checkB (j : Int) (q : Int) old now pf = decide ((rootsT j q true old pf).1 = old ∧ (rootsT j q true old pf).2 = now)) := fun h => check_in hj1 hjq hq2 (by rw [HPLN.out]; exact h)
      have HCL : Hid (p ≠ plongT j q true → checkB (j : Int) (q : Int) old now pf = false) := fun h => check_len (by rw [HPLN.out]; exact h)
      generalize plongT j q true = t at *
      by_cases hpt : p = t
      · have e5 : ((p : Int) != (t : Int)) = false := by simp [hpt]
        have HPT : Hid (p = t) := hpt
        clear hpt HTL HCL
        generalize (rootsT j q true old pf).1 = A at *
        generalize (rootsT j q true old pf).2 = B at *
        go_wp2_with (refine wpList_load_mid (by rfl) 24 (.tmp 9) (by rfl) w.heap.size 0 (by rfl) (cellsB old) _ (HK.out _ HB7.out).1.1 Tryd.underlying24 (by rfl) (by rw [cellsB_length, ho]; exact Tryd.sizeDg) ?_)
        refine (HFO.out w8 HPT.out (HK.out _ HB7.out).2.2.2.2.1).mono ?_
        rintro r w9 ⟨⟨g, rfl, hr9⟩, hb9⟩
        have HB9 : Hid (Below w2.heap.size w2 w9) := HB7.out.trans (hb9.mono HB7.out.size)
        have HR9 : Hid (DRow w9 (some ⟨g, 0, none⟩) 2 [A, B]) := hr9
        clear hb9 hr9
        go_wp2_with fail
        go_meet
        case rel => exact ⟨0, A, B, g, rfl, rfl, HR9.out, HTF.out HPT.out, by unfold Hid; rw [HCI.out HPT.out]; simp, HB9.out⟩
      · have e5 : ((p : Int) != (t : Int)) = true := by simp; omega
        have HPT : Hid (p ≠ t) := hpt
        clear hpt
        go_wp2_with fail
        go_meet
        case rel => exact ⟨3, zD, zD, g0, rfl, rfl, HZ7.out, HTL.out HPT.out, by unfold Hid; rw [HCL.out HPT.out]; simp, HB7.out⟩
    case rest =>
      clear HB7 HZ7 H0
      obtain ⟨e, A, B, g, rfl, rfl, hR, HC, HCB, hb⟩ := hcut
      obtain ⟨x1, x2, lA, lB⟩ := hR.two
      have HX : Hid (DAt wc g 0 A ∧ DAt wc g 32 B) := ⟨x1, x2⟩
      have HB : Hid (Below w2.heap.size w2 wc) := hb
      clear hR hb x1 x2
      go_wp2_with (refine wpList_load_mid (by rfl) 24 (.tmp 9) (by rfl) w.heap.size 0 (by rfl) (cellsB old) _ (HK.out _ HB.out).1.1 Tryd.underlying24 (by rfl) (by rw [cellsB_length, ho]; exact Tryd.sizeDg) ?_)
      refine (HC.out wc (HK.out _ HB.out).2.1 (HK.out _ HB.out).2.2.2.2.1).mono ?_
      rintro r wA ⟨⟨er, rfl, hE⟩, hbA⟩
      have HE : Hid (∀ wy, Handle wy → Calls Tryd.prog 8 #[er, .int .i64 e] wy fun r w' => r = .returned (.bool true) ∧ Below wy.heap.size wy w') := hE
      have hgc : g < wc.heap.size := cell_block (HX.out.1.cell 0 (by omega))
      have HXA : Hid (DAt wA g 0 A ∧ DAt wA g 32 B ∧ g < wA.heap.size) := ⟨HX.out.1.below hbA hgc, HX.out.2.below hbA hgc, Nat.lt_of_lt_of_le hgc hbA.size⟩
      have HBA : Hid (Below w2.heap.size w2 wA) := HB.out.trans (hbA.mono HB.out.size)
      clear hE hbA HC HX HB hgc
      obtain ⟨wB, hwB⟩ : ∃ wB, wA.alloc (.cells (cellsB zD).toArray 24) = wB := ⟨_, rfl⟩
      obtain ⟨wC, hwC⟩ : ∃ wC, wB.alloc (.cells (cellsB zD).toArray 24) = wC := ⟨_, rfl⟩
      have sB : wB.heap.size = wA.heap.size + 1 := by rw [← hwB]; simp
      have bC : Below wA.heap.size wA wC := by rw [← hwC, ← hwB]; exact ((Below.refl _ _).alloc (Nat.le_refl _) _).alloc (by simp) _
      have HTB : Hid (wC.there wA.heap.size 0 32) := by rw [← hwC, ← hwB]; exact World.there_alloc (alloc_thereAt _ _ _ 32 _ rfl zD_size.symm) _
      have HTC : Hid (wC.there (wA.heap.size + 1) 0 32) := by rw [← hwC]; exact alloc_thereAt _ _ _ 32 _ sB zD_size.symm
      obtain ⟨wD, hwD⟩ : ∃ wD, wC.setCells wA.heap.size 0 (cellsB A) = wD := ⟨_, rfl⟩
      have HTD : Hid (wD.there (wA.heap.size + 1) 0 32) := by rw [← hwD]; exact World.there_setCells HTC.out _ _ _
      obtain ⟨wE, hwE⟩ : ∃ wE, wD.setCells (wA.heap.size + 1) 0 (cellsB B) = wE := ⟨_, rfl⟩
      have bE : Below wA.heap.size wA wE := by rw [← hwE, ← hwD]; exact below_setCells _ (by omega) _ _ _ (below_setCells _ (Nat.le_refl _) _ _ _ bC)
      have HBE : Hid (Below w2.heap.size w2 wE) := HBA.out.trans (bE.mono HBA.out.size)
      have HAE : Hid (DAt wE wA.heap.size 0 A) := by rw [← hwE, ← hwD]; exact World.rangeAt_setCells_apart (dat_stored HTB.out lA) _ _ _ (.inl (by omega))
      have HBBE : Hid (DAt wE (wA.heap.size + 1) 0 B) := by rw [← hwE]; exact dat_stored HTD.out lB
      have HXE : Hid (DAt wE g 0 A ∧ DAt wE g 32 B ∧ g < wE.heap.size) := ⟨HXA.out.1.below bE HXA.out.2.2, HXA.out.2.1.below bE HXA.out.2.2, Nat.lt_of_lt_of_le HXA.out.2.2 bE.size⟩
      have HSB : Hid (wB.heap.size = wA.heap.size + 1) := sB
      clear bE bC HXA HBA sB
      go_wp2_with (first
        | (refine wpList_allocE (by rfl) 24 (by rfl) (cellsB zD).toArray Tryd.zeroDg wA.heap.size rfl wB hwB ?_)
        | (refine wpList_allocE (by rfl) 24 (by rfl) (cellsB zD).toArray Tryd.zeroDg (wA.heap.size + 1) HSB.out wC hwC ?_)
        | (refine wpList_store_mid (by rfl) 24 (.tmp 20) (.tmp 90) (by rfl) wA.heap.size 0 (cellsB A).toArray (by rfl) (by rfl) (by rw [cellsB_size, lA]; exact HTB.out) (by rw [cellsB_size, lA]; exact Tryd.sizeDg) (all_oneCell_toArray (cellsB_one _)) ?_; rw [show (cellsB A).toArray.toList = cellsB A from rfl, hwD])
        | (refine wpList_store_mid (by rfl) 24 (.tmp 21) (.tmp 91) (by rfl) (wA.heap.size + 1) 0 (cellsB B).toArray (by rfl) (by rfl) (by rw [cellsB_size, lB]; exact HTD.out) (by rw [cellsB_size, lB]; exact Tryd.sizeDg) (all_oneCell_toArray (cellsB_one _)) ?_; rw [show (cellsB B).toArray.toList = cellsB B from rfl, hwE]))
      clear hwB hwC hwD hwE HTB HTC HTD HSB
      refine (HE.out wE (HK.out _ HBE.out).2.2.1).mono ?_
      rintro r wF ⟨rfl, hbF⟩
      have HBF : Hid (Below w2.heap.size w2 wF) := HBE.out.trans (hbF.mono HBE.out.size)
      have hgA : wA.heap.size < wE.heap.size := cell_block (HAE.out.cell 0 (by omega))
      have hgB : wA.heap.size + 1 < wE.heap.size := cell_block (HBBE.out.cell 0 (by omega))
      have HSF : Hid (∀ wx, Below wF.heap.size wF wx → (wx.rangeAt wA.heap.size 0 (cellsB A) ∧ wx.rangeAt (wA.heap.size + 1) 0 (cellsB B) ∧ wx.rangeAt g 0 (cellsB A) ∧ wx.rangeAt g 32 (cellsB B)) ∧ Below w2.heap.size w2 wx) := fun wx hx => by
        have b : Below wE.heap.size wE wx := hbF.trans (hx.mono hbF.size)
        exact ⟨⟨HAE.out.below b hgA, HBBE.out.below b hgB, HXE.out.1.below b HXE.out.2.2, HXE.out.2.1.below b HXE.out.2.2⟩, HBE.out.trans (b.mono HBE.out.size)⟩
      clear hbF HE HBE HAE HBBE HXE hgA hgB
      go_wp2_with fail
      refine wp_region_noPanic ?_
      refine wp_region_held_drew (S := fun w' => w'.rangeAt wA.heap.size 0 (cellsB A) ∧ w'.rangeAt (wA.heap.size + 1) 0 (cellsB B) ∧ w'.rangeAt g 0 (cellsB A) ∧ w'.rangeAt g 32 (cellsB B)) (by kernel_rfl) ((HSF.out _ (below_drewN wF 1)).1) (fun hHeld => ?_)
      try simp only [Act.put, List.setIfInBounds_toArray, List.set_cons_zero, List.set_cons_succ]
      have HBd : Hid (Below wF.heap.size wF wF.drew) := below_drewN wF 1
      generalize wF.drew = wd at *
      refine wpAnyH_take (i := 0) (v := ?_) (by simp only [List.getElem?_toArray, List.getElem?_cons_zero, List.getElem?_cons_succ]; rfl) (by kernel_rfl) (by kernel_rfl) (by kernel_rfl) (fun _ _ _ h => h) (Or.inl ⟨by rfl, ?_⟩) hHeld ?_
      rotate_left
      · intro w hSw
        obtain ⟨hSw0, hSw1, hSw2, hSw3⟩ := hSw
        go_simp
        try with_reducible rfl
      try simp only [Act.put, List.setIfInBounds_toArray, List.set_cons_zero, List.set_cons_succ]
      refine wpAnyH_take (i := 1) (v := ?_) (by simp only [List.getElem?_toArray, List.getElem?_cons_zero, List.getElem?_cons_succ]; rfl) (by kernel_rfl) (by kernel_rfl) (by kernel_rfl) (fun _ _ _ h => h) (Or.inl ⟨by rfl, ?_⟩) hHeld ?_
      rotate_left
      · intro w hSw
        obtain ⟨hSw0, hSw1, hSw2, hSw3⟩ := hSw
        go_simp
        try with_reducible rfl
      try simp only [Act.put, List.setIfInBounds_toArray, List.set_cons_zero, List.set_cons_succ]
      refine wpAnyH_take (i := 2) (v := ?_) (by simp only [List.getElem?_toArray, List.getElem?_cons_zero, List.getElem?_cons_succ]; rfl) (by kernel_rfl) (by kernel_rfl) (by kernel_rfl) (fun _ _ _ h => h) (Or.inl ⟨by rfl, ?_⟩) hHeld ?_
      rotate_left
      · intro w hSw
        obtain ⟨hSw0, hSw1, hSw2, hSw3⟩ := hSw
        go_simp
        try with_reducible rfl
      try simp only [Act.put, List.setIfInBounds_toArray, List.set_cons_zero, List.set_cons_succ]
      refine wpAnyH_take (i := 3) (v := .agg (cellsB A).toArray) (by simp only [List.getElem?_toArray, List.getElem?_cons_zero, List.getElem?_cons_succ]; rfl) (by kernel_rfl) (by kernel_rfl) (by kernel_rfl) (fun _ _ _ h => h)
        (yieldsIf_load_mid (by rfl) _ _ rfl _ _ rfl _ _ (fun w hw => hw.1) Tryd.underlying24 rfl (by rw [cellsB_length, lA]; exact Tryd.sizeDg)) hHeld ?_
      try simp only [Act.put, List.setIfInBounds_toArray, List.set_cons_zero, List.set_cons_succ]
      refine wpAnyH_take (i := 4) (v := ?_) (by simp only [List.getElem?_toArray, List.getElem?_cons_zero, List.getElem?_cons_succ]; rfl) (by kernel_rfl) (by kernel_rfl) (by kernel_rfl) (fun _ _ _ h => h) (Or.inl ⟨by rfl, ?_⟩) hHeld ?_
      rotate_left
      · intro w hSw
        obtain ⟨hSw0, hSw1, hSw2, hSw3⟩ := hSw
        go_simp
        try with_reducible rfl
      try simp only [Act.put, List.setIfInBounds_toArray, List.set_cons_zero, List.set_cons_succ]
      refine wpAnyH_take (i := 5) (v := ?_) (by simp only [List.getElem?_toArray, List.getElem?_cons_zero, List.getElem?_cons_succ]; rfl) (by kernel_rfl) (by kernel_rfl) (by kernel_rfl) (fun _ _ _ h => h) (Or.inl ⟨by rfl, ?_⟩) hHeld ?_
      rotate_left
      · intro w hSw
        obtain ⟨hSw0, hSw1, hSw2, hSw3⟩ := hSw
        go_simp
        try with_reducible rfl
      try simp only [Act.put, List.setIfInBounds_toArray, List.set_cons_zero, List.set_cons_succ]
      refine wpAnyH_take (i := 6) (v := .agg (cellsB A).toArray) (by simp only [List.getElem?_toArray, List.getElem?_cons_zero, List.getElem?_cons_succ]; rfl) (by kernel_rfl) (by kernel_rfl) (by kernel_rfl) (fun _ _ _ h => h)
        (yieldsIf_load_mid (by rfl) _ _ rfl _ _ rfl _ _ (fun w hw => hw.2.2.1) Tryd.underlying24 rfl (by rw [cellsB_length, lA]; exact Tryd.sizeDg)) hHeld ?_
      try simp only [Act.put, List.setIfInBounds_toArray, List.set_cons_zero, List.set_cons_succ]
      refine wpAnyH_take (i := 7) (v := .bool false) (by simp only [List.getElem?_toArray, List.getElem?_cons_zero, List.getElem?_cons_succ]; rfl) (by kernel_rfl) (by kernel_rfl) (by kernel_rfl) (fun _ _ _ h => h)
        (yieldsIf_neqD (by rfl) _ _ rfl A A lA lA rfl rfl false (by simp)) hHeld ?_
      try simp only [Act.put, List.setIfInBounds_toArray, List.set_cons_zero, List.set_cons_succ]
      refine wpAnyH_take (i := 8) (v := ?_) (by simp only [List.getElem?_toArray, List.getElem?_cons_zero, List.getElem?_cons_succ]; rfl) (by kernel_rfl) (by kernel_rfl) (by kernel_rfl) (fun _ _ _ h => h) (Or.inl ⟨by rfl, ?_⟩) hHeld ?_
      rotate_left
      · intro w hSw
        obtain ⟨hSw0, hSw1, hSw2, hSw3⟩ := hSw
        go_simp
        try with_reducible rfl
      try simp only [Act.put, List.setIfInBounds_toArray, List.set_cons_zero, List.set_cons_succ]
      refine wpAnyH_take (i := 9) (v := ?_) (by simp only [List.getElem?_toArray, List.getElem?_cons_zero, List.getElem?_cons_succ]; rfl) (by kernel_rfl) (by kernel_rfl) (by kernel_rfl) (fun _ _ _ h => h) (Or.inl ⟨by rfl, ?_⟩) hHeld ?_
      rotate_left
      · intro w hSw
        obtain ⟨hSw0, hSw1, hSw2, hSw3⟩ := hSw
        go_simp
        try with_reducible rfl
      try simp only [Act.put, List.setIfInBounds_toArray, List.set_cons_zero, List.set_cons_succ]
      refine wpAnyH_take (i := 10) (v := .agg (cellsB B).toArray) (by simp only [List.getElem?_toArray, List.getElem?_cons_zero, List.getElem?_cons_succ]; rfl) (by kernel_rfl) (by kernel_rfl) (by kernel_rfl) (fun _ _ _ h => h)
        (yieldsIf_load_mid (by rfl) _ _ rfl _ _ rfl _ _ (fun w hw => hw.2.1) Tryd.underlying24 rfl (by rw [cellsB_length, lB]; exact Tryd.sizeDg)) hHeld ?_
      try simp only [Act.put, List.setIfInBounds_toArray, List.set_cons_zero, List.set_cons_succ]
      refine wpAnyH_take (i := 11) (v := ?_) (by simp only [List.getElem?_toArray, List.getElem?_cons_zero, List.getElem?_cons_succ]; rfl) (by kernel_rfl) (by kernel_rfl) (by kernel_rfl) (fun _ _ _ h => h) (Or.inl ⟨by rfl, ?_⟩) hHeld ?_
      rotate_left
      · intro w hSw
        obtain ⟨hSw0, hSw1, hSw2, hSw3⟩ := hSw
        go_simp
        try with_reducible rfl
      try simp only [Act.put, List.setIfInBounds_toArray, List.set_cons_zero, List.set_cons_succ]
      refine wpAnyH_take (i := 12) (v := ?_) (by simp only [List.getElem?_toArray, List.getElem?_cons_zero, List.getElem?_cons_succ]; rfl) (by kernel_rfl) (by kernel_rfl) (by kernel_rfl) (fun _ _ _ h => h) (Or.inl ⟨by rfl, ?_⟩) hHeld ?_
      rotate_left
      · intro w hSw
        obtain ⟨hSw0, hSw1, hSw2, hSw3⟩ := hSw
        go_simp
        try with_reducible rfl
      try simp only [Act.put, List.setIfInBounds_toArray, List.set_cons_zero, List.set_cons_succ]
      refine wpAnyH_take (i := 13) (v := .agg (cellsB B).toArray) (by simp only [List.getElem?_toArray, List.getElem?_cons_zero, List.getElem?_cons_succ]; rfl) (by kernel_rfl) (by kernel_rfl) (by kernel_rfl) (fun _ _ _ h => h)
        (yieldsIf_load_mid (by rfl) _ _ rfl _ _ rfl _ _ (fun w hw => hw.2.2.2) Tryd.underlying24 rfl (by rw [cellsB_length, lB]; exact Tryd.sizeDg)) hHeld ?_
      try simp only [Act.put, List.setIfInBounds_toArray, List.set_cons_zero, List.set_cons_succ]
      refine wpAnyH_take (i := 14) (v := .bool false) (by simp only [List.getElem?_toArray, List.getElem?_cons_zero, List.getElem?_cons_succ]; rfl) (by kernel_rfl) (by kernel_rfl) (by kernel_rfl) (fun _ _ _ h => h)
        (yieldsIf_neqD (by rfl) _ _ rfl B B lB lB rfl rfl false (by simp)) hHeld ?_
      try simp only [Act.put, List.setIfInBounds_toArray, List.set_cons_zero, List.set_cons_succ]
      refine wpAnyH_take (i := 15) (v := ?_) (by simp only [List.getElem?_toArray, List.getElem?_cons_zero, List.getElem?_cons_succ]; rfl) (by kernel_rfl) (by kernel_rfl) (by kernel_rfl) (fun _ _ _ h => h) (Or.inl ⟨by rfl, ?_⟩) hHeld ?_
      rotate_left
      · intro w hSw
        obtain ⟨hSw0, hSw1, hSw2, hSw3⟩ := hSw
        go_simp
        try with_reducible rfl
      try simp only [Act.put, List.setIfInBounds_toArray, List.set_cons_zero, List.set_cons_succ]
      refine wpAnyH_done (by kernel_rfl) (NoPanic.normal ?_) _
      clear hHeld
      have HSd : Hid (∀ wx, Below wd.heap.size wd wx → ((wx.rangeAt g 0 (cellsB A) ∧ wx.rangeAt g 32 (cellsB B)) ∧ wx.rangeAt w.heap.size 0 (cellsB old) ∧ wx.rangeAt (w.heap.size + 1) 0 (cellsB now)) ∧ Below w2.heap.size w2 wx) := fun wx hx => by
        have b : Below wF.heap.size wF wx := HBd.out.trans (hx.mono HBd.out.size)
        have k := HSF.out _ b
        exact ⟨⟨⟨k.1.2.2.1, k.1.2.2.2⟩, (HK.out _ k.2).1⟩, k.2⟩
      have HCC : Hid (∀ wx, Below w2.heap.size w2 wx → Calls Tryd.prog 13 #[.int .i64 m, .int .i64 n, digestV old, digestV now, .slice pa p pc] wx fun e w' => e = .returned (.bool (checkB m n old now pf)) ∧ Below wx.heap.size wx w') := fun wx hx => wgrow_check m n old now p pc pa pf wx (HK.out _ hx).2.1 ho hw (HK.out _ hx).2.2.2.2.1 hpc hp m1 m2 n1 n2
      clear HSF HBF HBd
      by_cases he : e = 0
      · subst he
        by_cases hAo : A = old
        · have HCB' : checkB m n old now pf = decide (B = now) := by rw [HCB.out]; simp [hAo]
          clear HCB
          go_wp2_with fail
          refine wp_region_noPanic ?_
          refine wp_region_held_drew (S := fun w' => (w'.rangeAt g 0 (cellsB A) ∧ w'.rangeAt g 32 (cellsB B)) ∧ w'.rangeAt w.heap.size 0 (cellsB old) ∧ w'.rangeAt (w.heap.size + 1) 0 (cellsB now)) (by kernel_rfl) ((HSd.out _ (below_drewN wd 1)).1) (fun hHeld => ?_)
          try simp only [Act.put, List.setIfInBounds_toArray, List.set_cons_zero, List.set_cons_succ]
          have HBe : Hid (Below wd.heap.size wd wd.drew) := below_drewN wd 1
          generalize wd.drew = we at *
          refine wpAnyH_take (i := 0) (v := ?_) (by simp only [List.getElem?_toArray, List.getElem?_cons_zero, List.getElem?_cons_succ]; rfl) (by kernel_rfl) (by kernel_rfl) (by kernel_rfl) (fun _ _ _ h => h) (Or.inl ⟨by rfl, ?_⟩) hHeld ?_
          rotate_left
          · intro w hSw
            obtain ⟨hSw0, hSw1, hSw2⟩ := hSw
            go_simp
            try with_reducible rfl
          try simp only [Act.put, List.setIfInBounds_toArray, List.set_cons_zero, List.set_cons_succ]
          refine wpAnyH_take (i := 1) (v := .bool true) (by simp only [List.getElem?_toArray, List.getElem?_cons_zero, List.getElem?_cons_succ]; rfl) (by kernel_rfl) (by kernel_rfl) (by kernel_rfl) (fun _ _ _ h => h) (Or.inl ⟨by rfl, ?_⟩) hHeld ?_
          · intro w hSw
            obtain ⟨hSw0, hSw1, hSw2⟩ := hSw
            go_simp
          try simp only [Act.put, List.setIfInBounds_toArray, List.set_cons_zero, List.set_cons_succ]
          refine wpAnyH_take (i := 2) (v := ?_) (by simp only [List.getElem?_toArray, List.getElem?_cons_zero, List.getElem?_cons_succ]; rfl) (by kernel_rfl) (by kernel_rfl) (by kernel_rfl) (fun _ _ _ h => h) (Or.inl ⟨by rfl, ?_⟩) hHeld ?_
          rotate_left
          · intro w hSw
            obtain ⟨hSw0, hSw1, hSw2⟩ := hSw
            go_simp
            try with_reducible rfl
          try simp only [Act.put, List.setIfInBounds_toArray, List.set_cons_zero, List.set_cons_succ]
          refine wpAnyH_take (i := 3) (v := ?_) (by simp only [List.getElem?_toArray, List.getElem?_cons_zero, List.getElem?_cons_succ]; rfl) (by kernel_rfl) (by kernel_rfl) (by kernel_rfl) (fun _ _ _ h => h) (Or.inl ⟨by rfl, ?_⟩) hHeld ?_
          rotate_left
          · intro w hSw
            obtain ⟨hSw0, hSw1, hSw2⟩ := hSw
            go_simp
            try with_reducible rfl
          try simp only [Act.put, List.setIfInBounds_toArray, List.set_cons_zero, List.set_cons_succ]
          refine wpAnyH_take (i := 4) (v := ?_) (by simp only [List.getElem?_toArray, List.getElem?_cons_zero, List.getElem?_cons_succ]; rfl) (by kernel_rfl) (by kernel_rfl) (by kernel_rfl) (fun _ _ _ h => h) (Or.inl ⟨by rfl, ?_⟩) hHeld ?_
          rotate_left
          · intro w hSw
            obtain ⟨hSw0, hSw1, hSw2⟩ := hSw
            go_simp
            try with_reducible rfl
          try simp only [Act.put, List.setIfInBounds_toArray, List.set_cons_zero, List.set_cons_succ]
          refine wpAnyH_take (i := 5) (v := .agg (cellsB A).toArray) (by simp only [List.getElem?_toArray, List.getElem?_cons_zero, List.getElem?_cons_succ]; rfl) (by kernel_rfl) (by kernel_rfl) (by kernel_rfl) (fun _ _ _ h => h)
            (yieldsIf_load_mid (by rfl) _ _ rfl _ _ rfl _ _ (fun w hw => hw.1.1) Tryd.underlying24 rfl (by rw [cellsB_length, lA]; exact Tryd.sizeDg)) hHeld ?_
          try simp only [Act.put, List.setIfInBounds_toArray, List.set_cons_zero, List.set_cons_succ]
          refine wpAnyH_take (i := 6) (v := .agg (cellsB old).toArray) (by simp only [List.getElem?_toArray, List.getElem?_cons_zero, List.getElem?_cons_succ]; rfl) (by kernel_rfl) (by kernel_rfl) (by kernel_rfl) (fun _ _ _ h => h)
            (yieldsIf_load_mid (by rfl) _ _ rfl _ _ rfl _ _ (fun w hw => hw.2.1) Tryd.underlying24 rfl (by rw [cellsB_length, ho]; exact Tryd.sizeDg)) hHeld ?_
          try simp only [Act.put, List.setIfInBounds_toArray, List.set_cons_zero, List.set_cons_succ]
          refine wpAnyH_take (i := 7) (v := .bool true) (by simp only [List.getElem?_toArray, List.getElem?_cons_zero, List.getElem?_cons_succ]; rfl) (by kernel_rfl) (by kernel_rfl) (by kernel_rfl) (fun _ _ _ h => h)
            (yieldsIf_eqD (by rfl) _ _ rfl A old lA ho rfl rfl true (decide_eq_true hAo)) hHeld ?_
          try simp only [Act.put, List.setIfInBounds_toArray, List.set_cons_zero, List.set_cons_succ]
          refine wpAnyH_take (i := 8) (v := ?_) (by simp only [List.getElem?_toArray, List.getElem?_cons_zero, List.getElem?_cons_succ]; rfl) (by kernel_rfl) (by kernel_rfl) (by kernel_rfl) (fun _ _ _ h => h) (Or.inl ⟨by rfl, ?_⟩) hHeld ?_
          rotate_left
          · intro w hSw
            obtain ⟨hSw0, hSw1, hSw2⟩ := hSw
            go_simp
            try with_reducible rfl
          try simp only [Act.put, List.setIfInBounds_toArray, List.set_cons_zero, List.set_cons_succ]
          refine wpAnyH_take (i := 9) (v := ?_) (by simp only [List.getElem?_toArray, List.getElem?_cons_zero, List.getElem?_cons_succ]; rfl) (by kernel_rfl) (by kernel_rfl) (by kernel_rfl) (fun _ _ _ h => h) (Or.inl ⟨by rfl, ?_⟩) hHeld ?_
          rotate_left
          · intro w hSw
            obtain ⟨hSw0, hSw1, hSw2⟩ := hSw
            go_simp
            try with_reducible rfl
          try simp only [Act.put, List.setIfInBounds_toArray, List.set_cons_zero, List.set_cons_succ]
          refine wpAnyH_take (i := 10) (v := ?_) (by simp only [List.getElem?_toArray, List.getElem?_cons_zero, List.getElem?_cons_succ]; rfl) (by kernel_rfl) (by kernel_rfl) (by kernel_rfl) (fun _ _ _ h => h) (Or.inl ⟨by rfl, ?_⟩) hHeld ?_
          rotate_left
          · intro w hSw
            obtain ⟨hSw0, hSw1, hSw2⟩ := hSw
            go_simp
            try with_reducible rfl
          try simp only [Act.put, List.setIfInBounds_toArray, List.set_cons_zero, List.set_cons_succ]
          refine wpAnyH_take (i := 11) (v := ?_) (by simp only [List.getElem?_toArray, List.getElem?_cons_zero, List.getElem?_cons_succ]; rfl) (by kernel_rfl) (by kernel_rfl) (by kernel_rfl) (fun _ _ _ h => h) (Or.inl ⟨by rfl, ?_⟩) hHeld ?_
          rotate_left
          · intro w hSw
            obtain ⟨hSw0, hSw1, hSw2⟩ := hSw
            go_simp
            try with_reducible rfl
          try simp only [Act.put, List.setIfInBounds_toArray, List.set_cons_zero, List.set_cons_succ]
          refine wpAnyH_take (i := 12) (v := .agg (cellsB B).toArray) (by simp only [List.getElem?_toArray, List.getElem?_cons_zero, List.getElem?_cons_succ]; rfl) (by kernel_rfl) (by kernel_rfl) (by kernel_rfl) (fun _ _ _ h => h)
            (yieldsIf_load_mid (by rfl) _ _ rfl _ _ rfl _ _ (fun w hw => hw.1.2) Tryd.underlying24 rfl (by rw [cellsB_length, lB]; exact Tryd.sizeDg)) hHeld ?_
          try simp only [Act.put, List.setIfInBounds_toArray, List.set_cons_zero, List.set_cons_succ]
          refine wpAnyH_take (i := 13) (v := .agg (cellsB now).toArray) (by simp only [List.getElem?_toArray, List.getElem?_cons_zero, List.getElem?_cons_succ]; rfl) (by kernel_rfl) (by kernel_rfl) (by kernel_rfl) (fun _ _ _ h => h)
            (yieldsIf_load_mid (by rfl) _ _ rfl _ _ rfl _ _ (fun w hw => hw.2.2) Tryd.underlying24 rfl (by rw [cellsB_length, hw]; exact Tryd.sizeDg)) hHeld ?_
          try simp only [Act.put, List.setIfInBounds_toArray, List.set_cons_zero, List.set_cons_succ]
          refine wpAnyH_take (i := 14) (v := .bool (decide (B = now))) (by simp only [List.getElem?_toArray, List.getElem?_cons_zero, List.getElem?_cons_succ]; rfl) (by kernel_rfl) (by kernel_rfl) (by kernel_rfl) (fun _ _ _ h => h)
            (yieldsIf_eqD (by rfl) _ _ rfl B now lB hw rfl rfl (decide (B = now)) rfl) hHeld ?_
          try simp only [Act.put, List.setIfInBounds_toArray, List.set_cons_zero, List.set_cons_succ]
          refine wpAnyH_take (i := 15) (v := ?_) (by simp only [List.getElem?_toArray, List.getElem?_cons_zero, List.getElem?_cons_succ]; rfl) (by kernel_rfl) (by kernel_rfl) (by kernel_rfl) (fun _ _ _ h => h) (Or.inl ⟨by rfl, ?_⟩) hHeld ?_
          rotate_left
          · intro w hSw
            obtain ⟨hSw0, hSw1, hSw2⟩ := hSw
            go_simp
            try with_reducible rfl
          try simp only [Act.put, List.setIfInBounds_toArray, List.set_cons_zero, List.set_cons_succ]
          refine wpAnyH_take (i := 16) (v := ?_) (by simp only [List.getElem?_toArray, List.getElem?_cons_zero, List.getElem?_cons_succ]; rfl) (by kernel_rfl) (by kernel_rfl) (by kernel_rfl) (fun _ _ _ h => h) (Or.inl ⟨by rfl, ?_⟩) hHeld ?_
          rotate_left
          · intro w hSw
            obtain ⟨hSw0, hSw1, hSw2⟩ := hSw
            go_simp
            try with_reducible rfl
          try simp only [Act.put, List.setIfInBounds_toArray, List.set_cons_zero, List.set_cons_succ]
          refine wpAnyH_done (by kernel_rfl) (NoPanic.normal ?_) _
          clear hHeld
          go_wp2_with (first
            | (refine wpList_load_mid (by rfl) 24 (.tmp 9) (by rfl) w.heap.size 0 (by rfl) (cellsB old) _ (HSd.out _ HBe.out).1.2.1 Tryd.underlying24 (by rfl) (by rw [cellsB_length, ho]; exact Tryd.sizeDg) ?_)
            | (refine wpList_load_mid (by rfl) 24 (.tmp 10) (by rfl) (w.heap.size + 1) 0 (by rfl) (cellsB now) _ (HSd.out _ HBe.out).1.2.2 Tryd.underlying24 (by rfl) (by rw [cellsB_length, hw]; exact Tryd.sizeDg) ?_))
          refine (HCC.out _ (HSd.out _ HBe.out).2).mono ?_
          rintro r wG ⟨rfl, hbG⟩
          rw [HCB']
          have HBG : Hid (Below w2.heap.size w2 wG) := (HSd.out _ HBe.out).2.trans (hbG.mono (HSd.out _ HBe.out).2.size)
          clear hbG
          go_wp2_with fail
          go_ret
          exact ⟨by simp, (HK.out _ HBG.out).2.2.2.2.2⟩
        · have HCB' : checkB m n old now pf = false := by rw [HCB.out]; simp [hAo]
          clear HCB
          go_wp2_with fail
          refine wp_region_noPanic ?_
          refine wp_region_held_drew (S := fun w' => (w'.rangeAt g 0 (cellsB A) ∧ w'.rangeAt g 32 (cellsB B)) ∧ w'.rangeAt w.heap.size 0 (cellsB old) ∧ w'.rangeAt (w.heap.size + 1) 0 (cellsB now)) (by kernel_rfl) ((HSd.out _ (below_drewN wd 1)).1) (fun hHeld => ?_)
          try simp only [Act.put, List.setIfInBounds_toArray, List.set_cons_zero, List.set_cons_succ]
          have HBe : Hid (Below wd.heap.size wd wd.drew) := below_drewN wd 1
          generalize wd.drew = we at *
          refine wpAnyH_take (i := 0) (v := ?_) (by simp only [List.getElem?_toArray, List.getElem?_cons_zero, List.getElem?_cons_succ]; rfl) (by kernel_rfl) (by kernel_rfl) (by kernel_rfl) (fun _ _ _ h => h) (Or.inl ⟨by rfl, ?_⟩) hHeld ?_
          rotate_left
          · intro w hSw
            obtain ⟨hSw0, hSw1, hSw2⟩ := hSw
            go_simp
            try with_reducible rfl
          try simp only [Act.put, List.setIfInBounds_toArray, List.set_cons_zero, List.set_cons_succ]
          refine wpAnyH_take (i := 1) (v := .bool true) (by simp only [List.getElem?_toArray, List.getElem?_cons_zero, List.getElem?_cons_succ]; rfl) (by kernel_rfl) (by kernel_rfl) (by kernel_rfl) (fun _ _ _ h => h) (Or.inl ⟨by rfl, ?_⟩) hHeld ?_
          · intro w hSw
            obtain ⟨hSw0, hSw1, hSw2⟩ := hSw
            go_simp
          try simp only [Act.put, List.setIfInBounds_toArray, List.set_cons_zero, List.set_cons_succ]
          refine wpAnyH_take (i := 2) (v := ?_) (by simp only [List.getElem?_toArray, List.getElem?_cons_zero, List.getElem?_cons_succ]; rfl) (by kernel_rfl) (by kernel_rfl) (by kernel_rfl) (fun _ _ _ h => h) (Or.inl ⟨by rfl, ?_⟩) hHeld ?_
          rotate_left
          · intro w hSw
            obtain ⟨hSw0, hSw1, hSw2⟩ := hSw
            go_simp
            try with_reducible rfl
          try simp only [Act.put, List.setIfInBounds_toArray, List.set_cons_zero, List.set_cons_succ]
          refine wpAnyH_take (i := 3) (v := ?_) (by simp only [List.getElem?_toArray, List.getElem?_cons_zero, List.getElem?_cons_succ]; rfl) (by kernel_rfl) (by kernel_rfl) (by kernel_rfl) (fun _ _ _ h => h) (Or.inl ⟨by rfl, ?_⟩) hHeld ?_
          rotate_left
          · intro w hSw
            obtain ⟨hSw0, hSw1, hSw2⟩ := hSw
            go_simp
            try with_reducible rfl
          try simp only [Act.put, List.setIfInBounds_toArray, List.set_cons_zero, List.set_cons_succ]
          refine wpAnyH_take (i := 4) (v := ?_) (by simp only [List.getElem?_toArray, List.getElem?_cons_zero, List.getElem?_cons_succ]; rfl) (by kernel_rfl) (by kernel_rfl) (by kernel_rfl) (fun _ _ _ h => h) (Or.inl ⟨by rfl, ?_⟩) hHeld ?_
          rotate_left
          · intro w hSw
            obtain ⟨hSw0, hSw1, hSw2⟩ := hSw
            go_simp
            try with_reducible rfl
          try simp only [Act.put, List.setIfInBounds_toArray, List.set_cons_zero, List.set_cons_succ]
          refine wpAnyH_take (i := 5) (v := .agg (cellsB A).toArray) (by simp only [List.getElem?_toArray, List.getElem?_cons_zero, List.getElem?_cons_succ]; rfl) (by kernel_rfl) (by kernel_rfl) (by kernel_rfl) (fun _ _ _ h => h)
            (yieldsIf_load_mid (by rfl) _ _ rfl _ _ rfl _ _ (fun w hw => hw.1.1) Tryd.underlying24 rfl (by rw [cellsB_length, lA]; exact Tryd.sizeDg)) hHeld ?_
          try simp only [Act.put, List.setIfInBounds_toArray, List.set_cons_zero, List.set_cons_succ]
          refine wpAnyH_take (i := 6) (v := .agg (cellsB old).toArray) (by simp only [List.getElem?_toArray, List.getElem?_cons_zero, List.getElem?_cons_succ]; rfl) (by kernel_rfl) (by kernel_rfl) (by kernel_rfl) (fun _ _ _ h => h)
            (yieldsIf_load_mid (by rfl) _ _ rfl _ _ rfl _ _ (fun w hw => hw.2.1) Tryd.underlying24 rfl (by rw [cellsB_length, ho]; exact Tryd.sizeDg)) hHeld ?_
          try simp only [Act.put, List.setIfInBounds_toArray, List.set_cons_zero, List.set_cons_succ]
          refine wpAnyH_take (i := 7) (v := .bool false) (by simp only [List.getElem?_toArray, List.getElem?_cons_zero, List.getElem?_cons_succ]; rfl) (by kernel_rfl) (by kernel_rfl) (by kernel_rfl) (fun _ _ _ h => h)
            (yieldsIf_eqD (by rfl) _ _ rfl A old lA ho rfl rfl false (decide_eq_false hAo)) hHeld ?_
          try simp only [Act.put, List.setIfInBounds_toArray, List.set_cons_zero, List.set_cons_succ]
          refine wpAnyH_take (i := 8) (v := ?_) (by simp only [List.getElem?_toArray, List.getElem?_cons_zero, List.getElem?_cons_succ]; rfl) (by kernel_rfl) (by kernel_rfl) (by kernel_rfl) (fun _ _ _ h => h) (Or.inl ⟨by rfl, ?_⟩) hHeld ?_
          rotate_left
          · intro w hSw
            obtain ⟨hSw0, hSw1, hSw2⟩ := hSw
            go_simp
            try with_reducible rfl
          try simp only [Act.put, List.setIfInBounds_toArray, List.set_cons_zero, List.set_cons_succ]
          refine wpAnyH_take (i := 9) (v := ?_) (by simp only [List.getElem?_toArray, List.getElem?_cons_zero, List.getElem?_cons_succ]; rfl) (by kernel_rfl) (by kernel_rfl) (by kernel_rfl) (fun _ _ _ h => h) (Or.inl ⟨by rfl, ?_⟩) hHeld ?_
          rotate_left
          · intro w hSw
            obtain ⟨hSw0, hSw1, hSw2⟩ := hSw
            go_simp
            try with_reducible rfl
          try simp only [Act.put, List.setIfInBounds_toArray, List.set_cons_zero, List.set_cons_succ]
          refine wpAnyH_take (i := 10) (v := undef) (by simp only [List.getElem?_toArray, List.getElem?_cons_zero, List.getElem?_cons_succ]; rfl) (by kernel_rfl) (by kernel_rfl) (by kernel_rfl) (fun _ _ _ h => h) (Or.inr ⟨by rfl, rfl⟩) hHeld ?_
          try simp only [Act.put, List.setIfInBounds_toArray, List.set_cons_zero, List.set_cons_succ]
          refine wpAnyH_take (i := 11) (v := undef) (by simp only [List.getElem?_toArray, List.getElem?_cons_zero, List.getElem?_cons_succ]; rfl) (by kernel_rfl) (by kernel_rfl) (by kernel_rfl) (fun _ _ _ h => h) (Or.inr ⟨by rfl, rfl⟩) hHeld ?_
          try simp only [Act.put, List.setIfInBounds_toArray, List.set_cons_zero, List.set_cons_succ]
          refine wpAnyH_take (i := 12) (v := undef) (by simp only [List.getElem?_toArray, List.getElem?_cons_zero, List.getElem?_cons_succ]; rfl) (by kernel_rfl) (by kernel_rfl) (by kernel_rfl) (fun _ _ _ h => h) (Or.inr ⟨by rfl, rfl⟩) hHeld ?_
          try simp only [Act.put, List.setIfInBounds_toArray, List.set_cons_zero, List.set_cons_succ]
          refine wpAnyH_take (i := 13) (v := undef) (by simp only [List.getElem?_toArray, List.getElem?_cons_zero, List.getElem?_cons_succ]; rfl) (by kernel_rfl) (by kernel_rfl) (by kernel_rfl) (fun _ _ _ h => h) (Or.inr ⟨by rfl, rfl⟩) hHeld ?_
          try simp only [Act.put, List.setIfInBounds_toArray, List.set_cons_zero, List.set_cons_succ]
          refine wpAnyH_take (i := 14) (v := undef) (by simp only [List.getElem?_toArray, List.getElem?_cons_zero, List.getElem?_cons_succ]; rfl) (by kernel_rfl) (by kernel_rfl) (by kernel_rfl) (fun _ _ _ h => h) (Or.inr ⟨by rfl, rfl⟩) hHeld ?_
          try simp only [Act.put, List.setIfInBounds_toArray, List.set_cons_zero, List.set_cons_succ]
          refine wpAnyH_take (i := 15) (v := ?_) (by simp only [List.getElem?_toArray, List.getElem?_cons_zero, List.getElem?_cons_succ]; rfl) (by kernel_rfl) (by kernel_rfl) (by kernel_rfl) (fun _ _ _ h => h) (Or.inl ⟨by rfl, ?_⟩) hHeld ?_
          rotate_left
          · intro w hSw
            obtain ⟨hSw0, hSw1, hSw2⟩ := hSw
            go_simp
            try with_reducible rfl
          try simp only [Act.put, List.setIfInBounds_toArray, List.set_cons_zero, List.set_cons_succ]
          refine wpAnyH_take (i := 16) (v := ?_) (by simp only [List.getElem?_toArray, List.getElem?_cons_zero, List.getElem?_cons_succ]; rfl) (by kernel_rfl) (by kernel_rfl) (by kernel_rfl) (fun _ _ _ h => h) (Or.inl ⟨by rfl, ?_⟩) hHeld ?_
          rotate_left
          · intro w hSw
            obtain ⟨hSw0, hSw1, hSw2⟩ := hSw
            go_simp
            try with_reducible rfl
          try simp only [Act.put, List.setIfInBounds_toArray, List.set_cons_zero, List.set_cons_succ]
          refine wpAnyH_done (by kernel_rfl) (NoPanic.normal ?_) _
          clear hHeld
          go_wp2_with (first
            | (refine wpList_load_mid (by rfl) 24 (.tmp 9) (by rfl) w.heap.size 0 (by rfl) (cellsB old) _ (HSd.out _ HBe.out).1.2.1 Tryd.underlying24 (by rfl) (by rw [cellsB_length, ho]; exact Tryd.sizeDg) ?_)
            | (refine wpList_load_mid (by rfl) 24 (.tmp 10) (by rfl) (w.heap.size + 1) 0 (by rfl) (cellsB now) _ (HSd.out _ HBe.out).1.2.2 Tryd.underlying24 (by rfl) (by rw [cellsB_length, hw]; exact Tryd.sizeDg) ?_))
          refine (HCC.out _ (HSd.out _ HBe.out).2).mono ?_
          rintro r wG ⟨rfl, hbG⟩
          rw [HCB']
          have HBG : Hid (Below w2.heap.size w2 wG) := (HSd.out _ HBe.out).2.trans (hbG.mono (HSd.out _ HBe.out).2.size)
          clear hbG
          go_wp2_with fail
          go_ret
          exact ⟨by simp, (HK.out _ HBG.out).2.2.2.2.2⟩
      · have HCB' : checkB m n old now pf = false := by rw [HCB.out]; simp [he]
        have e0 : (e == 0) = false := beq_eq_false_iff_ne.2 he
        clear HCB
        go_wp2_with fail
        refine wp_region_noPanic ?_
        refine wp_region_held_drew (S := fun w' => (w'.rangeAt g 0 (cellsB A) ∧ w'.rangeAt g 32 (cellsB B)) ∧ w'.rangeAt w.heap.size 0 (cellsB old) ∧ w'.rangeAt (w.heap.size + 1) 0 (cellsB now)) (by kernel_rfl) ((HSd.out _ (below_drewN wd 1)).1) (fun hHeld => ?_)
        try simp only [Act.put, List.setIfInBounds_toArray, List.set_cons_zero, List.set_cons_succ]
        have HBe : Hid (Below wd.heap.size wd wd.drew) := below_drewN wd 1
        generalize wd.drew = we at *
        refine wpAnyH_take (i := 0) (v := ?_) (by simp only [List.getElem?_toArray, List.getElem?_cons_zero, List.getElem?_cons_succ]; rfl) (by kernel_rfl) (by kernel_rfl) (by kernel_rfl) (fun _ _ _ h => h) (Or.inl ⟨by rfl, ?_⟩) hHeld ?_
        rotate_left
        · intro w hSw
          obtain ⟨hSw0, hSw1, hSw2⟩ := hSw
          go_simp
          try with_reducible rfl
        try simp only [Act.put, List.setIfInBounds_toArray, List.set_cons_zero, List.set_cons_succ]
        refine wpAnyH_take (i := 1) (v := .bool false) (by simp only [List.getElem?_toArray, List.getElem?_cons_zero, List.getElem?_cons_succ]; rfl) (by kernel_rfl) (by kernel_rfl) (by kernel_rfl) (fun _ _ _ h => h) (Or.inl ⟨by rfl, ?_⟩) hHeld ?_
        · intro w hSw
          obtain ⟨hSw0, hSw1, hSw2⟩ := hSw
          go_simp
        try simp only [Act.put, List.setIfInBounds_toArray, List.set_cons_zero, List.set_cons_succ]
        refine wpAnyH_take (i := 2) (v := ?_) (by simp only [List.getElem?_toArray, List.getElem?_cons_zero, List.getElem?_cons_succ]; rfl) (by kernel_rfl) (by kernel_rfl) (by kernel_rfl) (fun _ _ _ h => h) (Or.inl ⟨by rfl, ?_⟩) hHeld ?_
        rotate_left
        · intro w hSw
          obtain ⟨hSw0, hSw1, hSw2⟩ := hSw
          go_simp
          try with_reducible rfl
        try simp only [Act.put, List.setIfInBounds_toArray, List.set_cons_zero, List.set_cons_succ]
        refine wpAnyH_take (i := 3) (v := undef) (by simp only [List.getElem?_toArray, List.getElem?_cons_zero, List.getElem?_cons_succ]; rfl) (by kernel_rfl) (by kernel_rfl) (by kernel_rfl) (fun _ _ _ h => h) (Or.inr ⟨by rfl, rfl⟩) hHeld ?_
        try simp only [Act.put, List.setIfInBounds_toArray, List.set_cons_zero, List.set_cons_succ]
        refine wpAnyH_take (i := 4) (v := undef) (by simp only [List.getElem?_toArray, List.getElem?_cons_zero, List.getElem?_cons_succ]; rfl) (by kernel_rfl) (by kernel_rfl) (by kernel_rfl) (fun _ _ _ h => h) (Or.inr ⟨by rfl, rfl⟩) hHeld ?_
        try simp only [Act.put, List.setIfInBounds_toArray, List.set_cons_zero, List.set_cons_succ]
        refine wpAnyH_take (i := 5) (v := undef) (by simp only [List.getElem?_toArray, List.getElem?_cons_zero, List.getElem?_cons_succ]; rfl) (by kernel_rfl) (by kernel_rfl) (by kernel_rfl) (fun _ _ _ h => h) (Or.inr ⟨by rfl, rfl⟩) hHeld ?_
        try simp only [Act.put, List.setIfInBounds_toArray, List.set_cons_zero, List.set_cons_succ]
        refine wpAnyH_take (i := 6) (v := undef) (by simp only [List.getElem?_toArray, List.getElem?_cons_zero, List.getElem?_cons_succ]; rfl) (by kernel_rfl) (by kernel_rfl) (by kernel_rfl) (fun _ _ _ h => h) (Or.inr ⟨by rfl, rfl⟩) hHeld ?_
        try simp only [Act.put, List.setIfInBounds_toArray, List.set_cons_zero, List.set_cons_succ]
        refine wpAnyH_take (i := 7) (v := undef) (by simp only [List.getElem?_toArray, List.getElem?_cons_zero, List.getElem?_cons_succ]; rfl) (by kernel_rfl) (by kernel_rfl) (by kernel_rfl) (fun _ _ _ h => h) (Or.inr ⟨by rfl, rfl⟩) hHeld ?_
        try simp only [Act.put, List.setIfInBounds_toArray, List.set_cons_zero, List.set_cons_succ]
        refine wpAnyH_take (i := 8) (v := ?_) (by simp only [List.getElem?_toArray, List.getElem?_cons_zero, List.getElem?_cons_succ]; rfl) (by kernel_rfl) (by kernel_rfl) (by kernel_rfl) (fun _ _ _ h => h) (Or.inl ⟨by rfl, ?_⟩) hHeld ?_
        rotate_left
        · intro w hSw
          obtain ⟨hSw0, hSw1, hSw2⟩ := hSw
          go_simp
          try with_reducible rfl
        try simp only [Act.put, List.setIfInBounds_toArray, List.set_cons_zero, List.set_cons_succ]
        refine wpAnyH_take (i := 9) (v := ?_) (by simp only [List.getElem?_toArray, List.getElem?_cons_zero, List.getElem?_cons_succ]; rfl) (by kernel_rfl) (by kernel_rfl) (by kernel_rfl) (fun _ _ _ h => h) (Or.inl ⟨by rfl, ?_⟩) hHeld ?_
        rotate_left
        · intro w hSw
          obtain ⟨hSw0, hSw1, hSw2⟩ := hSw
          go_simp
          try with_reducible rfl
        try simp only [Act.put, List.setIfInBounds_toArray, List.set_cons_zero, List.set_cons_succ]
        refine wpAnyH_take (i := 10) (v := undef) (by simp only [List.getElem?_toArray, List.getElem?_cons_zero, List.getElem?_cons_succ]; rfl) (by kernel_rfl) (by kernel_rfl) (by kernel_rfl) (fun _ _ _ h => h) (Or.inr ⟨by rfl, rfl⟩) hHeld ?_
        try simp only [Act.put, List.setIfInBounds_toArray, List.set_cons_zero, List.set_cons_succ]
        refine wpAnyH_take (i := 11) (v := undef) (by simp only [List.getElem?_toArray, List.getElem?_cons_zero, List.getElem?_cons_succ]; rfl) (by kernel_rfl) (by kernel_rfl) (by kernel_rfl) (fun _ _ _ h => h) (Or.inr ⟨by rfl, rfl⟩) hHeld ?_
        try simp only [Act.put, List.setIfInBounds_toArray, List.set_cons_zero, List.set_cons_succ]
        refine wpAnyH_take (i := 12) (v := undef) (by simp only [List.getElem?_toArray, List.getElem?_cons_zero, List.getElem?_cons_succ]; rfl) (by kernel_rfl) (by kernel_rfl) (by kernel_rfl) (fun _ _ _ h => h) (Or.inr ⟨by rfl, rfl⟩) hHeld ?_
        try simp only [Act.put, List.setIfInBounds_toArray, List.set_cons_zero, List.set_cons_succ]
        refine wpAnyH_take (i := 13) (v := undef) (by simp only [List.getElem?_toArray, List.getElem?_cons_zero, List.getElem?_cons_succ]; rfl) (by kernel_rfl) (by kernel_rfl) (by kernel_rfl) (fun _ _ _ h => h) (Or.inr ⟨by rfl, rfl⟩) hHeld ?_
        try simp only [Act.put, List.setIfInBounds_toArray, List.set_cons_zero, List.set_cons_succ]
        refine wpAnyH_take (i := 14) (v := undef) (by simp only [List.getElem?_toArray, List.getElem?_cons_zero, List.getElem?_cons_succ]; rfl) (by kernel_rfl) (by kernel_rfl) (by kernel_rfl) (fun _ _ _ h => h) (Or.inr ⟨by rfl, rfl⟩) hHeld ?_
        try simp only [Act.put, List.setIfInBounds_toArray, List.set_cons_zero, List.set_cons_succ]
        refine wpAnyH_take (i := 15) (v := ?_) (by simp only [List.getElem?_toArray, List.getElem?_cons_zero, List.getElem?_cons_succ]; rfl) (by kernel_rfl) (by kernel_rfl) (by kernel_rfl) (fun _ _ _ h => h) (Or.inl ⟨by rfl, ?_⟩) hHeld ?_
        rotate_left
        · intro w hSw
          obtain ⟨hSw0, hSw1, hSw2⟩ := hSw
          go_simp
          try with_reducible rfl
        try simp only [Act.put, List.setIfInBounds_toArray, List.set_cons_zero, List.set_cons_succ]
        refine wpAnyH_take (i := 16) (v := ?_) (by simp only [List.getElem?_toArray, List.getElem?_cons_zero, List.getElem?_cons_succ]; rfl) (by kernel_rfl) (by kernel_rfl) (by kernel_rfl) (fun _ _ _ h => h) (Or.inl ⟨by rfl, ?_⟩) hHeld ?_
        rotate_left
        · intro w hSw
          obtain ⟨hSw0, hSw1, hSw2⟩ := hSw
          go_simp
          try with_reducible rfl
        try simp only [Act.put, List.setIfInBounds_toArray, List.set_cons_zero, List.set_cons_succ]
        refine wpAnyH_done (by kernel_rfl) (NoPanic.normal ?_) _
        clear hHeld
        go_wp2_with (first
          | (refine wpList_load_mid (by rfl) 24 (.tmp 9) (by rfl) w.heap.size 0 (by rfl) (cellsB old) _ (HSd.out _ HBe.out).1.2.1 Tryd.underlying24 (by rfl) (by rw [cellsB_length, ho]; exact Tryd.sizeDg) ?_)
          | (refine wpList_load_mid (by rfl) 24 (.tmp 10) (by rfl) (w.heap.size + 1) 0 (by rfl) (cellsB now) _ (HSd.out _ HBe.out).1.2.2 Tryd.underlying24 (by rfl) (by rw [cellsB_length, hw]; exact Tryd.sizeDg) ?_))
        refine (HCC.out _ (HSd.out _ HBe.out).2).mono ?_
        rintro r wG ⟨rfl, hbG⟩
        rw [HCB']
        have HBG : Hid (Below w2.heap.size w2 wG) := (HSd.out _ HBe.out).2.trans (hbG.mono (HSd.out _ HBe.out).2.size)
        clear hbG
        go_wp2_with fail
        go_ret
        exact ⟨by simp, (HK.out _ HBG.out).2.2.2.2.2⟩
end Go.Proofs.YtdldkhhcicjbmabDoor
