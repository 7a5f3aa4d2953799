/- The law TreePaths: the program's Path, Fold and Node are the document's. -/
import Derived.Test.YtdldkhhcicjbmaaDoorJ12
import Derived.Test.YtdldkhhcicjbmaaDoorJ07
import Derived.Test.YtdldkhhcicjbmaaDoorJ13
import Derived.Deep.DeepCutAuto
import Derived.Deep.RegionHeld3
namespace Go.Proofs.YtdldkhhcicjbmaaDoor
open Go.RowKit
set_option linter.unusedVariables false
set_option linter.unusedSimpArgs false

theorem err_nil : ∀ (er : Value) (e : Int), er = .nilIface → e = 0 → ∀ wy, Handle wy → Calls Tryd.prog 11 #[er, .int .i64 e] wy fun r w' => r = .returned (.bool true) ∧ Below wy.heap.size wy w' := fun er e h1 h2 wy _ => by
  subst h1 h2
  refine (error_nil 0 wy).mono ?_
  rintro r w' ⟨rfl, hb⟩
  exact ⟨rfl, hb⟩
theorem err_no (k : Int) : ∀ (er : Value) (e : Int), er = .iface 24 (.int .i64 k) → e = k → ∀ wy, Handle wy → Calls Tryd.prog 11 #[er, .int .i64 e] wy fun r w' => r = .returned (.bool true) ∧ Below wy.heap.size wy w' := fun er e h1 h2 wy hh => by
  subst h1 h2
  refine (error_errno e e wy hh).mono ?_
  rintro r w' ⟨rfl, hb⟩
  exact ⟨by simp, hb⟩

set_option maxRecDepth 100000 in
set_option maxHeartbeats 4000000 in
theorem tpaths_walk (a : Option Addr) (n c : Nat) (ls : List (List UInt8)) (i : Int) (l : List UInt8) (m : Int) (pa : Option Addr) (p pc : Nat) (path : List (List UInt8)) (w : World) (G : Env w) (HH : Handle w) (R : DRow w a n ls) (hc : n ≤ c) (hn : 32 * n ≤ 140737488351232) (i1 : -9223372036854775808 ≤ i) (i2 : i ≤ 9223372036854775807) (hl : l.length = 32) (m1 : -9223372036854775808 ≤ m) (m2 : m ≤ 9223372036854775807) (RP : DRow w pa p path) (hpc : p ≤ pc) (hp : 32 * p ≤ 140737488351232) :
    Calls Tryd.prog 4 #[.slice a n c, .int .i64 i, digestV l, .int .i64 m, .slice pa p pc] w fun e w' => e = .returned (.bool true) ∧ Below w.heap.size w w' := by
  obtain ⟨w2, hw2⟩ : ∃ w2, w.alloc (.cells (cellsB l).toArray 26) = w2 := ⟨_, rfl⟩
  have HS2 : Hid (w2.heap.size = w.heap.size + 1) := by unfold Hid; rw [← hw2]; simp
  have HB2 : Hid (Below w.heap.size w w2) := by rw [← hw2]; exact (Below.refl _ _).alloc (Nat.le_refl _) _
  have HL2 : Hid (DAt w2 w.heap.size 0 l) := by rw [← hw2]; exact box_dat w l _
  have HK : Hid (∀ wx, Below w2.heap.size w2 wx → wx.rangeAt w.heap.size 0 (cellsB l) ∧ Env wx ∧ Handle wx ∧ DRow wx a n ls ∧ DRow wx pa p path ∧ Below w.heap.size w wx) := fun wx hx => by
    have s := HS2.out
    have b : Below w.heap.size w wx := HB2.out.trans (hx.mono (by omega))
    exact ⟨HL2.out.below hx (by omega), G.below b, HH.below b, R.below b, RP.below b, b⟩
  have H0 : Hid (Below w2.heap.size w2 w2) := Below.refl _ _
  clear G HH R RP HL2 HB2
  go_enter Tryd.func4, Tryd.ntmps4
  go_upto_if 21 with fail
  try rw [hw2]
  clear hw2
  go_cut [11, 12] (fun ev vv wq => ∃ (e : Int) (a' : Option Addr) (p c' : Nat) (pl : List (List UInt8)), ev = .int .i64 e ∧ vv = .slice a' p c' ∧ DRow wq a' p pl ∧ p ≤ 281474976710656 ∧ Hid (∀ wx, Env wx → DRow wx a n ls → Calls Tryd.prog 15 #[.slice a n c, .int .i64 i] wx fun r w' => (∃ a2 c2 er, r = .returned (.tuple #[.slice a2 p c2, er]) ∧ DRow w' a2 p pl ∧ (∀ wy, Handle wy → Calls Tryd.prog 11 #[er, .int .i64 e] wy fun r w' => r = .returned (.bool true) ∧ Below wy.heap.size wy w')) ∧ Below wx.heap.size wx w') ∧ Below w2.heap.size w2 wq)
  case first =>
    by_cases hbig : 256 < n
    · have g1 : (256 : Int) < (n : Int) := by omega
      go_wp2_with fail
      go_meet
      case rel =>
        refine ⟨4, none, 0, 0, [], rfl, rfl, DRow.nil _, by omega, fun wx hx hr => ?_, H0.out⟩
        refine (wtree_pathfull a n c i ls wx hx hr hc hbig hn i1 i2).mono ?_
        rintro r w' ⟨⟨a2, c2, rfl⟩, hb⟩
        exact ⟨⟨a2, c2, _, rfl, ⟨rfl, (fun l hl => by cases hl), .inl rfl⟩, err_no 4 _ _ rfl rfl⟩, hb⟩
    · have g1 : ¬ (256 : Int) < (n : Int) := by omega
      have HOUT : Hid (i < 0 ∨ (n : Int) ≤ i → (∀ wx, Env wx → DRow wx a n ls → Calls Tryd.prog 15 #[.slice a n c, .int .i64 i] wx fun r w' => (∃ a2 c2 er, r = .returned (.tuple #[.slice a2 0 c2, er]) ∧ DRow w' a2 0 [] ∧ (∀ wy, Handle wy → Calls Tryd.prog 11 #[er, .int .i64 2] wy fun r w' => r = .returned (.bool true) ∧ Below wy.heap.size wy w')) ∧ Below wx.heap.size wx w')) := fun h wx hx hr => by
        refine (wtree_pathout a n c i ls wx hx hr hc (by omega) h i1 i2).mono ?_
        rintro r w' ⟨⟨a2, c2, rfl⟩, hb⟩
        exact ⟨⟨a2, c2, _, rfl, ⟨rfl, (fun l hl => by cases hl), .inl rfl⟩, err_no 2 _ _ rfl rfl⟩, hb⟩
      by_cases hneg : i < 0
      · go_wp2_with fail
        go_meet
        case rel => exact ⟨2, none, 0, 0, [], rfl, rfl, DRow.nil _, by omega, HOUT.out (.inl hneg), H0.out⟩
      · by_cases hge : (n : Int) ≤ i
        · go_wp2_with fail
          go_meet
          case rel => exact ⟨2, none, 0, 0, [], rfl, rfl, DRow.nil _, by omega, HOUT.out (.inr hge), H0.out⟩
        · obtain ⟨j, rfl⟩ : ∃ j : Nat, i = (j : Int) := ⟨i.toNat, by omega⟩
          have hj : j < n := by omega
          clear HOUT
          go_wp2_with fail
          refine (rpath_any n a c j ls w2 (HK.out _ H0.out).2.2.2.1 hc (by omega) (by omega) hj).mono ?_
          rintro r w3 ⟨⟨v, rfl, ho⟩, hb3⟩
          obtain ⟨a3, c3, rfl, R3, hc3⟩ := OwnD.form ho
          have HLP : Hid ((pathT ls j).length = longT j n) := (fold_path n ls j (HK.out _ H0.out).2.2.2.1.1 hj).2
          have HR3 : Hid (DRow w3 a3 (pathT ls j).length (pathT ls j)) := R3
          have HB3 : Hid (Below w2.heap.size w2 w3) := hb3
          have hlb := longT_256 j n (by omega)
          clear ho R3 hb3
          go_wp2_with fail
          go_meet
          case rel =>
            refine ⟨0, a3, _, c3, pathT ls j, rfl, rfl, HR3.out, by rw [HLP.out]; omega, fun wx hx hr => ?_, HB3.out⟩
            refine (wtree_path a n c j ls wx hx hr hc (by omega) hj).mono ?_
            rintro r w' ⟨⟨a2, c2, rfl, _, hd⟩, hb⟩
            rw [HLP.out]
            exact ⟨⟨a2, c2, _, rfl, hd, err_nil _ _ rfl rfl⟩, hb⟩
  case rest =>
    obtain ⟨e, a', pp, c', pl, rfl, rfl, hd, hpp, HC, hb⟩ := hcut
    have HD : Hid (∀ wx, Below wc.heap.size wc wx → DRow wx a' pp pl) := fun wx hx => hd.below hx
    have HB : Hid (Below w2.heap.size w2 wc) := hb
    clear hd hb
    go_wp2_with fail
    refine (HC.out wc (HK.out _ HB.out).2.1 (HK.out _ HB.out).2.2.2.1).mono ?_
    rintro r w4 ⟨⟨a2, c2, er, rfl, hd2, hE⟩, hb4⟩
    have HE : Hid (∀ wy, Handle wy → Calls Tryd.prog 11 #[er, .int .i64 e] wy fun r w' => r = .returned (.bool true) ∧ Below wy.heap.size wy w') := hE
    have HD4 : Hid (DRow w4 a2 pp pl ∧ DRow w4 a' pp pl) := ⟨hd2, HD.out _ hb4⟩
    have HB4 : Hid (Below w2.heap.size w2 w4) := HB.out.trans (hb4.mono HB.out.size)
    clear hE hd2 hb4 HC HD HB
    go_wp2_with fail
    refine (HE.out w4 (HK.out _ HB4.out).2.2.1).mono ?_
    rintro r w5 ⟨rfl, hb5⟩
    have HD5 : Hid (DRow w5 a2 pp pl ∧ DRow w5 a' pp pl) := ⟨HD4.out.1.below hb5, HD4.out.2.below hb5⟩
    have HB5 : Hid (Below w2.heap.size w2 w5) := HB4.out.trans (hb5.mono HB4.out.size)
    clear hb5 HE HD4 HB4
    go_wp2_with fail
    refine (sdigests_any a2 a' pp pp c2 c' pl pl w5 HD5.out.1 HD5.out.2 hpp).mono ?_
    rintro r w6 ⟨rfl, hb6⟩
    rw [decide_eq_true (rfl : pl = pl)]
    have HB6 : Hid (Below w2.heap.size w2 w6) := HB5.out.trans (hb6.mono HB5.out.size)
    clear hb6 HD5 HB5
    obtain ⟨w7, hw7⟩ : ∃ w7, w6.alloc (.cells (cellsB zD).toArray 26) = w7 := ⟨_, rfl⟩
    have hb7 : Below w6.heap.size w6 w7 := by rw [← hw7]; exact (Below.refl _ _).alloc (Nat.le_refl _) _
    have HB7 : Hid (Below w2.heap.size w2 w7) := HB6.out.trans (hb7.mono HB6.out.size)
    have HT7 : Hid (w7.there w6.heap.size 0 32) := by rw [← hw7]; exact alloc_thereAt _ _ _ 32 _ rfl zD_size.symm
    have HZ7 : Hid (DAt w7 w6.heap.size 0 zD) := by rw [← hw7]; exact box_dat w6 zD _
    have hgw : w2.heap.size ≤ w6.heap.size := HB6.out.size
    have hg7 : w6.heap.size < w7.heap.size := by rw [← hw7]; simp
    clear hb7
    go_upto_region 15 with (refine wpList_allocE (by rfl) 26 (by rfl) (cellsB zD).toArray Tryd.zeroDg w6.heap.size rfl w7 hw7 ?_)
    clear hw7 HB6
    generalize w6.heap.size = g at *
    try simp only [Act.put, List.setIfInBounds_toArray, List.set_cons_zero, List.set_cons_succ]
    go_cut [65] (fun bv wq => bv = .bool (decide (m < 1 ∨ 256 < m ∨ i < 0 ∨ m ≤ i)) ∧ Hid (wq = w7))
    case first =>
      by_cases hm1 : m < 1
      · go_wp2_with fail
        go_meet
        case rel => exact ⟨by rw [decide_eq_true (.inl hm1)], rfl⟩
      by_cases hm2 : 256 < m
      · go_wp2_with fail
        go_meet
        case rel => exact ⟨by rw [decide_eq_true (.inr (.inl hm2))], rfl⟩
      by_cases hi0 : i < 0
      · go_wp2_with fail
        go_meet
        case rel => exact ⟨by rw [decide_eq_true (.inr (.inr (.inl hi0)))], rfl⟩
      by_cases him : m ≤ i
      · go_wp2_with fail
        go_meet
        case rel => exact ⟨by rw [decide_eq_true (.inr (.inr (.inr him)))], rfl⟩
      go_wp2_with fail
      go_meet
      case rel => exact ⟨by rw [decide_eq_false (by omega)], rfl⟩
    case rest =>
    obtain ⟨rfl, hwc⟩ := hcut
    have hwc' : w7 = wc := hwc.out.symm
    subst hwc'
    go_upto_if 65 with fail
    go_cut [11] (fun ev wq => ∃ (e : Int) (X : List UInt8), ev = .int .i64 e ∧ X.length = 32 ∧ DAt wq g 0 X ∧ Hid (∀ wx, Env wx → DRow wx pa p path → Calls Tryd.prog 19 #[digestV l, .int .i64 i, .int .i64 m, .slice pa p pc] wx fun r w' => (∃ er, r = .returned (.tuple #[digestV X, er]) ∧ (∀ wy, Handle wy → Calls Tryd.prog 11 #[er, .int .i64 e] wy fun r w' => r = .returned (.bool true) ∧ Below wy.heap.size wy w')) ∧ Below wx.heap.size wx w') ∧ Below w2.heap.size w2 wq)
    case first =>
      have HOUT : Hid (m < 1 ∨ 256 < m ∨ i < 0 ∨ m ≤ i → (∀ wx, Env wx → DRow wx pa p path → Calls Tryd.prog 19 #[digestV l, .int .i64 i, .int .i64 m, .slice pa p pc] wx fun r w' => (∃ er, r = .returned (.tuple #[digestV zD, er]) ∧ (∀ wy, Handle wy → Calls Tryd.prog 11 #[er, .int .i64 2] wy fun r w' => r = .returned (.bool true) ∧ Below wy.heap.size wy w')) ∧ Below wx.heap.size wx w')) := fun h wx hx hr => by
        refine (wtree_foldout l i m p pc pa path wx hx hl hr hpc hp h i1 i2 m1 m2).mono ?_
        rintro r w' ⟨rfl, hb⟩
        exact ⟨⟨_, rfl, err_no 2 _ _ rfl rfl⟩, hb⟩
      by_cases hQ : m < 1 ∨ 256 < m ∨ i < 0 ∨ m ≤ i
      · rw [decide_eq_true hQ]
        have HQ : Hid (m < 1 ∨ 256 < m ∨ i < 0 ∨ m ≤ i) := hQ
        clear hQ
        go_wp2_with fail
        go_meet
        case rel => exact ⟨2, zD, rfl, rfl, HZ7.out, HOUT.out HQ.out, HB7.out⟩
      rw [decide_eq_false hQ]
      clear HOUT
      obtain ⟨j, rfl⟩ : ∃ j : Nat, i = (j : Int) := ⟨i.toNat, by omega⟩
      obtain ⟨q, rfl⟩ : ∃ q : Nat, m = (q : Int) := ⟨m.toNat, by omega⟩
      have hq1 : 1 ≤ q := by omega
      have hq2 : q ≤ 256 := by omega
      have hjq : j < q := by omega
      have hlb := longT_256 j q hq2
      go_wp2_with fail
      refine (rlong_any q j w7 hq1 (by omega) hjq).mono ?_
      rintro r w8 ⟨rfl, rfl⟩
      have HFO : Hid (∀ wx, p = longT j q → DRow wx pa p path → Calls Tryd.prog 18 #[digestV l, .int .i64 (j : Int), .int .i64 (q : Int), .slice pa p pc] wx fun e w' => e = .returned (digestV (foldT l j q path)) ∧ Below wx.heap.size wx w') := fun wx hx hr => rfold_any q l j p pc pa path wx hl hr hx hpc hq1 (by omega) hjq
      have HTF : Hid (p = longT j q → (∀ wx, Env wx → DRow wx pa p path → Calls Tryd.prog 19 #[digestV l, .int .i64 (j : Int), .int .i64 (q : Int), .slice pa p pc] wx fun r w' => (∃ er, r = .returned (.tuple #[digestV (foldT l j q path), er]) ∧ (∀ wy, Handle wy → Calls Tryd.prog 11 #[er, .int .i64 0] wy fun r w' => r = .returned (.bool true) ∧ Below wy.heap.size wy w')) ∧ Below wx.heap.size wx w')) := fun h wx hx hr => by
        refine (wtree_fold l j q p pc pa path wx hx hl hr h hpc hq1 hq2 hjq).mono ?_
        rintro r w' ⟨rfl, hb⟩
        exact ⟨⟨_, rfl, err_nil _ _ rfl rfl⟩, hb⟩
      have HTL : Hid (p ≠ longT j q → (∀ wx, Env wx → DRow wx pa p path → Calls Tryd.prog 19 #[digestV l, .int .i64 (j : Int), .int .i64 (q : Int), .slice pa p pc] wx fun r w' => (∃ er, r = .returned (.tuple #[digestV zD, er]) ∧ (∀ wy, Handle wy → Calls Tryd.prog 11 #[er, .int .i64 3] wy fun r w' => r = .returned (.bool true) ∧ Below wy.heap.size wy w')) ∧ Below wx.heap.size wx w')) := fun h wx hx hr => by
        refine (wtree_foldlen l j q p pc pa path wx hx hl hr hpc hp hq1 hq2 hjq h).mono ?_
        rintro r w' ⟨rfl, hb⟩
        exact ⟨⟨_, rfl, err_no 3 _ _ rfl rfl⟩, hb⟩
      generalize longT j q = t at *
      by_cases hpt : p = t
      · have e5 : ((p : Int) != (t : Int)) = false := by simp [hpt]
        have HPT : Hid (p = t) := hpt
        clear hpt HTL
        have lF := foldT_length hl j q path
        generalize foldT l j q path = X at *
        go_wp2_with (refine wpList_load_mid (by rfl) 26 (.tmp 7) (by rfl) w.heap.size 0 (by rfl) (cellsB l) _ (HK.out _ HB7.out).1 Tryd.underlying26 (by rfl) (by rw [cellsB_length, hl]; exact Tryd.sizeDg) ?_)
        refine (HFO.out w8 HPT.out (HK.out _ HB7.out).2.2.2.2.1).mono ?_
        rintro r w9 ⟨rfl, hb9⟩
        have HB9 : Hid (Below w2.heap.size w2 w9) := HB7.out.trans (hb9.mono HB7.out.size)
        have HT9 : Hid (w9.there g 0 32) := there_below HT7.out hb9 hg7
        clear hb9
        go_wp2_with (refine wpList_store_mid (by rfl) 26 (.tmp 17) (.tmp 76) (by rfl) g 0 (cellsB X).toArray (by rfl) (by rfl) (by rw [cellsB_size, lF]; exact HT9.out) (by rw [cellsB_size, lF]; exact Tryd.sizeDg) (all_oneCell_toArray (cellsB_one _)) ?_)
        go_meet
        case rel => exact ⟨0, X, rfl, lF, dat_stored HT9.out lF, HTF.out HPT.out, below_setCells _ hgw _ _ _ HB9.out⟩
      · have e5 : ((p : Int) != (t : Int)) = true := by simp; omega
        have HPT : Hid (p ≠ t) := hpt
        clear hpt
        go_wp2_with fail
        go_meet
        case rel => exact ⟨3, zD, rfl, rfl, HZ7.out, HTL.out HPT.out, HB7.out⟩
    case rest =>
      clear HB7 HT7 HZ7 hg7 H0
      obtain ⟨e, X, rfl, lX, hX, HC, hb⟩ := hcut
      have HX : Hid (DAt wc g 0 X) := hX
      have HB : Hid (Below w2.heap.size w2 wc) := hb
      clear hX hb
      go_wp2_with (refine wpList_load_mid (by rfl) 26 (.tmp 7) (by rfl) w.heap.size 0 (by rfl) (cellsB l) _ (HK.out _ HB.out).1 Tryd.underlying26 (by rfl) (by rw [cellsB_length, hl]; exact Tryd.sizeDg) ?_)
      refine (HC.out wc (HK.out _ HB.out).2.1 (HK.out _ HB.out).2.2.2.2.1).mono ?_
      rintro r wA ⟨⟨er, rfl, hE⟩, hbA⟩
      have HE : Hid (∀ wy, Handle wy → Calls Tryd.prog 11 #[er, .int .i64 e] wy fun r w' => r = .returned (.bool true) ∧ Below wy.heap.size wy w') := hE
      have HXA : Hid (DAt wA g 0 X ∧ g < wA.heap.size) := ⟨HX.out.below hbA (cell_block (HX.out.cell 0 (by omega))), Nat.lt_of_lt_of_le (cell_block (HX.out.cell 0 (by omega))) hbA.size⟩
      have HBA : Hid (Below w2.heap.size w2 wA) := HB.out.trans (hbA.mono HB.out.size)
      clear hE hbA HC HX HB
      obtain ⟨wB, hwB⟩ : ∃ wB, wA.alloc (.cells (cellsB zD).toArray 26) = wB := ⟨_, rfl⟩
      have HTB : Hid (wB.there wA.heap.size 0 32) := by rw [← hwB]; exact alloc_thereAt _ _ _ 32 _ rfl zD_size.symm
      have hbC : Below wA.heap.size wA (wB.setCells wA.heap.size 0 (cellsB X)) := by rw [← hwB]; exact new_stored _ _ _
      have HBC : Hid (Below w2.heap.size w2 (wB.setCells wA.heap.size 0 (cellsB X))) := HBA.out.trans (hbC.mono HBA.out.size)
      have HXC : Hid (DAt (wB.setCells wA.heap.size 0 (cellsB X)) g 0 X ∧ DAt (wB.setCells wA.heap.size 0 (cellsB X)) wA.heap.size 0 X) := ⟨HXA.out.1.below hbC HXA.out.2, dat_stored HTB.out lX⟩
      clear hbC HBA HXA
      obtain ⟨wC, hwC⟩ : ∃ wC, wB.setCells wA.heap.size 0 (cellsB X) = wC := ⟨_, rfl⟩
      rw [hwC] at HBC HXC
      go_wp2_with (first
        | (refine wpList_allocE (by rfl) 26 (by rfl) (cellsB zD).toArray Tryd.zeroDg wA.heap.size rfl wB hwB ?_)
        | (refine wpList_store_mid (by rfl) 26 (.tmp 18) (.tmp 83) (by rfl) wA.heap.size 0 (cellsB X).toArray (by rfl) (by rfl) (by rw [cellsB_size, lX]; exact HTB.out) (by rw [cellsB_size, lX]; exact Tryd.sizeDg) (all_oneCell_toArray (cellsB_one _)) ?_; rw [show (cellsB X).toArray.toList = cellsB X from rfl, hwC]))
      clear hwB hwC HTB
      generalize wA.heap.size = gA at *
      refine (HE.out wC (HK.out _ HBC.out).2.2.1).mono ?_
      rintro r wD ⟨rfl, hbD⟩
      have hgC : g < wC.heap.size := cell_block (HXC.out.1.cell 0 (by omega))
      have hgC2 : gA < wC.heap.size := cell_block (HXC.out.2.cell 0 (by omega))
      have HXD : Hid (DAt wD g 0 X ∧ DAt wD gA 0 X ∧ g < wD.heap.size ∧ gA < wD.heap.size) := ⟨HXC.out.1.below hbD hgC, HXC.out.2.below hbD hgC2, Nat.lt_of_lt_of_le hgC hbD.size, Nat.lt_of_lt_of_le hgC2 hbD.size⟩
      have HBD : Hid (Below w2.heap.size w2 wD) := HBC.out.trans (hbD.mono HBC.out.size)
      clear hbD HE HBC HXC hgC hgC2
      have HSd : Hid (∀ wx, Below wD.heap.size wD wx → (wx.rangeAt w.heap.size 0 (cellsB l) ∧ wx.rangeAt g 0 (cellsB X) ∧ wx.rangeAt gA 0 (cellsB X)) ∧ Env wx ∧ Below w.heap.size w wx) := fun wx hx => by
        have b := HBD.out.trans (hx.mono HBD.out.size)
        have k := HK.out _ b
        exact ⟨⟨k.1, HXD.out.1.below hx HXD.out.2.2.1, HXD.out.2.1.below hx HXD.out.2.2.2⟩, k.2.1, k.2.2.2.2.2⟩
      have lN := nodeT_length l X
      have HN1 : Hid (∀ wx, Env wx → Calls Tryd.prog 20 #[digestV l, digestV X] wx fun e w' => e = .returned (digestV (nodeT l X)) ∧ Below wx.heap.size wx w') := fun wx hx => wtree_node l X wx hx hl lX
      have HN2 : Hid (∀ wx, Calls Tryd.prog 21 #[digestV l, digestV X] wx fun e w' => e = .returned (digestV (nodeT l X)) ∧ Below wx.heap.size wx w') := fun wx => rnode_any l X wx hl lX
      generalize nodeT l X = N at *
      clear HXD
      go_wp2_with fail
      refine wp_region_noPanic ?_
      refine wp_region_held_drew (S := fun w' => w'.rangeAt w.heap.size 0 (cellsB l) ∧ w'.rangeAt g 0 (cellsB X) ∧ w'.rangeAt gA 0 (cellsB X)) (by kernel_rfl) ((HSd.out _ (below_drewN wD 1)).1) (fun hHeld => ?_)
      try simp only [Act.put, List.setIfInBounds_toArray, List.set_cons_zero, List.set_cons_succ]
      have HBd : Hid (Below wD.heap.size wD wD.drew) := below_drewN wD 1
      generalize wD.drew = wd at *
      refine wpAnyH_take (i := 0) (v := ?_) (by simp only [List.getElem?_toArray, List.getElem?_cons_zero, List.getElem?_cons_succ]; rfl) (by kernel_rfl) (by kernel_rfl) (by kernel_rfl) (fun _ _ _ h => h) (Or.inl ⟨by rfl, ?_⟩) hHeld ?_
      rotate_left
      · intro w hSw
        obtain ⟨hSw0, hSw1, hSw2⟩ := hSw
        go_simp
        try with_reducible rfl
      try simp only [Act.put, List.setIfInBounds_toArray, List.set_cons_zero, List.set_cons_succ]
      refine wpAnyH_take (i := 1) (v := ?_) (by simp only [List.getElem?_toArray, List.getElem?_cons_zero, List.getElem?_cons_succ]; rfl) (by kernel_rfl) (by kernel_rfl) (by kernel_rfl) (fun _ _ _ h => h) (Or.inl ⟨by rfl, ?_⟩) hHeld ?_
      rotate_left
      · intro w hSw
        obtain ⟨hSw0, hSw1, hSw2⟩ := hSw
        go_simp
        try with_reducible rfl
      try simp only [Act.put, List.setIfInBounds_toArray, List.set_cons_zero, List.set_cons_succ]
      refine wpAnyH_take (i := 2) (v := .agg (cellsB X).toArray) (by simp only [List.getElem?_toArray, List.getElem?_cons_zero, List.getElem?_cons_succ]; rfl) (by kernel_rfl) (by kernel_rfl) (by kernel_rfl) (fun _ _ _ h => h)
        (yieldsIf_load_mid (by rfl) _ _ rfl _ _ rfl _ _ (fun w hw => hw.2.2) Tryd.underlying26 rfl (by rw [cellsB_length, lX]; exact Tryd.sizeDg)) hHeld ?_
      try simp only [Act.put, List.setIfInBounds_toArray, List.set_cons_zero, List.set_cons_succ]
      refine wpAnyH_take (i := 3) (v := .agg (cellsB X).toArray) (by simp only [List.getElem?_toArray, List.getElem?_cons_zero, List.getElem?_cons_succ]; rfl) (by kernel_rfl) (by kernel_rfl) (by kernel_rfl) (fun _ _ _ h => h)
        (yieldsIf_load_mid (by rfl) _ _ rfl _ _ rfl _ _ (fun w hw => hw.2.1) Tryd.underlying26 rfl (by rw [cellsB_length, lX]; exact Tryd.sizeDg)) hHeld ?_
      try simp only [Act.put, List.setIfInBounds_toArray, List.set_cons_zero, List.set_cons_succ]
      refine wpAnyH_take (i := 4) (v := .bool true) (by simp only [List.getElem?_toArray, List.getElem?_cons_zero, List.getElem?_cons_succ]; rfl) (by kernel_rfl) (by kernel_rfl) (by kernel_rfl) (fun _ _ _ h => h)
        (yieldsIf_eqD (by rfl) _ _ rfl X X lX lX rfl rfl true (decide_eq_true rfl)) hHeld ?_
      try simp only [Act.put, List.setIfInBounds_toArray, List.set_cons_zero, List.set_cons_succ]
      refine wpAnyH_take (i := 5) (v := ?_) (by simp only [List.getElem?_toArray, List.getElem?_cons_zero, List.getElem?_cons_succ]; rfl) (by kernel_rfl) (by kernel_rfl) (by kernel_rfl) (fun _ _ _ h => h) (Or.inl ⟨by rfl, ?_⟩) hHeld ?_
      rotate_left
      · intro w hSw
        obtain ⟨hSw0, hSw1, hSw2⟩ := hSw
        go_simp
        try with_reducible rfl
      try simp only [Act.put, List.setIfInBounds_toArray, List.set_cons_zero, List.set_cons_succ]
      refine wpAnyH_take (i := 6) (v := ?_) (by simp only [List.getElem?_toArray, List.getElem?_cons_zero, List.getElem?_cons_succ]; rfl) (by kernel_rfl) (by kernel_rfl) (by kernel_rfl) (fun _ _ _ h => h) (Or.inl ⟨by rfl, ?_⟩) hHeld ?_
      rotate_left
      · intro w hSw
        obtain ⟨hSw0, hSw1, hSw2⟩ := hSw
        go_simp
        try with_reducible rfl
      try simp only [Act.put, List.setIfInBounds_toArray, List.set_cons_zero, List.set_cons_succ]
      refine wpAnyH_take (i := 7) (v := .agg (cellsB l).toArray) (by simp only [List.getElem?_toArray, List.getElem?_cons_zero, List.getElem?_cons_succ]; rfl) (by kernel_rfl) (by kernel_rfl) (by kernel_rfl) (fun _ _ _ h => h)
        (yieldsIf_load_mid (by rfl) _ _ rfl _ _ rfl _ _ (fun w hw => hw.1) Tryd.underlying26 rfl (by rw [cellsB_length, hl]; exact Tryd.sizeDg)) hHeld ?_
      try simp only [Act.put, List.setIfInBounds_toArray, List.set_cons_zero, List.set_cons_succ]
      refine wpAnyH_take (i := 8) (v := .agg (cellsB X).toArray) (by simp only [List.getElem?_toArray, List.getElem?_cons_zero, List.getElem?_cons_succ]; rfl) (by kernel_rfl) (by kernel_rfl) (by kernel_rfl) (fun _ _ _ h => h)
        (yieldsIf_load_mid (by rfl) _ _ rfl _ _ rfl _ _ (fun w hw => hw.2.2) Tryd.underlying26 rfl (by rw [cellsB_length, lX]; exact Tryd.sizeDg)) hHeld ?_
      try simp only [Act.put, List.setIfInBounds_toArray, List.set_cons_zero, List.set_cons_succ]
      refine wpAnyH_take (i := 10) (v := .agg (cellsB l).toArray) (by simp only [List.getElem?_toArray, List.getElem?_cons_zero, List.getElem?_cons_succ]; rfl) (by kernel_rfl) (by kernel_rfl) (by kernel_rfl) (fun _ _ _ h => h)
        (yieldsIf_load_mid (by rfl) _ _ rfl _ _ rfl _ _ (fun w hw => hw.1) Tryd.underlying26 rfl (by rw [cellsB_length, hl]; exact Tryd.sizeDg)) hHeld ?_
      try simp only [Act.put, List.setIfInBounds_toArray, List.set_cons_zero, List.set_cons_succ]
      refine wpAnyH_take (i := 11) (v := .agg (cellsB X).toArray) (by simp only [List.getElem?_toArray, List.getElem?_cons_zero, List.getElem?_cons_succ]; rfl) (by kernel_rfl) (by kernel_rfl) (by kernel_rfl) (fun _ _ _ h => h)
        (yieldsIf_load_mid (by rfl) _ _ rfl _ _ rfl _ _ (fun w hw => hw.2.2) Tryd.underlying26 rfl (by rw [cellsB_length, lX]; exact Tryd.sizeDg)) hHeld ?_
      try simp only [Act.put, List.setIfInBounds_toArray, List.set_cons_zero, List.set_cons_succ]
      refine wpAnyH_ready (rs := [9]) (by kernel_rfl) (by simp) ?_
      refine AllReadyH.cons (by simp only [List.getElem?_toArray, List.getElem?_cons_zero, List.getElem?_cons_succ]; rfl) (fun K hK => ?_) AllReadyH.nil
      rw [if_pos (by rfl)]
      go_simp
      refine (HN1.out wd (HSd.out _ HBd.out).2.1).mono ?_
      rintro r wE ⟨rfl, hbE⟩
      have HBE : Hid (Below wD.heap.size wD wE) := HBd.out.trans (hbE.mono HBd.out.size)
      clear hbE HBd
      go_wp2_with fail
      refine hK.out _ _ (HSd.out _ HBE.out).1 (fun hHeld => ?_)
      clear hK K
      try simp only [Act.put, List.setIfInBounds_toArray, List.set_cons_zero, List.set_cons_succ]
      refine wpAnyH_ready (rs := [12]) (by kernel_rfl) (by simp) ?_
      refine AllReadyH.cons (by simp only [List.getElem?_toArray, List.getElem?_cons_zero, List.getElem?_cons_succ]; rfl) (fun K hK => ?_) AllReadyH.nil
      rw [if_pos (by rfl)]
      go_simp
      refine (HN2.out wE).mono ?_
      rintro r wF ⟨rfl, hbF⟩
      have HBF : Hid (Below wD.heap.size wD wF) := HBE.out.trans (hbF.mono HBE.out.size)
      clear hbF HBE
      go_wp2_with fail
      refine hK.out _ _ (HSd.out _ HBF.out).1 (fun hHeld => ?_)
      clear hK K
      try simp only [Act.put, List.setIfInBounds_toArray, List.set_cons_zero, List.set_cons_succ]
      refine wpAnyH_take (i := 13) (v := .bool true) (by simp only [List.getElem?_toArray, List.getElem?_cons_zero, List.getElem?_cons_succ]; rfl) (by kernel_rfl) (by kernel_rfl) (by kernel_rfl) (fun _ _ _ h => h)
        (yieldsIf_eqD (by rfl) _ _ rfl N N lN lN rfl rfl true (decide_eq_true rfl)) hHeld ?_
      try simp only [Act.put, List.setIfInBounds_toArray, List.set_cons_zero, List.set_cons_succ]
      refine wpAnyH_take (i := 14) (v := ?_) (by simp only [List.getElem?_toArray, List.getElem?_cons_zero, List.getElem?_cons_succ]; rfl) (by kernel_rfl) (by kernel_rfl) (by kernel_rfl) (fun _ _ _ h => h) (Or.inl ⟨by rfl, ?_⟩) hHeld ?_
      rotate_left
      · intro w hSw
        obtain ⟨hSw0, hSw1, hSw2⟩ := hSw
        go_simp
        try with_reducible rfl
      try simp only [Act.put, List.setIfInBounds_toArray, List.set_cons_zero, List.set_cons_succ]
      refine wpAnyH_take (i := 15) (v := ?_) (by simp only [List.getElem?_toArray, List.getElem?_cons_zero, List.getElem?_cons_succ]; rfl) (by kernel_rfl) (by kernel_rfl) (by kernel_rfl) (fun _ _ _ h => h) (Or.inl ⟨by rfl, ?_⟩) hHeld ?_
      rotate_left
      · intro w hSw
        obtain ⟨hSw0, hSw1, hSw2⟩ := hSw
        go_simp
        try with_reducible rfl
      try simp only [Act.put, List.setIfInBounds_toArray, List.set_cons_zero, List.set_cons_succ]
      refine wpAnyH_done (by kernel_rfl) (NoPanic.normal ?_) _
      clear hHeld
      go_wp2_with fail
      go_ret
      exact ⟨rfl, (HSd.out _ HBF.out).2.2⟩
end Go.Proofs.YtdldkhhcicjbmaaDoor
