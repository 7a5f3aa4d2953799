/- The law TrieSets: with another value at a key, or with none. -/
import Derived.Test.YtbhoijnhpmkglaaDoorJ14
import Derived.Test.YtbhoijnhpmkglaaDoorJ13
import Derived.Test.YtbhoijnhpmkglaaDoorJ11
import Derived.Test.YtbhoijnhpmkglaaDoorJ15
namespace Go.Proofs.YtbhoijnhpmkglaaDoor
open Go.RowKit
set_option linter.unusedVariables false
set_option linter.unusedSimpArgs false

set_option maxRecDepth 100000 in
set_option maxHeartbeats 2000000 in
theorem isets_out (a : Option Addr) (n c : Nat) (es : List Ent) (k : Int) (v : List UInt8) (gone : Bool) (w : World) (G : Env w) (HH : Handle w) (R : ERow w a n es) (hc : n ≤ c) (hn : 40 * n ≤ 140737488351232) (k1 : -9223372036854775808 ≤ k) (k2 : k ≤ 9223372036854775807) (hv : v.length = 32) (q : Int) (hp : pathE es k = q) (hq : q ≠ 0) :
    Calls Tryd.prog 7 #[.slice a n c, .int .i64 k, digestV v, .bool gone] w fun r w' => r = .returned (.bool true) ∧ Below w.heap.size w w' := by
  obtain ⟨w1, hw1⟩ : ∃ w1, w.alloc (.cells (cellsB v).toArray 24) = w1 := ⟨_, rfl⟩
  have HALL : Hid (∀ wx, Below w1.heap.size w1 wx → Env wx ∧ Handle wx ∧ ERow wx a n es ∧ DAt wx w.heap.size 0 v ∧ Below w.heap.size w wx) := fun wx hx => by
    have b1 : Below w.heap.size w w1 := by rw [← hw1]; exact (Below.refl _ _).alloc (Nat.le_refl _) _
    have b : Below w.heap.size w wx := b1.trans (hx.mono b1.size)
    have hr : DAt w1 w.heap.size 0 v := by rw [← hw1]; exact box_dat w v _
    exact ⟨G.below b, HH.below b, R.below b, dat_b hr hv hx, b⟩
  have HBw1 : Hid (Below w1.heap.size w1 w1) := Below.refl _ _
  have HEL : Hid (es.length = n ∧ ∀ i, i < n → okE (es.getD i noE)) := ⟨R.1, R.ok⟩
  have lZD : zD.length = 32 := rfl
  have HPT : Hid (∀ wx, Below w1.heap.size w1 wx → Calls Tryd.prog 15 #[.slice a n c, .int .i64 k] wx fun r w' => (∃ a' c', r = .returned (.tuple #[.slice a' 0 c', .iface 27 (.int .i64 q)])) ∧ Below wx.heap.size wx w') := fun wx hx => wtrie_pathout a n c es k q wx (HALL.out wx hx).1 (HALL.out wx hx).2.2.1 hc hn k1 k2 hp hq
  clear hp hq
  clear G HH R
  go_enter Tryd.func7, Tryd.ntmps7
  go_wp2_with fail
  try rw [hw1]
  clear hw1
  refine (wleafed_any w1 (HALL.out w1 HBw1.out).1).mono ?_
  rintro r x111 ⟨rfl, hbx111⟩
  have HBx111 : Hid (Below w1.heap.size w1 x111) := HBw1.out.trans (hbx111.mono HBw1.out.size)
  clear hbx111
  go_wp2_with fail
  refine (HPT.out x111 HBx111.out).mono ?_
  rintro r x112 ⟨⟨a7, c7, rfl⟩, hbx112⟩
  have HBx112 : Hid (Below w1.heap.size w1 x112) := HBx111.out.trans (hbx112.mono HBx111.out.size)
  clear hbx112
  go_wp2_with fail
  go_ret
  exact ⟨rfl, (HALL.out _ HBx112.out).2.2.2.2⟩
set_option maxRecDepth 100000 in
set_option maxHeartbeats 2000000 in
theorem isets_gone (a : Option Addr) (n c : Nat) (es : List Ent) (j : Nat) (v : List UInt8) (w : World) (G : Env w) (HH : Handle w) (R : ERow w a n es) (hc : n ≤ c) (hn : 40 * n ≤ 140737488351232) (hj : j < 4294967296) (hv : v.length = 32) (hf : faultE es = 0) :
    Calls Tryd.prog 7 #[.slice a n c, .int .i64 (j : Int), digestV v, .bool true] w fun r w' => r = .returned (.bool true) ∧ Below w.heap.size w w' := by
  obtain ⟨w1, hw1⟩ : ∃ w1, w.alloc (.cells (cellsB v).toArray 24) = w1 := ⟨_, rfl⟩
  have HALL : Hid (∀ wx, Below w1.heap.size w1 wx → Env wx ∧ Handle wx ∧ ERow wx a n es ∧ DAt wx w.heap.size 0 v ∧ Below w.heap.size w wx) := fun wx hx => by
    have b1 : Below w.heap.size w w1 := by rw [← hw1]; exact (Below.refl _ _).alloc (Nat.le_refl _) _
    have b : Below w.heap.size w wx := b1.trans (hx.mono b1.size)
    have hr : DAt w1 w.heap.size 0 v := by rw [← hw1]; exact box_dat w v _
    exact ⟨G.below b, HH.below b, R.below b, dat_b hr hv hx, b⟩
  have HBw1 : Hid (Below w1.heap.size w1 w1) := Below.refl _ _
  have HEL : Hid (es.length = n ∧ ∀ i, i < n → okE (es.getD i noE)) := ⟨R.1, R.ok⟩
  have lZD : zD.length = 32 := rfl
  have hkey : isKey (j : Int) = true := decide_eq_true (by omega)
  have hn64 : n ≤ 64 := by have := (faultE_ok hf).1; rw [R.1] at this; exact this
  have HJ : Hid (j < 4294967296) := hj
  have HPT : Hid (∀ wx, Below w1.heap.size w1 wx → Calls Tryd.prog 15 #[.slice a n c, .int .i64 (j : Int)] wx fun r w' => (∃ a' c', r = .returned (.tuple #[.slice a' 32 c', .nilIface]) ∧ 32 ≤ c' ∧ DRow w' a' 32 (pathM (gE es) j 32)) ∧ Below wx.heap.size wx w') := fun wx hx => wtrie_path a n c es j wx (HALL.out wx hx).1 (HALL.out wx hx).2.2.1 hc hn hf hj
  have HBL1 : Hid ((butL es (j : Int)).length ≤ n) := by have := but_le es (j : Int); rw [R.1] at this; exact this
  have hfo := but_fault (k := (j : Int)) hf
  have HFM : Hid (foldM j zD (pathM (gE es) j 32) = mapL (gE (butL es (j : Int))) 0 32) := sets_gone es j hj
  have lN : (mapL (gE (butL es (j : Int))) 0 32).length = 32 := mapL_length (gE_length _) 32 0
  have HRT : Hid (∀ a5 m c5 wx, Env wx → ERow wx a5 m (butL es (j : Int)) → m ≤ c5 → m ≤ 1000 → Calls Tryd.prog 11 #[.slice a5 m c5] wx fun r w' => r = .returned (.tuple #[digestV (mapL (gE (butL es (j : Int))) 0 32), .nilIface]) ∧ Below wx.heap.size wx w') := fun a5 m c5 wx hx hr h1 h2 => wtrie_root a5 m c5 _ wx hx hr h1 (by omega) hfo
  generalize mapL (gE (butL es (j : Int))) 0 32 = N at *
  clear hfo
  have HNO : Hid (∀ wx, Calls Tryd.prog 23 #[] wx fun e w' => e = .returned (digestV zD) ∧ Below wx.heap.size wx w') := rnothing_any
  clear hf hkey
  generalize pathM (gE es) j 32 = PT at *
  clear G HH R
  go_enter Tryd.func7, Tryd.ntmps7
  go_wp2_with fail
  try rw [hw1]
  clear hw1
  refine (wleafed_any w1 (HALL.out w1 HBw1.out).1).mono ?_
  rintro r x113 ⟨rfl, hbx113⟩
  have HBx113 : Hid (Below w1.heap.size w1 x113) := HBw1.out.trans (hbx113.mono HBw1.out.size)
  clear hbx113
  go_wp2_with fail
  refine (HPT.out x113 HBx113.out).mono ?_
  rintro r x114 ⟨⟨a7, c7, rfl, hc7, r7⟩, hbx114⟩
  have HBx114 : Hid (Below w1.heap.size w1 x114) := HBx113.out.trans (hbx114.mono HBx113.out.size)
  have HC7 : Hid (32 ≤ c7) := hc7
  have R7 : Hid (DRow x114 a7 32 PT) := r7
  clear r7 hc7 HPT
  clear hbx114
  go_wp2_with fail
  have HBL : Hid (∀ wx, Below x114.heap.size x114 wx → Env wx ∧ Handle wx ∧ ERow wx a n es ∧ DAt wx w.heap.size 0 v ∧ DRow wx a7 32 PT ∧ Below w.heap.size w wx) := fun wx hx => by
    have q := HALL.out wx (HBx114.out.trans (hx.mono HBx114.out.size))
    exact ⟨q.1, q.2.1, q.2.2.1, q.2.2.2.1, R7.out.below hx, q.2.2.2.2⟩
  clear HALL R7 HBx114
  go_loopw [12, 13] (fun v iv wr => ∃ i : Nat, i ≤ n ∧ iv = .int .i64 (i : Int) ∧ OwnE wr x114.heap.size v (butL (es.take i) (j : Int)) ∧ Below x114.heap.size x114 wr) (fun _ iv _ => n - (intOf iv).toNat)
  case atStart => exact ⟨0, Nat.zero_le _, rfl, OwnE.nil _ _, Below.refl _ _⟩
  case round =>
    obtain ⟨i, hi, rfl, hO, hB⟩ := hrel
    have HO : Hid (OwnE wr x114.heap.size u12 (butL (es.take i) (j : Int))) := hO
    have HBwr : Hid (Below x114.heap.size x114 wr) := hB
    clear hO hB
    by_cases hlt : i < n
    · obtain ⟨b, ob, ha⟩ := (HBL.out _ HBwr.out).2.2.1.addr (by omega)
      subst ha
      have hr := (HBL.out _ HBwr.out).2.2.1.at i hlt
      have HOK : Hid (okE (es.getD i noE)) := HEL.out.2 i hlt
      have HST := but_step (k := (j : Int)) (i := i) (es := es) (by rw [HEL.out.1]; exact hlt)
      have HLU : Hid ((butL (es.take i) (j : Int)).length ≤ 1000) := by
        have h1 := but_le (es.take i) (j : Int)
        rw [List.length_take] at h1
        unfold Hid
        omega
      have b1 := HOK.out.2.1
      have b2 := HOK.out.2.2
      generalize es.getD i noE = e at *
      have HRG : Hid (wr.rangeAt b (ob + i * 33) (entC e)) := hr
      have k0 : wr.cell? ⟨b, ob + i * 33, none⟩ = some (.int .i64 e.1) := hr 0 _ rfl
      clear hr
      have i0 : (0 : Int) ≤ (i : Int) := by omega
      have i1 : (i : Int) < (n : Int) := by omega
      by_cases c1 : e.1 = (j : Int)
      · have HST2 : Hid (butL (es.take (i + 1)) (j : Int) = butL (es.take i) (j : Int)) := by rw [if_neg (fun q => q c1), List.append_nil] at HST; exact HST
        clear HST HLU HRG
        have c2 : (e.1 == (j : Int)) = true := beq_iff_eq.2 c1
        go_wp2_with fail
        go_roundw
        case rel => exact ⟨i + 1, by omega, by go_num, by rw [HST2.out]; exact HO.out, HBwr.out⟩
        case measure => simp [intOf]; omega
      · have HST2 : Hid (butL (es.take (i + 1)) (j : Int) = butL (es.take i) (j : Int) ++ [e]) := by rw [if_pos c1] at HST; exact HST
        clear HST
        have c2 : (e.1 == (j : Int)) = false := beq_eq_false_iff_ne.2 c1
        have HOa : Hid (OwnE (wr.alloc (.cells (entC e).toArray 26)) x114.heap.size u12 (butL (es.take i) (j : Int))) := OwnE.alloc HO.out _
        have HBa : Hid (Below x114.heap.size x114 (wr.alloc (.cells (entC e).toArray 26))) := Below.alloc HBwr.out HBwr.out.size _
        have HNa : Hid (ERow (wr.alloc (.cells (entC e).toArray 26)) (some ⟨wr.heap.size, 0, none⟩) 1 [e]) := ERow.new wr e _ HOK.out
        go_wp2_with (first
          | (refine wpList_load_mid (by rfl) 26 (.tmp 49) (by rfl) b (ob + i * 33) (by rfl) (entC e) _ HRG.out Tryd.underlying26 (by rfl) (by rw [entC_length HOK.out]; exact Tryd.sizeEn) ?_)
          | (refine wpList_buildEn (by rfl) (.tmp 50) (by rfl) e HOK.out (by rfl) ?_)
          | (at_builtin; refine wpList_append_entries (by rfl) (.tmp 46) (.tmp 51) (by rfl) x114.heap.size u12 (butL (es.take i) (j : Int)) (by rfl) HOa.out ⟨wr.heap.size, 0, none⟩ 1 1 [e] (by rfl) HNa.out (by omega) (by have := HLU.out; omega) HBa.out.size ?_; intro v5 w5 ho5 hg5 _; have HO5 : Hid (OwnE w5 x114.heap.size v5 (butL (es.take i) (j : Int) ++ [e])) := ho5; have HB5 : Hid (Below x114.heap.size x114 w5) := OwnE.grown HOa.out HBa.out hg5 (Nat.le_refl _) HBa.out.size; clear ho5 hg5))
        go_roundw
        case rel => exact ⟨i + 1, by omega, by go_num, by rw [HST2.out]; exact HO5.out, HB5.out⟩
        case measure => simp [intOf]; omega
    · obtain rfl : i = n := by omega
      have g1 : ¬ (i : Int) < (i : Int) := by omega
      have hO2 := HO.out
      rw [List.take_of_length_le (by rw [HEL.out.1]; exact Nat.le_refl _)] at hO2
      have Owr : Hid (OwnE wr x114.heap.size u12 (butL es (j : Int))) := hO2
      clear HO hlt hO2 HEL
      obtain ⟨OO, hOO⟩ : ∃ OO, butL es (j : Int) = OO := ⟨_, rfl⟩
      rw [hOO] at Owr HRT HBL1
      clear hOO
      go_wp2_with fail
      refine (HNO.out wr).mono ?_
      rintro r x115 ⟨rfl, hbx115⟩
      have HBx115 : Hid (Below x114.heap.size x114 x115) := HBwr.out.trans (hbx115.mono HBwr.out.size)
      have Ox115 : Hid (OwnE x115 x114.heap.size u12 OO) := OwnE.below Owr.out hbx115
      clear hbx115 Owr
      obtain ⟨g14, hg14⟩ : ∃ g14, x115.heap.size = g14 := ⟨_, rfl⟩
      obtain ⟨x116, hx116⟩ : ∃ x116, x115.alloc (.cells (cellsB zD).toArray 24) = x116 := ⟨_, rfl⟩
      have qx116 := new_var hg14 hx116
      have HBx116 : Hid (Below x114.heap.size x114 x116) := HBx115.out.trans (qx116.2.2.mono HBx115.out.size)
      have Lg14 : Hid (x114.heap.size ≤ g14) := by rw [← hg14]; exact HBx115.out.size
      have NOg14 : Hid (u12.ownBlock ≠ some g14) := OwnE.size Ox115.out (Nat.le_of_eq hg14)
      have Ox116 : Hid (OwnE x116 x114.heap.size u12 OO) := OwnE.below Ox115.out qx116.2.2
      have Dg14x116 : Hid (DAt x116 g14 0 zD) := qx116.2.1
      have Tg14x116 : Hid (x116.there g14 0 32) := qx116.1
      clear qx116
      obtain ⟨x117, hx117⟩ : ∃ x117, x116.setCells g14 0 (cellsB zD) = x117 := ⟨_, rfl⟩
      have HBx117 : Hid (Below x114.heap.size x114 x117) := below_put HBx116.out Lg14.out hx117
      have Tg14x117 : Hid (x117.there g14 0 32) := there_else Tg14x116.out hx117
      have Ox117 : Hid (OwnE x117 x114.heap.size u12 OO) := OwnE.put Ox116.out NOg14.out hx117
      have Dg14x117 : Hid (DAt x117 g14 0 zD) := dat_put Tg14x116.out lZD hx117
      go_wp2_with (first
        | (refine wpList_allocD (by rfl) (by rfl) g14 hg14 x116 hx116 ?_)
        | (refine wpList_storeD (by rfl) (.tmp 14) (.tmp 53) (by rfl) g14 zD (by rfl) (by rfl) lZD Tg14x116.out x117 hx117 ?_))
      clear Ox115 hg14 hx116 Dg14x116 Tg14x116 Ox116 hx117 
      obtain ⟨a5, c5, hu, _, _⟩ := Ox117.out.form
      subst hu
      have HOR : Hid (ERow x117 a5 OO.length OO ∧ OO.length ≤ c5) := ⟨Ox117.out.erow.1, Ox117.out.erow.2.1⟩
      clear NOg14 Ox117
      obtain ⟨m, hm⟩ : ∃ m, OO.length = m := ⟨_, rfl⟩
      rw [hm] at HOR HBL1
      simp only [hm]
      clear hm
      refine (HRT.out a5 m c5 x117 (HBL.out _ HBx117.out).1 HOR.out.1 HOR.out.2 (by have := HBL1.out; omega)).mono ?_
      rintro r x118 ⟨rfl, hbx118⟩
      have HBx118 : Hid (Below x114.heap.size x114 x118) := HBx117.out.trans (hbx118.mono HBx117.out.size)
      have Dg14x118 : Hid (DAt x118 g14 0 zD) := dat_b Dg14x117.out lZD hbx118
      have Tg14x118 : Hid (x118.there g14 0 32) := there_b Tg14x117.out hbx118
      clear hbx118 Dg14x117 Tg14x117
      clear HOR HRT
      obtain ⟨g17, hg17⟩ : ∃ g17, x118.heap.size = g17 := ⟨_, rfl⟩
      obtain ⟨x119, hx119⟩ : ∃ x119, x118.alloc (.cells (cellsB zD).toArray 24) = x119 := ⟨_, rfl⟩
      have qx119 := new_var hg17 hx119
      have HBx119 : Hid (Below x114.heap.size x114 x119) := HBx118.out.trans (qx119.2.2.mono HBx118.out.size)
      have Lg17 : Hid (x114.heap.size ≤ g17) := by rw [← hg17]; exact HBx118.out.size
      have Ng14g17 : Hid (g14 ≠ g17) := by have := dat_size Dg14x118.out lZD; unfold Hid; omega
      have Dg14x119 : Hid (DAt x119 g14 0 zD) := dat_b Dg14x118.out lZD qx119.2.2
      have Tg14x119 : Hid (x119.there g14 0 32) := there_b Tg14x118.out qx119.2.2
      have Dg17x119 : Hid (DAt x119 g17 0 zD) := qx119.2.1
      have Tg17x119 : Hid (x119.there g17 0 32) := qx119.1
      clear qx119
      obtain ⟨x120, hx120⟩ : ∃ x120, x119.setCells g17 0 (cellsB N) = x120 := ⟨_, rfl⟩
      have HBx120 : Hid (Below x114.heap.size x114 x120) := below_put HBx119.out Lg17.out hx120
      have Dg14x120 : Hid (DAt x120 g14 0 zD) := dat_else Dg14x119.out Ng14g17.out hx120
      have Tg14x120 : Hid (x120.there g14 0 32) := there_else Tg14x119.out hx120
      have Tg17x120 : Hid (x120.there g17 0 32) := there_else Tg17x119.out hx120
      have Dg17x120 : Hid (DAt x120 g17 0 N) := dat_put Tg17x119.out lN hx120
      go_wp2_with (first
        | (refine wpList_allocD (by rfl) (by rfl) g17 hg17 x119 hx119 ?_)
        | (refine wpList_storeD (by rfl) (.tmp 17) (.tmp 75) (by rfl) g17 N (by rfl) (by rfl) lN Tg17x119.out x120 hx120 ?_)
        | (refine wpList_loadD (by rfl) (.tmp 14) (by rfl) g14 zD (by rfl) lZD Dg14x120.out ?_))
      clear Dg14x118 Tg14x118 hg17 hx119 Dg14x119 Dg17x119 Tg14x119 Tg17x119 hx120 
      refine (wtrie_fold j zD a7 c7 PT x120 (HBL.out _ HBx120.out).1 HJ.out lZD (HBL.out _ HBx120.out).2.2.2.2.1 HC7.out).mono ?_
      rintro r x121 ⟨rfl, hbx121⟩
      have HBx121 : Hid (Below x114.heap.size x114 x121) := HBx120.out.trans (hbx121.mono HBx120.out.size)
      have Dg14x121 : Hid (DAt x121 g14 0 zD) := dat_b Dg14x120.out lZD hbx121
      have Dg17x121 : Hid (DAt x121 g17 0 N) := dat_b Dg17x120.out lN hbx121
      have Tg14x121 : Hid (x121.there g14 0 32) := there_b Tg14x120.out hbx121
      have Tg17x121 : Hid (x121.there g17 0 32) := there_b Tg17x120.out hbx121
      clear hbx121 Dg14x120 Dg17x120 Tg14x120 Tg17x120
      rw [HFM.out]
      obtain ⟨g19, hg19⟩ : ∃ g19, x121.heap.size = g19 := ⟨_, rfl⟩
      obtain ⟨x122, hx122⟩ : ∃ x122, x121.alloc (.cells (cellsB zD).toArray 24) = x122 := ⟨_, rfl⟩
      have qx122 := new_var hg19 hx122
      have HBx122 : Hid (Below x114.heap.size x114 x122) := HBx121.out.trans (qx122.2.2.mono HBx121.out.size)
      have Lg19 : Hid (x114.heap.size ≤ g19) := by rw [← hg19]; exact HBx121.out.size
      have Ng14g19 : Hid (g14 ≠ g19) := by have := dat_size Dg14x121.out lZD; unfold Hid; omega
      have Dg14x122 : Hid (DAt x122 g14 0 zD) := dat_b Dg14x121.out lZD qx122.2.2
      have Ng17g19 : Hid (g17 ≠ g19) := by have := dat_size Dg17x121.out lN; unfold Hid; omega
      have Dg17x122 : Hid (DAt x122 g17 0 N) := dat_b Dg17x121.out lN qx122.2.2
      have Tg14x122 : Hid (x122.there g14 0 32) := there_b Tg14x121.out qx122.2.2
      have Tg17x122 : Hid (x122.there g17 0 32) := there_b Tg17x121.out qx122.2.2
      have Dg19x122 : Hid (DAt x122 g19 0 zD) := qx122.2.1
      have Tg19x122 : Hid (x122.there g19 0 32) := qx122.1
      clear qx122
      obtain ⟨x123, hx123⟩ : ∃ x123, x122.setCells g19 0 (cellsB N) = x123 := ⟨_, rfl⟩
      have HBx123 : Hid (Below x114.heap.size x114 x123) := below_put HBx122.out Lg19.out hx123
      have Dg14x123 : Hid (DAt x123 g14 0 zD) := dat_else Dg14x122.out Ng14g19.out hx123
      have Dg17x123 : Hid (DAt x123 g17 0 N) := dat_else Dg17x122.out Ng17g19.out hx123
      have Tg14x123 : Hid (x123.there g14 0 32) := there_else Tg14x122.out hx123
      have Tg17x123 : Hid (x123.there g17 0 32) := there_else Tg17x122.out hx123
      have Tg19x123 : Hid (x123.there g19 0 32) := there_else Tg19x122.out hx123
      have Dg19x123 : Hid (DAt x123 g19 0 N) := dat_put Tg19x122.out lN hx123
      go_wp2_with (first
        | (refine wpList_allocD (by rfl) (by rfl) g19 hg19 x122 hx122 ?_)
        | (refine wpList_storeD (by rfl) (.tmp 19) (.tmp 82) (by rfl) g19 N (by rfl) (by rfl) lN Tg19x122.out x123 hx123 ?_)
        | (refine wpList_loadDG (by rfl) (.tmp 19) (by rfl) g19 N (by rfl) lN Dg19x123.out ?_)
        | (refine wpList_loadDG (by rfl) (.tmp 17) (by rfl) g17 N (by rfl) lN Dg17x123.out ?_)
        | (refine wpList_eqD (.tmp 96) (.tmp 97) (by rfl) (by rfl) N N lN lN (by rfl) (by rfl) true (decide_eq_true rfl) ?_))
      clear Dg14x121 Dg17x121 Tg14x121 Tg17x121 hg19 hx122 Dg14x122 Dg17x122 Dg19x122 Tg14x122 Tg17x122 Tg19x122 hx123 
      go_ret
      exact ⟨rfl, (HBL.out _ HBx123.out).2.2.2.2.2⟩
set_option maxRecDepth 100000 in
set_option maxHeartbeats 2000000 in
theorem isets_put (a : Option Addr) (n c : Nat) (es : List Ent) (j : Nat) (v : List UInt8) (w : World) (G : Env w) (HH : Handle w) (R : ERow w a n es) (hc : n ≤ c) (hn : 40 * n ≤ 140737488351232) (hj : j < 4294967296) (hv : v.length = 32) (hf : faultE es = 0) (hl : (butL es (j : Int)).length ≤ 63) :
    Calls Tryd.prog 7 #[.slice a n c, .int .i64 (j : Int), digestV v, .bool false] w fun r w' => r = .returned (.bool true) ∧ Below w.heap.size w w' := by
  obtain ⟨w1, hw1⟩ : ∃ w1, w.alloc (.cells (cellsB v).toArray 24) = w1 := ⟨_, rfl⟩
  have HALL : Hid (∀ wx, Below w1.heap.size w1 wx → Env wx ∧ Handle wx ∧ ERow wx a n es ∧ DAt wx w.heap.size 0 v ∧ Below w.heap.size w wx) := fun wx hx => by
    have b1 : Below w.heap.size w w1 := by rw [← hw1]; exact (Below.refl _ _).alloc (Nat.le_refl _) _
    have b : Below w.heap.size w wx := b1.trans (hx.mono b1.size)
    have hr : DAt w1 w.heap.size 0 v := by rw [← hw1]; exact box_dat w v _
    exact ⟨G.below b, HH.below b, R.below b, dat_b hr hv hx, b⟩
  have HBw1 : Hid (Below w1.heap.size w1 w1) := Below.refl _ _
  have HEL : Hid (es.length = n ∧ ∀ i, i < n → okE (es.getD i noE)) := ⟨R.1, R.ok⟩
  have lZD : zD.length = 32 := rfl
  have hkey : isKey (j : Int) = true := decide_eq_true (by omega)
  have hn64 : n ≤ 64 := by have := (faultE_ok hf).1; rw [R.1] at this; exact this
  have HJ : Hid (j < 4294967296) := hj
  have HPT : Hid (∀ wx, Below w1.heap.size w1 wx → Calls Tryd.prog 15 #[.slice a n c, .int .i64 (j : Int)] wx fun r w' => (∃ a' c', r = .returned (.tuple #[.slice a' 32 c', .nilIface]) ∧ 32 ≤ c' ∧ DRow w' a' 32 (pathM (gE es) j 32)) ∧ Below wx.heap.size wx w') := fun wx hx => wtrie_path a n c es j wx (HALL.out wx hx).1 (HALL.out wx hx).2.2.1 hc hn hf hj
  have HBL1 : Hid ((butL es (j : Int)).length ≤ n) := by have := but_le es (j : Int); rw [R.1] at this; exact this
  have hoke : okE ((j : Int), v) := ⟨hv, by show -9223372036854775808 ≤ (j : Int); omega, by show (j : Int) ≤ 9223372036854775807; omega⟩
  have HLF : Hid (∀ wx, Env wx → Calls Tryd.prog 18 #[entV ((j : Int), v)] wx fun r w' => r = .returned (.tuple #[digestV (leafE ((j : Int), v)), .nilIface]) ∧ Below wx.heap.size wx w') := fun wx hx => wtrie_leaf ((j : Int), v) wx hx hoke hkey
  have lL := leafE_length ((j : Int), v)
  have HBE : Hid (Tryd.prog.built 26 [(0, .int .i64 (j : Int)), (1, digestV v)] = some (entC ((j : Int), v)).toArray) := Tryd.builtEn (j : Int) v hv
  have hfo := put_fault (v := v) hf hkey hl
  have HFM : Hid (foldM j (leafE ((j : Int), v)) (pathM (gE es) j 32) = mapL (gE (butL es (j : Int) ++ [((j : Int), v)])) 0 32) := sets_put es j v hj
  have lN : (mapL (gE (butL es (j : Int) ++ [((j : Int), v)])) 0 32).length = 32 := mapL_length (gE_length _) 32 0
  have HRT : Hid (∀ a5 m c5 wx, Env wx → ERow wx a5 m (butL es (j : Int) ++ [((j : Int), v)]) → m ≤ c5 → m ≤ 1000 → Calls Tryd.prog 11 #[.slice a5 m c5] wx fun r w' => r = .returned (.tuple #[digestV (mapL (gE (butL es (j : Int) ++ [((j : Int), v)])) 0 32), .nilIface]) ∧ Below wx.heap.size wx w') := fun a5 m c5 wx hx hr h1 h2 => wtrie_root a5 m c5 _ wx hx hr h1 (by omega) hfo
  generalize mapL (gE (butL es (j : Int) ++ [((j : Int), v)])) 0 32 = N at *
  generalize leafE ((j : Int), v) = L at *
  clear hfo hl
  obtain ⟨E1, hE1⟩ : ∃ E1 : Ent, ((j : Int), v) = E1 := ⟨_, rfl⟩
  rw [hE1] at HRT HLF HBE hoke
  clear hE1
  have HNO : Hid (∀ wx, Calls Tryd.prog 23 #[] wx fun e w' => e = .returned (digestV zD) ∧ Below wx.heap.size wx w') := rnothing_any
  clear hf hkey
  generalize pathM (gE es) j 32 = PT at *
  clear G HH R
  go_enter Tryd.func7, Tryd.ntmps7
  go_wp2_with fail
  try rw [hw1]
  clear hw1
  refine (wleafed_any w1 (HALL.out w1 HBw1.out).1).mono ?_
  rintro r x124 ⟨rfl, hbx124⟩
  have HBx124 : Hid (Below w1.heap.size w1 x124) := HBw1.out.trans (hbx124.mono HBw1.out.size)
  clear hbx124
  go_wp2_with fail
  refine (HPT.out x124 HBx124.out).mono ?_
  rintro r x125 ⟨⟨a7, c7, rfl, hc7, r7⟩, hbx125⟩
  have HBx125 : Hid (Below w1.heap.size w1 x125) := HBx124.out.trans (hbx125.mono HBx124.out.size)
  have HC7 : Hid (32 ≤ c7) := hc7
  have R7 : Hid (DRow x125 a7 32 PT) := r7
  clear r7 hc7 HPT
  clear hbx125
  go_wp2_with fail
  have HBL : Hid (∀ wx, Below x125.heap.size x125 wx → Env wx ∧ Handle wx ∧ ERow wx a n es ∧ DAt wx w.heap.size 0 v ∧ DRow wx a7 32 PT ∧ Below w.heap.size w wx) := fun wx hx => by
    have q := HALL.out wx (HBx125.out.trans (hx.mono HBx125.out.size))
    exact ⟨q.1, q.2.1, q.2.2.1, q.2.2.2.1, R7.out.below hx, q.2.2.2.2⟩
  clear HALL R7 HBx125
  go_loopw [12, 13] (fun v iv wr => ∃ i : Nat, i ≤ n ∧ iv = .int .i64 (i : Int) ∧ OwnE wr x125.heap.size v (butL (es.take i) (j : Int)) ∧ Below x125.heap.size x125 wr) (fun _ iv _ => n - (intOf iv).toNat)
  case atStart => exact ⟨0, Nat.zero_le _, rfl, OwnE.nil _ _, Below.refl _ _⟩
  case round =>
    obtain ⟨i, hi, rfl, hO, hB⟩ := hrel
    have HO : Hid (OwnE wr x125.heap.size u12 (butL (es.take i) (j : Int))) := hO
    have HBwr : Hid (Below x125.heap.size x125 wr) := hB
    clear hO hB
    by_cases hlt : i < n
    · obtain ⟨b, ob, ha⟩ := (HBL.out _ HBwr.out).2.2.1.addr (by omega)
      subst ha
      have hr := (HBL.out _ HBwr.out).2.2.1.at i hlt
      have HOK : Hid (okE (es.getD i noE)) := HEL.out.2 i hlt
      have HST := but_step (k := (j : Int)) (i := i) (es := es) (by rw [HEL.out.1]; exact hlt)
      have HLU : Hid ((butL (es.take i) (j : Int)).length ≤ 1000) := by
        have h1 := but_le (es.take i) (j : Int)
        rw [List.length_take] at h1
        unfold Hid
        omega
      have b1 := HOK.out.2.1
      have b2 := HOK.out.2.2
      generalize es.getD i noE = e at *
      have HRG : Hid (wr.rangeAt b (ob + i * 33) (entC e)) := hr
      have k0 : wr.cell? ⟨b, ob + i * 33, none⟩ = some (.int .i64 e.1) := hr 0 _ rfl
      clear hr
      have i0 : (0 : Int) ≤ (i : Int) := by omega
      have i1 : (i : Int) < (n : Int) := by omega
      by_cases c1 : e.1 = (j : Int)
      · have HST2 : Hid (butL (es.take (i + 1)) (j : Int) = butL (es.take i) (j : Int)) := by rw [if_neg (fun q => q c1), List.append_nil] at HST; exact HST
        clear HST HLU HRG
        have c2 : (e.1 == (j : Int)) = true := beq_iff_eq.2 c1
        go_wp2_with fail
        go_roundw
        case rel => exact ⟨i + 1, by omega, by go_num, by rw [HST2.out]; exact HO.out, HBwr.out⟩
        case measure => simp [intOf]; omega
      · have HST2 : Hid (butL (es.take (i + 1)) (j : Int) = butL (es.take i) (j : Int) ++ [e]) := by rw [if_pos c1] at HST; exact HST
        clear HST
        have c2 : (e.1 == (j : Int)) = false := beq_eq_false_iff_ne.2 c1
        have HOa : Hid (OwnE (wr.alloc (.cells (entC e).toArray 26)) x125.heap.size u12 (butL (es.take i) (j : Int))) := OwnE.alloc HO.out _
        have HBa : Hid (Below x125.heap.size x125 (wr.alloc (.cells (entC e).toArray 26))) := Below.alloc HBwr.out HBwr.out.size _
        have HNa : Hid (ERow (wr.alloc (.cells (entC e).toArray 26)) (some ⟨wr.heap.size, 0, none⟩) 1 [e]) := ERow.new wr e _ HOK.out
        go_wp2_with (first
          | (refine wpList_load_mid (by rfl) 26 (.tmp 49) (by rfl) b (ob + i * 33) (by rfl) (entC e) _ HRG.out Tryd.underlying26 (by rfl) (by rw [entC_length HOK.out]; exact Tryd.sizeEn) ?_)
          | (refine wpList_buildEn (by rfl) (.tmp 50) (by rfl) e HOK.out (by rfl) ?_)
          | (at_builtin; refine wpList_append_entries (by rfl) (.tmp 46) (.tmp 51) (by rfl) x125.heap.size u12 (butL (es.take i) (j : Int)) (by rfl) HOa.out ⟨wr.heap.size, 0, none⟩ 1 1 [e] (by rfl) HNa.out (by omega) (by have := HLU.out; omega) HBa.out.size ?_; intro v5 w5 ho5 hg5 _; have HO5 : Hid (OwnE w5 x125.heap.size v5 (butL (es.take i) (j : Int) ++ [e])) := ho5; have HB5 : Hid (Below x125.heap.size x125 w5) := OwnE.grown HOa.out HBa.out hg5 (Nat.le_refl _) HBa.out.size; clear ho5 hg5))
        go_roundw
        case rel => exact ⟨i + 1, by omega, by go_num, by rw [HST2.out]; exact HO5.out, HB5.out⟩
        case measure => simp [intOf]; omega
    · obtain rfl : i = n := by omega
      have g1 : ¬ (i : Int) < (i : Int) := by omega
      have hO2 := HO.out
      rw [List.take_of_length_le (by rw [HEL.out.1]; exact Nat.le_refl _)] at hO2
      have Owr : Hid (OwnE wr x125.heap.size u12 (butL es (j : Int))) := hO2
      clear HO hlt hO2 HEL
      obtain ⟨OO, hOO⟩ : ∃ OO, butL es (j : Int) = OO := ⟨_, rfl⟩
      rw [hOO] at Owr HRT HBL1
      clear hOO
      go_wp2_with fail
      refine (HNO.out wr).mono ?_
      rintro r x126 ⟨rfl, hbx126⟩
      have HBx126 : Hid (Below x125.heap.size x125 x126) := HBwr.out.trans (hbx126.mono HBwr.out.size)
      have Ox126 : Hid (OwnE x126 x125.heap.size u12 OO) := OwnE.below Owr.out hbx126
      clear hbx126 Owr
      obtain ⟨g14, hg14⟩ : ∃ g14, x126.heap.size = g14 := ⟨_, rfl⟩
      obtain ⟨x127, hx127⟩ : ∃ x127, x126.alloc (.cells (cellsB zD).toArray 24) = x127 := ⟨_, rfl⟩
      have qx127 := new_var hg14 hx127
      have HBx127 : Hid (Below x125.heap.size x125 x127) := HBx126.out.trans (qx127.2.2.mono HBx126.out.size)
      have Lg14 : Hid (x125.heap.size ≤ g14) := by rw [← hg14]; exact HBx126.out.size
      have NOg14 : Hid (u12.ownBlock ≠ some g14) := OwnE.size Ox126.out (Nat.le_of_eq hg14)
      have Ox127 : Hid (OwnE x127 x125.heap.size u12 OO) := OwnE.below Ox126.out qx127.2.2
      have Dg14x127 : Hid (DAt x127 g14 0 zD) := qx127.2.1
      have Tg14x127 : Hid (x127.there g14 0 32) := qx127.1
      clear qx127
      obtain ⟨x128, hx128⟩ : ∃ x128, x127.setCells g14 0 (cellsB zD) = x128 := ⟨_, rfl⟩
      have HBx128 : Hid (Below x125.heap.size x125 x128) := below_put HBx127.out Lg14.out hx128
      have Tg14x128 : Hid (x128.there g14 0 32) := there_else Tg14x127.out hx128
      have Ox128 : Hid (OwnE x128 x125.heap.size u12 OO) := OwnE.put Ox127.out NOg14.out hx128
      have Dg14x128 : Hid (DAt x128 g14 0 zD) := dat_put Tg14x127.out lZD hx128
      have HOa : Hid (OwnE (x128.alloc (.cells (entC E1).toArray 26)) x125.heap.size u12 OO) := OwnE.alloc Ox128.out _
      have HBa : Hid (Below x125.heap.size x125 (x128.alloc (.cells (entC E1).toArray 26))) := Below.alloc HBx128.out HBx128.out.size _
      have HDa : Hid (DAt (x128.alloc (.cells (entC E1).toArray 26)) g14 0 zD ∧ (x128.alloc (.cells (entC E1).toArray 26)).there g14 0 32) := ⟨dat_b Dg14x128.out lZD ((Below.refl _ _).alloc (Nat.le_refl _) _), there_b Tg14x128.out ((Below.refl _ _).alloc (Nat.le_refl _) _)⟩
      have HNa : Hid (ERow (x128.alloc (.cells (entC E1).toArray 26)) (some ⟨x128.heap.size, 0, none⟩) 1 [E1]) := ERow.new x128 E1 _ hoke
      have HOL : Hid (OO.length ≤ 64) := by have := HBL1.out; unfold Hid; omega
      go_wp2_with (first
        | (refine wpList_allocD (by rfl) (by rfl) g14 hg14 x127 hx127 ?_)
        | (refine wpList_storeD (by rfl) (.tmp 14) (.tmp 53) (by rfl) g14 zD (by rfl) (by rfl) lZD Tg14x127.out x128 hx128 ?_)
        | (refine wpList_loadD (by rfl) (.tmp 6) (by rfl) w.heap.size v (by rfl) hv (HBL.out _ HBx128.out).2.2.2.1 ?_)
        | (refine wpList_buildC (by rfl) 26 _ (by rfl) (entC E1).toArray (by simp only [List.map_toArray, List.map_cons, List.map_nil, Act.eval]; exact HBE.out) ?_)
        | (refine wpList_buildEn (by rfl) (.tmp 59) (by rfl) E1 hoke (by rfl) ?_)
        | (at_builtin; refine wpList_append_entries (by rfl) (.tmp 56) (.tmp 60) (by rfl) x125.heap.size u12 OO (by rfl) HOa.out ⟨x128.heap.size, 0, none⟩ 1 1 [E1] (by rfl) HNa.out (by omega) (by have := HOL.out; omega) HBa.out.size ?_; intro v5 w5 ho5 hg5 hown5; have HO5 : Hid (OwnE w5 x125.heap.size v5 (OO ++ [E1])) := ho5; have HBw5 : Hid (Below x125.heap.size x125 w5) := OwnE.grown HOa.out HBa.out hg5 (Nat.le_refl _) HBa.out.size; have Dg14w5 : Hid (DAt w5 g14 0 zD) := dat_gro HDa.out.1 lZD hg5 NOg14.out; have Tg14w5 : Hid (w5.there g14 0 32) := there_gro HDa.out.2 hg5 NOg14.out; have NO2g14 : Hid (v5.ownBlock ≠ some g14) := own_ne NOg14.out hown5 (dat_size HDa.out.1 lZD); clear ho5 hg5 hown5)
        | (refine wpList_loadD (by rfl) (.tmp 6) (by rfl) w.heap.size v (by rfl) hv (HBL.out _ HBw5.out).2.2.2.1 ?_))
      clear Ox126 hg14 hx127 Dg14x127 Tg14x127 Ox127 hx128 
      clear HOa HBa HDa HNa Ox128 NOg14 Dg14x128 Tg14x128
      have O2w5 : Hid (OwnE w5 x125.heap.size v5 (OO ++ [E1])) := HO5.out
      clear HO5
      refine (HLF.out w5 (HBL.out _ HBw5.out).1).mono ?_
      rintro r x129 ⟨rfl, hbx129⟩
      have HBx129 : Hid (Below x125.heap.size x125 x129) := HBw5.out.trans (hbx129.mono HBw5.out.size)
      have Dg14x129 : Hid (DAt x129 g14 0 zD) := dat_b Dg14w5.out lZD hbx129
      have Tg14x129 : Hid (x129.there g14 0 32) := there_b Tg14w5.out hbx129
      have O2x129 : Hid (OwnE x129 x125.heap.size v5 (OO ++ [E1])) := OwnE.below O2w5.out hbx129
      clear hbx129 Dg14w5 Tg14w5 O2w5
      obtain ⟨g15, hg15⟩ : ∃ g15, x129.heap.size = g15 := ⟨_, rfl⟩
      obtain ⟨x130, hx130⟩ : ∃ x130, x129.alloc (.cells (cellsB zD).toArray 24) = x130 := ⟨_, rfl⟩
      have qx130 := new_var hg15 hx130
      have HBx130 : Hid (Below x125.heap.size x125 x130) := HBx129.out.trans (qx130.2.2.mono HBx129.out.size)
      have Lg15 : Hid (x125.heap.size ≤ g15) := by rw [← hg15]; exact HBx129.out.size
      have Ng14g15 : Hid (g14 ≠ g15) := by have := dat_size Dg14x129.out lZD; unfold Hid; omega
      have Dg14x130 : Hid (DAt x130 g14 0 zD) := dat_b Dg14x129.out lZD qx130.2.2
      have Tg14x130 : Hid (x130.there g14 0 32) := there_b Tg14x129.out qx130.2.2
      have NO2g15 : Hid (v5.ownBlock ≠ some g15) := OwnE.size O2x129.out (Nat.le_of_eq hg15)
      have O2x130 : Hid (OwnE x130 x125.heap.size v5 (OO ++ [E1])) := OwnE.below O2x129.out qx130.2.2
      have Dg15x130 : Hid (DAt x130 g15 0 zD) := qx130.2.1
      have Tg15x130 : Hid (x130.there g15 0 32) := qx130.1
      clear qx130
      obtain ⟨x131, hx131⟩ : ∃ x131, x130.setCells g15 0 (cellsB L) = x131 := ⟨_, rfl⟩
      have HBx131 : Hid (Below x125.heap.size x125 x131) := below_put HBx130.out Lg15.out hx131
      have Dg14x131 : Hid (DAt x131 g14 0 zD) := dat_else Dg14x130.out Ng14g15.out hx131
      have Tg14x131 : Hid (x131.there g14 0 32) := there_else Tg14x130.out hx131
      have Tg15x131 : Hid (x131.there g15 0 32) := there_else Tg15x130.out hx131
      have O2x131 : Hid (OwnE x131 x125.heap.size v5 (OO ++ [E1])) := OwnE.put O2x130.out NO2g15.out hx131
      have Dg15x131 : Hid (DAt x131 g15 0 L) := dat_put Tg15x130.out lL hx131
      obtain ⟨x132, hx132⟩ : ∃ x132, x131.setCells g14 0 (cellsB L) = x132 := ⟨_, rfl⟩
      have HBx132 : Hid (Below x125.heap.size x125 x132) := below_put HBx131.out Lg14.out hx132
      have Dg15x132 : Hid (DAt x132 g15 0 L) := dat_else Dg15x131.out Ng14g15.out.symm hx132
      have Tg14x132 : Hid (x132.there g14 0 32) := there_else Tg14x131.out hx132
      have Tg15x132 : Hid (x132.there g15 0 32) := there_else Tg15x131.out hx132
      have O2x132 : Hid (OwnE x132 x125.heap.size v5 (OO ++ [E1])) := OwnE.put O2x131.out NO2g14.out hx132
      have Dg14x132 : Hid (DAt x132 g14 0 L) := dat_put Tg14x131.out lL hx132
      go_wp2_with (first
        | (refine wpList_allocD (by rfl) (by rfl) g15 hg15 x130 hx130 ?_)
        | (refine wpList_storeD (by rfl) (.tmp 15) (.tmp 67) (by rfl) g15 L (by rfl) (by rfl) lL Tg15x130.out x131 hx131 ?_)
        | (refine wpList_loadD (by rfl) (.tmp 15) (by rfl) g15 L (by rfl) lL Dg15x131.out ?_)
        | (refine wpList_storeD (by rfl) (.tmp 14) (.tmp 71) (by rfl) g14 L (by rfl) (by rfl) lL Tg14x131.out x132 hx132 ?_))
      clear Dg14x129 Tg14x129 O2x129 hg15 hx130 Dg14x130 Dg15x130 Tg14x130 Tg15x130 O2x130 hx131 Dg14x131 Dg15x131 Tg14x131 Tg15x131 O2x131 hx132 
      obtain ⟨a5, c5, hu, _, _⟩ := O2x132.out.form
      subst hu
      have HOR : Hid (ERow x132 a5 (OO ++ [E1]).length (OO ++ [E1]) ∧ (OO ++ [E1]).length ≤ c5) := ⟨O2x132.out.erow.1, O2x132.out.erow.2.1⟩
      have HML : Hid ((OO ++ [E1]).length ≤ 1000) := by have := HOL.out; unfold Hid; simp; omega
      clear NO2g14 NO2g15 O2x132
      obtain ⟨m, hm⟩ : ∃ m, (OO ++ [E1]).length = m := ⟨_, rfl⟩
      rw [hm] at HOR HML
      simp only [hm]
      clear hm
      refine (HRT.out a5 m c5 x132 (HBL.out _ HBx132.out).1 HOR.out.1 HOR.out.2 HML.out).mono ?_
      rintro r x133 ⟨rfl, hbx133⟩
      have HBx133 : Hid (Below x125.heap.size x125 x133) := HBx132.out.trans (hbx133.mono HBx132.out.size)
      have Dg14x133 : Hid (DAt x133 g14 0 L) := dat_b Dg14x132.out lL hbx133
      have Dg15x133 : Hid (DAt x133 g15 0 L) := dat_b Dg15x132.out lL hbx133
      have Tg14x133 : Hid (x133.there g14 0 32) := there_b Tg14x132.out hbx133
      have Tg15x133 : Hid (x133.there g15 0 32) := there_b Tg15x132.out hbx133
      clear hbx133 Dg14x132 Dg15x132 Tg14x132 Tg15x132
      clear HOR HRT
      obtain ⟨g17, hg17⟩ : ∃ g17, x133.heap.size = g17 := ⟨_, rfl⟩
      obtain ⟨x134, hx134⟩ : ∃ x134, x133.alloc (.cells (cellsB zD).toArray 24) = x134 := ⟨_, rfl⟩
      have qx134 := new_var hg17 hx134
      have HBx134 : Hid (Below x125.heap.size x125 x134) := HBx133.out.trans (qx134.2.2.mono HBx133.out.size)
      have Lg17 : Hid (x125.heap.size ≤ g17) := by rw [← hg17]; exact HBx133.out.size
      have Ng14g17 : Hid (g14 ≠ g17) := by have := dat_size Dg14x133.out lL; unfold Hid; omega
      have Dg14x134 : Hid (DAt x134 g14 0 L) := dat_b Dg14x133.out lL qx134.2.2
      have Ng15g17 : Hid (g15 ≠ g17) := by have := dat_size Dg15x133.out lL; unfold Hid; omega
      have Dg15x134 : Hid (DAt x134 g15 0 L) := dat_b Dg15x133.out lL qx134.2.2
      have Tg14x134 : Hid (x134.there g14 0 32) := there_b Tg14x133.out qx134.2.2
      have Tg15x134 : Hid (x134.there g15 0 32) := there_b Tg15x133.out qx134.2.2
      have Dg17x134 : Hid (DAt x134 g17 0 zD) := qx134.2.1
      have Tg17x134 : Hid (x134.there g17 0 32) := qx134.1
      clear qx134
      obtain ⟨x135, hx135⟩ : ∃ x135, x134.setCells g17 0 (cellsB N) = x135 := ⟨_, rfl⟩
      have HBx135 : Hid (Below x125.heap.size x125 x135) := below_put HBx134.out Lg17.out hx135
      have Dg14x135 : Hid (DAt x135 g14 0 L) := dat_else Dg14x134.out Ng14g17.out hx135
      have Dg15x135 : Hid (DAt x135 g15 0 L) := dat_else Dg15x134.out Ng15g17.out hx135
      have Tg14x135 : Hid (x135.there g14 0 32) := there_else Tg14x134.out hx135
      have Tg15x135 : Hid (x135.there g15 0 32) := there_else Tg15x134.out hx135
      have Tg17x135 : Hid (x135.there g17 0 32) := there_else Tg17x134.out hx135
      have Dg17x135 : Hid (DAt x135 g17 0 N) := dat_put Tg17x134.out lN hx135
      go_wp2_with (first
        | (refine wpList_allocD (by rfl) (by rfl) g17 hg17 x134 hx134 ?_)
        | (refine wpList_storeD (by rfl) (.tmp 17) (.tmp 75) (by rfl) g17 N (by rfl) (by rfl) lN Tg17x134.out x135 hx135 ?_)
        | (refine wpList_loadD (by rfl) (.tmp 14) (by rfl) g14 L (by rfl) lL Dg14x135.out ?_))
      clear Dg14x133 Dg15x133 Tg14x133 Tg15x133 hg17 hx134 Dg14x134 Dg15x134 Dg17x134 Tg14x134 Tg15x134 Tg17x134 hx135 
      refine (wtrie_fold j L a7 c7 PT x135 (HBL.out _ HBx135.out).1 HJ.out lL (HBL.out _ HBx135.out).2.2.2.2.1 HC7.out).mono ?_
      rintro r x136 ⟨rfl, hbx136⟩
      have HBx136 : Hid (Below x125.heap.size x125 x136) := HBx135.out.trans (hbx136.mono HBx135.out.size)
      have Dg14x136 : Hid (DAt x136 g14 0 L) := dat_b Dg14x135.out lL hbx136
      have Dg15x136 : Hid (DAt x136 g15 0 L) := dat_b Dg15x135.out lL hbx136
      have Dg17x136 : Hid (DAt x136 g17 0 N) := dat_b Dg17x135.out lN hbx136
      have Tg14x136 : Hid (x136.there g14 0 32) := there_b Tg14x135.out hbx136
      have Tg15x136 : Hid (x136.there g15 0 32) := there_b Tg15x135.out hbx136
      have Tg17x136 : Hid (x136.there g17 0 32) := there_b Tg17x135.out hbx136
      clear hbx136 Dg14x135 Dg15x135 Dg17x135 Tg14x135 Tg15x135 Tg17x135
      rw [HFM.out]
      obtain ⟨g19, hg19⟩ : ∃ g19, x136.heap.size = g19 := ⟨_, rfl⟩
      obtain ⟨x137, hx137⟩ : ∃ x137, x136.alloc (.cells (cellsB zD).toArray 24) = x137 := ⟨_, rfl⟩
      have qx137 := new_var hg19 hx137
      have HBx137 : Hid (Below x125.heap.size x125 x137) := HBx136.out.trans (qx137.2.2.mono HBx136.out.size)
      have Lg19 : Hid (x125.heap.size ≤ g19) := by rw [← hg19]; exact HBx136.out.size
      have Ng14g19 : Hid (g14 ≠ g19) := by have := dat_size Dg14x136.out lL; unfold Hid; omega
      have Dg14x137 : Hid (DAt x137 g14 0 L) := dat_b Dg14x136.out lL qx137.2.2
      have Ng15g19 : Hid (g15 ≠ g19) := by have := dat_size Dg15x136.out lL; unfold Hid; omega
      have Dg15x137 : Hid (DAt x137 g15 0 L) := dat_b Dg15x136.out lL qx137.2.2
      have Ng17g19 : Hid (g17 ≠ g19) := by have := dat_size Dg17x136.out lN; unfold Hid; omega
      have Dg17x137 : Hid (DAt x137 g17 0 N) := dat_b Dg17x136.out lN qx137.2.2
      have Tg14x137 : Hid (x137.there g14 0 32) := there_b Tg14x136.out qx137.2.2
      have Tg15x137 : Hid (x137.there g15 0 32) := there_b Tg15x136.out qx137.2.2
      have Tg17x137 : Hid (x137.there g17 0 32) := there_b Tg17x136.out qx137.2.2
      have Dg19x137 : Hid (DAt x137 g19 0 zD) := qx137.2.1
      have Tg19x137 : Hid (x137.there g19 0 32) := qx137.1
      clear qx137
      obtain ⟨x138, hx138⟩ : ∃ x138, x137.setCells g19 0 (cellsB N) = x138 := ⟨_, rfl⟩
      have HBx138 : Hid (Below x125.heap.size x125 x138) := below_put HBx137.out Lg19.out hx138
      have Dg14x138 : Hid (DAt x138 g14 0 L) := dat_else Dg14x137.out Ng14g19.out hx138
      have Dg15x138 : Hid (DAt x138 g15 0 L) := dat_else Dg15x137.out Ng15g19.out hx138
      have Dg17x138 : Hid (DAt x138 g17 0 N) := dat_else Dg17x137.out Ng17g19.out hx138
      have Tg14x138 : Hid (x138.there g14 0 32) := there_else Tg14x137.out hx138
      have Tg15x138 : Hid (x138.there g15 0 32) := there_else Tg15x137.out hx138
      have Tg17x138 : Hid (x138.there g17 0 32) := there_else Tg17x137.out hx138
      have Tg19x138 : Hid (x138.there g19 0 32) := there_else Tg19x137.out hx138
      have Dg19x138 : Hid (DAt x138 g19 0 N) := dat_put Tg19x137.out lN hx138
      go_wp2_with (first
        | (refine wpList_allocD (by rfl) (by rfl) g19 hg19 x137 hx137 ?_)
        | (refine wpList_storeD (by rfl) (.tmp 19) (.tmp 82) (by rfl) g19 N (by rfl) (by rfl) lN Tg19x137.out x138 hx138 ?_)
        | (refine wpList_loadDG (by rfl) (.tmp 19) (by rfl) g19 N (by rfl) lN Dg19x138.out ?_)
        | (refine wpList_loadDG (by rfl) (.tmp 17) (by rfl) g17 N (by rfl) lN Dg17x138.out ?_)
        | (refine wpList_eqD (.tmp 96) (.tmp 97) (by rfl) (by rfl) N N lN lN (by rfl) (by rfl) true (decide_eq_true rfl) ?_))
      clear Dg14x136 Dg15x136 Dg17x136 Tg14x136 Tg15x136 Tg17x136 hg19 hx137 Dg14x137 Dg15x137 Dg17x137 Dg19x137 Tg14x137 Tg15x137 Tg17x137 Tg19x137 hx138 
      go_ret
      exact ⟨rfl, (HBL.out _ HBx138.out).2.2.2.2.2⟩
set_option maxRecDepth 100000 in
set_option maxHeartbeats 2000000 in
theorem isets_full (a : Option Addr) (n c : Nat) (es : List Ent) (j : Nat) (v : List UInt8) (w : World) (G : Env w) (HH : Handle w) (R : ERow w a n es) (hc : n ≤ c) (hn : 40 * n ≤ 140737488351232) (hj : j < 4294967296) (hv : v.length = 32) (hf : faultE es = 0) (hl : 64 ≤ (butL es (j : Int)).length) :
    Calls Tryd.prog 7 #[.slice a n c, .int .i64 (j : Int), digestV v, .bool false] w fun r w' => r = .returned (.bool true) ∧ Below w.heap.size w w' := by
  obtain ⟨w1, hw1⟩ : ∃ w1, w.alloc (.cells (cellsB v).toArray 24) = w1 := ⟨_, rfl⟩
  have HALL : Hid (∀ wx, Below w1.heap.size w1 wx → Env wx ∧ Handle wx ∧ ERow wx a n es ∧ DAt wx w.heap.size 0 v ∧ Below w.heap.size w wx) := fun wx hx => by
    have b1 : Below w.heap.size w w1 := by rw [← hw1]; exact (Below.refl _ _).alloc (Nat.le_refl _) _
    have b : Below w.heap.size w wx := b1.trans (hx.mono b1.size)
    have hr : DAt w1 w.heap.size 0 v := by rw [← hw1]; exact box_dat w v _
    exact ⟨G.below b, HH.below b, R.below b, dat_b hr hv hx, b⟩
  have HBw1 : Hid (Below w1.heap.size w1 w1) := Below.refl _ _
  have HEL : Hid (es.length = n ∧ ∀ i, i < n → okE (es.getD i noE)) := ⟨R.1, R.ok⟩
  have lZD : zD.length = 32 := rfl
  have hkey : isKey (j : Int) = true := decide_eq_true (by omega)
  have hn64 : n ≤ 64 := by have := (faultE_ok hf).1; rw [R.1] at this; exact this
  have HJ : Hid (j < 4294967296) := hj
  have HPT : Hid (∀ wx, Below w1.heap.size w1 wx → Calls Tryd.prog 15 #[.slice a n c, .int .i64 (j : Int)] wx fun r w' => (∃ a' c', r = .returned (.tuple #[.slice a' 32 c', .nilIface]) ∧ 32 ≤ c' ∧ DRow w' a' 32 (pathM (gE es) j 32)) ∧ Below wx.heap.size wx w') := fun wx hx => wtrie_path a n c es j wx (HALL.out wx hx).1 (HALL.out wx hx).2.2.1 hc hn hf hj
  have HBL1 : Hid ((butL es (j : Int)).length ≤ n) := by have := but_le es (j : Int); rw [R.1] at this; exact this
  have hoke : okE ((j : Int), v) := ⟨hv, by show -9223372036854775808 ≤ (j : Int); omega, by show (j : Int) ≤ 9223372036854775807; omega⟩
  have HLF : Hid (∀ wx, Env wx → Calls Tryd.prog 18 #[entV ((j : Int), v)] wx fun r w' => r = .returned (.tuple #[digestV (leafE ((j : Int), v)), .nilIface]) ∧ Below wx.heap.size wx w') := fun wx hx => wtrie_leaf ((j : Int), v) wx hx hoke hkey
  have lL := leafE_length ((j : Int), v)
  have HBE : Hid (Tryd.prog.built 26 [(0, .int .i64 (j : Int)), (1, digestV v)] = some (entC ((j : Int), v)).toArray) := Tryd.builtEn (j : Int) v hv
  have hfo : faultE (butL es (j : Int) ++ [((j : Int), v)]) = 4 := put_full hl
  have HRT : Hid (∀ a5 m c5 wx, Env wx → ERow wx a5 m (butL es (j : Int) ++ [((j : Int), v)]) → m ≤ c5 → m ≤ 1000 → Calls Tryd.prog 11 #[.slice a5 m c5] wx fun r w' => r = .returned (.tuple #[digestV zD, .iface 27 (.int .i64 4)]) ∧ Below wx.heap.size wx w') := fun a5 m c5 wx hx hr h1 h2 => wtrie_rootout a5 m c5 _ 4 wx hx hr h1 (by omega) hfo (by omega)
  generalize leafE ((j : Int), v) = L at *
  clear hfo hl
  obtain ⟨E1, hE1⟩ : ∃ E1 : Ent, ((j : Int), v) = E1 := ⟨_, rfl⟩
  rw [hE1] at HRT HLF HBE hoke
  clear hE1
  have HNO : Hid (∀ wx, Calls Tryd.prog 23 #[] wx fun e w' => e = .returned (digestV zD) ∧ Below wx.heap.size wx w') := rnothing_any
  clear hf hkey
  generalize pathM (gE es) j 32 = PT at *
  clear G HH R
  go_enter Tryd.func7, Tryd.ntmps7
  go_wp2_with fail
  try rw [hw1]
  clear hw1
  refine (wleafed_any w1 (HALL.out w1 HBw1.out).1).mono ?_
  rintro r x139 ⟨rfl, hbx139⟩
  have HBx139 : Hid (Below w1.heap.size w1 x139) := HBw1.out.trans (hbx139.mono HBw1.out.size)
  clear hbx139
  go_wp2_with fail
  refine (HPT.out x139 HBx139.out).mono ?_
  rintro r x140 ⟨⟨a7, c7, rfl, hc7, r7⟩, hbx140⟩
  have HBx140 : Hid (Below w1.heap.size w1 x140) := HBx139.out.trans (hbx140.mono HBx139.out.size)
  have HC7 : Hid (32 ≤ c7) := hc7
  have R7 : Hid (DRow x140 a7 32 PT) := r7
  clear r7 hc7 HPT
  clear hbx140
  go_wp2_with fail
  have HBL : Hid (∀ wx, Below x140.heap.size x140 wx → Env wx ∧ Handle wx ∧ ERow wx a n es ∧ DAt wx w.heap.size 0 v ∧ DRow wx a7 32 PT ∧ Below w.heap.size w wx) := fun wx hx => by
    have q := HALL.out wx (HBx140.out.trans (hx.mono HBx140.out.size))
    exact ⟨q.1, q.2.1, q.2.2.1, q.2.2.2.1, R7.out.below hx, q.2.2.2.2⟩
  clear HALL R7 HBx140
  go_loopw [12, 13] (fun v iv wr => ∃ i : Nat, i ≤ n ∧ iv = .int .i64 (i : Int) ∧ OwnE wr x140.heap.size v (butL (es.take i) (j : Int)) ∧ Below x140.heap.size x140 wr) (fun _ iv _ => n - (intOf iv).toNat)
  case atStart => exact ⟨0, Nat.zero_le _, rfl, OwnE.nil _ _, Below.refl _ _⟩
  case round =>
    obtain ⟨i, hi, rfl, hO, hB⟩ := hrel
    have HO : Hid (OwnE wr x140.heap.size u12 (butL (es.take i) (j : Int))) := hO
    have HBwr : Hid (Below x140.heap.size x140 wr) := hB
    clear hO hB
    by_cases hlt : i < n
    · obtain ⟨b, ob, ha⟩ := (HBL.out _ HBwr.out).2.2.1.addr (by omega)
      subst ha
      have hr := (HBL.out _ HBwr.out).2.2.1.at i hlt
      have HOK : Hid (okE (es.getD i noE)) := HEL.out.2 i hlt
      have HST := but_step (k := (j : Int)) (i := i) (es := es) (by rw [HEL.out.1]; exact hlt)
      have HLU : Hid ((butL (es.take i) (j : Int)).length ≤ 1000) := by
        have h1 := but_le (es.take i) (j : Int)
        rw [List.length_take] at h1
        unfold Hid
        omega
      have b1 := HOK.out.2.1
      have b2 := HOK.out.2.2
      generalize es.getD i noE = e at *
      have HRG : Hid (wr.rangeAt b (ob + i * 33) (entC e)) := hr
      have k0 : wr.cell? ⟨b, ob + i * 33, none⟩ = some (.int .i64 e.1) := hr 0 _ rfl
      clear hr
      have i0 : (0 : Int) ≤ (i : Int) := by omega
      have i1 : (i : Int) < (n : Int) := by omega
      by_cases c1 : e.1 = (j : Int)
      · have HST2 : Hid (butL (es.take (i + 1)) (j : Int) = butL (es.take i) (j : Int)) := by rw [if_neg (fun q => q c1), List.append_nil] at HST; exact HST
        clear HST HLU HRG
        have c2 : (e.1 == (j : Int)) = true := beq_iff_eq.2 c1
        go_wp2_with fail
        go_roundw
        case rel => exact ⟨i + 1, by omega, by go_num, by rw [HST2.out]; exact HO.out, HBwr.out⟩
        case measure => simp [intOf]; omega
      · have HST2 : Hid (butL (es.take (i + 1)) (j : Int) = butL (es.take i) (j : Int) ++ [e]) := by rw [if_pos c1] at HST; exact HST
        clear HST
        have c2 : (e.1 == (j : Int)) = false := beq_eq_false_iff_ne.2 c1
        have HOa : Hid (OwnE (wr.alloc (.cells (entC e).toArray 26)) x140.heap.size u12 (butL (es.take i) (j : Int))) := OwnE.alloc HO.out _
        have HBa : Hid (Below x140.heap.size x140 (wr.alloc (.cells (entC e).toArray 26))) := Below.alloc HBwr.out HBwr.out.size _
        have HNa : Hid (ERow (wr.alloc (.cells (entC e).toArray 26)) (some ⟨wr.heap.size, 0, none⟩) 1 [e]) := ERow.new wr e _ HOK.out
        go_wp2_with (first
          | (refine wpList_load_mid (by rfl) 26 (.tmp 49) (by rfl) b (ob + i * 33) (by rfl) (entC e) _ HRG.out Tryd.underlying26 (by rfl) (by rw [entC_length HOK.out]; exact Tryd.sizeEn) ?_)
          | (refine wpList_buildEn (by rfl) (.tmp 50) (by rfl) e HOK.out (by rfl) ?_)
          | (at_builtin; refine wpList_append_entries (by rfl) (.tmp 46) (.tmp 51) (by rfl) x140.heap.size u12 (butL (es.take i) (j : Int)) (by rfl) HOa.out ⟨wr.heap.size, 0, none⟩ 1 1 [e] (by rfl) HNa.out (by omega) (by have := HLU.out; omega) HBa.out.size ?_; intro v5 w5 ho5 hg5 _; have HO5 : Hid (OwnE w5 x140.heap.size v5 (butL (es.take i) (j : Int) ++ [e])) := ho5; have HB5 : Hid (Below x140.heap.size x140 w5) := OwnE.grown HOa.out HBa.out hg5 (Nat.le_refl _) HBa.out.size; clear ho5 hg5))
        go_roundw
        case rel => exact ⟨i + 1, by omega, by go_num, by rw [HST2.out]; exact HO5.out, HB5.out⟩
        case measure => simp [intOf]; omega
    · obtain rfl : i = n := by omega
      have g1 : ¬ (i : Int) < (i : Int) := by omega
      have hO2 := HO.out
      rw [List.take_of_length_le (by rw [HEL.out.1]; exact Nat.le_refl _)] at hO2
      have Owr : Hid (OwnE wr x140.heap.size u12 (butL es (j : Int))) := hO2
      clear HO hlt hO2 HEL
      obtain ⟨OO, hOO⟩ : ∃ OO, butL es (j : Int) = OO := ⟨_, rfl⟩
      rw [hOO] at Owr HRT HBL1
      clear hOO
      go_wp2_with fail
      refine (HNO.out wr).mono ?_
      rintro r x141 ⟨rfl, hbx141⟩
      have HBx141 : Hid (Below x140.heap.size x140 x141) := HBwr.out.trans (hbx141.mono HBwr.out.size)
      have Ox141 : Hid (OwnE x141 x140.heap.size u12 OO) := OwnE.below Owr.out hbx141
      clear hbx141 Owr
      obtain ⟨g14, hg14⟩ : ∃ g14, x141.heap.size = g14 := ⟨_, rfl⟩
      obtain ⟨x142, hx142⟩ : ∃ x142, x141.alloc (.cells (cellsB zD).toArray 24) = x142 := ⟨_, rfl⟩
      have qx142 := new_var hg14 hx142
      have HBx142 : Hid (Below x140.heap.size x140 x142) := HBx141.out.trans (qx142.2.2.mono HBx141.out.size)
      have Lg14 : Hid (x140.heap.size ≤ g14) := by rw [← hg14]; exact HBx141.out.size
      have NOg14 : Hid (u12.ownBlock ≠ some g14) := OwnE.size Ox141.out (Nat.le_of_eq hg14)
      have Ox142 : Hid (OwnE x142 x140.heap.size u12 OO) := OwnE.below Ox141.out qx142.2.2
      have Dg14x142 : Hid (DAt x142 g14 0 zD) := qx142.2.1
      have Tg14x142 : Hid (x142.there g14 0 32) := qx142.1
      clear qx142
      obtain ⟨x143, hx143⟩ : ∃ x143, x142.setCells g14 0 (cellsB zD) = x143 := ⟨_, rfl⟩
      have HBx143 : Hid (Below x140.heap.size x140 x143) := below_put HBx142.out Lg14.out hx143
      have Tg14x143 : Hid (x143.there g14 0 32) := there_else Tg14x142.out hx143
      have Ox143 : Hid (OwnE x143 x140.heap.size u12 OO) := OwnE.put Ox142.out NOg14.out hx143
      have Dg14x143 : Hid (DAt x143 g14 0 zD) := dat_put Tg14x142.out lZD hx143
      have HOa : Hid (OwnE (x143.alloc (.cells (entC E1).toArray 26)) x140.heap.size u12 OO) := OwnE.alloc Ox143.out _
      have HBa : Hid (Below x140.heap.size x140 (x143.alloc (.cells (entC E1).toArray 26))) := Below.alloc HBx143.out HBx143.out.size _
      have HDa : Hid (DAt (x143.alloc (.cells (entC E1).toArray 26)) g14 0 zD ∧ (x143.alloc (.cells (entC E1).toArray 26)).there g14 0 32) := ⟨dat_b Dg14x143.out lZD ((Below.refl _ _).alloc (Nat.le_refl _) _), there_b Tg14x143.out ((Below.refl _ _).alloc (Nat.le_refl _) _)⟩
      have HNa : Hid (ERow (x143.alloc (.cells (entC E1).toArray 26)) (some ⟨x143.heap.size, 0, none⟩) 1 [E1]) := ERow.new x143 E1 _ hoke
      have HOL : Hid (OO.length ≤ 64) := by have := HBL1.out; unfold Hid; omega
      go_wp2_with (first
        | (refine wpList_allocD (by rfl) (by rfl) g14 hg14 x142 hx142 ?_)
        | (refine wpList_storeD (by rfl) (.tmp 14) (.tmp 53) (by rfl) g14 zD (by rfl) (by rfl) lZD Tg14x142.out x143 hx143 ?_)
        | (refine wpList_loadD (by rfl) (.tmp 6) (by rfl) w.heap.size v (by rfl) hv (HBL.out _ HBx143.out).2.2.2.1 ?_)
        | (refine wpList_buildC (by rfl) 26 _ (by rfl) (entC E1).toArray (by simp only [List.map_toArray, List.map_cons, List.map_nil, Act.eval]; exact HBE.out) ?_)
        | (refine wpList_buildEn (by rfl) (.tmp 59) (by rfl) E1 hoke (by rfl) ?_)
        | (at_builtin; refine wpList_append_entries (by rfl) (.tmp 56) (.tmp 60) (by rfl) x140.heap.size u12 OO (by rfl) HOa.out ⟨x143.heap.size, 0, none⟩ 1 1 [E1] (by rfl) HNa.out (by omega) (by have := HOL.out; omega) HBa.out.size ?_; intro v5 w5 ho5 hg5 hown5; have HO5 : Hid (OwnE w5 x140.heap.size v5 (OO ++ [E1])) := ho5; have HBw5 : Hid (Below x140.heap.size x140 w5) := OwnE.grown HOa.out HBa.out hg5 (Nat.le_refl _) HBa.out.size; have Dg14w5 : Hid (DAt w5 g14 0 zD) := dat_gro HDa.out.1 lZD hg5 NOg14.out; have Tg14w5 : Hid (w5.there g14 0 32) := there_gro HDa.out.2 hg5 NOg14.out; have NO2g14 : Hid (v5.ownBlock ≠ some g14) := own_ne NOg14.out hown5 (dat_size HDa.out.1 lZD); clear ho5 hg5 hown5)
        | (refine wpList_loadD (by rfl) (.tmp 6) (by rfl) w.heap.size v (by rfl) hv (HBL.out _ HBw5.out).2.2.2.1 ?_))
      clear Ox141 hg14 hx142 Dg14x142 Tg14x142 Ox142 hx143 
      clear HOa HBa HDa HNa Ox143 NOg14 Dg14x143 Tg14x143
      have O2w5 : Hid (OwnE w5 x140.heap.size v5 (OO ++ [E1])) := HO5.out
      clear HO5
      refine (HLF.out w5 (HBL.out _ HBw5.out).1).mono ?_
      rintro r x144 ⟨rfl, hbx144⟩
      have HBx144 : Hid (Below x140.heap.size x140 x144) := HBw5.out.trans (hbx144.mono HBw5.out.size)
      have Dg14x144 : Hid (DAt x144 g14 0 zD) := dat_b Dg14w5.out lZD hbx144
      have Tg14x144 : Hid (x144.there g14 0 32) := there_b Tg14w5.out hbx144
      have O2x144 : Hid (OwnE x144 x140.heap.size v5 (OO ++ [E1])) := OwnE.below O2w5.out hbx144
      clear hbx144 Dg14w5 Tg14w5 O2w5
      obtain ⟨g15, hg15⟩ : ∃ g15, x144.heap.size = g15 := ⟨_, rfl⟩
      obtain ⟨x145, hx145⟩ : ∃ x145, x144.alloc (.cells (cellsB zD).toArray 24) = x145 := ⟨_, rfl⟩
      have qx145 := new_var hg15 hx145
      have HBx145 : Hid (Below x140.heap.size x140 x145) := HBx144.out.trans (qx145.2.2.mono HBx144.out.size)
      have Lg15 : Hid (x140.heap.size ≤ g15) := by rw [← hg15]; exact HBx144.out.size
      have Ng14g15 : Hid (g14 ≠ g15) := by have := dat_size Dg14x144.out lZD; unfold Hid; omega
      have Dg14x145 : Hid (DAt x145 g14 0 zD) := dat_b Dg14x144.out lZD qx145.2.2
      have Tg14x145 : Hid (x145.there g14 0 32) := there_b Tg14x144.out qx145.2.2
      have NO2g15 : Hid (v5.ownBlock ≠ some g15) := OwnE.size O2x144.out (Nat.le_of_eq hg15)
      have O2x145 : Hid (OwnE x145 x140.heap.size v5 (OO ++ [E1])) := OwnE.below O2x144.out qx145.2.2
      have Dg15x145 : Hid (DAt x145 g15 0 zD) := qx145.2.1
      have Tg15x145 : Hid (x145.there g15 0 32) := qx145.1
      clear qx145
      obtain ⟨x146, hx146⟩ : ∃ x146, x145.setCells g15 0 (cellsB L) = x146 := ⟨_, rfl⟩
      have HBx146 : Hid (Below x140.heap.size x140 x146) := below_put HBx145.out Lg15.out hx146
      have Dg14x146 : Hid (DAt x146 g14 0 zD) := dat_else Dg14x145.out Ng14g15.out hx146
      have Tg14x146 : Hid (x146.there g14 0 32) := there_else Tg14x145.out hx146
      have Tg15x146 : Hid (x146.there g15 0 32) := there_else Tg15x145.out hx146
      have O2x146 : Hid (OwnE x146 x140.heap.size v5 (OO ++ [E1])) := OwnE.put O2x145.out NO2g15.out hx146
      have Dg15x146 : Hid (DAt x146 g15 0 L) := dat_put Tg15x145.out lL hx146
      obtain ⟨x147, hx147⟩ : ∃ x147, x146.setCells g14 0 (cellsB L) = x147 := ⟨_, rfl⟩
      have HBx147 : Hid (Below x140.heap.size x140 x147) := below_put HBx146.out Lg14.out hx147
      have Dg15x147 : Hid (DAt x147 g15 0 L) := dat_else Dg15x146.out Ng14g15.out.symm hx147
      have Tg14x147 : Hid (x147.there g14 0 32) := there_else Tg14x146.out hx147
      have Tg15x147 : Hid (x147.there g15 0 32) := there_else Tg15x146.out hx147
      have O2x147 : Hid (OwnE x147 x140.heap.size v5 (OO ++ [E1])) := OwnE.put O2x146.out NO2g14.out hx147
      have Dg14x147 : Hid (DAt x147 g14 0 L) := dat_put Tg14x146.out lL hx147
      go_wp2_with (first
        | (refine wpList_allocD (by rfl) (by rfl) g15 hg15 x145 hx145 ?_)
        | (refine wpList_storeD (by rfl) (.tmp 15) (.tmp 67) (by rfl) g15 L (by rfl) (by rfl) lL Tg15x145.out x146 hx146 ?_)
        | (refine wpList_loadD (by rfl) (.tmp 15) (by rfl) g15 L (by rfl) lL Dg15x146.out ?_)
        | (refine wpList_storeD (by rfl) (.tmp 14) (.tmp 71) (by rfl) g14 L (by rfl) (by rfl) lL Tg14x146.out x147 hx147 ?_))
      clear Dg14x144 Tg14x144 O2x144 hg15 hx145 Dg14x145 Dg15x145 Tg14x145 Tg15x145 O2x145 hx146 Dg14x146 Dg15x146 Tg14x146 Tg15x146 O2x146 hx147 
      obtain ⟨a5, c5, hu, _, _⟩ := O2x147.out.form
      subst hu
      have HOR : Hid (ERow x147 a5 (OO ++ [E1]).length (OO ++ [E1]) ∧ (OO ++ [E1]).length ≤ c5) := ⟨O2x147.out.erow.1, O2x147.out.erow.2.1⟩
      have HML : Hid ((OO ++ [E1]).length ≤ 1000) := by have := HOL.out; unfold Hid; simp; omega
      clear NO2g14 NO2g15 O2x147
      obtain ⟨m, hm⟩ : ∃ m, (OO ++ [E1]).length = m := ⟨_, rfl⟩
      rw [hm] at HOR HML
      simp only [hm]
      clear hm
      refine (HRT.out a5 m c5 x147 (HBL.out _ HBx147.out).1 HOR.out.1 HOR.out.2 HML.out).mono ?_
      rintro r x148 ⟨rfl, hbx148⟩
      have HBx148 : Hid (Below x140.heap.size x140 x148) := HBx147.out.trans (hbx148.mono HBx147.out.size)
      have Dg14x148 : Hid (DAt x148 g14 0 L) := dat_b Dg14x147.out lL hbx148
      have Dg15x148 : Hid (DAt x148 g15 0 L) := dat_b Dg15x147.out lL hbx148
      have Tg14x148 : Hid (x148.there g14 0 32) := there_b Tg14x147.out hbx148
      have Tg15x148 : Hid (x148.there g15 0 32) := there_b Tg15x147.out hbx148
      clear hbx148 Dg14x147 Dg15x147 Tg14x147 Tg15x147
      clear HOR HRT
      obtain ⟨g17, hg17⟩ : ∃ g17, x148.heap.size = g17 := ⟨_, rfl⟩
      obtain ⟨x149, hx149⟩ : ∃ x149, x148.alloc (.cells (cellsB zD).toArray 24) = x149 := ⟨_, rfl⟩
      have qx149 := new_var hg17 hx149
      have HBx149 : Hid (Below x140.heap.size x140 x149) := HBx148.out.trans (qx149.2.2.mono HBx148.out.size)
      have Lg17 : Hid (x140.heap.size ≤ g17) := by rw [← hg17]; exact HBx148.out.size
      have Ng14g17 : Hid (g14 ≠ g17) := by have := dat_size Dg14x148.out lL; unfold Hid; omega
      have Dg14x149 : Hid (DAt x149 g14 0 L) := dat_b Dg14x148.out lL qx149.2.2
      have Ng15g17 : Hid (g15 ≠ g17) := by have := dat_size Dg15x148.out lL; unfold Hid; omega
      have Dg15x149 : Hid (DAt x149 g15 0 L) := dat_b Dg15x148.out lL qx149.2.2
      have Tg14x149 : Hid (x149.there g14 0 32) := there_b Tg14x148.out qx149.2.2
      have Tg15x149 : Hid (x149.there g15 0 32) := there_b Tg15x148.out qx149.2.2
      have Dg17x149 : Hid (DAt x149 g17 0 zD) := qx149.2.1
      have Tg17x149 : Hid (x149.there g17 0 32) := qx149.1
      clear qx149
      obtain ⟨x150, hx150⟩ : ∃ x150, x149.setCells g17 0 (cellsB zD) = x150 := ⟨_, rfl⟩
      have HBx150 : Hid (Below x140.heap.size x140 x150) := below_put HBx149.out Lg17.out hx150
      have Dg14x150 : Hid (DAt x150 g14 0 L) := dat_else Dg14x149.out Ng14g17.out hx150
      have Dg15x150 : Hid (DAt x150 g15 0 L) := dat_else Dg15x149.out Ng15g17.out hx150
      have Tg14x150 : Hid (x150.there g14 0 32) := there_else Tg14x149.out hx150
      have Tg15x150 : Hid (x150.there g15 0 32) := there_else Tg15x149.out hx150
      have Tg17x150 : Hid (x150.there g17 0 32) := there_else Tg17x149.out hx150
      have Dg17x150 : Hid (DAt x150 g17 0 zD) := dat_put Tg17x149.out lZD hx150
      go_wp2_with (first
        | (refine wpList_allocD (by rfl) (by rfl) g17 hg17 x149 hx149 ?_)
        | (refine wpList_storeD (by rfl) (.tmp 17) (.tmp 75) (by rfl) g17 zD (by rfl) (by rfl) lZD Tg17x149.out x150 hx150 ?_)
        | (refine wpList_loadD (by rfl) (.tmp 14) (by rfl) g14 L (by rfl) lL Dg14x150.out ?_))
      clear Dg14x148 Dg15x148 Tg14x148 Tg15x148 hg17 hx149 Dg14x149 Dg15x149 Dg17x149 Tg14x149 Tg15x149 Tg17x149 hx150 
      refine (wtrie_fold j L a7 c7 PT x150 (HBL.out _ HBx150.out).1 HJ.out lL (HBL.out _ HBx150.out).2.2.2.2.1 HC7.out).mono ?_
      rintro r x151 ⟨rfl, hbx151⟩
      have HBx151 : Hid (Below x140.heap.size x140 x151) := HBx150.out.trans (hbx151.mono HBx150.out.size)
      have Dg14x151 : Hid (DAt x151 g14 0 L) := dat_b Dg14x150.out lL hbx151
      have Dg15x151 : Hid (DAt x151 g15 0 L) := dat_b Dg15x150.out lL hbx151
      have Dg17x151 : Hid (DAt x151 g17 0 zD) := dat_b Dg17x150.out lZD hbx151
      have Tg14x151 : Hid (x151.there g14 0 32) := there_b Tg14x150.out hbx151
      have Tg15x151 : Hid (x151.there g15 0 32) := there_b Tg15x150.out hbx151
      have Tg17x151 : Hid (x151.there g17 0 32) := there_b Tg17x150.out hbx151
      clear hbx151 Dg14x150 Dg15x150 Dg17x150 Tg14x150 Tg15x150 Tg17x150
      have lY := foldM_length PT j L lL
      generalize foldM j L PT = Y at *
      obtain ⟨g19, hg19⟩ : ∃ g19, x151.heap.size = g19 := ⟨_, rfl⟩
      obtain ⟨x152, hx152⟩ : ∃ x152, x151.alloc (.cells (cellsB zD).toArray 24) = x152 := ⟨_, rfl⟩
      have qx152 := new_var hg19 hx152
      have HBx152 : Hid (Below x140.heap.size x140 x152) := HBx151.out.trans (qx152.2.2.mono HBx151.out.size)
      have Lg19 : Hid (x140.heap.size ≤ g19) := by rw [← hg19]; exact HBx151.out.size
      have Ng14g19 : Hid (g14 ≠ g19) := by have := dat_size Dg14x151.out lL; unfold Hid; omega
      have Dg14x152 : Hid (DAt x152 g14 0 L) := dat_b Dg14x151.out lL qx152.2.2
      have Ng15g19 : Hid (g15 ≠ g19) := by have := dat_size Dg15x151.out lL; unfold Hid; omega
      have Dg15x152 : Hid (DAt x152 g15 0 L) := dat_b Dg15x151.out lL qx152.2.2
      have Ng17g19 : Hid (g17 ≠ g19) := by have := dat_size Dg17x151.out lZD; unfold Hid; omega
      have Dg17x152 : Hid (DAt x152 g17 0 zD) := dat_b Dg17x151.out lZD qx152.2.2
      have Tg14x152 : Hid (x152.there g14 0 32) := there_b Tg14x151.out qx152.2.2
      have Tg15x152 : Hid (x152.there g15 0 32) := there_b Tg15x151.out qx152.2.2
      have Tg17x152 : Hid (x152.there g17 0 32) := there_b Tg17x151.out qx152.2.2
      have Dg19x152 : Hid (DAt x152 g19 0 zD) := qx152.2.1
      have Tg19x152 : Hid (x152.there g19 0 32) := qx152.1
      clear qx152
      obtain ⟨x153, hx153⟩ : ∃ x153, x152.setCells g19 0 (cellsB Y) = x153 := ⟨_, rfl⟩
      have HBx153 : Hid (Below x140.heap.size x140 x153) := below_put HBx152.out Lg19.out hx153
      have Dg14x153 : Hid (DAt x153 g14 0 L) := dat_else Dg14x152.out Ng14g19.out hx153
      have Dg15x153 : Hid (DAt x153 g15 0 L) := dat_else Dg15x152.out Ng15g19.out hx153
      have Dg17x153 : Hid (DAt x153 g17 0 zD) := dat_else Dg17x152.out Ng17g19.out hx153
      have Tg14x153 : Hid (x153.there g14 0 32) := there_else Tg14x152.out hx153
      have Tg15x153 : Hid (x153.there g15 0 32) := there_else Tg15x152.out hx153
      have Tg17x153 : Hid (x153.there g17 0 32) := there_else Tg17x152.out hx153
      have Tg19x153 : Hid (x153.there g19 0 32) := there_else Tg19x152.out hx153
      have Dg19x153 : Hid (DAt x153 g19 0 Y) := dat_put Tg19x152.out lY hx153
      go_wp2_with (first
        | (refine wpList_allocD (by rfl) (by rfl) g19 hg19 x152 hx152 ?_)
        | (refine wpList_storeD (by rfl) (.tmp 19) (.tmp 82) (by rfl) g19 Y (by rfl) (by rfl) lY Tg19x152.out x153 hx153 ?_))
      clear Dg14x151 Dg15x151 Dg17x151 Tg14x151 Tg15x151 Tg17x151 hg19 hx152 Dg14x152 Dg15x152 Dg17x152 Dg19x152 Tg14x152 Tg15x152 Tg17x152 Tg19x152 hx153 
      refine (error_errno 4 4 x153 (HBL.out _ HBx153.out).2.1).mono ?_
      rintro r x154 ⟨rfl, hbx154⟩
      have HBx154 : Hid (Below x140.heap.size x140 x154) := HBx153.out.trans (hbx154.mono HBx153.out.size)
      have Dg14x154 : Hid (DAt x154 g14 0 L) := dat_b Dg14x153.out lL hbx154
      have Dg15x154 : Hid (DAt x154 g15 0 L) := dat_b Dg15x153.out lL hbx154
      have Dg17x154 : Hid (DAt x154 g17 0 zD) := dat_b Dg17x153.out lZD hbx154
      have Dg19x154 : Hid (DAt x154 g19 0 Y) := dat_b Dg19x153.out lY hbx154
      have Tg14x154 : Hid (x154.there g14 0 32) := there_b Tg14x153.out hbx154
      have Tg15x154 : Hid (x154.there g15 0 32) := there_b Tg15x153.out hbx154
      have Tg17x154 : Hid (x154.there g17 0 32) := there_b Tg17x153.out hbx154
      have Tg19x154 : Hid (x154.there g19 0 32) := there_b Tg19x153.out hbx154
      clear hbx154 Dg14x153 Dg15x153 Dg17x153 Dg19x153 Tg14x153 Tg15x153 Tg17x153 Tg19x153
      rw [show decide ((4 : Int) = 4) = true from rfl]
      go_wp2_with fail
      go_ret
      exact ⟨rfl, (HBL.out _ HBx154.out).2.2.2.2.2⟩
theorem isets_walk (a : Option Addr) (n c : Nat) (es : List Ent) (k : Int) (v : List UInt8) (gone : Bool) (w : World) (G : Env w) (HH : Handle w) (R : ERow w a n es) (hc : n ≤ c) (hn : 40 * n ≤ 140737488351232) (k1 : -9223372036854775808 ≤ k) (k2 : k ≤ 9223372036854775807) (hv : v.length = 32) :
    Calls Tryd.prog 7 #[.slice a n c, .int .i64 k, digestV v, .bool gone] w fun r w' => r = .returned (.bool true) ∧ Below w.heap.size w w' := by
  by_cases h : pathE es k = 0
  · have hf : faultE es = 0 := by
      unfold pathE at h
      by_cases c1 : faultE es = 0
      · exact c1
      · rw [if_pos c1] at h; exact h
    have hk : isKey k = true := by
      unfold pathE at h
      rw [if_neg (by simp [hf])] at h
      by_cases c1 : isKey k = false
      · rw [if_pos c1] at h; omega
      · simpa using c1
    have hkb := of_decide_eq_true hk
    obtain ⟨j, rfl⟩ : ∃ j : Nat, k = (j : Int) := ⟨k.toNat, by omega⟩
    cases gone with
    | true => exact isets_gone a n c es j v w G HH R hc hn (by omega) hv hf
    | false =>
      by_cases hl : (butL es (j : Int)).length ≤ 63
      · exact isets_put a n c es j v w G HH R hc hn (by omega) hv hf hl
      · exact isets_full a n c es j v w G HH R hc hn (by omega) hv hf (by omega)
  · exact isets_out a n c es k v gone w G HH R hc hn k1 k2 hv _ rfl h
end Go.Proofs.YtbhoijnhpmkglaaDoor
