/- Texts of this claim, joined: Wat, Wpoly, Codew, Wfirst. -/
import Derived.Test.YtnffmegicgbinabDoorJ11
import Derived.Test.YtnffmegicgbinabDoorJ05
import Derived.Test.YtnffmegicgbinabDoorJ01
import Derived.Test.YtnffmegicgbinabDoorJ09
import Derived.WalkKit
import Derived.Test.YtnffmegicgbinabDoorJ06
/- The contract of share.At. -/
namespace Go.Proofs.YtnffmegicgbinabDoor
open Go.RowKit
set_option linter.unusedVariables false
set_option linter.unusedSimpArgs false

set_option maxRecDepth 100000 in
set_option maxHeartbeats 2000000 in
theorem wat_any (a : Option Addr) (n c : Nat) (ss : List Shr) (xP : Nat) (w : World) (R : SRow w a n ss) (hp0 : 0 < n) (hn20 : n ≤ 20) (hxP : xP < 256) (hnd : (ss.map (·.1)).Nodup) (hall : ∀ s ∈ ss, s.2.length = (ss.getD 0 noS).2.length) :
    Calls Tryd.prog 17 #[.slice a n c, .int .u8 (xP : Int)] w fun r w' => (∃ d F, r = .returned (.slice (some ⟨d, 0, none⟩) F F) ∧ w.heap.size ≤ d ∧ d < w'.heap.size ∧ F = (ss.getD 0 noS).2.length ∧ F ≤ 140737488351232 ∧ Row w' (some ⟨d, 0, none⟩) F (mixL ss xP F n 0) ∧ joinedP ss xP (mixL ss xP F n 0)) ∧ Below w.heap.size w w' := by
  obtain ⟨iB, hiB, hz0, hz1, hz2⟩ := info_parts Tryd.infoSh8
  have hl := R.1
  have HL : Hid (ss.length = n) := hl
  obtain ⟨b, o, ha⟩ := R.addr hp0
  subst ha
  have HR : Hid (SRow w (some ⟨b, o, none⟩) n ss) := R
  have HP : Hid (∀ s ∈ ss, s.1 < 256) := R.place
  have HND : Hid ((ss.map (·.1)).Nodup) := hnd
  obtain ⟨a0, F, cF, _, _, hF47, hF0, HC0⟩ := R.hdr 0 hp0
  have HK0 : Hid (∀ wx, Below w.heap.size w wx → wx.cell? ⟨b, o + 1, none⟩ = some (.slice a0 F cF)) := fun wx hx => (HC0 wx hx).1 1 _ rfl
  have HFE : Hid (F = (ss.getD 0 noS).2.length) := hF0
  have HLN : Hid (∀ i, i < n → (ss.getD i noS).2.length = F) := fun i hi => by
    rw [hF0]
    refine hall _ ?_
    rw [List.getD_eq_getElem?_getD, List.getElem?_eq_getElem (by rw [hl]; exact hi)]
    exact List.getElem_mem _
  have n0 : (0 : Int) < (n : Int) := by omega
  have F0 : (0 : Int) ≤ (F : Int) := by omega
  clear hall hnd R HC0 hF0 hl
  obtain ⟨w1, hw1⟩ : ∃ w1, w = w1 := ⟨_, rfl⟩
  have HB1 : Hid (Below w.heap.size w w1) := by rw [← hw1]; exact Below.refl _ _
  have k1 := HK0.out w1 HB1.out
  rw [show Calls Tryd.prog 17 #[.slice (some ⟨b, o, none⟩) n c, .int .u8 (xP : Int)] w = Calls Tryd.prog 17 #[.slice (some ⟨b, o, none⟩) n c, .int .u8 (xP : Int)] w1 from by rw [hw1]]
  clear hw1
  go_enter Tryd.func17, Tryd.ntmps17
  go_wp2_with (first
    | (at_make; (refine wpList_make_full _ rfl _ _ 26 rfl w1.heap.size 5 iB (.int .u8 0) 1 Tryd.underlying26 hiB hz0 hz1 _ _ _ _ F rfl rfl rfl rfl (by rw [hz2]; omega) (by unfold maxLen; omega) (Nat.le_refl _) ?_); intro w5 hown hgrow))
  have HC5 : Hid (BCells w5 w1.heap.size F (accN ss xP 0)) := BCells.made hown
  have hb5 : Below w1.heap.size w1 w5 := (Below.refl _ _).grown hgrow (Nat.le_refl _) (fun _ h => by cases h)
  have HB5 : Hid (Below w.heap.size w w5) := HB1.out.trans (hb5.mono HB1.out.size)
  have HG5 : Hid (w1.heap.size < w5.heap.size) := (World.ownsRow.lt hown w1.heap.size rfl).2
  obtain ⟨d, hd⟩ : ∃ d, w1.heap.size = d := ⟨_, rfl⟩
  have HD : Hid (w.heap.size ≤ d) := by unfold Hid; rw [← hd]; exact HB1.out.size
  rw [hd] at HC5 HG5
  try simp only [hd]
  clear hown hgrow hb5 hd iB hiB hz0 hz1 hz2 k1 HB1
  go_loopw [19] (fun iv wr => ∃ k : Nat, iv = .int .i64 (k : Int) ∧ k ≤ n ∧ Hid (BCells wr d F (accN ss xP k)) ∧ Hid (Below w.heap.size w wr) ∧ Hid (d < wr.heap.size)) (fun iv _ => n - (intOf iv).toNat)
  case atStart => exact ⟨0, rfl, Nat.zero_le _, HC5.out, HB5.out, HG5.out⟩
  case round =>
    clear HC5 HB5 HG5
    obtain ⟨k, rfl, hk, HC, HB, HGD⟩ := hrel
    by_cases hlt : k < n
    · obtain ⟨ai, ni, ci, hp8, hnc, hn47, hni, HCK⟩ := HR.out.hdr k hlt
      have HX : Hid (wr.rangeAt b (o + k * 2) (hdC ((ss.getD k noS).1, ai, ni, ci))) := (HCK wr HB.out).1
      have HROW : Hid (∀ wx, Below w.heap.size w wx → Row wx ai F (ss.getD k noS).2) := fun wx hx => by
        have := (HCK wx hx).2
        rwa [hni, HLN.out k hlt] at this
      have hnF : ni = F := hni.trans (HLN.out k hlt)
      subst hnF
      have kk0 : (0 : Int) ≤ (k : Int) := by omega
      have kk1 : (k : Int) < (n : Int) := by omega
      have HLT : Hid (k < n) := hlt
      have HST : Hid (∀ i, accN ss xP (k + 1) i = accN ss xP k i ^^^ gm (wtS ss xP k) ((ss.getD k noS).2.getD i 0).toNat) := fun i => accN_succ (by rw [HL.out]; exact hlt) xP i
      obtain ⟨p, hp⟩ : ∃ p, (ss.getD k noS).1 = p := ⟨_, rfl⟩
      rw [hp] at HX hp8
      clear HCK hlt hk hni hp
      obtain ⟨g, hg⟩ : ∃ g, wr.heap.size = g := ⟨_, rfl⟩
      obtain ⟨w2, hw2⟩ : ∃ w2, wr.alloc (.cells (hdC noH).toArray 36) = w2 := ⟨_, rfl⟩
      obtain ⟨w3, hw3⟩ : ∃ w3, w2.setCells g 0 (hdC (p, ai, ni, ci)) = w3 := ⟨_, rfl⟩
      have q3 := SVar.new hg hw2 hw3
      have HT2 : Hid (w2.there g 0 2) := q3.1
      have HV3 : Hid (SVar w3 g p (.slice ai ni ci)) := q3.2.1
      have k4 : w3.cell? ⟨g, 1, none⟩ = some (.slice ai ni ci) := q3.2.1.2.1
      have hbg : Below wr.heap.size wr w3 := by rw [hg]; exact q3.2.2
      have HB3 : Hid (Below w.heap.size w w3) := HB.out.trans (hbg.mono HB.out.size)
      have HC3 : Hid (BCells w3 d ni (accN ss xP k)) := HC.out.below hbg HGD.out
      have HG3 : Hid (d < w3.heap.size) := Nat.lt_of_lt_of_le HGD.out hbg.size
      have HWC : Hid (Calls Tryd.prog 23 #[.slice (some ⟨b, o, none⟩) n c, .int .i64 (k : Int), .int .u8 (xP : Int)] w3 fun e w' => e = .returned (.int .u8 ((wtS ss xP k : Nat) : Int)) ∧ Below w3.heap.size w3 w') := wweight_any b o n c k ss w3 (HR.out.below HB3.out) hn20 HLT.out HND.out xP hxP
      have hwt8 := wtS_lt ss xP k
      obtain ⟨wt, hwt⟩ : ∃ wt, wtS ss xP k = wt := ⟨_, rfl⟩
      rw [hwt] at HWC HST hwt8
      clear q3 HB HC HGD hbg hwt
      go_wp2_with (first
          | (refine wpList_loadSh (by rfl) (.tmp 22) (by rfl) b (o + k * 2) (p, ai, ni, ci) (by rfl) HX.out ?_)
          | (refine wpList_allocSh (by rfl) (by rfl) g hg w2 hw2 ?_)
          | (refine wpList_storeSh (by rfl) (.tmp 7) (.tmp 23) (by rfl) g (p, ai, ni, ci) (by rfl) (by rfl) HT2.out w3 hw3 ?_))
      refine HWC.out.mono ?_
      rintro e w4 ⟨rfl, hb4⟩
      have HB4 : Hid (Below w.heap.size w w4) := HB3.out.trans (hb4.mono HB3.out.size)
      have HC4 : Hid (BCells w4 d ni (accN ss xP k)) := HC3.out.below hb4 HG3.out
      have HG4 : Hid (d < w4.heap.size) := Nat.lt_of_lt_of_le HG3.out hb4.size
      have k5 := (hb4.cell (p := ⟨g, 1, none⟩) HV3.out.lt).trans k4
      have HBV4 : Hid (Below w3.heap.size w3 w4) := hb4
      clear k4 hb4 HB3 HC3 HG3 HWC HT2 HX hw3 hw2 hg
      go_wp2_with fail
      go_loopw [31] (fun iv wr => ∃ i : Nat, iv = .int .i64 (i : Int) ∧ i ≤ ni ∧ Hid (BCells wr d ni (fun j => accN ss xP (if j < i then k + 1 else k) j)) ∧ Hid (Below w.heap.size w wr) ∧ Hid (d < wr.heap.size)) (fun iv _ => ni - (intOf iv).toNat)
      case atStart => exact ⟨0, rfl, Nat.zero_le _, HC4.out, HB4.out, HG4.out⟩
      case round =>
        clear HC4 HB4 HG4 HBV4 HV3 k5
        obtain ⟨i, rfl, hi, HC, HB, HGD⟩ := hrel
        by_cases hli : i < ni
        · obtain ⟨bi, oi, hai, hcell⟩ : ∃ bi oi, ai = some ⟨bi, oi, none⟩ ∧ wr.cell? ⟨bi, oi + i, none⟩ = some (.int .u8 (nth (ss.getD k noS).2 i)) := by
            rcases (HROW.out wr HB.out).2 with h0 | ⟨bi, oi, e, hc⟩
            · omega
            · exact ⟨bi, oi, e, hc i hli⟩
          subst hai
          rw [nth_toNat] at hcell
          have hy8 := UInt8.toNat_lt ((ss.getD k noS).2.getD i 0)
          have HSI := HST.out i
          have i0 : (0 : Int) ≤ (i : Int) := by omega
          have i1 : (i : Int) < (ni : Int) := by omega
          have HIF : Hid (i < ni) := hli
          obtain ⟨y, hy⟩ : ∃ y, ((ss.getD k noS).2.getD i 0).toNat = y := ⟨_, rfl⟩
          rw [hy] at hcell hy8 HSI
          have hx8 := accN_lt ss xP k i
          have hcx : (fun wx : World => wx.cell? ⟨d, i, none⟩ = some (.int .u8 ((accN ss xP k i : Nat) : Int))) wr.drew := by
            have := (BCells.at (HC.out.below (below_drewN wr 1) HGD.out) hli).1
            simp only [if_neg (Nat.lt_irrefl i)] at this
            exact this
          obtain ⟨x, hx⟩ : ∃ x, accN ss xP k i = x := ⟨_, rfl⟩
          rw [hx] at hx8 HSI hcx
          have HSd : Hid ((fun wx : World => wx.cell? ⟨d, i, none⟩ = some (.int .u8 (x : Int))) wr.drew) := hcx
          obtain ⟨z, hz⟩ : ∃ z, accN ss xP (k + 1) i = z := ⟨_, rfl⟩
          have HZ : Hid (accN ss xP (k + 1) i = z) := hz
          rw [hz] at HSI
          have hm8 := gm_lt wt y
          have HMU : Hid (∀ wx, Calls Tryd.prog 25 #[.int .u8 (wt : Int), .int .u8 (y : Int)] wx fun e w' => e = .returned (.int .u8 ((gm wt y : Nat) : Int)) ∧ w' = wx) := fun wx => wfield_mul0 wt y wx hwt8 hy8
          have HAD : Hid (∀ wx, Calls Tryd.prog 24 #[.int .u8 (x : Int), .int .u8 ((gm wt y : Nat) : Int)] wx fun e w' => e = .returned (.int .u8 (z : Int)) ∧ w' = wx) := fun wx => by rw [HSI]; exact wfield_add0 x (gm wt y) wx hx8 hm8
          generalize gm wt y = m at *
          clear HSI hcx hz hx hy hli hi
          go_upto_region 9 with fail
          try simp only [Act.put, List.setIfInBounds_toArray, List.set_cons_zero, List.set_cons_succ]
          refine wp_region_noPanic ?_
          refine wp_region_till (S := fun wx => wx.cell? ⟨d, i, none⟩ = some (.int .u8 (x : Int))) 11 (by kernel_rfl) HSd.out (fun hHeld => ?_)
          try simp only [Act.put, List.setIfInBounds_toArray, List.set_cons_zero, List.set_cons_succ]
          have HCd : Hid (BCells wr.drew d ni (fun j => accN ss xP (if j < i then k + 1 else k) j)) := HC.out.below (below_drewN wr 1) HGD.out
          have HBd : Hid (Below w.heap.size w wr.drew) := HB.out.trans ((below_drewN wr 1).mono HB.out.size)
          have HGd : Hid (d < wr.drew.heap.size) := Nat.lt_of_lt_of_le HGD.out (below_drewN wr 1).size
          have HVd : Hid True := trivial
          generalize wr.drew = wd at *
          refine wpAnyT_take (i := 0) (v := .slice (some ⟨d, 0, none⟩) ni ni) (by simp only [List.getElem?_toArray, List.getElem?_cons_zero, List.getElem?_cons_succ]; rfl) (by kernel_rfl) (by kernel_rfl) (by kernel_rfl) (by kernel_rfl) (fun _ _ _ h => h) (Or.inl ⟨by rfl, ?_⟩) hHeld ?_
          · intro w hSw
            go_simp
          try simp only [Act.put, List.setIfInBounds_toArray, List.set_cons_zero, List.set_cons_succ]
          refine wpAnyT_take (i := 1) (v := .int .i64 (i : Int)) (by simp only [List.getElem?_toArray, List.getElem?_cons_zero, List.getElem?_cons_succ]; rfl) (by kernel_rfl) (by kernel_rfl) (by kernel_rfl) (by kernel_rfl) (fun _ _ _ h => h) (Or.inl ⟨by rfl, ?_⟩) hHeld ?_
          · intro w hSw
            go_simp
          try simp only [Act.put, List.setIfInBounds_toArray, List.set_cons_zero, List.set_cons_succ]
          refine wpAnyT_take (i := 2) (v := .slice (some ⟨d, 0, none⟩) ni ni) (by simp only [List.getElem?_toArray, List.getElem?_cons_zero, List.getElem?_cons_succ]; rfl) (by kernel_rfl) (by kernel_rfl) (by kernel_rfl) (by kernel_rfl) (fun _ _ _ h => h) (Or.inl ⟨by rfl, ?_⟩) hHeld ?_
          · intro w hSw
            go_simp
          try simp only [Act.put, List.setIfInBounds_toArray, List.set_cons_zero, List.set_cons_succ]
          refine wpAnyT_take (i := 3) (v := .int .i64 (i : Int)) (by simp only [List.getElem?_toArray, List.getElem?_cons_zero, List.getElem?_cons_succ]; rfl) (by kernel_rfl) (by kernel_rfl) (by kernel_rfl) (by kernel_rfl) (fun _ _ _ h => h) (Or.inl ⟨by rfl, ?_⟩) hHeld ?_
          · intro w hSw
            go_simp
          try simp only [Act.put, List.setIfInBounds_toArray, List.set_cons_zero, List.set_cons_succ]
          refine wpAnyT_take (i := 4) (v := .pointer (some ⟨d, i, none⟩)) (by simp only [List.getElem?_toArray, List.getElem?_cons_zero, List.getElem?_cons_succ]; rfl) (by kernel_rfl) (by kernel_rfl) (by kernel_rfl) (by kernel_rfl) (fun _ _ _ h => h) (Or.inl ⟨by rfl, ?_⟩) hHeld ?_
          · intro w hSw
            go_simp
          try simp only [Act.put, List.setIfInBounds_toArray, List.set_cons_zero, List.set_cons_succ]
          refine wpAnyT_take (i := 5) (v := .int .u8 (x : Int)) (by simp only [List.getElem?_toArray, List.getElem?_cons_zero, List.getElem?_cons_succ]; rfl) (by kernel_rfl) (by kernel_rfl) (by kernel_rfl) (by kernel_rfl) (fun _ _ _ h => h) (Or.inl ⟨by rfl, ?_⟩) hHeld ?_
          · intro w hSw
            go_simp
          try simp only [Act.put, List.setIfInBounds_toArray, List.set_cons_zero, List.set_cons_succ]
          refine wpAnyT_take (i := 6) (v := .int .u8 (wt : Int)) (by simp only [List.getElem?_toArray, List.getElem?_cons_zero, List.getElem?_cons_succ]; rfl) (by kernel_rfl) (by kernel_rfl) (by kernel_rfl) (by kernel_rfl) (fun _ _ _ h => h) (Or.inl ⟨by rfl, ?_⟩) hHeld ?_
          · intro w hSw
            go_simp
          try simp only [Act.put, List.setIfInBounds_toArray, List.set_cons_zero, List.set_cons_succ]
          refine wpAnyT_take (i := 7) (v := .int .u8 (y : Int)) (by simp only [List.getElem?_toArray, List.getElem?_cons_zero, List.getElem?_cons_succ]; rfl) (by kernel_rfl) (by kernel_rfl) (by kernel_rfl) (by kernel_rfl) (fun _ _ _ h => h) (Or.inl ⟨by rfl, ?_⟩) hHeld ?_
          · intro w hSw
            go_simp
          try simp only [Act.put, List.setIfInBounds_toArray, List.set_cons_zero, List.set_cons_succ]
          refine wpAnyT_ready (rs := [8]) (by kernel_rfl) (by simp) ?_
          refine AllReadyT.cons (by simp only [List.getElem?_toArray, List.getElem?_cons_zero, List.getElem?_cons_succ]; rfl) (fun K hK => ?_) AllReadyT.nil
          rw [if_pos (by rfl)]
          go_simp
          refine (HMU.out wd).mono ?_
          rintro e wn ⟨rfl, hq⟩
          have hq' : wd = wn := hq.symm
          subst hq'
          go_wp2_with fail
          refine hK.out _ _ hHeld (fun hHeld => ?_)
          clear hK K
          try simp only [Act.put, List.setIfInBounds_toArray, List.set_cons_zero, List.set_cons_succ]
          refine wpAnyT_ready (rs := [9]) (by kernel_rfl) (by simp) ?_
          refine AllReadyT.cons (by simp only [List.getElem?_toArray, List.getElem?_cons_zero, List.getElem?_cons_succ]; rfl) (fun K hK => ?_) AllReadyT.nil
          rw [if_pos (by rfl)]
          go_simp
          refine (HAD.out wd).mono ?_
          rintro e wn ⟨rfl, hq⟩
          have hq' : wd = wn := hq.symm
          subst hq'
          go_wp2_with fail
          refine hK.out _ _ hHeld (fun hHeld => ?_)
          clear hK K
          try simp only [Act.put, List.setIfInBounds_toArray, List.set_cons_zero, List.set_cons_succ]
          refine wpAnyT_take (i := 10) (v := .pointer (some ⟨d, i, none⟩)) (by simp only [List.getElem?_toArray, List.getElem?_cons_zero, List.getElem?_cons_succ]; rfl) (by kernel_rfl) (by kernel_rfl) (by kernel_rfl) (by kernel_rfl) (fun _ _ _ h => h) (Or.inl ⟨by rfl, ?_⟩) hHeld ?_
          · intro w hSw
            go_simp
          try simp only [Act.put, List.setIfInBounds_toArray, List.set_cons_zero, List.set_cons_succ]
          refine wpAnyT_ready (rs := [11]) (by kernel_rfl) (by simp) ?_
          refine AllReadyT.lastly (by simp only [List.getElem?_toArray, List.getElem?_cons_zero, List.getElem?_cons_succ]; rfl) rfl (fun K hK => ?_) AllReadyT.nil
          rw [if_pos (by rfl)]
          have hc0 := (HCd.out.at HIF.out).2
          go_simp
          refine hK.out _ _ ?_
          clear hK K
          try simp only [Act.put, List.setIfInBounds_toArray, List.set_cons_zero, List.set_cons_succ]
          refine wpAnyT_done (by kernel_rfl) (NoPanic.normal ?_) _
          clear hHeld
          have hset := HCd.out.set (v := z) (f' := fun j => accN ss xP (if j < i + 1 then k + 1 else k) j) HIF.out (fun j hj => by
            by_cases c1 : j = i
            · subst c1
              rw [if_pos rfl, if_pos (by omega)]
              exact HZ.out
            · rw [if_neg c1]
              by_cases c2 : j < i
              · rw [if_pos c2, if_pos (by omega)]
              · rw [if_neg c2, if_neg (by omega)])
          have HS : Hid (BCells (wd.setCell ⟨d, i, none⟩ (.int .u8 (z : Int))) d ni (fun j => accN ss xP (if j < i + 1 then k + 1 else k) j)) := hset
          have HBN : Hid (Below w.heap.size w (wd.setCell ⟨d, i, none⟩ (.int .u8 (z : Int)))) := HBd.out.setCell (p := ⟨d, i, none⟩) HD.out _
          have HGN : Hid (d < (wd.setCell ⟨d, i, none⟩ (.int .u8 (z : Int))).heap.size) := Nat.lt_of_lt_of_le HGd.out (gro_cell _ _ _ _).size
          go_wp2_with fail
          go_roundw
          case rel => exact ⟨i + 1, by go_num, by have := HIF.out; omega, HS.out, HBN.out, HGN.out⟩
          case measure => have := HIF.out; simp [intOf]; omega
        · have hin : i = ni := by omega
          subst hin
          have g5 : ¬ (i : Int) < (i : Int) := by omega
          have HCN : Hid (BCells wr d i (accN ss xP (k + 1))) := ⟨HC.out.1, fun j hj => by
            have := HC.out.2 j hj
            simp only [if_pos hj] at this
            exact this⟩
          clear hli hi HC
          go_wp2_with fail
          go_roundw
          case rel => exact ⟨k + 1, by go_num, by have := HLT.out; omega, HCN.out, HB.out, HGD.out⟩
          case measure => have := HLT.out; simp [intOf]; omega
    · have hkn : k = n := by omega
      subst hkn
      have g5 : ¬ (k : Int) < (k : Int) := by omega
      clear hlt hk
      have hml : (mixL ss xP F k 0).length = F := mixL_length _ _ _ _ _
      have HROW : Hid (Row wr (some ⟨d, 0, none⟩) F (mixL ss xP F k 0)) := HC.out.row hml (fun j hj => by
        rw [mixL_at ss hj, if_neg (by omega)]
        have := accN_lt ss xP k j
        rw [UInt8.toNat_ofNat']
        omega)
      have HJP : Hid (joinedP ss xP (mixL ss xP F k 0)) := by
        have := mixL_joined hxP HP.out HND.out
        rwa [HL.out, ← HFE.out] at this
      clear hml
      have hsz := HB.out.size
      go_wp2_with fail
      go_ret
      exact ⟨⟨d, F, rfl, HD.out, HGD.out, HFE.out, hF47, HROW.out, HJP.out⟩, HB.out⟩
end Go.Proofs.YtnffmegicgbinabDoor
/- The contract of share.polynomials. -/
namespace Go.Proofs.YtnffmegicgbinabDoor
open Go.RowKit
set_option linter.unusedVariables false
set_option linter.unusedSimpArgs false

theorem Tryd.infoPw : (Tryd.prog.info? 26).map (fun i => (i.zero, i.size, i.bytes)) = some (some (.slice none 0 0), 1, 24) := by kernel_rfl
def polysL (secret : List UInt8) (ls : List (List UInt8)) (m : Nat) : List (List UInt8) := (List.range m).map (polyC secret ls)
theorem polysL_length (secret : List UInt8) (ls : List (List UInt8)) (m : Nat) : (polysL secret ls m).length = m := by simp [polysL]
theorem polysL_at (secret : List UInt8) (ls : List (List UInt8)) {m i : Nat} (h : i < m) : (polysL secret ls m).getD i [] = polyC secret ls i := by
  unfold polysL
  rw [List.getD_eq_getElem?_getD, List.getElem?_map, List.getElem?_range h]
  rfl
end Go.Proofs.YtnffmegicgbinabDoor
/- At the places of shares stands what they have: plain facts. -/
namespace Go.Proofs.YtnffmegicgbinabDoor
open Go.RowKit
set_option linter.unusedVariables false
set_option linter.unusedSimpArgs false

theorem joinedP_self {ss : List Shr} (hp : ∀ s ∈ ss, s.1 < 256) (hd : (ss.map (·.1)).Nodup) (hall : ∀ s ∈ ss, s.2.length = (ss.getD 0 noS).2.length) {i : Nat} (hi : i < ss.length) {l : List UInt8} (h : joinedP ss (placeA ss i) l) : l = (ss.getD i noS).2 := by
  have hm : ss.getD i noS ∈ ss := by
    rw [List.getD_eq_getElem?_getD, List.getElem?_eq_getElem hi]
    exact List.getElem_mem hi
  refine joinedP_unique hp hd (placeA_lt hp i) h ⟨hall _ hm, fun k hk => ?_⟩
  obtain ⟨c, h1, h2, h3, _⟩ := thrS_interp (ss := ss) (x := 0) (by omega) hp hd (by omega) k
  refine ⟨c, h1, h2, h3, ?_⟩
  rw [nb_at, ← colNw_at hi]
  exact (h3 i (by rw [List.length_map]; exact hi)).symm
theorem placedL_mem {ls : List (List UInt8)} {s : Shr} (h : s ∈ placedL ls) : s.1 < ls.length ∧ s.2 = ls.getD s.1 [] ∧ s.2 ∈ ls := by
  unfold placedL at h
  obtain ⟨i, hi, rfl⟩ := List.mem_map.1 h
  have := List.mem_range.1 hi
  refine ⟨this, rfl, ?_⟩
  show ls.getD i [] ∈ ls
  rw [List.getD_eq_getElem?_getD, List.getElem?_eq_getElem this]
  exact List.getElem_mem this
theorem placedL_nodup (ls : List (List UInt8)) : ((placedL ls).map (·.1)).Nodup := by rw [placedL_places]; exact List.nodup_range
/-- N rows, each what the rows tell at its place: that is what they are, spread. -/
theorem spreadP_of {ls rows : List (List UInt8)} {N : Nat} (hN : ls.length ≤ N) (h20 : N ≤ 20) (hall : ∀ l ∈ ls, l.length = (ls.getD 0 []).length) (hl : rows.length = N) (h : ∀ j, j < N → joinedP (placedL ls) j (rows.getD j [])) : spreadP ls N rows := by
  refine ⟨hl, fun i hi => ?_, fun i _ hi => h i hi⟩
  have hlen := placedL_length ls
  have e : placeA (placedL ls) i = i := by
    unfold placeA
    rw [placedL_places]
    exact range_getD hi
  have q := joinedP_self (ss := placedL ls) (i := i) (l := rows.getD i []) (fun s hs => by have := (placedL_mem hs).1; omega) (placedL_nodup ls) (fun s hs => ?_) (by rw [hlen]; exact hi) (by rw [e]; exact h i (by omega))
  · rw [q, placedL_at hi]
  · have h0 : 0 < ls.length := by omega
    rw [placedL_at h0]
    exact hall _ (placedL_mem hs).2.2
end Go.Proofs.YtnffmegicgbinabDoor
/- The contract of code.firstRows. -/
namespace Go.Proofs.YtnffmegicgbinabDoor
open Go.RowKit
set_option linter.unusedVariables false
set_option linter.unusedSimpArgs false

set_option maxRecDepth 100000 in
set_option maxHeartbeats 2000000 in
theorem wfirst_any (a : Option Addr) (m c : Nat) (ss : List Shr) (N : Nat) (w : World) (R : SRow w a m ss) (hp0 : 0 < m) (hn20 : m ≤ 20) (h20 : N ≤ 20) (hnd : (ss.map (·.1)).Nodup) (hall : ∀ s ∈ ss, s.2.length = (ss.getD 0 noS).2.length) :
    Calls Tryd.prog 11 #[.slice a m c, .int .i64 (N : Int)] w fun r w' => (∃ a' c', r = .returned (.slice a' N c') ∧ N ≤ c' ∧ BRowsB w' a' N ((List.range N).map fun j => mixL ss j (ss.getD 0 noS).2.length m 0)) ∧ Below w.heap.size w w' := by
  obtain ⟨iR, hiR, hr0, hr1, hr2⟩ := info_parts Tryd.infoPw
  have HF47 : Hid ((ss.getD 0 noS).2.length ≤ 140737488351232) := by
    obtain ⟨b, o, ha⟩ := R.addr hp0
    subst ha
    obtain ⟨_, _, _, _, _, h47, he, _⟩ := R.hdr 0 hp0
    rw [he] at h47
    exact h47
  have HAT : Hid (∀ (wx : World) (xP : Nat), Below w.heap.size w wx → xP < 256 → Calls Tryd.prog 17 #[.slice a m c, .int .u8 (xP : Int)] wx fun r w' => (∃ d F, r = .returned (.slice (some ⟨d, 0, none⟩) F F) ∧ wx.heap.size ≤ d ∧ d < w'.heap.size ∧ F = (ss.getD 0 noS).2.length ∧ F ≤ 140737488351232 ∧ Row w' (some ⟨d, 0, none⟩) F (mixL ss xP F m 0) ∧ joinedP ss xP (mixL ss xP F m 0)) ∧ Below wx.heap.size wx w') := fun wx xP hx h8 => wat_any a m c ss xP wx (R.below hx) hp0 hn20 h8 hnd hall
  have n0 : (0 : Int) ≤ (N : Int) := by omega
  clear R hp0 hn20 hnd hall
  obtain ⟨g, hg⟩ : ∃ g, w.heap.size = g := ⟨_, rfl⟩
  have HG : Hid (w.heap.size = g) := hg
  go_enter Tryd.func11, Tryd.ntmps11
  go_wp2_with (first
    | (at_make; (refine wpList_make_full _ rfl _ _ 25 rfl w.heap.size 26 iR (.slice none 0 0) 1 Tryd.underlying25 hiR hr0 hr1 _ _ _ _ N rfl rfl rfl rfl (by rw [hr2]; omega) (by unfold maxLen; omega) (Nat.le_refl _) ?_); intro w5 hown hgrow))
  have HP5 : Hid (PCells w5 w.heap.size N 0 (fun j => mixL ss j (ss.getD 0 noS).2.length m 0)) := PCells.made hown
  have HB5 : Hid (Below w.heap.size w w5) := (Below.refl _ _).grown hgrow (Nat.le_refl _) (fun _ h => by cases h)
  have HG5 : Hid (w.heap.size < w5.heap.size) := (World.ownsRow.lt hown w.heap.size rfl).2
  clear hown hgrow iR hiR hr0 hr1 hr2
  rw [hg] at HP5 HG5
  try simp only [hg]
  clear hg
  go_loopw [11] (fun iv wr => ∃ i : Nat, iv = .int .i64 (i : Int) ∧ i ≤ N ∧ Hid (PCells wr g N i (fun j => mixL ss j (ss.getD 0 noS).2.length m 0)) ∧ Hid (Below w.heap.size w wr) ∧ Hid (g < wr.heap.size)) (fun iv _ => N - (intOf iv).toNat)
  case atStart => exact ⟨0, rfl, Nat.zero_le _, HP5.out, HB5.out, HG5.out⟩
  case round =>
    clear HP5 HB5 HG5
    obtain ⟨i, rfl, hi, HP, HB, HGS⟩ := hrel
    by_cases hlt : i < N
    · have HIM : Hid (i < N) := hlt
      have i0 : (0 : Int) ≤ (i : Int) := by omega
      have i1 : (i : Int) < (N : Int) := by omega
      have i8 : i < 256 := by omega
      have i9 : IntKind.u8.wrap (i : Int) = (i : Int) := u8_wrap i8
      have HCL : Hid (Calls Tryd.prog 17 #[.slice a m c, .int .u8 (i : Int)] wr fun r w' => (∃ d F, r = .returned (.slice (some ⟨d, 0, none⟩) F F) ∧ wr.heap.size ≤ d ∧ d < w'.heap.size ∧ F = (ss.getD 0 noS).2.length ∧ F ≤ 140737488351232 ∧ Row w' (some ⟨d, 0, none⟩) F (mixL ss i F m 0) ∧ joinedP ss i (mixL ss i F m 0)) ∧ Below wr.heap.size wr w') := HAT.out wr i HB.out i8
      clear hlt hi
      go_wp2_with fail
      refine HCL.out.mono ?_
      rintro e w4 ⟨⟨d, F, rfl, hd1, hd2, hF, _, hr, _⟩, hb4⟩
      have HPX : Hid (PCells w4 g N i (fun j => mixL ss j (ss.getD 0 noS).2.length m 0)) := HP.out.below hb4 HGS.out
      have hl : (mixL ss i (ss.getD 0 noS).2.length m 0).length = F := by rw [mixL_length, hF]
      have hput := HPX.out.put HIM.out (c := F) (ad := some ⟨d, 0, none⟩) (by show (mixL ss i (ss.getD 0 noS).2.length m 0).length ≤ F; omega) (by
        show Row w4 _ (mixL ss i (ss.getD 0 noS).2.length m 0).length (mixL ss i (ss.getD 0 noS).2.length m 0)
        rw [hl, ← hF]
        exact hr) (fun x e => by
        cases e
        have := HGS.out
        exact ⟨by show d ≠ g; omega, hd2⟩)
      have hput : PCells (w4.setCell ⟨g, i, none⟩ (.slice (some ⟨d, 0, none⟩) (mixL ss i (ss.getD 0 noS).2.length m 0).length F)) g N (i + 1) (fun j => mixL ss j (ss.getD 0 noS).2.length m 0) := hput
      rw [hl] at hput
      have HPN : Hid (PCells (w4.setCell ⟨g, i, none⟩ (.slice (some ⟨d, 0, none⟩) F F)) g N (i + 1) (fun j => mixL ss j (ss.getD 0 noS).2.length m 0)) := hput
      have HBN : Hid (Below w.heap.size w (w4.setCell ⟨g, i, none⟩ (.slice (some ⟨d, 0, none⟩) F F))) := (HB.out.trans (hb4.mono HB.out.size)).setCell (p := ⟨g, i, none⟩) (by have := HG.out; show w.heap.size ≤ g; omega) _
      have HGN : Hid (g < (w4.setCell ⟨g, i, none⟩ (.slice (some ⟨d, 0, none⟩) F F)).heap.size) := Nat.lt_of_lt_of_le (Nat.lt_of_lt_of_le HGS.out hb4.size) (gro_cell _ _ _ _).size
      have hth := HPX.out.1 i HIM.out
      rw [Nat.zero_add] at hth
      obtain ⟨uo, hcu⟩ := Option.isSome_iff_exists.1 hth.1
      have hfu := hth.2
      clear hput hl hr hd1 hd2 hF hb4 HP HPX hth HCL HAT
      go_wp2_with fail
      go_roundw
      case rel => exact ⟨i + 1, by go_num, HIM.out, HPN.out, HBN.out, HGN.out⟩
      case measure => have := HIM.out; simp [intOf]; omega
    · have hin : i = N := by omega
      subst hin
      have g2 : ¬ (i : Int) < (i : Int) := by omega
      clear hlt hi
      go_wp2_with fail
      go_ret
      exact ⟨⟨_, _, rfl, Nat.le_refl _, HP.out.rows fun k hk => by rw [mixL_length]; exact HF47.out⟩, HB.out⟩
end Go.Proofs.YtnffmegicgbinabDoor
