/- Texts of this claim, joined: Wcanj, Joinw, Wweight, Wat. -/
import Derived.Test.YtghiniaijobonaaDoorJ11
import Derived.Test.YtghiniaijobonaaDoorJ12
import Derived.OrdersHeld
import Derived.Deep.RegionHeld3
import Derived.Deep.DeepCutAuto
import Derived.WalkKit
import Derived.Test.YtghiniaijobonaaDoorJ06
import Derived.Test.YtghiniaijobonaaDoorJ05
import Derived.Test.YtghiniaijobonaaDoorJ10
import Derived.Test.YtghiniaijobonaaDoorJ04
/- The contracts of share.Check and share.canJoin. -/
namespace Go.Proofs.YtghiniaijobonaaDoor
open Go.RowKit
set_option linter.unusedVariables false
set_option linter.unusedSimpArgs false

/-- Share i as it lies. -/
theorem SRow.hdr {w : World} {b o n : Nat} {ss : List Shr} (R : SRow w (some ⟨b, o, none⟩) n ss) (i : Nat) (hi : i < n) : ∃ (ai : Option Addr) (ni ci : Nat), (ss.getD i noS).1 < 256 ∧ ni ≤ ci ∧ ni ≤ 140737488351232 ∧ ni = (ss.getD i noS).2.length ∧
    ∀ wx, Below w.heap.size w wx → wx.rangeAt b (o + i * 2) (hdC ((ss.getD i noS).1, ai, ni, ci)) ∧ Row wx ai ni (ss.getD i noS).2 := by
  obtain ⟨h1, h2, ai, ni, ci, h3, h4, h5, h6⟩ := R.at i hi
  refine ⟨ai, ni, ci, h1, h4, h5, h6.1.symm, fun wx hx => ⟨fun j v hj => ?_, h6.below hx⟩⟩
  have hlt := (List.getElem?_eq_some_iff.1 hj).1
  rw [hdC_length] at hlt
  match j, hlt with
  | 0, _ => cases hj; exact (hx.cell (p := ⟨b, o + i * 2, none⟩) (cell_block h2)).trans h2
  | 1, _ => cases hj; exact (hx.cell (p := ⟨b, o + i * 2 + 1, none⟩) (cell_block h3)).trans h3
theorem SRow.takeR {w : World} {a : Option Addr} {n i : Nat} {ss : List Shr} (R : SRow w a n ss) (hi : i ≤ n) : SRow w a i (ss.take i) := by
  refine ⟨by rw [List.length_take, R.1]; omega, ?_⟩
  by_cases h0 : i = 0
  · exact .inl h0
  · obtain ⟨b, o, rfl⟩ := R.addr (by omega)
    refine .inr ⟨b, o, rfl, fun j hj => ?_⟩
    have e : (ss.take i).getD j noS = ss.getD j noS := by
      rw [List.getD_eq_getElem?_getD, List.getD_eq_getElem?_getD, List.getElem?_take_of_lt hj]
    rw [e]
    exact R.at j (by omega)
set_option maxRecDepth 100000 in
set_option maxHeartbeats 2000000 in
theorem wcj1_any (h : Hdr) (K g : Nat) (w : World) (h8 : h.1 < 256) (hK8 : K < 256) (hK : w.cell? ⟨g, 0, none⟩ = some (.int .u8 (K : Int))) :
    Calls Tryd.prog 45 #[hdV h, .pointer (some ⟨g, 0, none⟩)] w fun e w' => e = .returned (.bool (h.1 == K)) ∧ Below w.heap.size w w' := by
  obtain ⟨p, a, n, c⟩ := h
  have h8 : p < 256 := h8
  show Calls Tryd.prog 45 #[.agg #[.int .u8 (p : Int), .slice a n c], .pointer (some ⟨g, 0, none⟩)] w fun e w' => e = .returned (.bool (p == K)) ∧ Below w.heap.size w w'
  have hb := (Below.refl w.heap.size w).alloc (Nat.le_refl _) (.cells #[.int .u8 (p : Int), .slice a n c] 37)
  have hK1 := (hb.cell (p := ⟨g, 0, none⟩) (cell_block hK)).trans hK
  have hP1 : (w.alloc (.cells #[.int .u8 (p : Int), .slice a n c] 37)).cell? ⟨w.heap.size, 0, none⟩ = some (.int .u8 (p : Int)) := box_rangeAt w [.int .u8 (p : Int), .slice a n c] 37 _ rfl 0 _ rfl
  have hE : ((p : Int) == (K : Int)) = (p == K) := by
    by_cases e : p = K
    · subst e; simp
    · have : ¬ (p : Int) = (K : Int) := by omega
      rw [beq_eq_false_iff_ne.2 e, beq_eq_false_iff_ne.2 this]
  obtain ⟨z, hz⟩ : ∃ z, (p == K) = z := ⟨_, rfl⟩
  have HZ : Hid ((p == K) = z) := hz
  rw [hz] at hE
  simp only [hz]
  clear hz
  go_enter Tryd.func45, Tryd.ntmps45
  go_wp2_with fail
  go_ret
  exact ⟨rfl, hb⟩

set_option maxRecDepth 100000 in
set_option maxHeartbeats 2000000 in
theorem windexf_any (a : Option Addr) (n c : Nat) (ss : List Shr) (K g : Nat) (w : World) (R : SRow w a n ss) (hn : n ≤ 1000) (hK8 : K < 256) (hK : w.cell? ⟨g, 0, none⟩ = some (.int .u8 (K : Int))) :
    Calls Tryd.prog 56 #[.slice a n c, .func (.func 45) #[] #[.pointer (some ⟨g, 0, none⟩)]] w fun e w' => (∃ r : Int, e = .returned (.int .i64 r) ∧ -1 ≤ r ∧ r ≤ 1000 ∧ decide (0 ≤ r) = ss.any (fun x => x.1 == K)) ∧ Below w.heap.size w w' := by
  have HR : Hid (SRow w a n ss) := R
  have HL : Hid (ss.length = n) := R.1
  have HK : Hid (w.cell? ⟨g, 0, none⟩ = some (.int .u8 (K : Int))) := hK
  have hg := cell_block hK
  have HG : Hid (g < w.heap.size) := hg
  clear R hK hg
  go_enter Tryd.func56, Tryd.ntmps56
  go_wp2_with fail
  go_loopw [8] (fun iv wr => ∃ i : Nat, iv = .int .i64 (i : Int) ∧ i ≤ n ∧ Hid (∀ j, j < i → (ss.getD j noS).1 ≠ K) ∧ Hid (Below w.heap.size w wr)) (fun iv _ => n - (intOf iv).toNat)
  case atStart => exact ⟨0, rfl, Nat.zero_le _, (fun j h => by omega), Below.refl _ _⟩
  case round =>
    obtain ⟨i, rfl, hi, HJ, HB⟩ := hrel
    by_cases hlt : i < n
    · obtain ⟨b, o, ha⟩ := HR.out.addr (by omega)
      subst ha
      obtain ⟨ai, ni, ci, hp8, hnc, hn47, hni, HC⟩ := HR.out.hdr i hlt
      have HX : Hid (wr.rangeAt b (o + i * 2) (hdC ((ss.getD i noS).1, ai, ni, ci))) := (HC wr HB.out).1
      have i0 : (0 : Int) ≤ (i : Int) := by omega
      have i1 : (i : Int) < (n : Int) := by omega
      have HLT : Hid (i < n) := hlt
      have hcall := wcj1_any ((ss.getD i noS).1, ai, ni, ci) K g wr hp8 hK8 ((HB.out.cell (p := ⟨g, 0, none⟩) HG.out).trans HK.out)
      have HPE : Hid ((ss.getD i noS).1 = K ↔ ((ss.getD i noS).1 == K) = true) := by simp [Hid]
      have hcall2 : Calls Tryd.prog 45 #[hdV ((ss.getD i noS).1, ai, ni, ci), .pointer (some ⟨g, 0, none⟩)] wr fun e w' => e = .returned (.bool ((ss.getD i noS).1 == K)) ∧ Below wr.heap.size wr w' := hcall
      have HCL : Hid (Calls Tryd.prog 45 #[hdV ((ss.getD i noS).1, ai, ni, ci), .pointer (some ⟨g, 0, none⟩)] wr fun e w' => e = .returned (.bool ((ss.getD i noS).1 == K)) ∧ Below wr.heap.size wr w') := hcall2
      obtain ⟨hd, hhd⟩ : ∃ hd : Hdr, ((ss.getD i noS).1, ai, ni, ci) = hd := ⟨_, rfl⟩
      rw [hhd] at HCL HX
      obtain ⟨z, hz⟩ : ∃ z, ((ss.getD i noS).1 == K) = z := ⟨_, rfl⟩
      rw [hz] at HCL HPE
      clear hcall hcall2 HC hlt hi hni hnc hn47 hp8 hhd hz
      cases z with
      | true =>
        have HE : Hid ((ss.getD i noS).1 = K) := HPE.out.2 rfl
        go_wp2_with (refine wpList_loadSh (by rfl) (.tmp 14) (by rfl) b (o + i * 2) hd (by rfl) HX.out ?_)
        refine HCL.out.mono ?_
        rintro e w' ⟨rfl, hb'⟩
        go_wp2_with fail
        go_ret
        refine ⟨⟨(i : Int), rfl, by omega, by omega, ?_⟩, HB.out.trans (hb'.mono HB.out.size)⟩
        rw [decide_eq_true i0]
        refine (List.any_eq_true.2 ⟨ss.getD i noS, ?_, by simpa using HE.out⟩).symm
        rw [List.getD_eq_getElem?_getD, List.getElem?_eq_getElem (by rw [HL.out]; exact HLT.out)]
        exact List.getElem_mem _
      | false =>
        have HE : Hid ((ss.getD i noS).1 ≠ K) := fun e => by have := HPE.out.1 e; cases this
        go_wp2_with (refine wpList_loadSh (by rfl) (.tmp 14) (by rfl) b (o + i * 2) hd (by rfl) HX.out ?_)
        refine HCL.out.mono ?_
        rintro e w' ⟨rfl, hb'⟩
        go_wp2_with fail
        go_roundw
        case rel => exact ⟨i + 1, by go_num, by have := HLT.out; omega, (fun j hj => by
          by_cases e : j = i
          · rw [e]; exact HE.out
          · exact HJ.out j (by omega)), HB.out.trans (hb'.mono HB.out.size)⟩
        case measure => have := HLT.out; simp [intOf]; omega
    · have hin : i = n := by omega
      subst hin
      have g2 : ¬ (i : Int) < (i : Int) := by omega
      clear hlt
      go_wp2_with fail
      go_ret
      refine ⟨⟨-1, rfl, by omega, by omega, ?_⟩, HB.out⟩
      have e := anyS_no (ss := ss) (i := i) (p := K) (by rw [HL.out]; exact Nat.le_refl _) HJ.out
      rw [List.take_of_length_le (by rw [HL.out]; exact Nat.le_refl _)] at e
      rw [e]
      decide

set_option maxRecDepth 100000 in
set_option maxHeartbeats 2000000 in
theorem wcontainsf_any (a : Option Addr) (n c : Nat) (ss : List Shr) (K g : Nat) (w : World) (R : SRow w a n ss) (hn : n ≤ 1000) (hK8 : K < 256) (hK : w.cell? ⟨g, 0, none⟩ = some (.int .u8 (K : Int))) :
    Calls Tryd.prog 44 #[.slice a n c, .func (.func 45) #[] #[.pointer (some ⟨g, 0, none⟩)]] w fun e w' => e = .returned (.bool (ss.any (fun x => x.1 == K))) ∧ Below w.heap.size w w' := by
  have hcall := windexf_any a n c ss K g w R hn hK8 hK
  obtain ⟨z, hz⟩ : ∃ z, ss.any (fun x => x.1 == K) = z := ⟨_, rfl⟩
  rw [hz] at hcall
  rw [hz]
  have HCL : Hid (Calls Tryd.prog 56 #[.slice a n c, .func (.func 45) #[] #[.pointer (some ⟨g, 0, none⟩)]] w fun e w' => (∃ r : Int, e = .returned (.int .i64 r) ∧ -1 ≤ r ∧ r ≤ 1000 ∧ decide (0 ≤ r) = z) ∧ Below w.heap.size w w') := hcall
  clear hcall hz hK R
  go_enter Tryd.func44, Tryd.ntmps44
  go_wp2_with fail
  refine HCL.out.mono ?_
  rintro e w' ⟨⟨r, rfl, r1, r2, hr⟩, hb'⟩
  go_wp2_with fail
  go_ret
  first
    | exact ⟨rfl, hb'⟩
    | (refine ⟨?_, hb'⟩; subst hr; rfl)
/-- An error, or none. -/
def errV (q : Int) : Value := if q = 0 then .nilIface else .iface 51 (.int .i64 q)
theorem errV_0 : errV 0 = .nilIface := rfl

set_option maxRecDepth 100000 in
set_option maxHeartbeats 2000000 in
theorem wcheck_any (a : Option Addr) (n c : Nat) (ss : List Shr) (q : Int) (least most : Nat) (w : World) (R : SRow w a n ss) (hc : n ≤ c) (hn0 : 0 < n) (hn20 : n ≤ 20) (hl8 : least < 256) (hm8 : most < 256) (hf : sfault least most ss = q) :
    Calls Tryd.prog 26 #[.slice a n c, .int .u8 (least : Int), .int .u8 (most : Int)] w fun e w' => e = .returned (errV q) ∧ Below w.heap.size w w' := by
  have HL : Hid (ss.length = n) := R.1
  have HR : Hid (SRow w a n ss) := R
  have HF0 : Hid (sfaultG least most (ss.getD 0 noS).2.length (ss.take 0) (ss.drop 0) = q) := hf
  clear R hf
  go_enter Tryd.func26, Tryd.ntmps26
  obtain ⟨b, o, ha⟩ := HR.out.addr (by omega)
  subst ha
  obtain ⟨a0, F, cF, _, _, hF47, hF0, HC0⟩ := HR.out.hdr 0 (by omega)
  have HK0 : Hid (∀ wx, Below w.heap.size w wx → wx.cell? ⟨b, o + 1, none⟩ = some (.slice a0 F cF)) := fun wx hx => (HC0 wx hx).1 1 _ rfl
  have HFE : Hid ((ss.getD 0 noS).2.length = F) := hF0.symm
  rw [HFE.out] at HF0
  clear HC0 hF0
  go_wp2_with fail
  go_loopw [11] (fun iv wr => ∃ i : Nat, iv = .int .i64 (i : Int) ∧ i ≤ n ∧ Hid (sfaultG least most F (ss.take i) (ss.drop i) = q) ∧ Hid (Below w.heap.size w wr)) (fun iv _ => n - (intOf iv).toNat)
  case atStart => exact ⟨0, rfl, Nat.zero_le _, HF0.out, Below.refl _ _⟩
  case round =>
    clear HF0
    obtain ⟨i, rfl, hi, HJ, HB⟩ := hrel
    by_cases hlt : i < n
    · obtain ⟨ai, ni, ci, hp8, hnc, hn47, hni, HC⟩ := HR.out.hdr i hlt
      have HX : Hid (wr.rangeAt b (o + i * 2) (hdC ((ss.getD i noS).1, ai, ni, ci))) := (HC wr HB.out).1
      have HST : Hid (q = _) := (HJ.out.symm).trans (sfault_step (least := least) (most := most) (first := F) (i := i) (ss := ss) (by rw [HL.out]; exact hlt))
      have HTK : Hid (SRow wr (some ⟨b, o, none⟩) i (ss.take i)) := (HR.out.takeR (i := i) (by omega)).below HB.out
      rw [← hni] at HST
      have i0 : (0 : Int) ≤ (i : Int) := by omega
      have i1 : (i : Int) < (n : Int) := by omega
      have HLT : Hid (i < n) := hlt
      have hi20 : i ≤ 1000 := by omega
      obtain ⟨p, hp⟩ : ∃ p, (ss.getD i noS).1 = p := ⟨_, rfl⟩
      rw [hp] at HX HST hp8
      clear HC hlt hi hni hp HJ
      obtain ⟨g, hg⟩ : ∃ g, wr.heap.size = g := ⟨_, rfl⟩
      obtain ⟨w2, hw2⟩ : ∃ w2, wr.alloc (.cells (hdC noH).toArray 37) = w2 := ⟨_, rfl⟩
      obtain ⟨w3, hw3⟩ : ∃ w3, w2.setCells g 0 (hdC (p, ai, ni, ci)) = w3 := ⟨_, rfl⟩
      have q3 := SVar.new hg hw2 hw3
      have HT2 : Hid (w2.there g 0 2) := q3.1
      have k0 : w3.cell? ⟨g, 0, none⟩ = some (.int .u8 (p : Int)) := q3.2.1.1
      have HV3 : Hid (SVar w3 g p (.slice ai ni ci)) := q3.2.1
      have HB3 : Hid (Below w.heap.size w w3) := HB.out.trans (q3.2.2.mono (by have := HB.out.size; omega))
      have HT3 : Hid (SRow w3 (some ⟨b, o, none⟩) i (ss.take i)) := HTK.out.below (by rw [hg]; exact q3.2.2)
      clear q3 HTK HB
      by_cases c1 : p < least
      · have HE : Hid (q = 2) := by rw [HST.out]; exact if_pos (.inl c1)
        have d1 : (p : Int) < (least : Int) := by omega
        clear HST c1
        go_wp2_with (first
          | (refine wpList_loadSh (by rfl) (.tmp 14) (by rfl) b (o + i * 2) (p, ai, ni, ci) (by rfl) HX.out ?_)
          | (refine wpList_allocSh (by rfl) (by rfl) g hg w2 hw2 ?_)
          | (refine wpList_storeSh (by rfl) (.tmp 8) (.tmp 15) (by rfl) g (p, ai, ni, ci) (by rfl) (by rfl) HT2.out w3 hw3 ?_))
        go_ret
        exact ⟨by rw [HE.out]; rfl, HB3.out⟩
      have d1 : ¬ (p : Int) < (least : Int) := by omega
      by_cases c2 : most < p
      · have HE : Hid (q = 2) := by rw [HST.out]; exact if_pos (.inr c2)
        have d2 : (most : Int) < (p : Int) := by omega
        clear HST c1 c2
        go_wp2_with (first
          | (refine wpList_loadSh (by rfl) (.tmp 14) (by rfl) b (o + i * 2) (p, ai, ni, ci) (by rfl) HX.out ?_)
          | (refine wpList_allocSh (by rfl) (by rfl) g hg w2 hw2 ?_)
          | (refine wpList_storeSh (by rfl) (.tmp 8) (.tmp 15) (by rfl) g (p, ai, ni, ci) (by rfl) (by rfl) HT2.out w3 hw3 ?_))
        go_ret
        exact ⟨by rw [HE.out]; rfl, HB3.out⟩
      have d2 : ¬ (most : Int) < (p : Int) := by omega
      have HS2 : Hid (q = if (ss.take i).any (fun x => x.1 == p) = true then 7 else if ni ≠ F then 3 else sfaultG least most F (ss.take (i + 1)) (ss.drop (i + 1))) := by
        rw [HST.out]
        exact if_neg (by omega)
      clear HST c1 c2
      have HCL : Hid (Calls Tryd.prog 44 #[.slice (some ⟨b, o, none⟩) i c, .func (.func 45) #[] #[.pointer (some ⟨g, 0, none⟩)]] w3 fun e w' => e = .returned (.bool ((ss.take i).any (fun x => x.1 == p))) ∧ Below w3.heap.size w3 w') := wcontainsf_any (some ⟨b, o, none⟩) i c (ss.take i) p g w3 HT3.out hi20 hp8 k0
      obtain ⟨z, hz⟩ : ∃ z, (ss.take i).any (fun x => x.1 == p) = z := ⟨_, rfl⟩
      rw [hz] at HCL HS2
      clear hz
      cases z with
      | true =>
        have HE : Hid (q = 7) := by rw [HS2.out]; exact if_pos rfl
        go_wp2_with (first
          | (refine wpList_loadSh (by rfl) (.tmp 14) (by rfl) b (o + i * 2) (p, ai, ni, ci) (by rfl) HX.out ?_)
          | (refine wpList_allocSh (by rfl) (by rfl) g hg w2 hw2 ?_)
          | (refine wpList_storeSh (by rfl) (.tmp 8) (.tmp 15) (by rfl) g (p, ai, ni, ci) (by rfl) (by rfl) HT2.out w3 hw3 ?_))
        refine HCL.out.mono ?_
        rintro e w4 ⟨rfl, hb4⟩
        go_wp2_with fail
        go_ret
        exact ⟨by rw [HE.out]; rfl, HB3.out.trans (hb4.mono HB3.out.size)⟩
      | false =>
        have HS3 : Hid (q = if ni ≠ F then 3 else sfaultG least most F (ss.take (i + 1)) (ss.drop (i + 1))) := by rw [HS2.out]; exact if_neg (by simp)
        clear HS2
        go_wp2_with (first
          | (refine wpList_loadSh (by rfl) (.tmp 14) (by rfl) b (o + i * 2) (p, ai, ni, ci) (by rfl) HX.out ?_)
          | (refine wpList_allocSh (by rfl) (by rfl) g hg w2 hw2 ?_)
          | (refine wpList_storeSh (by rfl) (.tmp 8) (.tmp 15) (by rfl) g (p, ai, ni, ci) (by rfl) (by rfl) HT2.out w3 hw3 ?_))
        refine HCL.out.mono ?_
        rintro e w4 ⟨rfl, hb4⟩
        go_upto_region 8 with fail
        have HB4 : Hid (Below w.heap.size w w4) := HB3.out.trans (hb4.mono HB3.out.size)
        have j1 : w4.cell? ⟨g, 1, none⟩ = some (.slice ai ni ci) := (HV3.out.below hb4 HV3.out.lt).2.1
        have j2 : w4.cell? ⟨b, o + 1, none⟩ = some (.slice a0 F cF) := HK0.out w4 HB4.out
        clear HCL hb4 HB3 HT3 HV3 HT2 HX hw3 hw2 hg k0
        by_cases ce : ni = F
        · have HE : Hid (sfaultG least most F (ss.take (i + 1)) (ss.drop (i + 1)) = q) := by rw [HS3.out]; exact (if_neg (by simpa using ce)).symm
          subst ce
          have g7 : ((ni : Int) != (ni : Int)) = false := by simp
          clear HS3
          go_quiet (fail)
          have HB5 : Hid (Below w.heap.size w (w4.drewN nq)) := HB4.out.trans ((below_drewN w4 nq).mono HB4.out.size)
          generalize w4.drewN nq = w5 at *
          clear j1 j2 HB4
          go_wp2_with fail
          go_roundw
          case rel => exact ⟨i + 1, by go_num, by have := HLT.out; omega, HE.out, HB5.out⟩
          case measure => have := HLT.out; simp [intOf]; omega
        · have HE : Hid (q = 3) := by rw [HS3.out]; exact if_pos ce
          have g6 : ((ni : Int) != (F : Int)) = true := by simp; omega
          clear HS3 ce
          go_quiet (fail)
          have HB5 : Hid (Below w.heap.size w (w4.drewN nq)) := HB4.out.trans ((below_drewN w4 nq).mono HB4.out.size)
          generalize w4.drewN nq = w5 at *
          clear j1 j2 HB4
          go_wp2_with fail
          go_ret
          exact ⟨by rw [HE.out]; rfl, HB5.out⟩
    · have hin : i = n := by omega
      subst hin
      have g5 : ¬ (i : Int) < (i : Int) := by omega
      clear hlt
      have HE : Hid (q = 0) := by
        rw [← HJ.out, List.drop_of_length_le (by rw [HL.out]; exact Nat.le_refl _)]
        rfl
      go_wp2_with fail
      go_ret
      exact ⟨by rw [HE.out]; rfl, HB.out⟩

set_option maxRecDepth 100000 in
set_option maxHeartbeats 2000000 in
theorem wcanjoin_any (a : Option Addr) (n c : Nat) (ss : List Shr) (q : Int) (w : World) (R : SRow w a n ss) (hc : n ≤ c) (hn : n ≤ 140737488351232) (hf : joinE ss = q) :
    Calls Tryd.prog 14 #[.slice a n c] w fun e w' => e = .returned (errV q) ∧ Below w.heap.size w w' := by
  have HL : Hid (ss.length = n) := R.1
  have HR : Hid (SRow w a n ss) := R
  have HF : Hid (joinE ss = q) := hf
  clear R hf
  go_enter Tryd.func14, Tryd.ntmps14
  by_cases c1 : n = 0
  · have HE : Hid (q = 2) := by rw [← HF.out]; exact if_pos (.inl (by rw [HL.out]; omega))
    subst c1
    go_wp2_with fail
    go_ret
    exact ⟨by rw [HE.out]; rfl, Below.refl _ _⟩
  have g1 : ¬ (n : Int) = 0 := by omega
  have g2 : ((n : Int) == 0) = false := by simp; omega
  by_cases c2 : 20 < n
  · have HE : Hid (q = 2) := by rw [← HF.out]; exact if_pos (.inr (by rw [HL.out]; omega))
    have g3 : (20 : Int) < (n : Int) := by omega
    clear c1
    go_wp2_with fail
    go_ret
    exact ⟨by rw [HE.out]; rfl, Below.refl _ _⟩
  have g3 : ¬ (20 : Int) < (n : Int) := by omega
  have HFF : sfault 1 255 ss = q := by
    rw [← HF.out]
    exact (if_neg (by rw [HL.out]; omega)).symm
  have HCL : Hid (Calls Tryd.prog 26 #[.slice a n c, .int .u8 1, .int .u8 255] w fun e w' => e = .returned (errV q) ∧ Below w.heap.size w w') := wcheck_any a n c ss q 1 255 w HR.out hc (by omega) (by omega) (by omega) (by omega) HFF
  obtain ⟨ev, hev⟩ : ∃ ev, errV q = ev := ⟨_, rfl⟩
  rw [hev] at HCL
  simp only [hev]
  clear HFF c1 c2 hev
  go_wp2_with fail
  refine HCL.out.mono ?_
  rintro e w4 ⟨rfl, hb4⟩
  go_wp2_with fail
  go_ret
  exact ⟨rfl, hb4⟩
end Go.Proofs.YtghiniaijobonaaDoor
/- What Join's sums hold between two shares: plain facts. -/
namespace Go.Proofs.YtghiniaijobonaaDoor
open Go.RowKit
set_option linter.unusedVariables false
set_option linter.unusedSimpArgs false

def placeA (ss : List Shr) (i : Nat) : Nat := (ss.map (·.1)).getD i 0
theorem placeA_at {ss : List Shr} {i : Nat} (h : i < ss.length) : placeA ss i = (ss.getD i noS).1 := by
  unfold placeA
  rw [List.getD_eq_getElem?_getD, List.getD_eq_getElem?_getD, List.getElem?_map, List.getElem?_eq_getElem h]
  rfl
theorem placeA_lt {ss : List Shr} (hp : ∀ s ∈ ss, s.1 < 256) (i : Nat) : placeA ss i < 256 := getD_bys (places_bys hp) i
theorem colNw_at {ss : List Shr} {i k : Nat} (h : i < ss.length) : (colN ss k).getD i 0 = ((ss.getD i noS).2.getD k 0).toNat := by
  unfold colN
  rw [List.getD_eq_getElem?_getD, List.getElem?_map, List.getD_eq_getElem?_getD (l := ss), List.getElem?_eq_getElem h]
  rfl
/-- What share k counts for. -/
def wtS (ss : List Shr) (x k : Nat) : Nat := lwt (placeA ss) x ss.length k
theorem wtS_lt (ss : List Shr) (x k : Nat) : wtS ss x k < 256 := lwt_lt _ _ _ _
/-- The sum at place i, of the first k shares. -/
def accN (ss : List Shr) (x k i : Nat) : Nat := lsum (placeA ss) (fun j => (colN ss i).getD j 0) x ss.length k
theorem accN_lt (ss : List Shr) (x k i : Nat) : accN ss x k i < 256 := lsum_lt _ _ _ _ _
theorem accN_zero (ss : List Shr) (x i : Nat) : accN ss x 0 i = 0 := rfl
theorem accN_succ {ss : List Shr} {k : Nat} (h : k < ss.length) (x i : Nat) : accN ss x (k + 1) i = accN ss x k i ^^^ gm (wtS ss x k) ((ss.getD k noS).2.getD i 0).toNat := by
  show lsum _ _ _ _ (k + 1) = _
  rw [← colNw_at h]
  rfl
/-- The row: below i of k + 1 shares, else of k. -/
def mixL (ss : List Shr) (x F k i : Nat) : List UInt8 := (List.range F).map fun j => UInt8.ofNat (accN ss x (if j < i then k + 1 else k) j)
theorem mixL_length (ss : List Shr) (x F k i : Nat) : (mixL ss x F k i).length = F := by simp [mixL]
theorem mixL_at (ss : List Shr) {x F k i j : Nat} (h : j < F) : (mixL ss x F k i).getD j 0 = UInt8.ofNat (accN ss x (if j < i then k + 1 else k) j) := by
  unfold mixL
  rw [List.getD_eq_getElem?_getD, List.getElem?_map, List.getElem?_range h]
  rfl
/-- At the end it is what the shares tell at x. -/
theorem mixL_joined {ss : List Shr} {x : Nat} (hx : x < 256) (hp : ∀ s ∈ ss, s.1 < 256) (hd : (ss.map (·.1)).Nodup) : joinedP ss x (mixL ss x (ss.getD 0 noS).2.length ss.length 0) := by
  refine ⟨mixL_length _ _ _ _ _, fun k hk => ?_⟩
  rw [mixL_length] at hk
  have e : (nb (mixL ss x (ss.getD 0 noS).2.length ss.length 0)).getD k 0 = accN ss x ss.length k := by
    rw [nb_at, mixL_at ss hk, if_neg (by omega)]
    have := accN_lt ss x ss.length k
    rw [UInt8.toNat_ofNat']
    omega
  rw [e]
  have hv : bys (colN ss k) := fun y hy => by
    obtain ⟨s, _, rfl⟩ := List.mem_map.1 hy
    exact UInt8.toNat_lt _
  have h := lsum_interp (at' := ss.map (·.1)) (v := colN ss k) (x := x) (places_bys hp) hv hd hx
  rw [List.length_map] at h
  exact h
/-- Products on the way to a share's weight. -/
def overN (ss : List Shr) (x k m : Nat) : Nat := np (placeA ss) x k m
def underN (ss : List Shr) (k m : Nat) : Nat := np (placeA ss) (placeA ss k) k m
theorem overN_lt (ss : List Shr) (x k m : Nat) : overN ss x k m < 256 := np_lt _ _ _ _
theorem underN_lt (ss : List Shr) (k m : Nat) : underN ss k m < 256 := np_lt _ _ _ _
theorem overN_skip (ss : List Shr) (x k : Nat) : overN ss x k (k + 1) = overN ss x k k := if_pos rfl
theorem underN_skip (ss : List Shr) (k : Nat) : underN ss k (k + 1) = underN ss k k := if_pos rfl
theorem overN_step (ss : List Shr) (x : Nat) {k m : Nat} (h : m ≠ k) : overN ss x k (m + 1) = gm (overN ss x k m) (placeA ss m ^^^ x) := by
  have e : overN ss x k (m + 1) = gm (np (placeA ss) x k m) (x ^^^ placeA ss m) := if_neg h
  rw [e, Nat.xor_comm]
  rfl
theorem underN_step (ss : List Shr) {k m : Nat} (h : m ≠ k) : underN ss k (m + 1) = gm (underN ss k m) (placeA ss m ^^^ placeA ss k) := by
  have e : underN ss k (m + 1) = gm (np (placeA ss) (placeA ss k) k m) (placeA ss k ^^^ placeA ss m) := if_neg h
  rw [e, Nat.xor_comm]
  rfl
theorem wtS_is (ss : List Shr) (x k : Nat) : wtS ss x k = gm (overN ss x k ss.length) (ginv (underN ss k ss.length)) := rfl
theorem underN_ne {ss : List Shr} (hp : ∀ s ∈ ss, s.1 < 256) (hd : (ss.map (·.1)).Nodup) {k : Nat} (hk : k < ss.length) : underN ss k ss.length ≠ 0 := by
  refine np_ne (placeA_lt hp) (placeA_lt hp k) _ fun j hj hjk e => ?_
  unfold placeA at e
  have hl : (ss.map (·.1)).length = ss.length := List.length_map _
  rw [List.getD_eq_getElem?_getD, List.getD_eq_getElem?_getD, List.getElem?_eq_getElem (by rw [hl]; exact hj), List.getElem?_eq_getElem (by rw [hl]; exact hk)] at e
  have hq := List.pairwise_iff_getElem.1 (List.nodup_iff_pairwise_ne.1 hd)
  rcases Nat.lt_or_gt_of_ne hjk with q | q
  · exact hq j k (by rw [hl]; exact hj) (by rw [hl]; exact hk) q e
  · exact hq k j (by rw [hl]; exact hk) (by rw [hl]; exact hj) q e.symm
end Go.Proofs.YtghiniaijobonaaDoor
/- The contract of share.weight. -/
namespace Go.Proofs.YtghiniaijobonaaDoor
open Go.RowKit
set_option linter.unusedVariables false
set_option linter.unusedSimpArgs false

set_option maxRecDepth 100000 in
set_option maxHeartbeats 2000000 in
theorem wweight_any (b o n c k : Nat) (ss : List Shr) (w : World) (R : SRow w (some ⟨b, o, none⟩) n ss) (hn : n ≤ 20) (hk : k < n) (hd : (ss.map (·.1)).Nodup) (x : Nat) (hx : x < 256) :
    Calls Tryd.prog 27 #[.slice (some ⟨b, o, none⟩) n c, .int .i64 (k : Int), .int .u8 (x : Int)] w fun e w' => e = .returned (.int .u8 ((wtS ss x k : Nat) : Int)) ∧ Below w.heap.size w w' := by
  have HL : Hid (ss.length = n) := R.1
  have HR : Hid (SRow w (some ⟨b, o, none⟩) n ss) := R
  have HP : Hid (∀ s ∈ ss, s.1 < 256) := R.place
  have HND : Hid ((ss.map (·.1)).Nodup) := hd
  have HKN : Hid (k < n) := hk
  obtain ⟨r, hr⟩ : ∃ r, placeA ss k = r := ⟨_, rfl⟩
  have HRK : Hid (placeA ss k = r) := hr
  have hr8 : r < 256 := by rw [← hr]; exact placeA_lt R.place k
  have HPK : Hid (∀ wx, Below w.heap.size w wx → wx.cell? ⟨b, o + k * 2, none⟩ = some (.int .u8 (r : Int))) := fun wx hx => by
    have := (R.at k hk).2.1
    rw [← placeA_at (by rw [R.1]; exact hk), hr] at this
    exact (hx.cell (p := ⟨b, o + k * 2, none⟩) (cell_block this)).trans this
  have kk0 : (0 : Int) ≤ (k : Int) := by omega
  have kk1 : (k : Int) < (n : Int) := by omega
  clear R hd hr hk
  go_enter Tryd.func27, Tryd.ntmps27
  go_wp2_with fail
  go_loopw [15, 7, 8] (fun iv ov uv wr => ∃ i : Nat, iv = .int .i64 (i : Int) ∧ i ≤ n ∧ ov = .int .u8 ((overN ss x k i : Nat) : Int) ∧ uv = .int .u8 ((underN ss k i : Nat) : Int) ∧ Hid (Below w.heap.size w wr)) (fun iv _ _ _ => n - (intOf iv).toNat)
  case atStart => exact ⟨0, rfl, Nat.zero_le _, rfl, rfl, Below.refl _ _⟩
  case round =>
    obtain ⟨i, rfl, hi, rfl, rfl, HB⟩ := hrel
    by_cases hlt : i < n
    · obtain ⟨ai, ni, ci, hp8, hnc, hn47, hni, HC⟩ := HR.out.hdr i hlt
      have HX : Hid (wr.rangeAt b (o + i * 2) (hdC ((ss.getD i noS).1, ai, ni, ci))) := (HC wr HB.out).1
      have i0 : (0 : Int) ≤ (i : Int) := by omega
      have i1 : (i : Int) < (n : Int) := by omega
      have HLT : Hid (i < n) := hlt
      have HPI : Hid (placeA ss i = (ss.getD i noS).1) := placeA_at (by rw [HL.out]; exact hlt)
      obtain ⟨p, hp⟩ : ∃ p, (ss.getD i noS).1 = p := ⟨_, rfl⟩
      rw [hp] at HX hp8 HPI
      clear HC hlt hi hni hp
      obtain ⟨g, hg⟩ : ∃ g, wr.heap.size = g := ⟨_, rfl⟩
      obtain ⟨w2, hw2⟩ : ∃ w2, wr.alloc (.cells (hdC noH).toArray 37) = w2 := ⟨_, rfl⟩
      obtain ⟨w3, hw3⟩ : ∃ w3, w2.setCells g 0 (hdC (p, ai, ni, ci)) = w3 := ⟨_, rfl⟩
      have q3 := SVar.new hg hw2 hw3
      have HT2 : Hid (w2.there g 0 2) := q3.1
      have k0 : w3.cell? ⟨g, 0, none⟩ = some (.int .u8 (p : Int)) := q3.2.1.1
      have HV3 : Hid (SVar w3 g p (.slice ai ni ci)) := q3.2.1
      have HB3 : Hid (Below w.heap.size w w3) := HB.out.trans (q3.2.2.mono (by have := HB.out.size; omega))
      clear q3 HB
      by_cases ce : i = k
      · subst ce
        have HO : Hid (overN ss x i (i + 1) = overN ss x i i) := overN_skip ss x i
        have HU : Hid (underN ss i (i + 1) = underN ss i i) := underN_skip ss i
        have e1 : ((i : Int) == (i : Int)) = true := by simp
        go_wp2_with (first
          | (refine wpList_loadSh (by rfl) (.tmp 18) (by rfl) b (o + i * 2) (p, ai, ni, ci) (by rfl) HX.out ?_)
          | (refine wpList_allocSh (by rfl) (by rfl) g hg w2 hw2 ?_)
          | (refine wpList_storeSh (by rfl) (.tmp 10) (.tmp 19) (by rfl) g (p, ai, ni, ci) (by rfl) (by rfl) HT2.out w3 hw3 ?_))
        go_roundw
        case rel => exact ⟨i + 1, by go_num, by have := HLT.out; omega, by rw [HO.out], by rw [HU.out], HB3.out⟩
        case measure => have := HLT.out; simp [intOf]; omega
      · have HO : Hid (overN ss x k (i + 1) = gm (overN ss x k i) (p ^^^ x)) := by rw [← HPI.out]; exact overN_step ss x ce
        have HU : Hid (underN ss k (i + 1) = gm (underN ss k i) (p ^^^ r)) := by rw [← HPI.out, ← HRK.out]; exact underN_step ss ce
        have e1 : ((i : Int) == (k : Int)) = false := by simp; omega
        have e2 : ¬ (i : Int) = (k : Int) := by omega
        have hv8 := overN_lt ss x k i
        have hu8 := underN_lt ss k i
        obtain ⟨v2, hv2⟩ : ∃ v, overN ss x k (i + 1) = v := ⟨_, rfl⟩
        obtain ⟨u2, hu2⟩ : ∃ v, underN ss k (i + 1) = v := ⟨_, rfl⟩
        have HV2 : Hid (overN ss x k (i + 1) = v2) := hv2
        have HU2 : Hid (underN ss k (i + 1) = u2) := hu2
        rw [hv2] at HO
        rw [hu2] at HU
        generalize overN ss x k i = v at *
        generalize underN ss k i = u at *
        have hx8 := xor_lt256 hp8 hr8
        have hy8 := xor_lt256 hp8 hx
        have HMV : Hid (∀ wx, Calls Tryd.prog 29 #[.int .u8 (v : Int), .int .u8 ((p ^^^ x : Nat) : Int)] wx fun e w' => e = .returned (.int .u8 (v2 : Int)) ∧ w' = wx) := fun wx => by rw [HO.out]; exact wfield_mul0 v (p ^^^ x) wx hv8 hy8
        have HAX : Hid (∀ wx, Calls Tryd.prog 28 #[.int .u8 (p : Int), .int .u8 (x : Int)] wx fun e w' => e = .returned (.int .u8 ((p ^^^ x : Nat) : Int)) ∧ w' = wx) := fun wx => wfield_add0 p x wx hp8 hx
        have HAD : Hid (∀ wx, Calls Tryd.prog 28 #[.int .u8 (p : Int), .int .u8 (r : Int)] wx fun e w' => e = .returned (.int .u8 ((p ^^^ r : Nat) : Int)) ∧ w' = wx) := fun wx => wfield_add0 p r wx hp8 hr8
        have HMU : Hid (∀ wx, Calls Tryd.prog 29 #[.int .u8 (u : Int), .int .u8 ((p ^^^ r : Nat) : Int)] wx fun e w' => e = .returned (.int .u8 (u2 : Int)) ∧ w' = wx) := fun wx => by rw [HU.out]; exact wfield_mul0 u (p ^^^ r) wx hu8 hx8
        generalize p ^^^ r = xr at *
        generalize p ^^^ x = xx at *
        clear ce hv2 hu2
        go_wp2_with (first
          | (refine wpList_loadSh (by rfl) (.tmp 18) (by rfl) b (o + i * 2) (p, ai, ni, ci) (by rfl) HX.out ?_)
          | (refine wpList_allocSh (by rfl) (by rfl) g hg w2 hw2 ?_)
          | (refine wpList_storeSh (by rfl) (.tmp 10) (.tmp 19) (by rfl) g (p, ai, ni, ci) (by rfl) (by rfl) HT2.out w3 hw3 ?_))
        refine (HAX.out w3).mono ?_
        rintro e w4 ⟨rfl, hq⟩
        have hq' : w3 = w4 := hq.symm
        subst hq'
        clear hq
        go_wp2_with fail
        refine (HMV.out w3).mono ?_
        rintro e w4 ⟨rfl, hq⟩
        have hq' : w3 = w4 := hq.symm
        subst hq'
        clear k0 hw3 hw2 hg HT2 HX hq
        go_upto_region 7 with fail
        try simp only [Act.put, List.setIfInBounds_toArray, List.set_cons_zero, List.set_cons_succ]
        refine wp_region_noPanic ?_
        refine wp_region_held_drew (S := fun wx => wx.cell? ⟨g, 0, none⟩ = some (.int .u8 (p : Int)) ∧ wx.cell? ⟨b, o + k * 2, none⟩ = some (.int .u8 (r : Int))) (by kernel_rfl) ⟨(HV3.out.below (below_drewN w3 1) HV3.out.lt).1, HPK.out _ (HB3.out.trans ((below_drewN w3 1).mono HB3.out.size))⟩ (fun hHeld => ?_)
        try simp only [Act.put, List.setIfInBounds_toArray, List.set_cons_zero, List.set_cons_succ]
        have HBd : Hid (Below w.heap.size w w3.drew) := HB3.out.trans ((below_drewN w3 1).mono HB3.out.size)
        generalize w3.drew = wd at *
        refine wpAnyH_take (i := 0) (v := .int .u8 (u : Int)) (by simp only [List.getElem?_toArray, List.getElem?_cons_zero, List.getElem?_cons_succ]; rfl) (by kernel_rfl) (by kernel_rfl) (by kernel_rfl) (fun _ _ _ h => h) (Or.inl ⟨by rfl, ?_⟩) hHeld ?_
        · intro w hSw
          obtain ⟨hSw0, hSw1⟩ := hSw
          go_simp
        try simp only [Act.put, List.setIfInBounds_toArray, List.set_cons_zero, List.set_cons_succ]
        refine wpAnyH_take (i := 1) (v := .pointer (some ⟨g, 0, none⟩)) (by simp only [List.getElem?_toArray, List.getElem?_cons_zero, List.getElem?_cons_succ]; rfl) (by kernel_rfl) (by kernel_rfl) (by kernel_rfl) (fun _ _ _ h => h) (Or.inl ⟨by rfl, ?_⟩) hHeld ?_
        · intro w hSw
          obtain ⟨hSw0, hSw1⟩ := hSw
          go_simp
        try simp only [Act.put, List.setIfInBounds_toArray, List.set_cons_zero, List.set_cons_succ]
        refine wpAnyH_take (i := 2) (v := .int .u8 (p : Int)) (by simp only [List.getElem?_toArray, List.getElem?_cons_zero, List.getElem?_cons_succ]; rfl) (by kernel_rfl) (by kernel_rfl) (by kernel_rfl) (fun _ _ _ h => h) (Or.inl ⟨by rfl, ?_⟩) hHeld ?_
        · intro w hSw
          obtain ⟨hSw0, hSw1⟩ := hSw
          go_simp
        try simp only [Act.put, List.setIfInBounds_toArray, List.set_cons_zero, List.set_cons_succ]
        refine wpAnyH_take (i := 3) (v := .slice (some ⟨b, o, none⟩) n c) (by simp only [List.getElem?_toArray, List.getElem?_cons_zero, List.getElem?_cons_succ]; rfl) (by kernel_rfl) (by kernel_rfl) (by kernel_rfl) (fun _ _ _ h => h) (Or.inl ⟨by rfl, ?_⟩) hHeld ?_
        · intro w hSw
          obtain ⟨hSw0, hSw1⟩ := hSw
          go_simp
        try simp only [Act.put, List.setIfInBounds_toArray, List.set_cons_zero, List.set_cons_succ]
        refine wpAnyH_take (i := 4) (v := .int .i64 (k : Int)) (by simp only [List.getElem?_toArray, List.getElem?_cons_zero, List.getElem?_cons_succ]; rfl) (by kernel_rfl) (by kernel_rfl) (by kernel_rfl) (fun _ _ _ h => h) (Or.inl ⟨by rfl, ?_⟩) hHeld ?_
        · intro w hSw
          obtain ⟨hSw0, hSw1⟩ := hSw
          go_simp
        try simp only [Act.put, List.setIfInBounds_toArray, List.set_cons_zero, List.set_cons_succ]
        refine wpAnyH_take (i := 5) (v := .pointer (some ⟨b, o + k * 2, none⟩)) (by simp only [List.getElem?_toArray, List.getElem?_cons_zero, List.getElem?_cons_succ]; rfl) (by kernel_rfl) (by kernel_rfl) (by kernel_rfl) (fun _ _ _ h => h) (Or.inl ⟨by rfl, ?_⟩) hHeld ?_
        · intro w hSw
          obtain ⟨hSw0, hSw1⟩ := hSw
          go_simp
        try simp only [Act.put, List.setIfInBounds_toArray, List.set_cons_zero, List.set_cons_succ]
        refine wpAnyH_take (i := 6) (v := .pointer (some ⟨b, o + k * 2, none⟩)) (by simp only [List.getElem?_toArray, List.getElem?_cons_zero, List.getElem?_cons_succ]; rfl) (by kernel_rfl) (by kernel_rfl) (by kernel_rfl) (fun _ _ _ h => h) (Or.inl ⟨by rfl, ?_⟩) hHeld ?_
        · intro w hSw
          obtain ⟨hSw0, hSw1⟩ := hSw
          go_simp
        try simp only [Act.put, List.setIfInBounds_toArray, List.set_cons_zero, List.set_cons_succ]
        refine wpAnyH_take (i := 7) (v := .int .u8 (r : Int)) (by simp only [List.getElem?_toArray, List.getElem?_cons_zero, List.getElem?_cons_succ]; rfl) (by kernel_rfl) (by kernel_rfl) (by kernel_rfl) (fun _ _ _ h => h) (Or.inl ⟨by rfl, ?_⟩) hHeld ?_
        · intro w hSw
          obtain ⟨hSw0, hSw1⟩ := hSw
          go_simp
        try simp only [Act.put, List.setIfInBounds_toArray, List.set_cons_zero, List.set_cons_succ]
        refine wpAnyH_ready (rs := [8]) (by kernel_rfl) (by simp) ?_
        refine AllReadyH.cons (by simp only [List.getElem?_toArray, List.getElem?_cons_zero, List.getElem?_cons_succ]; rfl) (fun K hK => ?_) AllReadyH.nil
        rw [if_pos (by rfl)]
        go_simp
        refine (HAD.out wd).mono ?_
        rintro e wn ⟨rfl, hq⟩
        have hq' : wd = wn := hq.symm
        subst hq'
        go_wp2_with fail
        refine hK.out _ _ hHeld (fun hHeld => ?_)
        clear hK K
        try simp only [Act.put, List.setIfInBounds_toArray, List.set_cons_zero, List.set_cons_succ]
        refine wpAnyH_ready (rs := [9]) (by kernel_rfl) (by simp) ?_
        refine AllReadyH.cons (by simp only [List.getElem?_toArray, List.getElem?_cons_zero, List.getElem?_cons_succ]; rfl) (fun K hK => ?_) AllReadyH.nil
        rw [if_pos (by rfl)]
        go_simp
        refine (HMU.out wd).mono ?_
        rintro e wn ⟨rfl, hq⟩
        have hq' : wd = wn := hq.symm
        subst hq'
        go_wp2_with fail
        refine hK.out _ _ hHeld (fun hHeld => ?_)
        clear hK K
        try simp only [Act.put, List.setIfInBounds_toArray, List.set_cons_zero, List.set_cons_succ]
        refine wpAnyH_take (i := 10) (v := .int .u8 (u2 : Int)) (by simp only [List.getElem?_toArray, List.getElem?_cons_zero, List.getElem?_cons_succ]; rfl) (by kernel_rfl) (by kernel_rfl) (by kernel_rfl) (fun _ _ _ h => h) (Or.inl ⟨by rfl, ?_⟩) hHeld ?_
        · intro w hSw
          obtain ⟨hSw0, hSw1⟩ := hSw
          go_simp
        try simp only [Act.put, List.setIfInBounds_toArray, List.set_cons_zero, List.set_cons_succ]
        refine wpAnyH_done (by kernel_rfl) (NoPanic.normal ?_) _
        clear hHeld
        go_wp2_with fail
        go_roundw
        case rel => exact ⟨i + 1, by go_num, by have := HLT.out; omega, by rw [HV2.out], by rw [HU2.out], HBd.out⟩
        case measure => have := HLT.out; simp [intOf]; omega
    · have hin : i = n := by omega
      subst hin
      have g5 : ¬ (i : Int) < (i : Int) := by omega
      clear hlt
      have HN : Hid (underN ss k i ≠ 0) := by have := underN_ne HP.out HND.out (k := k) (by rw [HL.out]; exact HKN.out); rwa [HL.out] at this
      have HW : Hid (wtS ss x k = gm (overN ss x k i) (ginv (underN ss k i))) := by have := wtS_is ss x k; rwa [HL.out] at this
      have hv8 := overN_lt ss x k i
      have hu8 := underN_lt ss k i
      have hw8 := ginv_lt (underN ss k i)
      have HIV : Hid (∀ wx, Calls Tryd.prog 46 #[.int .u8 ((underN ss k i : Nat) : Int)] wx fun e w' => e = .returned (.tuple #[.int .u8 ((ginv (underN ss k i) : Nat) : Int), .nilIface]) ∧ w' = wx) := fun wx => wfield_inv0 _ wx hu8 HN.out
      have HMV : Hid (∀ wx, Calls Tryd.prog 29 #[.int .u8 ((overN ss x k i : Nat) : Int), .int .u8 ((ginv (underN ss k i) : Nat) : Int)] wx fun e w' => e = .returned (.int .u8 ((wtS ss x k : Nat) : Int)) ∧ w' = wx) := fun wx => by rw [HW.out]; exact wfield_mul0 _ _ wx hv8 hw8
      generalize overN ss x k i = v at *
      generalize ginv (underN ss k i) = y at *
      generalize underN ss k i = u at *
      go_wp2_with fail
      refine (HIV.out wr).mono ?_
      rintro e w4 ⟨rfl, hq⟩
      have hq' : wr = w4 := hq.symm
      subst hq'
      clear hq
      go_wp2_with fail
      refine (HMV.out wr).mono ?_
      rintro e w4 ⟨rfl, hq⟩
      have hq' : wr = w4 := hq.symm
      subst hq'
      clear hq
      go_wp2_with fail
      go_ret
      exact ⟨rfl, HB.out⟩
end Go.Proofs.YtghiniaijobonaaDoor
/- The contract of share.At. -/
namespace Go.Proofs.YtghiniaijobonaaDoor
open Go.RowKit
set_option linter.unusedVariables false
set_option linter.unusedSimpArgs false

set_option maxRecDepth 100000 in
set_option maxHeartbeats 2000000 in
theorem wat_any (a : Option Addr) (n c : Nat) (ss : List Shr) (xP : Nat) (w : World) (R : SRow w a n ss) (hp0 : 0 < n) (hn20 : n ≤ 20) (hxP : xP < 256) (hnd : (ss.map (·.1)).Nodup) (hall : ∀ s ∈ ss, s.2.length = (ss.getD 0 noS).2.length) :
    Calls Tryd.prog 15 #[.slice a n c, .int .u8 (xP : Int)] w fun r w' => (∃ d F, r = .returned (.slice (some ⟨d, 0, none⟩) F F) ∧ w.heap.size ≤ d ∧ d < w'.heap.size ∧ F = (ss.getD 0 noS).2.length ∧ F ≤ 140737488351232 ∧ Row w' (some ⟨d, 0, none⟩) F (mixL ss xP F n 0) ∧ joinedP ss xP (mixL ss xP F n 0)) ∧ Below w.heap.size w w' := by
  obtain ⟨iB, hiB, hz0, hz1, hz2⟩ := info_parts Tryd.infoSh8
  have hl := R.1
  have HL : Hid (ss.length = n) := hl
  obtain ⟨b, o, ha⟩ := R.addr hp0
  subst ha
  have HR : Hid (SRow w (some ⟨b, o, none⟩) n ss) := R
  have HP : Hid (∀ s ∈ ss, s.1 < 256) := R.place
  have HND : Hid ((ss.map (·.1)).Nodup) := hnd
  obtain ⟨a0, F, cF, _, _, hF47, hF0, HC0⟩ := R.hdr 0 hp0
  have HK0 : Hid (∀ wx, Below w.heap.size w wx → wx.cell? ⟨b, o + 1, none⟩ = some (.slice a0 F cF)) := fun wx hx => (HC0 wx hx).1 1 _ rfl
  have HFE : Hid (F = (ss.getD 0 noS).2.length) := hF0
  have HLN : Hid (∀ i, i < n → (ss.getD i noS).2.length = F) := fun i hi => by
    rw [hF0]
    refine hall _ ?_
    rw [List.getD_eq_getElem?_getD, List.getElem?_eq_getElem (by rw [hl]; exact hi)]
    exact List.getElem_mem _
  have n0 : (0 : Int) < (n : Int) := by omega
  have F0 : (0 : Int) ≤ (F : Int) := by omega
  clear hall hnd R HC0 hF0 hl
  obtain ⟨w1, hw1⟩ : ∃ w1, w = w1 := ⟨_, rfl⟩
  have HB1 : Hid (Below w.heap.size w w1) := by rw [← hw1]; exact Below.refl _ _
  have k1 := HK0.out w1 HB1.out
  rw [show Calls Tryd.prog 15 #[.slice (some ⟨b, o, none⟩) n c, .int .u8 (xP : Int)] w = Calls Tryd.prog 15 #[.slice (some ⟨b, o, none⟩) n c, .int .u8 (xP : Int)] w1 from by rw [hw1]]
  clear hw1
  go_enter Tryd.func15, Tryd.ntmps15
  go_wp2_with (first
    | (at_make; (refine wpList_make_full _ rfl _ _ 33 rfl w1.heap.size 5 iB (.int .u8 0) 1 Tryd.underlying33 hiB hz0 hz1 _ _ _ _ F rfl rfl rfl rfl (by rw [hz2]; omega) (by unfold maxLen; omega) (Nat.le_refl _) ?_); intro w5 hown hgrow))
  have HC5 : Hid (BCells w5 w1.heap.size F (accN ss xP 0)) := BCells.made hown
  have hb5 : Below w1.heap.size w1 w5 := (Below.refl _ _).grown hgrow (Nat.le_refl _) (fun _ h => by cases h)
  have HB5 : Hid (Below w.heap.size w w5) := HB1.out.trans (hb5.mono HB1.out.size)
  have HG5 : Hid (w1.heap.size < w5.heap.size) := (World.ownsRow.lt hown w1.heap.size rfl).2
  obtain ⟨d, hd⟩ : ∃ d, w1.heap.size = d := ⟨_, rfl⟩
  have HD : Hid (w.heap.size ≤ d) := by unfold Hid; rw [← hd]; exact HB1.out.size
  rw [hd] at HC5 HG5
  try simp only [hd]
  clear hown hgrow hb5 hd iB hiB hz0 hz1 hz2 k1 HB1
  go_loopw [19] (fun iv wr => ∃ k : Nat, iv = .int .i64 (k : Int) ∧ k ≤ n ∧ Hid (BCells wr d F (accN ss xP k)) ∧ Hid (Below w.heap.size w wr) ∧ Hid (d < wr.heap.size)) (fun iv _ => n - (intOf iv).toNat)
  case atStart => exact ⟨0, rfl, Nat.zero_le _, HC5.out, HB5.out, HG5.out⟩
  case round =>
    clear HC5 HB5 HG5
    obtain ⟨k, rfl, hk, HC, HB, HGD⟩ := hrel
    by_cases hlt : k < n
    · obtain ⟨ai, ni, ci, hp8, hnc, hn47, hni, HCK⟩ := HR.out.hdr k hlt
      have HX : Hid (wr.rangeAt b (o + k * 2) (hdC ((ss.getD k noS).1, ai, ni, ci))) := (HCK wr HB.out).1
      have HROW : Hid (∀ wx, Below w.heap.size w wx → Row wx ai F (ss.getD k noS).2) := fun wx hx => by
        have := (HCK wx hx).2
        rwa [hni, HLN.out k hlt] at this
      have hnF : ni = F := hni.trans (HLN.out k hlt)
      subst hnF
      have kk0 : (0 : Int) ≤ (k : Int) := by omega
      have kk1 : (k : Int) < (n : Int) := by omega
      have HLT : Hid (k < n) := hlt
      have HST : Hid (∀ i, accN ss xP (k + 1) i = accN ss xP k i ^^^ gm (wtS ss xP k) ((ss.getD k noS).2.getD i 0).toNat) := fun i => accN_succ (by rw [HL.out]; exact hlt) xP i
      obtain ⟨p, hp⟩ : ∃ p, (ss.getD k noS).1 = p := ⟨_, rfl⟩
      rw [hp] at HX hp8
      clear HCK hlt hk hni hp
      obtain ⟨g, hg⟩ : ∃ g, wr.heap.size = g := ⟨_, rfl⟩
      obtain ⟨w2, hw2⟩ : ∃ w2, wr.alloc (.cells (hdC noH).toArray 37) = w2 := ⟨_, rfl⟩
      obtain ⟨w3, hw3⟩ : ∃ w3, w2.setCells g 0 (hdC (p, ai, ni, ci)) = w3 := ⟨_, rfl⟩
      have q3 := SVar.new hg hw2 hw3
      have HT2 : Hid (w2.there g 0 2) := q3.1
      have HV3 : Hid (SVar w3 g p (.slice ai ni ci)) := q3.2.1
      have k4 : w3.cell? ⟨g, 1, none⟩ = some (.slice ai ni ci) := q3.2.1.2.1
      have hbg : Below wr.heap.size wr w3 := by rw [hg]; exact q3.2.2
      have HB3 : Hid (Below w.heap.size w w3) := HB.out.trans (hbg.mono HB.out.size)
      have HC3 : Hid (BCells w3 d ni (accN ss xP k)) := HC.out.below hbg HGD.out
      have HG3 : Hid (d < w3.heap.size) := Nat.lt_of_lt_of_le HGD.out hbg.size
      have HWC : Hid (Calls Tryd.prog 27 #[.slice (some ⟨b, o, none⟩) n c, .int .i64 (k : Int), .int .u8 (xP : Int)] w3 fun e w' => e = .returned (.int .u8 ((wtS ss xP k : Nat) : Int)) ∧ Below w3.heap.size w3 w') := wweight_any b o n c k ss w3 (HR.out.below HB3.out) hn20 HLT.out HND.out xP hxP
      have hwt8 := wtS_lt ss xP k
      obtain ⟨wt, hwt⟩ : ∃ wt, wtS ss xP k = wt := ⟨_, rfl⟩
      rw [hwt] at HWC HST hwt8
      clear q3 HB HC HGD hbg hwt
      go_wp2_with (first
          | (refine wpList_loadSh (by rfl) (.tmp 22) (by rfl) b (o + k * 2) (p, ai, ni, ci) (by rfl) HX.out ?_)
          | (refine wpList_allocSh (by rfl) (by rfl) g hg w2 hw2 ?_)
          | (refine wpList_storeSh (by rfl) (.tmp 7) (.tmp 23) (by rfl) g (p, ai, ni, ci) (by rfl) (by rfl) HT2.out w3 hw3 ?_))
      refine HWC.out.mono ?_
      rintro e w4 ⟨rfl, hb4⟩
      have HB4 : Hid (Below w.heap.size w w4) := HB3.out.trans (hb4.mono HB3.out.size)
      have HC4 : Hid (BCells w4 d ni (accN ss xP k)) := HC3.out.below hb4 HG3.out
      have HG4 : Hid (d < w4.heap.size) := Nat.lt_of_lt_of_le HG3.out hb4.size
      have k5 := (hb4.cell (p := ⟨g, 1, none⟩) HV3.out.lt).trans k4
      have HBV4 : Hid (Below w3.heap.size w3 w4) := hb4
      clear k4 hb4 HB3 HC3 HG3 HWC HT2 HX hw3 hw2 hg
      go_wp2_with fail
      go_loopw [31] (fun iv wr => ∃ i : Nat, iv = .int .i64 (i : Int) ∧ i ≤ ni ∧ Hid (BCells wr d ni (fun j => accN ss xP (if j < i then k + 1 else k) j)) ∧ Hid (Below w.heap.size w wr) ∧ Hid (d < wr.heap.size)) (fun iv _ => ni - (intOf iv).toNat)
      case atStart => exact ⟨0, rfl, Nat.zero_le _, HC4.out, HB4.out, HG4.out⟩
      case round =>
        clear HC4 HB4 HG4 HBV4 HV3 k5
        obtain ⟨i, rfl, hi, HC, HB, HGD⟩ := hrel
        by_cases hli : i < ni
        · obtain ⟨bi, oi, hai, hcell⟩ : ∃ bi oi, ai = some ⟨bi, oi, none⟩ ∧ wr.cell? ⟨bi, oi + i, none⟩ = some (.int .u8 (nth (ss.getD k noS).2 i)) := by
            rcases (HROW.out wr HB.out).2 with h0 | ⟨bi, oi, e, hc⟩
            · omega
            · exact ⟨bi, oi, e, hc i hli⟩
          subst hai
          rw [nth_toNat] at hcell
          have hy8 := UInt8.toNat_lt ((ss.getD k noS).2.getD i 0)
          have HSI := HST.out i
          have i0 : (0 : Int) ≤ (i : Int) := by omega
          have i1 : (i : Int) < (ni : Int) := by omega
          have HIF : Hid (i < ni) := hli
          obtain ⟨y, hy⟩ : ∃ y, ((ss.getD k noS).2.getD i 0).toNat = y := ⟨_, rfl⟩
          rw [hy] at hcell hy8 HSI
          have hx8 := accN_lt ss xP k i
          have hcx : (fun wx : World => wx.cell? ⟨d, i, none⟩ = some (.int .u8 ((accN ss xP k i : Nat) : Int))) wr.drew := by
            have := (BCells.at (HC.out.below (below_drewN wr 1) HGD.out) hli).1
            simp only [if_neg (Nat.lt_irrefl i)] at this
            exact this
          obtain ⟨x, hx⟩ : ∃ x, accN ss xP k i = x := ⟨_, rfl⟩
          rw [hx] at hx8 HSI hcx
          have HSd : Hid ((fun wx : World => wx.cell? ⟨d, i, none⟩ = some (.int .u8 (x : Int))) wr.drew) := hcx
          obtain ⟨z, hz⟩ : ∃ z, accN ss xP (k + 1) i = z := ⟨_, rfl⟩
          have HZ : Hid (accN ss xP (k + 1) i = z) := hz
          rw [hz] at HSI
          have hm8 := gm_lt wt y
          have HMU : Hid (∀ wx, Calls Tryd.prog 29 #[.int .u8 (wt : Int), .int .u8 (y : Int)] wx fun e w' => e = .returned (.int .u8 ((gm wt y : Nat) : Int)) ∧ w' = wx) := fun wx => wfield_mul0 wt y wx hwt8 hy8
          have HAD : Hid (∀ wx, Calls Tryd.prog 28 #[.int .u8 (x : Int), .int .u8 ((gm wt y : Nat) : Int)] wx fun e w' => e = .returned (.int .u8 (z : Int)) ∧ w' = wx) := fun wx => by rw [HSI]; exact wfield_add0 x (gm wt y) wx hx8 hm8
          generalize gm wt y = m at *
          clear HSI hcx hz hx hy hli hi
          go_upto_region 9 with fail
          try simp only [Act.put, List.setIfInBounds_toArray, List.set_cons_zero, List.set_cons_succ]
          refine wp_region_noPanic ?_
          refine wp_region_till (S := fun wx => wx.cell? ⟨d, i, none⟩ = some (.int .u8 (x : Int))) 11 (by kernel_rfl) HSd.out (fun hHeld => ?_)
          try simp only [Act.put, List.setIfInBounds_toArray, List.set_cons_zero, List.set_cons_succ]
          have HCd : Hid (BCells wr.drew d ni (fun j => accN ss xP (if j < i then k + 1 else k) j)) := HC.out.below (below_drewN wr 1) HGD.out
          have HBd : Hid (Below w.heap.size w wr.drew) := HB.out.trans ((below_drewN wr 1).mono HB.out.size)
          have HGd : Hid (d < wr.drew.heap.size) := Nat.lt_of_lt_of_le HGD.out (below_drewN wr 1).size
          have HVd : Hid True := trivial
          generalize wr.drew = wd at *
          refine wpAnyT_take (i := 0) (v := .slice (some ⟨d, 0, none⟩) ni ni) (by simp only [List.getElem?_toArray, List.getElem?_cons_zero, List.getElem?_cons_succ]; rfl) (by kernel_rfl) (by kernel_rfl) (by kernel_rfl) (by kernel_rfl) (fun _ _ _ h => h) (Or.inl ⟨by rfl, ?_⟩) hHeld ?_
          · intro w hSw
            go_simp
          try simp only [Act.put, List.setIfInBounds_toArray, List.set_cons_zero, List.set_cons_succ]
          refine wpAnyT_take (i := 1) (v := .int .i64 (i : Int)) (by simp only [List.getElem?_toArray, List.getElem?_cons_zero, List.getElem?_cons_succ]; rfl) (by kernel_rfl) (by kernel_rfl) (by kernel_rfl) (by kernel_rfl) (fun _ _ _ h => h) (Or.inl ⟨by rfl, ?_⟩) hHeld ?_
          · intro w hSw
            go_simp
          try simp only [Act.put, List.setIfInBounds_toArray, List.set_cons_zero, List.set_cons_succ]
          refine wpAnyT_take (i := 2) (v := .slice (some ⟨d, 0, none⟩) ni ni) (by simp only [List.getElem?_toArray, List.getElem?_cons_zero, List.getElem?_cons_succ]; rfl) (by kernel_rfl) (by kernel_rfl) (by kernel_rfl) (by kernel_rfl) (fun _ _ _ h => h) (Or.inl ⟨by rfl, ?_⟩) hHeld ?_
          · intro w hSw
            go_simp
          try simp only [Act.put, List.setIfInBounds_toArray, List.set_cons_zero, List.set_cons_succ]
          refine wpAnyT_take (i := 3) (v := .int .i64 (i : Int)) (by simp only [List.getElem?_toArray, List.getElem?_cons_zero, List.getElem?_cons_succ]; rfl) (by kernel_rfl) (by kernel_rfl) (by kernel_rfl) (by kernel_rfl) (fun _ _ _ h => h) (Or.inl ⟨by rfl, ?_⟩) hHeld ?_
          · intro w hSw
            go_simp
          try simp only [Act.put, List.setIfInBounds_toArray, List.set_cons_zero, List.set_cons_succ]
          refine wpAnyT_take (i := 4) (v := .pointer (some ⟨d, i, none⟩)) (by simp only [List.getElem?_toArray, List.getElem?_cons_zero, List.getElem?_cons_succ]; rfl) (by kernel_rfl) (by kernel_rfl) (by kernel_rfl) (by kernel_rfl) (fun _ _ _ h => h) (Or.inl ⟨by rfl, ?_⟩) hHeld ?_
          · intro w hSw
            go_simp
          try simp only [Act.put, List.setIfInBounds_toArray, List.set_cons_zero, List.set_cons_succ]
          refine wpAnyT_take (i := 5) (v := .int .u8 (x : Int)) (by simp only [List.getElem?_toArray, List.getElem?_cons_zero, List.getElem?_cons_succ]; rfl) (by kernel_rfl) (by kernel_rfl) (by kernel_rfl) (by kernel_rfl) (fun _ _ _ h => h) (Or.inl ⟨by rfl, ?_⟩) hHeld ?_
          · intro w hSw
            go_simp
          try simp only [Act.put, List.setIfInBounds_toArray, List.set_cons_zero, List.set_cons_succ]
          refine wpAnyT_take (i := 6) (v := .int .u8 (wt : Int)) (by simp only [List.getElem?_toArray, List.getElem?_cons_zero, List.getElem?_cons_succ]; rfl) (by kernel_rfl) (by kernel_rfl) (by kernel_rfl) (by kernel_rfl) (fun _ _ _ h => h) (Or.inl ⟨by rfl, ?_⟩) hHeld ?_
          · intro w hSw
            go_simp
          try simp only [Act.put, List.setIfInBounds_toArray, List.set_cons_zero, List.set_cons_succ]
          refine wpAnyT_take (i := 7) (v := .int .u8 (y : Int)) (by simp only [List.getElem?_toArray, List.getElem?_cons_zero, List.getElem?_cons_succ]; rfl) (by kernel_rfl) (by kernel_rfl) (by kernel_rfl) (by kernel_rfl) (fun _ _ _ h => h) (Or.inl ⟨by rfl, ?_⟩) hHeld ?_
          · intro w hSw
            go_simp
          try simp only [Act.put, List.setIfInBounds_toArray, List.set_cons_zero, List.set_cons_succ]
          refine wpAnyT_ready (rs := [8]) (by kernel_rfl) (by simp) ?_
          refine AllReadyT.cons (by simp only [List.getElem?_toArray, List.getElem?_cons_zero, List.getElem?_cons_succ]; rfl) (fun K hK => ?_) AllReadyT.nil
          rw [if_pos (by rfl)]
          go_simp
          refine (HMU.out wd).mono ?_
          rintro e wn ⟨rfl, hq⟩
          have hq' : wd = wn := hq.symm
          subst hq'
          go_wp2_with fail
          refine hK.out _ _ hHeld (fun hHeld => ?_)
          clear hK K
          try simp only [Act.put, List.setIfInBounds_toArray, List.set_cons_zero, List.set_cons_succ]
          refine wpAnyT_ready (rs := [9]) (by kernel_rfl) (by simp) ?_
          refine AllReadyT.cons (by simp only [List.getElem?_toArray, List.getElem?_cons_zero, List.getElem?_cons_succ]; rfl) (fun K hK => ?_) AllReadyT.nil
          rw [if_pos (by rfl)]
          go_simp
          refine (HAD.out wd).mono ?_
          rintro e wn ⟨rfl, hq⟩
          have hq' : wd = wn := hq.symm
          subst hq'
          go_wp2_with fail
          refine hK.out _ _ hHeld (fun hHeld => ?_)
          clear hK K
          try simp only [Act.put, List.setIfInBounds_toArray, List.set_cons_zero, List.set_cons_succ]
          refine wpAnyT_take (i := 10) (v := .pointer (some ⟨d, i, none⟩)) (by simp only [List.getElem?_toArray, List.getElem?_cons_zero, List.getElem?_cons_succ]; rfl) (by kernel_rfl) (by kernel_rfl) (by kernel_rfl) (by kernel_rfl) (fun _ _ _ h => h) (Or.inl ⟨by rfl, ?_⟩) hHeld ?_
          · intro w hSw
            go_simp
          try simp only [Act.put, List.setIfInBounds_toArray, List.set_cons_zero, List.set_cons_succ]
          refine wpAnyT_ready (rs := [11]) (by kernel_rfl) (by simp) ?_
          refine AllReadyT.lastly (by simp only [List.getElem?_toArray, List.getElem?_cons_zero, List.getElem?_cons_succ]; rfl) rfl (fun K hK => ?_) AllReadyT.nil
          rw [if_pos (by rfl)]
          have hc0 := (HCd.out.at HIF.out).2
          go_simp
          refine hK.out _ _ ?_
          clear hK K
          try simp only [Act.put, List.setIfInBounds_toArray, List.set_cons_zero, List.set_cons_succ]
          refine wpAnyT_done (by kernel_rfl) (NoPanic.normal ?_) _
          clear hHeld
          have hset := HCd.out.set (v := z) (f' := fun j => accN ss xP (if j < i + 1 then k + 1 else k) j) HIF.out (fun j hj => by
            by_cases c1 : j = i
            · subst c1
              rw [if_pos rfl, if_pos (by omega)]
              exact HZ.out
            · rw [if_neg c1]
              by_cases c2 : j < i
              · rw [if_pos c2, if_pos (by omega)]
              · rw [if_neg c2, if_neg (by omega)])
          have HS : Hid (BCells (wd.setCell ⟨d, i, none⟩ (.int .u8 (z : Int))) d ni (fun j => accN ss xP (if j < i + 1 then k + 1 else k) j)) := hset
          have HBN : Hid (Below w.heap.size w (wd.setCell ⟨d, i, none⟩ (.int .u8 (z : Int)))) := HBd.out.setCell (p := ⟨d, i, none⟩) HD.out _
          have HGN : Hid (d < (wd.setCell ⟨d, i, none⟩ (.int .u8 (z : Int))).heap.size) := Nat.lt_of_lt_of_le HGd.out (gro_cell _ _ _ _).size
          go_wp2_with fail
          go_roundw
          case rel => exact ⟨i + 1, by go_num, by have := HIF.out; omega, HS.out, HBN.out, HGN.out⟩
          case measure => have := HIF.out; simp [intOf]; omega
        · have hin : i = ni := by omega
          subst hin
          have g5 : ¬ (i : Int) < (i : Int) := by omega
          have HCN : Hid (BCells wr d i (accN ss xP (k + 1))) := ⟨HC.out.1, fun j hj => by
            have := HC.out.2 j hj
            simp only [if_pos hj] at this
            exact this⟩
          clear hli hi HC
          go_wp2_with fail
          go_roundw
          case rel => exact ⟨k + 1, by go_num, by have := HLT.out; omega, HCN.out, HB.out, HGD.out⟩
          case measure => have := HLT.out; simp [intOf]; omega
    · have hkn : k = n := by omega
      subst hkn
      have g5 : ¬ (k : Int) < (k : Int) := by omega
      clear hlt hk
      have hml : (mixL ss xP F k 0).length = F := mixL_length _ _ _ _ _
      have HROW : Hid (Row wr (some ⟨d, 0, none⟩) F (mixL ss xP F k 0)) := HC.out.row hml (fun j hj => by
        rw [mixL_at ss hj, if_neg (by omega)]
        have := accN_lt ss xP k j
        rw [UInt8.toNat_ofNat']
        omega)
      have HJP : Hid (joinedP ss xP (mixL ss xP F k 0)) := by
        have := mixL_joined hxP HP.out HND.out
        rwa [HL.out, ← HFE.out] at this
      clear hml
      have hsz := HB.out.size
      go_wp2_with fail
      go_ret
      exact ⟨⟨d, F, rfl, HD.out, HGD.out, HFE.out, hF47, HROW.out, HJP.out⟩, HB.out⟩
end Go.Proofs.YtghiniaijobonaaDoor
