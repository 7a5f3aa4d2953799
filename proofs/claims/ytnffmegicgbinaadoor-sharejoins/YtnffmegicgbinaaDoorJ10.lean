/- Texts of this claim, joined: Rthrough, Rjoined, Rsplit, Shw. -/
import Derived.Test.YtnffmegicgbinaaDoorJ09
import Derived.Test.YtnffmegicgbinaaDoorJ04
import Derived.Test.YtnffmegicgbinaaDoorJ05
import Derived.Deep.RegionHeld3
import Derived.Deep.DeepCutAuto
import Derived.Laws.BitsAllLaws
import Derived.Test.YtnffmegicgbinaaDoorJ08
import Derived.Test.YtnffmegicgbinaaDoorJ07
import Derived.Laws.IdiomCopy
import Derived.OwnWalk
/- The contract of oathbookref2.Through. -/
namespace Go.Proofs.YtnffmegicgbinaaDoor
open Go.RowKit
set_option linter.unusedVariables false
set_option linter.unusedSimpArgs false

theorem Tryd.infoSh8 : (Tryd.prog.info? 5).map (fun i => (i.zero, i.size, i.bytes)) = some (some (.int .u8 0), 1, 1) := by kernel_rfl
theorem own_kl {w : World} {B g n cap : Nat} {l : List UInt8} (h : OwnL w B (.slice (some ⟨g, 0, none⟩) n cap) l) (hl : l.length = n) : OwnK .u8 5 w B g n cap (fun i => nth l i) := by
  unfold OwnL at h
  unfold OwnK
  have e : ((List.range n).map fun i => Value.int .u8 (nth l i)) = cellsB l := by
    apply List.ext_getElem?
    intro i
    by_cases hi : i < n
    · rw [cellsB_at l i (by omega), List.getElem?_map, List.getElem?_range hi]
      rfl
    · rw [List.getElem?_eq_none (by simp; omega), List.getElem?_eq_none (by rw [cellsB_length]; omega)]
  rw [e]
  rw [hl] at h
  exact h
/-- The row while round k + 1 goes down to i. -/
def rowd (A V : Nat → Nat) (k i : Nat) : Nat → Nat := fun j => if i < j then ddm A V (k + 1) j else ddm A V k j
theorem rowd_top (A V : Nat → Nat) (k n : Nat) (hn : 0 < n) : ∀ j, j < n → ((rowd A V k (n - 1) j : Nat) : Int) = ((ddm A V k j : Nat) : Int) := fun j hj => by
  unfold rowd
  rw [if_neg (by omega)]
theorem rowd_end (A V : Nat → Nat) (k : Nat) : ∀ j, ((rowd A V k k j : Nat) : Int) = ((ddm A V (k + 1) j : Nat) : Int) := fun j => by
  unfold rowd
  by_cases c : k < j
  · rw [if_pos c]
  · rw [if_neg c]
    simp only [ddm]
    rw [if_pos (by omega)]
theorem rowd_step (A V : Nat → Nat) (k i : Nat) (hk : k < i) : ∀ j, ((rowd A V k (i - 1) j : Nat) : Int) = if j = i then ((gm (ddm A V k i ^^^ ddm A V k (i - 1)) (ginv (A i ^^^ A (i - (k + 1)))) : Nat) : Int) else ((rowd A V k i j : Nat) : Int) := fun j => by
  unfold rowd
  by_cases c : j = i
  · subst c
    rw [if_pos rfl, if_pos (by omega)]
    simp only [ddm]
    rw [if_neg (by omega)]
  · rw [if_neg c]
    by_cases d : i < j
    · rw [if_pos (by omega), if_pos d]
    · rw [if_neg (by omega), if_neg d]
set_option maxRecDepth 100000 in
set_option maxHeartbeats 2000000 in
theorem rthrough_any (a1 : Option Addr) (c1 : Nat) (at' : List UInt8) (a2 : Option Addr) (c2 : Nat) (v : List UInt8) (n x : Nat) (w : World) (R1 : Row w a1 n at') (R2 : Row w a2 n v) (h1 : n ≤ c1) (h2 : n ≤ c2) (hn0 : 0 < n) (hn : n ≤ 1000) (hx : x < 256) (hd : (nb at').Nodup) :
    Calls Tryd.prog 27 #[.slice a1 n c1, .slice a2 n c2, .int .u8 (x : Int)] w fun e w' => e = .returned (.int .u8 ((hsum (fun i => (nb at').getD i 0) (fun i => ddm (fun i => (nb at').getD i 0) (fun i => (nb v).getD i 0) (n - 1) i) x n 0 : Nat) : Int)) ∧ Below w.heap.size w w' := by
  obtain ⟨iU, hiU, hzU0, hzU1, hzU2⟩ := info_parts Tryd.infoSh8
  have HL : Hid (at'.length = n ∧ v.length = n) := ⟨R1.1, R2.1⟩
  have HNE : Hid (∀ i j, i < n → j < n → i ≠ j → (nb at').getD i 0 ≠ (nb at').getD j 0) := fun i j hi hj hij => by
    have e1 := HL.out.1
    have hl : (nb at').length = n := by rw [nb_len, e1]
    rw [List.getD_eq_getElem?_getD, List.getD_eq_getElem?_getD, List.getElem?_eq_getElem (by omega), List.getElem?_eq_getElem (by omega)]
    have hp := List.pairwise_iff_getElem.1 (List.nodup_iff_pairwise_ne.1 hd)
    intro e
    rcases Nat.lt_or_gt_of_ne hij with q | q
    · exact hp i j (by omega) (by omega) q e
    · exact hp j i (by omega) (by omega) q e.symm
  have HV0 : Hid (∀ j, nth v j = ((((nb v).getD j 0) : Nat) : Int)) := fun j => nth_nb v j
  have HAN : Hid (∀ j, nth at' j = ((((nb at').getD j 0) : Nat) : Int)) := fun j => nth_nb at' j
  obtain ⟨A, hA⟩ : ∃ A, (fun i => (nb at').getD i 0) = A := ⟨_, rfl⟩
  obtain ⟨V, hV⟩ : ∃ V, (fun i => (nb v).getD i 0) = V := ⟨_, rfl⟩
  have HA : Hid (∀ i, (nb at').getD i 0 = A i) := fun i => by rw [← hA]
  have HVV : Hid (∀ i, (nb v).getD i 0 = V i) := fun i => by rw [← hV]
  have HAB : Hid ((∀ i, A i < 256) ∧ (∀ i, V i < 256)) := ⟨fun i => by rw [← hA]; exact getD_bys (nb_bys at') i, fun i => by rw [← hV]; exact getD_bys (nb_bys v) i⟩
  have HNA : Hid (∀ i j, i < n → j < n → i ≠ j → A i ≠ A j) := fun i j hi hj hij => by rw [← HA.out, ← HA.out]; exact HNE.out i j hi hj hij
  rw [hA, hV]
  clear hA hV hd HNE
  obtain ⟨b, ob, ha1, hc1⟩ := R1.2.resolve_left (by omega)
  subst ha1
  have hbw : b < w.heap.size := cell_block (hc1 0 hn0)
  have HC1 : Hid (∀ wx, Below w.heap.size w wx → ∀ i, i < n → wx.cell? ⟨b, ob + i, none⟩ = some (.int .u8 ((A i : Nat) : Int))) := fun wx hx i hi => by
    rw [(hx.cell (p := ⟨b, ob + i, none⟩) hbw).trans (hc1 i hi), HAN.out, HA.out]
  have HRV : Hid (Row w a2 n v) := R2
  have HBW : Hid (b < w.heap.size) := hbw
  clear R1 R2 hc1 hbw HAN
  have HO0 : Hid (OwnL (w.alloc (.cells #[] 5)) w.heap.size (.slice (some ⟨w.heap.size, 0, none⟩) 0 0) []) := OwnL.lit0 w w.heap.size (Nat.le_refl _)
  have HBa : Hid (Below w.heap.size w (w.alloc (.cells #[] 5))) := (Below.refl _ _).alloc (Nat.le_refl _) _
  have HRa : Hid (Row (w.alloc (.cells #[] 5)) a2 n v) := HRV.out.below HBa.out
  go_enter Tryd.func27, Tryd.ntmps27
  go_wp2_with (first
    | (at_builtin; go_loud (refine wpList_append_bytes (by rfl) (.tmp 12) (.tmp 13) 22 (by rfl) w.heap.size iU Tryd.underlying22 hiU hzU0 hzU1 hzU2 (.slice (some ⟨w.heap.size, 0, none⟩) 0 0) [] (by rfl) HO0.out a2 n c2 v (by rfl) HRa.out (by simp; omega) HBa.out.size ?_); intro v4 w4 ho4 hg4; have HO4 : Hid (OwnL w4 w.heap.size v4 v) := ho4; have HB4 : Hid (Below w.heap.size w w4) := OwnL.grown HO0.out HBa.out hg4 (Nat.le_refl _) HBa.out.size; clear ho4 hg4))
  obtain ⟨g, cap, hv4, _⟩ := HO4.out.formSome (by rw [HL.out.2]; exact hn0)
  rw [HL.out.2] at hv4
  subst hv4
  have HK4 : Hid (OwnK .u8 5 w4 w.heap.size g n cap (fun i => ((ddm A V 0 i : Nat) : Int))) := OwnK.congr (own_kl HO4.out HL.out.2) (fun i hi => by rw [HV0.out, HVV.out]; rfl)
  clear HO4 HO0 HBa HRa HRV HV0 HVV HA
  have hnn : (0 : Int) < (n : Int) := by omega
  go_wp2_with fail
  go_loopw [8] (fun kv wr => ∃ k : Nat, kv = .int .i64 ((k : Int) + 1) ∧ k + 1 ≤ n ∧ Hid (OwnK .u8 5 wr w.heap.size g n cap (fun i => ((ddm A V k i : Nat) : Int)) ∧ Below w.heap.size w wr)) (fun kv _ => n - (intOf kv).toNat)
  case atStart => exact ⟨0, rfl, by omega, HK4.out, HB4.out⟩
  case round =>
    clear HK4 HB4
    obtain ⟨k, rfl, hk, HK⟩ := hrel
    by_cases hlt : k + 1 < n
    · have g1 : (k : Int) + 1 < (n : Int) := by omega
      have HKN : Hid (k + 1 < n) := hlt
      have e1 : (n : Int) - 1 = ((n - 1 : Nat) : Int) := by omega
      have b1 : n - 1 ≤ 1000 := by omega
      have HI0 : Hid (n - 1 < n ∧ k ≤ n - 1 ∧ OwnK .u8 5 wr w.heap.size g n cap (fun i => ((rowd A V k (n - 1) i : Nat) : Int)) ∧ Below w.heap.size w wr) := ⟨by omega, by omega, OwnK.congr HK.out.1 (fun i hi => (rowd_top A V k n hn0 i hi).symm), HK.out.2⟩
      clear HK
      generalize n - 1 = i0 at *
      go_wp2_with fail
      go_loopw [9] (fun iv wq => ∃ i : Nat, iv = .int .i64 (i : Int) ∧ k ≤ i ∧ i < n ∧ Hid (OwnK .u8 5 wq w.heap.size g n cap (fun j => ((rowd A V k i j : Nat) : Int)) ∧ Below w.heap.size w wq)) (fun iv _ => (intOf iv).toNat)
      case atStart => exact ⟨i0, rfl, HI0.out.2.1, HI0.out.1, HI0.out.2.2⟩
      case round =>
        clear HI0 e1 b1
        obtain ⟨i, rfl, hki, hin, HR⟩ := hrel
        by_cases hik : k < i
        · have g2 : (k : Int) + 1 ≤ (i : Int) := by omega
          have HST : Hid (∀ j, ((rowd A V k (i - 1) j : Nat) : Int) = if j = i then ((gm (ddm A V k i ^^^ ddm A V k (i - 1)) (ginv (A i ^^^ A (i - (k + 1)))) : Nat) : Int) else ((rowd A V k i j : Nat) : Int)) := rowd_step A V k i hik
          have HCI : Hid (∀ wx, Below wr.heap.size wr wx → wx.cell? ⟨g, i, none⟩ = some (.int .u8 ((ddm A V k i : Nat) : Int)) ∧ wx.cell? ⟨g, i - 1, none⟩ = some (.int .u8 ((ddm A V k (i - 1) : Nat) : Int)) ∧ wx.cell? ⟨b, ob + i, none⟩ = some (.int .u8 ((A i : Nat) : Int)) ∧ wx.cell? ⟨b, ob + (i - (k + 1)), none⟩ = some (.int .u8 ((A (i - (k + 1)) : Nat) : Int)) ∧ OwnK .u8 5 wx w.heap.size g n cap (fun j => ((rowd A V k i j : Nat) : Int)) ∧ Below w.heap.size w wx) := fun wx hx => by
            have hb := HR.out.2.trans (hx.mono HR.out.2.size)
            have ho := HR.out.1.keptBelow hx HR.out.1.base.2
            have q1 := ho.cell i hin
            have q2 := ho.cell (i - 1) (by omega)
            have r1 : rowd A V k i i = ddm A V k i := by unfold rowd; rw [if_neg (by omega)]
            have r2 : rowd A V k i (i - 1) = ddm A V k (i - 1) := by unfold rowd; rw [if_neg (by omega)]
            rw [r1] at q1
            rw [r2] at q2
            exact ⟨q1, q2, HC1.out wx hb i hin, HC1.out wx hb (i - (k + 1)) (by omega), ho, hb⟩
          have hsne : A i ^^^ A (i - (k + 1)) ≠ 0 := xor_ne (HNA.out i (i - (k + 1)) hin (by omega) (by omega))
          have hs8 := xor_lt256 (HAB.out.1 i) (HAB.out.1 (i - (k + 1)))
          have hp8 := xor_lt256 (ddm_lt (A := A) HAB.out.2 k i) (ddm_lt (A := A) HAB.out.2 k (i - 1))
          have hx1 : bits .xor .u8 ((ddm A V k i : Nat) : Int) ((ddm A V k (i - 1) : Nat) : Int) = ((ddm A V k i ^^^ ddm A V k (i - 1) : Nat) : Int) := u8_xor_nat _ _ (ddm_lt HAB.out.2 k i) (ddm_lt HAB.out.2 k (i - 1))
          have hx2 : bits .xor .u8 ((A i : Nat) : Int) ((A (i - (k + 1)) : Nat) : Int) = ((A i ^^^ A (i - (k + 1)) : Nat) : Int) := u8_xor_nat _ _ (HAB.out.1 i) (HAB.out.1 _)
          have HIV : Hid (∀ wx, Calls Tryd.prog 37 #[.int .u8 ((A i ^^^ A (i - (k + 1)) : Nat) : Int)] wx fun e w' => e = .returned (.int .u8 ((ginv (A i ^^^ A (i - (k + 1))) : Nat) : Int)) ∧ w' = wx) := fun wx => rinv_any _ wx hs8 hsne
          have HML : Hid (∀ wx, Calls Tryd.prog 23 #[.int .u8 ((ddm A V k i ^^^ ddm A V k (i - 1) : Nat) : Int), .int .u8 ((ginv (A i ^^^ A (i - (k + 1))) : Nat) : Int)] wx fun e w' => e = .returned (.int .u8 ((gm (ddm A V k i ^^^ ddm A V k (i - 1)) (ginv (A i ^^^ A (i - (k + 1)))) : Nat) : Int)) ∧ w' = wx) := fun wx => rmul_any _ _ wx hp8 (ginv_lt _)
          have lm := gm_lt (ddm A V k i ^^^ ddm A V k (i - 1)) (ginv (A i ^^^ A (i - (k + 1))))
          have e3 : (i : Int) - 1 = ((i - 1 : Nat) : Int) := by omega
          have e4 : (i : Int) - ((k : Int) + 1) = ((i - (k + 1) : Nat) : Int) := by omega
          have HIB : Hid (k ≤ i - 1 ∧ i - 1 < n ∧ i - 1 < i) := by unfold Hid; omega
          have i1n : i - 1 < n := by omega
          have imn : i - (k + 1) < n := by omega
          clear HR hsne hs8 hp8
          generalize gm (ddm A V k i ^^^ ddm A V k (i - 1)) (ginv (A i ^^^ A (i - (k + 1)))) = D at *
          generalize ginv (A i ^^^ A (i - (k + 1))) = iv at *
          generalize A i ^^^ A (i - (k + 1)) = s at *
          generalize ddm A V k i ^^^ ddm A V k (i - 1) = p at *
          generalize ddm A V k i = p1 at *
          generalize ddm A V k (i - 1) = p2 at *
          generalize A (i - (k + 1)) = s2 at *
          generalize A i = s1 at *
          generalize i - 1 = i1 at *
          generalize i - (k + 1) = im at *
          go_upto_region 8 with fail
          have z0 : (0 : Int) ≤ (i : Int) := by omega
          have z1 : (i : Int) < (n : Int) := by omega
          have z2 : (0 : Int) ≤ (i1 : Int) := by omega
          have z3 : (i1 : Int) < (n : Int) := by omega
          have z4 : (0 : Int) ≤ (im : Int) := by omega
          have z5 : (im : Int) < (n : Int) := by omega
          have y1 : IntKind.i64.wrap (i1 : Int) = (i1 : Int) := by rw [IntKind.wrap_i64]; omega
          have y2 : IntKind.i64.wrap (im : Int) = (im : Int) := by rw [IntKind.wrap_i64]; omega
          refine wp_region_noPanic ?_
          refine wp_region_till (S := fun wx => wx.cell? ⟨g, i, none⟩ = some (.int .u8 ((p1 : Nat) : Int)) ∧ wx.cell? ⟨g, i1, none⟩ = some (.int .u8 ((p2 : Nat) : Int)) ∧ wx.cell? ⟨b, ob + i, none⟩ = some (.int .u8 ((s1 : Nat) : Int)) ∧ wx.cell? ⟨b, ob + im, none⟩ = some (.int .u8 ((s2 : Nat) : Int))) 26 (by kernel_rfl) (by have q := HCI.out _ (below_drewN wr 1); exact ⟨q.1, q.2.1, q.2.2.1, q.2.2.2.1⟩) (fun hHeld => ?_)
          try simp only [Act.put, List.setIfInBounds_toArray, List.set_cons_zero, List.set_cons_succ]
          have HCW : Hid (wr.drew.cell? ⟨g, i, none⟩ = some (.int .u8 ((p1 : Nat) : Int)) ∧ wr.drew.cell? ⟨g, i1, none⟩ = some (.int .u8 ((p2 : Nat) : Int)) ∧ wr.drew.cell? ⟨b, ob + i, none⟩ = some (.int .u8 ((s1 : Nat) : Int)) ∧ wr.drew.cell? ⟨b, ob + im, none⟩ = some (.int .u8 ((s2 : Nat) : Int)) ∧ OwnK .u8 5 wr.drew w.heap.size g n cap (fun j => ((rowd A V k i j : Nat) : Int)) ∧ Below w.heap.size w wr.drew) := HCI.out _ (below_drewN wr 1)
          generalize wr.drew = wd at *
          have HGB : Hid (w.heap.size ≤ g) := HCW.out.2.2.2.2.1.base.1
          refine wpAnyT_take (i := 0) (v := ?_) (by simp only [List.getElem?_toArray, List.getElem?_cons_zero, List.getElem?_cons_succ]; rfl) (by kernel_rfl) (by kernel_rfl) (by kernel_rfl) (by kernel_rfl) (fun _ _ _ h => h) (Or.inl ⟨by rfl, ?_⟩) hHeld ?_
          rotate_left
          · intro w hSw
            obtain ⟨hSw0, hSw1, hSw2, hSw3⟩ := hSw
            go_simp
            try with_reducible rfl
          try simp only [Act.put, List.setIfInBounds_toArray, List.set_cons_zero, List.set_cons_succ]
          refine wpAnyT_take (i := 1) (v := ?_) (by simp only [List.getElem?_toArray, List.getElem?_cons_zero, List.getElem?_cons_succ]; rfl) (by kernel_rfl) (by kernel_rfl) (by kernel_rfl) (by kernel_rfl) (fun _ _ _ h => h) (Or.inl ⟨by rfl, ?_⟩) hHeld ?_
          rotate_left
          · intro w hSw
            obtain ⟨hSw0, hSw1, hSw2, hSw3⟩ := hSw
            go_simp
            try with_reducible rfl
          try simp only [Act.put, List.setIfInBounds_toArray, List.set_cons_zero, List.set_cons_succ]
          refine wpAnyT_take (i := 2) (v := ?_) (by simp only [List.getElem?_toArray, List.getElem?_cons_zero, List.getElem?_cons_succ]; rfl) (by kernel_rfl) (by kernel_rfl) (by kernel_rfl) (by kernel_rfl) (fun _ _ _ h => h) (Or.inl ⟨by rfl, ?_⟩) hHeld ?_
          rotate_left
          · intro w hSw
            obtain ⟨hSw0, hSw1, hSw2, hSw3⟩ := hSw
            go_simp
            try with_reducible rfl
          try simp only [Act.put, List.setIfInBounds_toArray, List.set_cons_zero, List.set_cons_succ]
          refine wpAnyT_take (i := 3) (v := ?_) (by simp only [List.getElem?_toArray, List.getElem?_cons_zero, List.getElem?_cons_succ]; rfl) (by kernel_rfl) (by kernel_rfl) (by kernel_rfl) (by kernel_rfl) (fun _ _ _ h => h) (Or.inl ⟨by rfl, ?_⟩) hHeld ?_
          rotate_left
          · intro w hSw
            obtain ⟨hSw0, hSw1, hSw2, hSw3⟩ := hSw
            go_simp
            try with_reducible rfl
          try simp only [Act.put, List.setIfInBounds_toArray, List.set_cons_zero, List.set_cons_succ]
          refine wpAnyT_take (i := 4) (v := ?_) (by simp only [List.getElem?_toArray, List.getElem?_cons_zero, List.getElem?_cons_succ]; rfl) (by kernel_rfl) (by kernel_rfl) (by kernel_rfl) (by kernel_rfl) (fun _ _ _ h => h) (Or.inl ⟨by rfl, ?_⟩) hHeld ?_
          rotate_left
          · intro w hSw
            obtain ⟨hSw0, hSw1, hSw2, hSw3⟩ := hSw
            go_simp
            try with_reducible rfl
          try simp only [Act.put, List.setIfInBounds_toArray, List.set_cons_zero, List.set_cons_succ]
          refine wpAnyT_take (i := 5) (v := ?_) (by simp only [List.getElem?_toArray, List.getElem?_cons_zero, List.getElem?_cons_succ]; rfl) (by kernel_rfl) (by kernel_rfl) (by kernel_rfl) (by kernel_rfl) (fun _ _ _ h => h) (Or.inl ⟨by rfl, ?_⟩) hHeld ?_
          rotate_left
          · intro w hSw
            obtain ⟨hSw0, hSw1, hSw2, hSw3⟩ := hSw
            go_simp
            try with_reducible rfl
          try simp only [Act.put, List.setIfInBounds_toArray, List.set_cons_zero, List.set_cons_succ]
          refine wpAnyT_take (i := 6) (v := ?_) (by simp only [List.getElem?_toArray, List.getElem?_cons_zero, List.getElem?_cons_succ]; rfl) (by kernel_rfl) (by kernel_rfl) (by kernel_rfl) (by kernel_rfl) (fun _ _ _ h => h) (Or.inl ⟨by rfl, ?_⟩) hHeld ?_
          rotate_left
          · intro w hSw
            obtain ⟨hSw0, hSw1, hSw2, hSw3⟩ := hSw
            go_simp
            try with_reducible rfl
          try simp only [Act.put, List.setIfInBounds_toArray, List.set_cons_zero, List.set_cons_succ]
          refine wpAnyT_take (i := 7) (v := ?_) (by simp only [List.getElem?_toArray, List.getElem?_cons_zero, List.getElem?_cons_succ]; rfl) (by kernel_rfl) (by kernel_rfl) (by kernel_rfl) (by kernel_rfl) (fun _ _ _ h => h) (Or.inl ⟨by rfl, ?_⟩) hHeld ?_
          rotate_left
          · intro w hSw
            obtain ⟨hSw0, hSw1, hSw2, hSw3⟩ := hSw
            go_simp
            try with_reducible rfl
          try simp only [Act.put, List.setIfInBounds_toArray, List.set_cons_zero, List.set_cons_succ]
          refine wpAnyT_take (i := 8) (v := ?_) (by simp only [List.getElem?_toArray, List.getElem?_cons_zero, List.getElem?_cons_succ]; rfl) (by kernel_rfl) (by kernel_rfl) (by kernel_rfl) (by kernel_rfl) (fun _ _ _ h => h) (Or.inl ⟨by rfl, ?_⟩) hHeld ?_
          rotate_left
          · intro w hSw
            obtain ⟨hSw0, hSw1, hSw2, hSw3⟩ := hSw
            go_simp
            try with_reducible rfl
          try simp only [Act.put, List.setIfInBounds_toArray, List.set_cons_zero, List.set_cons_succ]
          refine wpAnyT_take (i := 9) (v := ?_) (by simp only [List.getElem?_toArray, List.getElem?_cons_zero, List.getElem?_cons_succ]; rfl) (by kernel_rfl) (by kernel_rfl) (by kernel_rfl) (by kernel_rfl) (fun _ _ _ h => h) (Or.inl ⟨by rfl, ?_⟩) hHeld ?_
          rotate_left
          · intro w hSw
            obtain ⟨hSw0, hSw1, hSw2, hSw3⟩ := hSw
            go_simp
            try with_reducible rfl
          try simp only [Act.put, List.setIfInBounds_toArray, List.set_cons_zero, List.set_cons_succ]
          refine wpAnyT_take (i := 10) (v := ?_) (by simp only [List.getElem?_toArray, List.getElem?_cons_zero, List.getElem?_cons_succ]; rfl) (by kernel_rfl) (by kernel_rfl) (by kernel_rfl) (by kernel_rfl) (fun _ _ _ h => h) (Or.inl ⟨by rfl, ?_⟩) hHeld ?_
          rotate_left
          · intro w hSw
            obtain ⟨hSw0, hSw1, hSw2, hSw3⟩ := hSw
            go_simp
            try with_reducible rfl
          try simp only [Act.put, List.setIfInBounds_toArray, List.set_cons_zero, List.set_cons_succ]
          refine wpAnyT_take (i := 11) (v := ?_) (by simp only [List.getElem?_toArray, List.getElem?_cons_zero, List.getElem?_cons_succ]; rfl) (by kernel_rfl) (by kernel_rfl) (by kernel_rfl) (by kernel_rfl) (fun _ _ _ h => h) (Or.inl ⟨by rfl, ?_⟩) hHeld ?_
          rotate_left
          · intro w hSw
            obtain ⟨hSw0, hSw1, hSw2, hSw3⟩ := hSw
            go_simp
            try with_reducible rfl
          try simp only [Act.put, List.setIfInBounds_toArray, List.set_cons_zero, List.set_cons_succ]
          refine wpAnyT_take (i := 12) (v := ?_) (by simp only [List.getElem?_toArray, List.getElem?_cons_zero, List.getElem?_cons_succ]; rfl) (by kernel_rfl) (by kernel_rfl) (by kernel_rfl) (by kernel_rfl) (fun _ _ _ h => h) (Or.inl ⟨by rfl, ?_⟩) hHeld ?_
          rotate_left
          · intro w hSw
            obtain ⟨hSw0, hSw1, hSw2, hSw3⟩ := hSw
            go_simp
            try with_reducible rfl
          try simp only [Act.put, List.setIfInBounds_toArray, List.set_cons_zero, List.set_cons_succ]
          refine wpAnyT_take (i := 13) (v := ?_) (by simp only [List.getElem?_toArray, List.getElem?_cons_zero, List.getElem?_cons_succ]; rfl) (by kernel_rfl) (by kernel_rfl) (by kernel_rfl) (by kernel_rfl) (fun _ _ _ h => h) (Or.inl ⟨by rfl, ?_⟩) hHeld ?_
          rotate_left
          · intro w hSw
            obtain ⟨hSw0, hSw1, hSw2, hSw3⟩ := hSw
            go_simp
            try with_reducible rfl
          try simp only [Act.put, List.setIfInBounds_toArray, List.set_cons_zero, List.set_cons_succ]
          refine wpAnyT_take (i := 14) (v := ?_) (by simp only [List.getElem?_toArray, List.getElem?_cons_zero, List.getElem?_cons_succ]; rfl) (by kernel_rfl) (by kernel_rfl) (by kernel_rfl) (by kernel_rfl) (fun _ _ _ h => h) (Or.inl ⟨by rfl, ?_⟩) hHeld ?_
          rotate_left
          · intro w hSw
            obtain ⟨hSw0, hSw1, hSw2, hSw3⟩ := hSw
            go_simp
            try with_reducible rfl
          try simp only [Act.put, List.setIfInBounds_toArray, List.set_cons_zero, List.set_cons_succ]
          refine wpAnyT_take (i := 15) (v := ?_) (by simp only [List.getElem?_toArray, List.getElem?_cons_zero, List.getElem?_cons_succ]; rfl) (by kernel_rfl) (by kernel_rfl) (by kernel_rfl) (by kernel_rfl) (fun _ _ _ h => h) (Or.inl ⟨by rfl, ?_⟩) hHeld ?_
          rotate_left
          · intro w hSw
            obtain ⟨hSw0, hSw1, hSw2, hSw3⟩ := hSw
            go_simp
            try with_reducible rfl
          try simp only [Act.put, List.setIfInBounds_toArray, List.set_cons_zero, List.set_cons_succ]
          refine wpAnyT_take (i := 16) (v := ?_) (by simp only [List.getElem?_toArray, List.getElem?_cons_zero, List.getElem?_cons_succ]; rfl) (by kernel_rfl) (by kernel_rfl) (by kernel_rfl) (by kernel_rfl) (fun _ _ _ h => h) (Or.inl ⟨by rfl, ?_⟩) hHeld ?_
          rotate_left
          · intro w hSw
            obtain ⟨hSw0, hSw1, hSw2, hSw3⟩ := hSw
            go_simp
            try with_reducible rfl
          try simp only [Act.put, List.setIfInBounds_toArray, List.set_cons_zero, List.set_cons_succ]
          refine wpAnyT_take (i := 17) (v := ?_) (by simp only [List.getElem?_toArray, List.getElem?_cons_zero, List.getElem?_cons_succ]; rfl) (by kernel_rfl) (by kernel_rfl) (by kernel_rfl) (by kernel_rfl) (fun _ _ _ h => h) (Or.inl ⟨by rfl, ?_⟩) hHeld ?_
          rotate_left
          · intro w hSw
            obtain ⟨hSw0, hSw1, hSw2, hSw3⟩ := hSw
            go_simp
            try with_reducible rfl
          try simp only [Act.put, List.setIfInBounds_toArray, List.set_cons_zero, List.set_cons_succ]
          refine wpAnyT_take (i := 18) (v := ?_) (by simp only [List.getElem?_toArray, List.getElem?_cons_zero, List.getElem?_cons_succ]; rfl) (by kernel_rfl) (by kernel_rfl) (by kernel_rfl) (by kernel_rfl) (fun _ _ _ h => h) (Or.inl ⟨by rfl, ?_⟩) hHeld ?_
          rotate_left
          · intro w hSw
            obtain ⟨hSw0, hSw1, hSw2, hSw3⟩ := hSw
            go_simp
            try with_reducible rfl
          try simp only [Act.put, List.setIfInBounds_toArray, List.set_cons_zero, List.set_cons_succ]
          refine wpAnyT_take (i := 19) (v := ?_) (by simp only [List.getElem?_toArray, List.getElem?_cons_zero, List.getElem?_cons_succ]; rfl) (by kernel_rfl) (by kernel_rfl) (by kernel_rfl) (by kernel_rfl) (fun _ _ _ h => h) (Or.inl ⟨by rfl, ?_⟩) hHeld ?_
          rotate_left
          · intro w hSw
            obtain ⟨hSw0, hSw1, hSw2, hSw3⟩ := hSw
            go_simp
            try with_reducible rfl
          try simp only [Act.put, List.setIfInBounds_toArray, List.set_cons_zero, List.set_cons_succ]
          refine wpAnyT_take (i := 20) (v := ?_) (by simp only [List.getElem?_toArray, List.getElem?_cons_zero, List.getElem?_cons_succ]; rfl) (by kernel_rfl) (by kernel_rfl) (by kernel_rfl) (by kernel_rfl) (fun _ _ _ h => h) (Or.inl ⟨by rfl, ?_⟩) hHeld ?_
          rotate_left
          · intro w hSw
            obtain ⟨hSw0, hSw1, hSw2, hSw3⟩ := hSw
            go_simp
            try with_reducible rfl
          try simp only [Act.put, List.setIfInBounds_toArray, List.set_cons_zero, List.set_cons_succ]
          refine wpAnyT_take (i := 21) (v := ?_) (by simp only [List.getElem?_toArray, List.getElem?_cons_zero, List.getElem?_cons_succ]; rfl) (by kernel_rfl) (by kernel_rfl) (by kernel_rfl) (by kernel_rfl) (fun _ _ _ h => h) (Or.inl ⟨by rfl, ?_⟩) hHeld ?_
          rotate_left
          · intro w hSw
            obtain ⟨hSw0, hSw1, hSw2, hSw3⟩ := hSw
            go_simp
            try with_reducible rfl
          try simp only [Act.put, List.setIfInBounds_toArray, List.set_cons_zero, List.set_cons_succ]
          refine wpAnyT_take (i := 22) (v := ?_) (by simp only [List.getElem?_toArray, List.getElem?_cons_zero, List.getElem?_cons_succ]; rfl) (by kernel_rfl) (by kernel_rfl) (by kernel_rfl) (by kernel_rfl) (fun _ _ _ h => h) (Or.inl ⟨by rfl, ?_⟩) hHeld ?_
          rotate_left
          · intro w hSw
            obtain ⟨hSw0, hSw1, hSw2, hSw3⟩ := hSw
            go_simp
            try with_reducible rfl
          try simp only [Act.put, List.setIfInBounds_toArray, List.set_cons_zero, List.set_cons_succ]
          refine wpAnyT_ready (rs := [23]) (by kernel_rfl) (by simp) ?_
          refine AllReadyT.cons (by simp only [List.getElem?_toArray, List.getElem?_cons_zero, List.getElem?_cons_succ]; rfl) (fun K hK => ?_) AllReadyT.nil
          rw [if_pos (by rfl)]
          go_simp
          refine (HIV.out wd).mono ?_
          rintro e wn ⟨rfl, hq⟩
          have hq' : wd = wn := hq.symm
          subst hq'
          go_wp2_with fail
          refine hK.out _ _ hHeld (fun hHeld => ?_)
          clear hK K
          try simp only [Act.put, List.setIfInBounds_toArray, List.set_cons_zero, List.set_cons_succ]
          refine wpAnyT_ready (rs := [24]) (by kernel_rfl) (by simp) ?_
          refine AllReadyT.cons (by simp only [List.getElem?_toArray, List.getElem?_cons_zero, List.getElem?_cons_succ]; rfl) (fun K hK => ?_) AllReadyT.nil
          rw [if_pos (by rfl)]
          go_simp
          refine (HML.out wd).mono ?_
          rintro e wn ⟨rfl, hq⟩
          have hq' : wd = wn := hq.symm
          subst hq'
          go_wp2_with fail
          refine hK.out _ _ hHeld (fun hHeld => ?_)
          clear hK K
          try simp only [Act.put, List.setIfInBounds_toArray, List.set_cons_zero, List.set_cons_succ]
          refine wpAnyT_take (i := 25) (v := ?_) (by simp only [List.getElem?_toArray, List.getElem?_cons_zero, List.getElem?_cons_succ]; rfl) (by kernel_rfl) (by kernel_rfl) (by kernel_rfl) (by kernel_rfl) (fun _ _ _ h => h) (Or.inl ⟨by rfl, ?_⟩) hHeld ?_
          rotate_left
          · intro w hSw
            obtain ⟨hSw0, hSw1, hSw2, hSw3⟩ := hSw
            go_simp
            try with_reducible rfl
          try simp only [Act.put, List.setIfInBounds_toArray, List.set_cons_zero, List.set_cons_succ]
          refine wpAnyT_ready (rs := [26]) (by kernel_rfl) (by simp) ?_
          refine AllReadyT.lastly (by simp only [List.getElem?_toArray, List.getElem?_cons_zero, List.getElem?_cons_succ]; rfl) rfl (fun K hK => ?_) AllReadyT.nil
          rw [if_pos (by rfl)]
          have hc0 := HCW.out.1
          have hf0 := HCW.out.2.2.2.2.1.frozen i
          go_simp
          refine hK.out _ _ ?_
          clear hK K
          try simp only [Act.put, List.setIfInBounds_toArray, List.set_cons_zero, List.set_cons_succ]
          refine wpAnyT_done (by kernel_rfl) (NoPanic.normal ?_) _
          have HKN2 := OwnK.store HCW.out.2.2.2.2.1 i ((D : Nat) : Int)
          have HK2 : Hid (OwnK .u8 5 (wd.setCell ⟨g, i, none⟩ (.int .u8 (D : Int))) w.heap.size g n cap (fun j => ((rowd A V k i1 j : Nat) : Int)) ∧ Below w.heap.size w (wd.setCell ⟨g, i, none⟩ (.int .u8 (D : Int)))) := ⟨OwnK.congr HKN2 (fun j hj => (HST.out j).symm), HCW.out.2.2.2.2.2.setCell HGB.out _⟩
          clear HCW HKN2 HST HCI hx1 hx2 HIV HML
          generalize wd.setCell ⟨g, i, none⟩ (.int .u8 (D : Int)) = w9 at *
          go_wp2_with fail
          go_roundw
          case rel => exact ⟨i1, by go_num, HIB.out.1, HIB.out.2.1, HK2.out⟩
          case measure => have := HIB.out; simp [intOf]; omega
        · obtain rfl : i = k := by omega
          have HK2 : Hid (OwnK .u8 5 wr w.heap.size g n cap (fun j => ((ddm A V (i + 1) j : Nat) : Int)) ∧ Below w.heap.size w wr) := ⟨OwnK.congr HR.out.1 (fun j hj => rowd_end A V i j), HR.out.2⟩
          clear HR
          have g2 : ¬ (i : Int) + 1 ≤ (i : Int) := by omega
          go_wp2_with fail
          go_roundw
          case rel => exact ⟨i + 1, by go_num, HKN.out, HK2.out⟩
          case measure => have := HKN.out; simp [intOf]; omega
    · have hkn : k + 1 = n := by omega
      have HK3 : Hid (OwnK .u8 5 wr w.heap.size g n cap (fun i => ((ddm A V (n - 1) i : Nat) : Int)) ∧ Below w.heap.size w wr) := by rw [show n - 1 = k by omega]; exact HK.out
      have g1 : ¬ (k : Int) + 1 < (n : Int) := by omega
      have HD8 : Hid (∀ j, ddm A V (n - 1) j < 256) := fun j => ddm_lt HAB.out.2 _ _
      obtain ⟨D, hD⟩ : ∃ D, (fun i => ddm A V (n - 1) i) = D := ⟨_, rfl⟩
      have HDJ : Hid (∀ j, ddm A V (n - 1) j = D j) := fun j => by rw [← hD]
      have HD88 : Hid (∀ j, D j < 256) := fun j => by rw [← HDJ.out]; exact HD8.out j
      have HK4 : Hid (OwnK .u8 5 wr w.heap.size g n cap (fun i => ((D i : Nat) : Int)) ∧ Below w.heap.size w wr) := ⟨OwnK.congr HK3.out.1 (fun j hj => by rw [HDJ.out]), HK3.out.2⟩
      have HRES : Hid (hsum A (fun i => ddm A V (n - 1) i) x n 0 = hsum A D x n 0) := by unfold Hid; rw [hD]
      clear HK3 HD8 HDJ hD HK hlt
      go_wp2_with fail
      rename World => wo
      go_loopw [10, 11] (fun ov iv wq => ∃ u i : Nat, ov = .int .u8 (u : Int) ∧ iv = .int .i64 ((i : Int) - 1) ∧ u < 256 ∧ i ≤ n ∧ Hid (u = hsum A D x (n - i) i) ∧ Hid (OwnK .u8 5 wq w.heap.size g n cap (fun i => ((D i : Nat) : Int)) ∧ Below w.heap.size w wq)) (fun _ iv _ => (intOf iv + 1).toNat)
      case atStart => exact ⟨0, n, rfl, rfl, by omega, Nat.le_refl _, by rw [Nat.sub_self]; rfl, HK4.out⟩
      case round =>
        clear HK4
        obtain ⟨u, i, rfl, rfl, hu, hi, HU, HK5⟩ := hrel
        by_cases h0 : i = 0
        · subst h0
          have HF : Hid (hsum A D x n 0 = u ∧ Below w.heap.size w wr) := ⟨HU.out.symm, HK5.out.2⟩
          clear HU HK5
          go_wp2_with fail
          go_ret
          rw [HRES.out, HF.out.1]
          exact ⟨rfl, HF.out.2⟩
        · obtain ⟨j, hj⟩ : ∃ j, i = j + 1 := ⟨i - 1, by omega⟩
          subst hj
          have hjn : j < n := by omega
          have HST : Hid (gm u (x ^^^ A j) ^^^ D j = hsum A D x (n - j) j) := by
            unfold Hid
            rw [HU.out, show n - j = (n - (j + 1)) + 1 by omega]
            rfl
          have HCI : Hid (∀ wx, Below wr.heap.size wr wx → wx.cell? ⟨b, ob + j, none⟩ = some (.int .u8 ((A j : Nat) : Int)) ∧ wx.cell? ⟨g, j, none⟩ = some (.int .u8 ((D j : Nat) : Int)) ∧ OwnK .u8 5 wx w.heap.size g n cap (fun i => ((D i : Nat) : Int)) ∧ Below w.heap.size w wx) := fun wx hx => by
            have hb := HK5.out.2.trans (hx.mono HK5.out.2.size)
            have ho := HK5.out.1.keptBelow hx HK5.out.1.base.2
            exact ⟨HC1.out wx hb j hjn, ho.cell j hjn, ho, hb⟩
          have la := HAB.out.1 j
          have ld := HD88.out j
          have lx := xor_lt256 hx la
          have hx1 : bits .xor .u8 (x : Int) ((A j : Nat) : Int) = ((x ^^^ A j : Nat) : Int) := u8_xor_nat _ _ hx la
          have HML : Hid (∀ wx, Calls Tryd.prog 23 #[.int .u8 (u : Int), .int .u8 ((x ^^^ A j : Nat) : Int)] wx fun e w' => e = .returned (.int .u8 ((gm u (x ^^^ A j) : Nat) : Int)) ∧ w' = wx) := fun wx => rmul_any _ _ wx hu lx
          have lm := gm_lt u (x ^^^ A j)
          have hx2 : bits .xor .u8 ((gm u (x ^^^ A j) : Nat) : Int) ((D j : Nat) : Int) = ((gm u (x ^^^ A j) ^^^ D j : Nat) : Int) := u8_xor_nat _ _ lm ld
          have lr := xor_lt256 lm ld
          clear HU HK5
          generalize gm u (x ^^^ A j) ^^^ D j = r at *
          generalize gm u (x ^^^ A j) = m at *
          generalize x ^^^ A j = s at *
          generalize A j = aj at *
          generalize D j = dj at *
          have z0 : (0 : Int) ≤ (j : Int) := by omega
          have z1 : (j : Int) < (n : Int) := by omega
          have z2 : (j : Int) + 1 - 1 = (j : Int) := by omega
          have HJ : Hid (j ≤ n) := by unfold Hid; omega
          go_upto_region 13 with fail
          refine wp_region_noPanic ?_
          refine wp_region_held_drew (S := fun wx => wx.cell? ⟨b, ob + j, none⟩ = some (.int .u8 ((aj : Nat) : Int)) ∧ wx.cell? ⟨g, j, none⟩ = some (.int .u8 ((dj : Nat) : Int))) (by kernel_rfl) (by have q := HCI.out _ (below_drewN wr 1); exact ⟨q.1, q.2.1⟩) (fun hHeld => ?_)
          try simp only [Act.put, List.setIfInBounds_toArray, List.set_cons_zero, List.set_cons_succ]
          have HCW : Hid (wr.drew.cell? ⟨b, ob + j, none⟩ = some (.int .u8 ((aj : Nat) : Int)) ∧ wr.drew.cell? ⟨g, j, none⟩ = some (.int .u8 ((dj : Nat) : Int)) ∧ OwnK .u8 5 wr.drew w.heap.size g n cap (fun i => ((D i : Nat) : Int)) ∧ Below w.heap.size w wr.drew) := HCI.out _ (below_drewN wr 1)
          generalize wr.drew = wd at *
          refine wpAnyH_take (i := 0) (v := ?_) (by simp only [List.getElem?_toArray, List.getElem?_cons_zero, List.getElem?_cons_succ]; rfl) (by kernel_rfl) (by kernel_rfl) (by kernel_rfl) (fun _ _ _ h => h) (Or.inl ⟨by rfl, ?_⟩) hHeld ?_
          rotate_left
          · intro w hSw
            obtain ⟨hSw0, hSw1⟩ := hSw
            go_simp
            try with_reducible rfl
          try simp only [Act.put, List.setIfInBounds_toArray, List.set_cons_zero, List.set_cons_succ]
          refine wpAnyH_take (i := 1) (v := ?_) (by simp only [List.getElem?_toArray, List.getElem?_cons_zero, List.getElem?_cons_succ]; rfl) (by kernel_rfl) (by kernel_rfl) (by kernel_rfl) (fun _ _ _ h => h) (Or.inl ⟨by rfl, ?_⟩) hHeld ?_
          rotate_left
          · intro w hSw
            obtain ⟨hSw0, hSw1⟩ := hSw
            go_simp
            try with_reducible rfl
          try simp only [Act.put, List.setIfInBounds_toArray, List.set_cons_zero, List.set_cons_succ]
          refine wpAnyH_take (i := 2) (v := ?_) (by simp only [List.getElem?_toArray, List.getElem?_cons_zero, List.getElem?_cons_succ]; rfl) (by kernel_rfl) (by kernel_rfl) (by kernel_rfl) (fun _ _ _ h => h) (Or.inl ⟨by rfl, ?_⟩) hHeld ?_
          rotate_left
          · intro w hSw
            obtain ⟨hSw0, hSw1⟩ := hSw
            go_simp
            try with_reducible rfl
          try simp only [Act.put, List.setIfInBounds_toArray, List.set_cons_zero, List.set_cons_succ]
          refine wpAnyH_take (i := 3) (v := ?_) (by simp only [List.getElem?_toArray, List.getElem?_cons_zero, List.getElem?_cons_succ]; rfl) (by kernel_rfl) (by kernel_rfl) (by kernel_rfl) (fun _ _ _ h => h) (Or.inl ⟨by rfl, ?_⟩) hHeld ?_
          rotate_left
          · intro w hSw
            obtain ⟨hSw0, hSw1⟩ := hSw
            go_simp
            try with_reducible rfl
          try simp only [Act.put, List.setIfInBounds_toArray, List.set_cons_zero, List.set_cons_succ]
          refine wpAnyH_take (i := 4) (v := ?_) (by simp only [List.getElem?_toArray, List.getElem?_cons_zero, List.getElem?_cons_succ]; rfl) (by kernel_rfl) (by kernel_rfl) (by kernel_rfl) (fun _ _ _ h => h) (Or.inl ⟨by rfl, ?_⟩) hHeld ?_
          rotate_left
          · intro w hSw
            obtain ⟨hSw0, hSw1⟩ := hSw
            go_simp
            try with_reducible rfl
          try simp only [Act.put, List.setIfInBounds_toArray, List.set_cons_zero, List.set_cons_succ]
          refine wpAnyH_take (i := 5) (v := ?_) (by simp only [List.getElem?_toArray, List.getElem?_cons_zero, List.getElem?_cons_succ]; rfl) (by kernel_rfl) (by kernel_rfl) (by kernel_rfl) (fun _ _ _ h => h) (Or.inl ⟨by rfl, ?_⟩) hHeld ?_
          rotate_left
          · intro w hSw
            obtain ⟨hSw0, hSw1⟩ := hSw
            go_simp
            try with_reducible rfl
          try simp only [Act.put, List.setIfInBounds_toArray, List.set_cons_zero, List.set_cons_succ]
          refine wpAnyH_take (i := 6) (v := ?_) (by simp only [List.getElem?_toArray, List.getElem?_cons_zero, List.getElem?_cons_succ]; rfl) (by kernel_rfl) (by kernel_rfl) (by kernel_rfl) (fun _ _ _ h => h) (Or.inl ⟨by rfl, ?_⟩) hHeld ?_
          rotate_left
          · intro w hSw
            obtain ⟨hSw0, hSw1⟩ := hSw
            go_simp
            try with_reducible rfl
          try simp only [Act.put, List.setIfInBounds_toArray, List.set_cons_zero, List.set_cons_succ]
          refine wpAnyH_take (i := 8) (v := ?_) (by simp only [List.getElem?_toArray, List.getElem?_cons_zero, List.getElem?_cons_succ]; rfl) (by kernel_rfl) (by kernel_rfl) (by kernel_rfl) (fun _ _ _ h => h) (Or.inl ⟨by rfl, ?_⟩) hHeld ?_
          rotate_left
          · intro w hSw
            obtain ⟨hSw0, hSw1⟩ := hSw
            go_simp
            try with_reducible rfl
          try simp only [Act.put, List.setIfInBounds_toArray, List.set_cons_zero, List.set_cons_succ]
          refine wpAnyH_take (i := 9) (v := ?_) (by simp only [List.getElem?_toArray, List.getElem?_cons_zero, List.getElem?_cons_succ]; rfl) (by kernel_rfl) (by kernel_rfl) (by kernel_rfl) (fun _ _ _ h => h) (Or.inl ⟨by rfl, ?_⟩) hHeld ?_
          rotate_left
          · intro w hSw
            obtain ⟨hSw0, hSw1⟩ := hSw
            go_simp
            try with_reducible rfl
          try simp only [Act.put, List.setIfInBounds_toArray, List.set_cons_zero, List.set_cons_succ]
          refine wpAnyH_take (i := 10) (v := ?_) (by simp only [List.getElem?_toArray, List.getElem?_cons_zero, List.getElem?_cons_succ]; rfl) (by kernel_rfl) (by kernel_rfl) (by kernel_rfl) (fun _ _ _ h => h) (Or.inl ⟨by rfl, ?_⟩) hHeld ?_
          rotate_left
          · intro w hSw
            obtain ⟨hSw0, hSw1⟩ := hSw
            go_simp
            try with_reducible rfl
          try simp only [Act.put, List.setIfInBounds_toArray, List.set_cons_zero, List.set_cons_succ]
          refine wpAnyH_take (i := 11) (v := ?_) (by simp only [List.getElem?_toArray, List.getElem?_cons_zero, List.getElem?_cons_succ]; rfl) (by kernel_rfl) (by kernel_rfl) (by kernel_rfl) (fun _ _ _ h => h) (Or.inl ⟨by rfl, ?_⟩) hHeld ?_
          rotate_left
          · intro w hSw
            obtain ⟨hSw0, hSw1⟩ := hSw
            go_simp
            try with_reducible rfl
          try simp only [Act.put, List.setIfInBounds_toArray, List.set_cons_zero, List.set_cons_succ]
          refine wpAnyH_ready (rs := [7]) (by kernel_rfl) (by simp) ?_
          refine AllReadyH.cons (by simp only [List.getElem?_toArray, List.getElem?_cons_zero, List.getElem?_cons_succ]; rfl) (fun K hK => ?_) AllReadyH.nil
          rw [if_pos (by rfl)]
          go_simp
          refine (HML.out wd).mono ?_
          rintro e wn ⟨rfl, hq⟩
          have hq' : wd = wn := hq.symm
          subst hq'
          go_wp2_with fail
          refine hK.out _ _ hHeld (fun hHeld => ?_)
          clear hK K
          try simp only [Act.put, List.setIfInBounds_toArray, List.set_cons_zero, List.set_cons_succ]
          refine wpAnyH_take (i := 12) (v := ?_) (by simp only [List.getElem?_toArray, List.getElem?_cons_zero, List.getElem?_cons_succ]; rfl) (by kernel_rfl) (by kernel_rfl) (by kernel_rfl) (fun _ _ _ h => h) (Or.inl ⟨by rfl, ?_⟩) hHeld ?_
          rotate_left
          · intro w hSw
            obtain ⟨hSw0, hSw1⟩ := hSw
            go_simp
            try with_reducible rfl
          try simp only [Act.put, List.setIfInBounds_toArray, List.set_cons_zero, List.set_cons_succ]
          refine wpAnyH_take (i := 13) (v := ?_) (by simp only [List.getElem?_toArray, List.getElem?_cons_zero, List.getElem?_cons_succ]; rfl) (by kernel_rfl) (by kernel_rfl) (by kernel_rfl) (fun _ _ _ h => h) (Or.inl ⟨by rfl, ?_⟩) hHeld ?_
          rotate_left
          · intro w hSw
            obtain ⟨hSw0, hSw1⟩ := hSw
            go_simp
            try with_reducible rfl
          try simp only [Act.put, List.setIfInBounds_toArray, List.set_cons_zero, List.set_cons_succ]
          refine wpAnyH_done (by kernel_rfl) (NoPanic.normal ?_) _
          clear hHeld HCI
          go_wp2_with fail
          go_roundw
          case rel => exact ⟨r, j, rfl, by go_num, lr, HJ.out, HST.out, HCW.out.2.2.1, HCW.out.2.2.2⟩
          case measure => simp [intOf]
end Go.Proofs.YtnffmegicgbinaaDoor
/- The contract of oathbookref2.Joined. -/
namespace Go.Proofs.YtnffmegicgbinaaDoor
open Go.RowKit
set_option linter.unusedVariables false
set_option linter.unusedSimpArgs false

/-- The places of shares; what they have at a place. -/
def placesL (ss : List Shr) : List UInt8 := ss.map fun s => UInt8.ofNat s.1
def colL (ss : List Shr) (k : Nat) : List UInt8 := ss.map fun s => s.2.getD k 0
theorem placesL_length (ss : List Shr) : (placesL ss).length = ss.length := by simp [placesL]
theorem colL_length (ss : List Shr) (k : Nat) : (colL ss k).length = ss.length := by simp [colL]
theorem nb_places {ss : List Shr} (h : ∀ s ∈ ss, s.1 < 256) : nb (placesL ss) = ss.map (·.1) := by
  unfold nb placesL
  rw [List.map_map]
  refine List.map_congr_left fun s hs => ?_
  have := h s hs
  show (UInt8.ofNat s.1).toNat = s.1
  rw [UInt8.toNat_ofNat']
  omega
theorem places_take {ss : List Shr} {i : Nat} (h : i < ss.length) : (placesL ss).take i ++ [UInt8.ofNat (ss.getD i noS).1] = (placesL ss).take (i + 1) := by
  rw [List.take_succ_eq_append_getElem (by rw [placesL_length]; exact h)]
  simp [placesL, List.getD_eq_getElem?_getD, List.getElem?_eq_getElem h]
theorem col_take {ss : List Shr} {i k : Nat} (h : i < ss.length) : (colL ss k).take i ++ [(ss.getD i noS).2.getD k 0] = (colL ss k).take (i + 1) := by
  rw [List.take_succ_eq_append_getElem (by rw [colL_length]; exact h)]
  simp [colL, List.getD_eq_getElem?_getD, List.getElem?_eq_getElem h]
/-- What shares tell at x, of their place k. -/
def thrS (ss : List Shr) (x k : Nat) : Nat := hsum (fun i => (nb (placesL ss)).getD i 0) (fun i => ddm (fun i => (nb (placesL ss)).getD i 0) (fun i => (nb (colL ss k)).getD i 0) (ss.length - 1) i) x ss.length 0
theorem getD_nb_lt (l : List UInt8) (i : Nat) : (nb l).getD i 0 < 256 := by
  rw [nb_at]
  exact UInt8.toNat_lt _
theorem thrS_lt (ss : List Shr) (x k : Nat) : thrS ss x k < 256 := hsum_lt (fun i => ddm_lt (fun i => getD_nb_lt _ _) _ _) x _ _
def joinedL (ss : List Shr) (x n : Nat) : List UInt8 := (List.range n).map fun k => UInt8.ofNat (thrS ss x k)
theorem joinedL_length (ss : List Shr) (x n : Nat) : (joinedL ss x n).length = n := by simp [joinedL]
theorem joinedL_succ (ss : List Shr) (x n : Nat) : joinedL ss x n ++ [UInt8.ofNat (thrS ss x n)] = joinedL ss x (n + 1) := by
  unfold joinedL
  rw [List.range_succ, List.map_append]
  rfl
theorem byte_cast {v : Nat} (h : v < 256) : (v : Int) = (((UInt8.ofNat v).toNat : Nat) : Int) := by rw [UInt8.toNat_ofNat']; omega
theorem nth_toNat (l : List UInt8) (i : Nat) : nth l i = ((l.getD i 0).toNat : Int) := by rw [nth_nb, nb_at]
set_option maxRecDepth 100000 in
set_option maxHeartbeats 2000000 in
theorem rjoined_own (a : Option Addr) (n c : Nat) (ss : List Shr) (x F : Nat) (w : World) (R : SRow w a n ss) (hc : n ≤ c) (hn0 : 0 < n) (hn : n ≤ 1000) (hx : x < 256) (hF : ∀ s ∈ ss, s.2.length = F) (hF2 : F ≤ 140737488351232) (hd : (ss.map (·.1)).Nodup) :
    Calls Tryd.prog 14 #[.slice a n c, .int .u8 (x : Int)] w fun e w' => (∃ a' c', e = .returned (.slice a' F c') ∧ F ≤ c' ∧ Row w' a' F (joinedL ss x F) ∧ OwnL w' w.heap.size (.slice a' F c') (joinedL ss x F)) ∧ Below w.heap.size w w' := by
  obtain ⟨i0, hi, hz0, hz1, hz2⟩ := info_parts Tryd.infoSh8
  have HL : Hid (ss.length = n) := R.1
  have HPL : Hid (∀ s ∈ ss, s.1 < 256) := R.place
  have HND : Hid ((nb (placesL ss)).Nodup) := by unfold Hid; rw [nb_places R.place]; exact hd
  obtain ⟨b, o, ha⟩ := R.addr (by omega)
  subst ha
  have HC : Hid (∀ i, i < n → ∃ (ai : Option Addr) (ci : Nat), F ≤ ci ∧ (∀ k, k < F → ∃ bi oi, ai = some ⟨bi, oi, none⟩) ∧ ∀ wx, Below w.heap.size w wx → wx.cell? ⟨b, o + i * 2, none⟩ = some (.int .u8 ((ss.getD i noS).1 : Int)) ∧ wx.cell? ⟨b, o + i * 2 + 1, none⟩ = some (.slice ai F ci) ∧
      ∀ bi oi, ai = some ⟨bi, oi, none⟩ → ∀ k, k < F → wx.cell? ⟨bi, oi + k, none⟩ = some (.int .u8 (nth (ss.getD i noS).2 k))) := by
    intro i hi
    obtain ⟨hp, c0, ai, ni, ci, c1, h4, h5, hR⟩ := R.at i hi
    have hni : ni = F := by
      rw [← hR.1]
      refine hF _ ?_
      rw [List.getD_eq_getElem?_getD, List.getElem?_eq_getElem (by rw [HL.out]; exact hi)]
      exact List.getElem_mem _
    subst hni
    refine ⟨ai, ci, h4, fun k hk => ?_, fun wx hb => ⟨(hb.cell (p := ⟨b, o + i * 2, none⟩) (cell_block c0)).trans c0, (hb.cell (p := ⟨b, o + i * 2 + 1, none⟩) (cell_block c1)).trans c1, fun bi oi e k hk => ?_⟩⟩
    · rcases hR.2 with h0 | ⟨bi, oi, e, _⟩
      · omega
      · exact ⟨bi, oi, e⟩
    · rcases hR.2 with h0 | ⟨bi', oi', e', hcell⟩
      · omega
      · rw [e] at e'
        cases e'
        have ck := hcell k hk
        exact (hb.cell (p := ⟨bi, oi + k, none⟩) (cell_block ck)).trans ck
  clear R hF hd
  go_enter Tryd.func14, Tryd.ntmps14
  go_wp2_with fail
  go_loopw [5, 6] (fun ov kv wr => ∃ k : Nat, kv = .int .i64 (k : Int) ∧ k ≤ F ∧ Hid (OwnL wr w.heap.size ov (joinedL ss x k)) ∧ Hid (Below w.heap.size w wr)) (fun _ kv _ => F - (intOf kv).toNat)
  case atStart => exact ⟨0, rfl, Nat.zero_le _, OwnL.nil _ _, Below.refl _ _⟩
  case round =>
    obtain ⟨k, rfl, hk, HO, HB⟩ := hrel
    obtain ⟨a0, c0, hc0, haa, HC0⟩ := HC.out 0 (by omega)
    have q0 : wr.cell? ⟨b, o + 1, none⟩ = some (.slice a0 F c0) := by have := (HC0 wr HB.out).2.1; simpa using this
    clear HC0 haa
    have k0 : (0 : Int) ≤ (k : Int) := by omega
    have n0 : (0 : Int) < (n : Int) := by omega
    by_cases hlt : k < F
    · have HKF : Hid (k < F) := hlt
      have k1 : (k : Int) < (F : Int) := by omega
      clear hlt hk
      go_wp2_with fail
      clear q0 hc0
      generalize wr = w1 at *
      clear wr
      have HW1 : Hid (Below w1.heap.size w1 w1) := Below.refl _ _
      go_loopw [7, 8, 9] (fun av vv iv wr => ∃ i : Nat, iv = .int .i64 (i : Int) ∧ i ≤ n ∧ OwnL wr w1.heap.size av ((placesL ss).take i) ∧ OwnL wr w1.heap.size vv ((colL ss k).take i) ∧ Sep av vv ∧ Hid (Below w1.heap.size w1 wr)) (fun _ _ iv _ => n - (intOf iv).toNat)
      case atStart => exact ⟨0, rfl, Nat.zero_le _, OwnL.nil _ _, OwnL.nil _ _, .inl rfl, HW1.out⟩
      case round =>
        clear HW1
        obtain ⟨i, rfl, hi', hA, hV, hS, HB2⟩ := hrel
        have i0' : (0 : Int) ≤ (i : Int) := by omega
        by_cases hlt : i < n
        · have i1 : (i : Int) < (n : Int) := by omega
          obtain ⟨ai, ci, hci, hadr, HCI⟩ := HC.out i hlt
          obtain ⟨bi, oi, rfl⟩ := hadr k HKF.out
          have HCI' : Hid (∀ wx, Below w1.heap.size w1 wx → wx.cell? ⟨b, o + i * 2, none⟩ = some (.int .u8 ((ss.getD i noS).1 : Int)) ∧ wx.cell? ⟨b, o + i * 2 + 1, none⟩ = some (.slice (some ⟨bi, oi, none⟩) F ci) ∧ wx.cell? ⟨bi, oi + k, none⟩ = some (.int .u8 (((ss.getD i noS).2.getD k 0).toNat : Int))) := fun wx hx => by
            have h := HCI wx (HB.out.trans (hx.mono HB.out.size))
            exact ⟨h.1, h.2.1, by rw [h.2.2 bi oi rfl k HKF.out, nth_toNat]⟩
          have hp8 : (ss.getD i noS).1 < 256 := HPL.out _ (by
            rw [List.getD_eq_getElem?_getD, List.getElem?_eq_getElem (by rw [HL.out]; exact hlt)]
            exact List.getElem_mem _)
          have HTP : Hid ((placesL ss).take i ++ [UInt8.ofNat (ss.getD i noS).1] = (placesL ss).take (i + 1)) := places_take (by rw [HL.out]; exact hlt)
          have HTC : Hid ((colL ss k).take i ++ [(ss.getD i noS).2.getD k 0] = (colL ss k).take (i + 1)) := col_take (by rw [HL.out]; exact hlt)
          have HPA : Hid (((placesL ss).take i).length ≤ 1000 ∧ ((colL ss k).take i).length ≤ 1000) := ⟨by rw [List.length_take]; omega, by rw [List.length_take]; omega⟩
          clear HCI hadr
          generalize (ss.getD i noS).1 = p at *
          generalize (ss.getD i noS).2.getD k 0 = y at *
          generalize (placesL ss).take i = A at *
          generalize (colL ss k).take i = V at *
          have HA : Hid (OwnL wr w1.heap.size u7 A) := hA
          have HV : Hid (OwnL wr w1.heap.size u8 V) := hV
          have HBC : Hid ((p : Int) = (((UInt8.ofNat p).toNat : Nat) : Int)) := byte_cast hp8
          have r0 := (HCI'.out wr HB2.out).1
          clear hA hV
          go_upto_region 11 with (at_builtin; refine wpList_append_bytes_at rfl (.tmp 25) (.tmp 31) 22 rfl w1.heap.size i0 Tryd.underlying22 hi hz0 hz1 hz2 u7 (A) rfl (World.ownsRow.alloc HA.out _) _ 1 1 [UInt8.ofNat p] rfl (Row.lit1v wr (UInt8.ofNat p) 5 _ HBC.out) (by have := HPA.out.1; omega) (by have := HB2.out.size; simp; omega) ?_; intro v6 w6 ho6 hg6 ha6)
          try simp only [Act.put, List.setIfInBounds_toArray, List.set_cons_zero, List.set_cons_succ]
          have s6 : Sep v6 u8 := Sep.next hS ha6 (World.ownsRow.alloc HV.out _)
          have HB6 : Hid (Below w1.heap.size w1 w6) := OwnL.grown (World.ownsRow.alloc HA.out _) (HB2.out.alloc HB2.out.size _) hg6 (Nat.le_refl _) (by have := HB2.out.size; simp; omega)
          have HV6 : Hid (OwnL w6 w1.heap.size u8 V) := OwnL.other (World.ownsRow.alloc HV.out _) hg6 hS
          have HA6 : Hid (OwnL w6 w1.heap.size v6 (A ++ [UInt8.ofNat p])) := ho6
          have r1 := (HCI'.out w6 HB6.out).2.1
          have r2 := (HCI'.out w6 HB6.out).2.2
          have k1' : (k : Int) < (F : Int) := k1
          clear ho6 hg6 ha6 hS HA HV r0 HBC
          go_wp2_with (at_builtin; refine wpList_append_bytes_at rfl (.tmp 33) (.tmp 42) 22 rfl w1.heap.size i0 Tryd.underlying22 hi hz0 hz1 hz2 u8 (V) rfl (World.ownsRow.alloc HV6.out _) _ 1 1 [y] rfl (Row.lit1v w6 y 5 _ rfl) (by have := HPA.out.2; omega) (by have := HB6.out.size; simp; omega) ?_; intro v7 w7 ho7 hg7 ha7)
          have q7 : OwnL w7 w1.heap.size v6 ((placesL ss).take (i + 1)) := by rw [← HTP.out]; exact OwnL.other (World.ownsRow.alloc HA6.out _) hg7 s6.symm
          have q8 : OwnL w7 w1.heap.size v7 ((colL ss k).take (i + 1)) := by rw [← HTC.out]; exact ho7
          have B7 := OwnL.grown (World.ownsRow.alloc HV6.out _) (HB6.out.alloc HB6.out.size _) hg7 (Nat.le_refl _) (by have := HB6.out.size; simp; omega)
          have s7 : Sep v6 v7 := (Sep.next s6.symm ha7 (World.ownsRow.alloc HA6.out _)).symm
          go_roundw
          case rel => exact ⟨i + 1, by go_num, by omega, q7, q8, s7, B7⟩
          case measure => simp [intOf]; omega
        · have hin : i = n := by omega
          subst hin
          have hA' : OwnL wr w1.heap.size u7 (placesL ss) := by rwa [List.take_of_length_le (by rw [placesL_length, HL.out]; exact Nat.le_refl _)] at hA
          have hV' : OwnL wr w1.heap.size u8 (colL ss k) := by rwa [List.take_of_length_le (by rw [colL_length, HL.out]; exact Nat.le_refl _)] at hV
          obtain ⟨aa, ca, rfl, RA, hca⟩ := hA'.form
          obtain ⟨av, cv, rfl, RV, hcv⟩ := hV'.form
          rw [placesL_length, HL.out] at RA hca
          rw [colL_length, HL.out] at RV hcv
          have HRA : Hid (Row wr aa i (placesL ss)) := RA
          have HRV : Hid (Row wr av i (colL ss k)) := RV
          have HOW : Hid (OwnL wr w.heap.size u5 (joinedL ss x k)) := HO.out.below HB2.out
          have HBW : Hid (Below w.heap.size w wr) := HB.out.trans (HB2.out.mono HB.out.size)
          have g2 : ¬ (i : Int) < (i : Int) := by omega
          have lA : (placesL ss).length = i := by rw [placesL_length]; exact HL.out
          have lV : (colL ss k).length = i := by rw [colL_length]; exact HL.out
          simp only [placesL_length, colL_length, HL.out]
          clear hA hV hA' hV' hS RA RV HB2 hlt
          go_wp2_with fail
          refine (rthrough_any aa ca (placesL ss) av cv (colL ss k) i x wr HRA.out HRV.out hca hcv hn0 hn hx HND.out).mono ?_
          rintro e w8 ⟨rfl, hb8⟩
          have HTH : Hid (hsum (fun i => (nb (placesL ss)).getD i 0) (fun i => ddm (fun i => (nb (placesL ss)).getD i 0) (fun i => (nb (colL ss k)).getD i 0) (ss.length - 1) i) x ss.length 0 = thrS ss x k) := rfl
          rw [HL.out] at HTH
          rw [HTH.out]
          have hT8 := thrS_lt ss x k
          have HJS : Hid (joinedL ss x k ++ [UInt8.ofNat (thrS ss x k)] = joinedL ss x (k + 1)) := joinedL_succ ss x k
          have HJL : Hid ((joinedL ss x k).length = k) := joinedL_length ss x k
          generalize thrS ss x k = T at *
          generalize joinedL ss x k = J at *
          have HTB : Hid ((T : Int) = (((UInt8.ofNat T).toNat : Nat) : Int)) := byte_cast hT8
          have HO8 : Hid (OwnL w8 w.heap.size u5 J) := HOW.out.below hb8
          have HB8 : Hid (Below w.heap.size w w8) := HBW.out.trans (hb8.mono HBW.out.size)
          clear hb8 HTH HRA HRV HOW HBW
          go_wp2_with (at_builtin; refine wpList_append_bytes_at rfl (.tmp 44) (.tmp 49) 22 rfl w.heap.size i0 Tryd.underlying22 hi hz0 hz1 hz2 u5 (J) rfl (World.ownsRow.alloc HO8.out _) _ 1 1 [UInt8.ofNat T] rfl (Row.lit1v w8 (UInt8.ofNat T) 5 _ HTB.out) (by rw [HJL.out]; have := HKF.out; omega) (by have := HB8.out.size; simp; omega) ?_; intro v9 w9 ho9 hg9 ha9)
          have q9 : OwnL w9 w.heap.size v9 (joinedL ss x (k + 1)) := by rw [← HJS.out]; exact ho9
          have B9 := OwnL.grown (World.ownsRow.alloc HO8.out _) (HB8.out.alloc HB8.out.size _) hg9 (Nat.le_refl _) (by have := HB8.out.size; simp; omega)
          have hk3 := HKF.out
          go_roundw
          case rel => exact ⟨k + 1, by go_num, by omega, q9, B9⟩
          case measure => simp [intOf]; omega
    · have hkf : k = F := by omega
      subst hkf
      obtain ⟨a1, c1, e1, R1, h1⟩ := HO.out.form
      rw [joinedL_length] at e1 R1 h1
      have HE : Hid (u5 = .slice a1 k c1) := e1
      have HR1 : Hid (Row wr a1 k (joinedL ss x k)) := R1
      have HOf : Hid (OwnL wr w.heap.size (.slice a1 k c1) (joinedL ss x k)) := by rw [← e1]; exact HO.out
      have g2 : ¬ (k : Int) < (k : Int) := by omega
      clear e1 R1
      go_wp2_with fail
      go_ret
      exact ⟨⟨a1, c1, by rw [HE.out]; rfl, h1, HR1.out, HOf.out⟩, HB.out⟩
theorem rjoined_any (a : Option Addr) (n c : Nat) (ss : List Shr) (x F : Nat) (w : World) (R : SRow w a n ss) (hc : n ≤ c) (hn0 : 0 < n) (hn : n ≤ 1000) (hx : x < 256) (hF : ∀ s ∈ ss, s.2.length = F) (hF2 : F ≤ 140737488351232) (hd : (ss.map (·.1)).Nodup) :
    Calls Tryd.prog 14 #[.slice a n c, .int .u8 (x : Int)] w fun e w' => (∃ a' c', e = .returned (.slice a' F c') ∧ F ≤ c' ∧ Row w' a' F (joinedL ss x F)) ∧ Below w.heap.size w w' :=
  (rjoined_own a n c ss x F w R hc hn0 hn hx hF hF2 hd).mono fun e w' ⟨⟨a', c', h1, h2, h3, _⟩, h5⟩ => ⟨⟨a', c', h1, h2, h3⟩, h5⟩
end Go.Proofs.YtnffmegicgbinaaDoor
/- The contract of oathbookref2.SplitOf. -/
namespace Go.Proofs.YtnffmegicgbinaaDoor
open Go.RowKit
set_option linter.unusedVariables false
set_option linter.unusedSimpArgs false

theorem OwnL.lit1w (w : World) (B : Nat) (x : UInt8) (v : Int) (hv : v = (x.toNat : Int)) (hB : B ≤ w.heap.size) : OwnL (w.alloc (.cells #[.int .u8 v] 5)) B (.slice (some ⟨w.heap.size, 0, none⟩) 1 1) [x] := by
  subst hv
  exact World.ownsRow_lit w #[.int .u8 (x.toNat : Int)] 1 hB (by unfold maxLen; omega) rfl
theorem u8_wrap {n : Nat} (h : n < 256) : IntKind.u8.wrap (n : Int) = n := by
  simp only [IntKind.wrap, IntKind.bits, IntKind.signed, Bool.false_and]
  simp
  omega
theorem gro_cell (w : World) (g j : Nat) (v : Value) : w.grownBy (w.setCell ⟨g, j, none⟩ v) (some g) :=
  ⟨rfl, rfl, rfl, by simp [World.setCell], fun i _ hi => by
    rw [Go.RowKit.Below.heap_setCell _ _ _ _ (fun e => hi (by rw [e]))]⟩
theorem OwnL.aside {w : World} {B : Nat} {v : Value} {l : List UInt8} (h : OwnL w B v l) (g j : Nat) (u : Value) (hg : g < B) : OwnL (w.setCell ⟨g, j, none⟩ u) B v l := by
  refine World.ownsRow.kept h (gro_cell w g j u) ?_
  by_cases hv : v.ownBlock = none
  · exact .inl hv
  · refine .inr fun e => ?_
    have := (World.ownsRow.lt h g e).1
    omega
theorem wp_appendL {w : World} {o : Oper} {a : Act} {K : Act → World → Prop} {Q : Exit → Act → World → Prop} (s x : Operand)
    (ho : o.op = .call { callee := .builtin .append, args := #[s, x], argTypes := #[22, 22] })
    (base : Nat) (v : Value) (l : List UInt8) (hs : a.eval s = v) (hown : OwnL w base v l)
    (b off : Nat) (n c : Nat) (r : List UInt8) (hx : a.eval x = .slice (some ⟨b, off, none⟩) n c) (hr : Row w (some ⟨b, off, none⟩) n r) (hn : 0 < n) (h47 : l.length + n ≤ 140737488355328) (hbase : base ≤ w.heap.size)
    (h : ∀ v' w', OwnL w' base v' (l ++ r) → w.grownBy w' v.ownBlock → K (a.put o.dst v') w') : o.wp Tryd.prog a w K Q := by
  obtain ⟨i0, hi, hz0, hz1, hz2⟩ := info_parts Tryd.infoSh8
  obtain ⟨hl, hr⟩ := hr
  have hnews : ∀ j u, (cellsB r)[j]? = some u → w.cell? ((⟨b, off, none⟩ : Addr).add j) = some u := by
    intro j u hj
    have hj' : j < r.length := by have := (List.getElem?_eq_some_iff.1 hj).1; rwa [cellsB_length] at this
    rcases hr with h0 | ⟨b', off', h1, hc⟩
    · omega
    · cases h1
      rw [Go.WideShapes.add_plain, hc j (by omega), ← cellsB_at r j hj', hj]
  obtain ⟨v', w', hrun, h2, h3, h4, h5⟩ := run_append_own_at (P := Tryd.prog) w base 22 o.type 5 i0 (.int .u8 0) 1 1 Tryd.underlying22 hi hz0 hz1 hz2 rfl (by decide) v l.length (cellsB l) hown ⟨b, off, none⟩ n c (cellsB r) (by rw [cellsB_length, hl, Nat.mul_one]) hnews (cellsB_one _) (by unfold maxLen; omega) (by omega) hbase
  unfold Oper.wp execOp
  simp only [ho, resolve, invoke, builtin, Sem.run_bind, Sem.run_pure, Result.andThen_ok, List.map_toArray, List.map_cons, List.map_nil, hs, hx, hrun]
  refine h v' w' ?_ h3
  unfold OwnL
  rw [List.length_append, cellsB_append, hl]
  exact h2
set_option maxRecDepth 100000 in
set_option maxHeartbeats 2000000 in
theorem rsplitof_any (a1 : Option Addr) (m c1 : Nat) (secret : List UInt8) (n : Nat) (a2 : Option Addr) (n2 c2 : Nat) (ls : List (List UInt8)) (w : World) (R1 : Row w a1 m secret) (R2 : BRowsB w a2 n2 ls) (h1 : m ≤ 100) (h2 : n2 ≤ 20) (hn : n ≤ 20) (hall : ∀ l ∈ ls, l.length = m) :
    Calls Tryd.prog 9 #[.slice a1 m c1, .int .i64 (n : Int), .slice a2 n2 c2] w fun e w' => (∃ a' c', e = .returned (.slice a' n c') ∧ n ≤ c' ∧ SRow w' a' n (splitL secret ls n)) ∧ Below w.heap.size w w' := by
  obtain ⟨iB, hiB, hz0, hz1, hz2⟩ := info_parts Tryd.infoSh8
  have HL : Hid (ls.length = n2) := R2.1.1
  have HLS : Hid (secret.length = m) := R1.1
  have HR2 : Hid (BRowsB w a2 n2 ls) := R2
  have HS1 : Hid (∀ i, i < m → ∃ b o, a1 = some ⟨b, o, none⟩ ∧ ∀ wx, Below w.heap.size w wx → wx.cell? ⟨b, o + i, none⟩ = some (.int .u8 ((secret.getD i 0).toNat : Int))) := by
    intro i hi
    rcases R1.2 with h0 | ⟨b, o, ha, hc⟩
    · omega
    · refine ⟨b, o, ha, fun wx hb => ?_⟩
      rw [← nth_toNat]
      exact (hb.cell (p := ⟨b, o + i, none⟩) (cell_block (hc i hi))).trans (hc i hi)
  have HRW : Hid (∀ j, j < n2 → ∀ i, i < m → ∃ (b o bi oi ci : Nat), a2 = some ⟨b, o, none⟩ ∧ m ≤ ci ∧ ∀ wx, Below w.heap.size w wx → wx.cell? ⟨b, o + j, none⟩ = some (.slice (some ⟨bi, oi, none⟩) m ci) ∧ wx.cell? ⟨bi, oi + i, none⟩ = some (.int .u8 (((ls.getD j []).getD i 0).toNat : Int))) := by
    intro j hj i hi
    obtain ⟨b, o, ha⟩ := R2.addr (by omega)
    subst ha
    obtain ⟨ai, ni, ci, hci, hni, had, HC⟩ := R2.head j hj
    have : ni = m := by
      rw [hni]
      refine hall _ ?_
      rw [List.getD_eq_getElem?_getD, List.getElem?_eq_getElem (by rw [HL.out]; exact hj)]
      exact List.getElem_mem _
    subst this
    obtain ⟨bi, oi, rfl⟩ := had i hi
    refine ⟨b, o, bi, oi, ci, rfl, hci, fun wx hb => ⟨(HC wx hb).1, ?_⟩⟩
    rw [(HC wx hb).2 bi oi rfl i hi, nth_toNat]
  clear R1 R2 hall
  go_enter Tryd.func9, Tryd.ntmps9
  go_wp2_with fail
  go_loopw [7, 8] (fun ov kv wr => ∃ k : Nat, kv = .int .i64 ((k + 1 : Nat) : Int) ∧ k ≤ n ∧ Hid (OwnS wr w.heap.size ov (splitL secret ls k)) ∧ Hid (Below w.heap.size w wr)) (fun _ kv _ => n + 1 - (intOf kv).toNat)
  case atStart => exact ⟨0, rfl, Nat.zero_le _, OwnS.nil _ _, Below.refl _ _⟩
  case round =>
    obtain ⟨k, rfl, hk, HO, HB⟩ := hrel
    by_cases hlt : k < n
    · have HKN : Hid (k < n) := hlt
      obtain ⟨Kn, hK⟩ : ∃ Kn, k + 1 = Kn := ⟨_, rfl⟩
      have HK : Hid (k + 1 = Kn) := hK
      have K1 : (1 : Int) ≤ (Kn : Int) := by omega
      have K2 : (Kn : Int) ≤ 20 := by omega
      have K3 : (Kn : Int) ≤ (n : Int) := by omega
      rw [hK]
      clear hK hlt hk
      generalize wr = w1 at *
      clear wr
      obtain ⟨g, hg⟩ : ∃ g, w1.heap.size = g := ⟨_, rfl⟩
      obtain ⟨w2, hw2⟩ : ∃ w2, w1.alloc (.cells (hdC noH).toArray 42) = w2 := ⟨_, rfl⟩
      obtain ⟨w3, hw3⟩ : ∃ w3, w2.setCells g 0 (hdC (Kn, none, 0, 0)) = w3 := ⟨_, rfl⟩
      have q3 := SVar.new hg hw2 hw3
      have HT2 : Hid (w2.there g 0 2) := q3.1
      have HV3 : Hid (SVar w3 g Kn (.slice none 0 0)) := q3.2.1
      have HB3 : Hid (Below g w1 w3) := q3.2.2
      have HG : Hid (w1.heap.size = g) := hg
      have HBU : Hid (Tryd.prog.built 42 [(0, .int .u8 (Kn : Int))] = some (hdC (Kn, none, 0, 0)).toArray) := by rfl
      clear q3
      go_wp2_with (first
        | (refine wpList_allocSh (by rfl) (by rfl) g hg w2 hw2 ?_)
        | (refine wpList_buildC (by rfl) 42 _ (by rfl) (hdC (Kn, none, 0, 0)).toArray (by simp only [List.map_toArray, List.map_cons, List.map_nil, Act.eval]; exact HBU.out) ?_)
        | (refine wpList_storeSh (by rfl) (.tmp 9) (.tmp 20) (by rfl) g (Kn, none, 0, 0) (by rfl) (by rfl) HT2.out w3 hw3 ?_))
      clear hg hw2 hw3 HT2 HBU
      go_loopw [10] (fun iv wr => ∃ (i : Nat) (v : Value), iv = .int .i64 (i : Int) ∧ i ≤ m ∧ Hid (SVar wr g Kn v) ∧ Hid (OwnL wr (g + 1) v (dataS secret ls Kn i)) ∧ Hid (Below g w1 wr)) (fun iv _ => m - (intOf iv).toNat)
      case atStart => exact ⟨0, .slice none 0 0, rfl, Nat.zero_le _, HV3.out, OwnL.nil _ _, HB3.out⟩
      case round =>
        clear HV3 HB3
        obtain ⟨i, v, rfl, hi, HV, HD, HB1⟩ := hrel
        by_cases hlt : i < m
        · obtain ⟨b1, o1, ha1, HC1⟩ := HS1.out i hlt
          subst ha1
          have HBW : Hid (Below w.heap.size w wr) := HB.out.trans (HB1.out.mono (by have := HB.out.size; have := HG.out; omega))
          have k0 := HC1 wr HBW.out
          have HIM : Hid (i < m) := hlt
          have i0 : (0 : Int) ≤ (i : Int) := by omega
          have i1 : (i : Int) < (m : Int) := by omega
          clear HC1 hlt hi
          go_wp2_with fail
          generalize wr = w4 at *
          clear wr k0
          have HW4 : Hid (OwnL (w4.alloc (.cells #[.int .u8 ((secret.getD i 0).toNat : Int)] 5)) w4.heap.size (.slice (some ⟨w4.heap.size, 0, none⟩) 1 1) (polyT secret ls i 0)) := by
            unfold Hid
            rw [polyT_zero]
            exact OwnL.lit1w w4 _ _ _ rfl (Nat.le_refl _)
          go_loopw [11, 12] (fun cv jv wr => ∃ j : Nat, jv = .int .i64 (j : Int) ∧ j ≤ n2 ∧ Hid (OwnL wr w4.heap.size cv (polyT secret ls i j)) ∧ Hid (Below w4.heap.size w4 wr)) (fun _ jv _ => n2 - (intOf jv).toNat)
          case atStart => exact ⟨0, rfl, Nat.zero_le _, HW4.out, (Below.refl _ _).alloc (Nat.le_refl _) _⟩
          case round =>
            clear HW4
            obtain ⟨j, rfl, hj, HC, HB4⟩ := hrel
            by_cases hlj : j < n2
            · obtain ⟨b, o, bi, oi, ci, ha2, hci, HCJ⟩ := HRW.out j hlj i HIM.out
              subst ha2
              have HBx : Hid (Below w.heap.size w wr) := HBW.out.trans (HB4.out.mono HBW.out.size)
              have r1 := (HCJ wr HBx.out).1
              have r2 := (HCJ wr HBx.out).2
              have HPS : Hid (polyT secret ls i j ++ [(ls.getD j []).getD i 0] = polyT secret ls i (j + 1)) := polyT_succ (by rw [HL.out]; exact hlj)
              have HPL : Hid ((polyT secret ls i j).length = j + 1) := polyT_length (by rw [HL.out]; omega)
              have j0 : (0 : Int) ≤ (j : Int) := by omega
              have j1 : (j : Int) < (n2 : Int) := by omega
              generalize (ls.getD j []).getD i 0 = y at *
              generalize polyT secret ls i j = C at *
              clear HCJ
              go_wp2_with (at_builtin; refine wpList_append_bytes rfl (.tmp 38) (.tmp 46) 22 rfl w4.heap.size iB Tryd.underlying22 hiB hz0 hz1 hz2 u11 (C) rfl (World.ownsRow.alloc HC.out _) _ 1 1 [y] rfl (Row.lit1v wr y 5 _ rfl) (by rw [HPL.out]; omega) (by have := HB4.out.size; simp; omega) ?_; intro v5 w5 ho5 hg5)
              have q5 : OwnL w5 w4.heap.size v5 (polyT secret ls i (j + 1)) := by rw [← HPS.out]; exact ho5
              have B5 := OwnL.grown (World.ownsRow.alloc HC.out _) (HB4.out.alloc HB4.out.size _) hg5 (Nat.le_refl _) (by have := HB4.out.size; simp; omega)
              go_roundw
              case rel => exact ⟨j + 1, by go_num, by omega, q5, B5⟩
              case measure => simp [intOf]; omega
            · have hjn : j = n2 := by omega
              subst hjn
              have g2 : ¬ (j : Int) < (j : Int) := by omega
              obtain ⟨ac, cc, hce, RC, hcc⟩ := HC.out.form
              have hpl : (polyT secret ls i j).length = j + 1 := polyT_length (by rw [HL.out]; exact Nat.le_refl _)
              rw [hpl] at hce RC hcc
              subst hce
              have HPA : Hid (polyT secret ls i j = polyC secret ls i) := by have := polyT_all secret ls i; rw [HL.out] at this; exact this
              have HRC : Hid (Row wr ac (j + 1) (polyC secret ls i)) := by rw [← HPA.out]; exact RC
              have HV5 : Hid (SVar wr g Kn v) := HV.out.below HB4.out HV.out.lt
              have HD5 : Hid (OwnL wr (g + 1) v (dataS secret ls Kn i)) := HD.out.below HB4.out
              have HB5 : Hid (Below g w1 wr) := HB1.out.trans (HB4.out.mono (by have := HV.out.lt; omega))
              clear RC hpl HC HPA hlj HV HD HB1 HB4 HBW
              generalize wr = w5 at *
              clear wr
              have hnc : j + 1 ≤ 140737488351232 := by omega
              have hK8 : Kn < 256 := by omega
              have HSN : Hid (polyv (nb (polyC secret ls i)) Kn = shareN secret ls Kn i) := rfl
              have HDS : Hid (dataS secret ls Kn i ++ [UInt8.ofNat (shareN secret ls Kn i)] = dataS secret ls Kn (i + 1)) := dataS_succ secret ls Kn i
              have HDL : Hid ((dataS secret ls Kn i).length = i) := dataS_length secret ls Kn i
              have hT8 := shareN_lt secret ls Kn i
              generalize shareN secret ls Kn i = T at *
              generalize dataS secret ls Kn i = DT at *
              have HTB : Hid ((T : Int) = (((UInt8.ofNat T).toNat : Nat) : Int)) := byte_cast hT8
              have HGS : Hid (g + 1 ≤ w5.heap.size) := HV5.out.lt
              go_upto_region 14 with fail
              try simp only [Act.put, List.setIfInBounds_toArray, List.set_cons_zero, List.set_cons_succ]
              refine wp_region_noPanic ?_
              refine wp_region_till (S := fun wx => wx.cell? ⟨g, 1, none⟩ = some v) 9 (by kernel_rfl) (HV5.out.below (below_drewN w5 1) HV5.out.lt).2.1 (fun hHeld => ?_)
              try simp only [Act.put, List.setIfInBounds_toArray, List.set_cons_zero, List.set_cons_succ]
              have HBd : Hid (Below w5.heap.size w5 w5.drew) := below_drewN w5 1
              generalize w5.drew = wd at *
              refine wpAnyT_take (i := 0) (v := .pointer (some ⟨g, 1, none⟩)) (by simp only [List.getElem?_toArray, List.getElem?_cons_zero, List.getElem?_cons_succ]; rfl) (by kernel_rfl) (by kernel_rfl) (by kernel_rfl) (by kernel_rfl) (fun _ _ _ h => h) (Or.inl ⟨by rfl, ?_⟩) hHeld ?_
              · intro w hSw
                go_simp
              try simp only [Act.put, List.setIfInBounds_toArray, List.set_cons_zero, List.set_cons_succ]
              refine wpAnyT_take (i := 1) (v := v) (by simp only [List.getElem?_toArray, List.getElem?_cons_zero, List.getElem?_cons_succ]; rfl) (by kernel_rfl) (by kernel_rfl) (by kernel_rfl) (by kernel_rfl) (fun _ _ _ h => h) (Or.inl ⟨by rfl, ?_⟩) hHeld ?_
              · intro w hSw
                go_simp
              try simp only [Act.put, List.setIfInBounds_toArray, List.set_cons_zero, List.set_cons_succ]
              refine wpAnyT_take (i := 2) (v := .slice ac (j + 1) cc) (by simp only [List.getElem?_toArray, List.getElem?_cons_zero, List.getElem?_cons_succ]; rfl) (by kernel_rfl) (by kernel_rfl) (by kernel_rfl) (by kernel_rfl) (fun _ _ _ h => h) (Or.inl ⟨by rfl, ?_⟩) hHeld ?_
              · intro w hSw
                go_simp
              try simp only [Act.put, List.setIfInBounds_toArray, List.set_cons_zero, List.set_cons_succ]
              refine wpAnyT_take (i := 3) (v := .int .i64 (Kn : Int)) (by simp only [List.getElem?_toArray, List.getElem?_cons_zero, List.getElem?_cons_succ]; rfl) (by kernel_rfl) (by kernel_rfl) (by kernel_rfl) (by kernel_rfl) (fun _ _ _ h => h) (Or.inl ⟨by rfl, ?_⟩) hHeld ?_
              · intro w hSw
                go_simp
              try simp only [Act.put, List.setIfInBounds_toArray, List.set_cons_zero, List.set_cons_succ]
              refine wpAnyT_take (i := 4) (v := .int .u8 (Kn : Int)) (by simp only [List.getElem?_toArray, List.getElem?_cons_zero, List.getElem?_cons_succ]; rfl) (by kernel_rfl) (by kernel_rfl) (by kernel_rfl) (by kernel_rfl) (fun _ _ _ h => h) (Or.inl ⟨by rfl, ?_⟩) hHeld ?_
              · intro w hSw
                go_simp
                exact u8_wrap hK8
              try simp only [Act.put, List.setIfInBounds_toArray, List.set_cons_zero, List.set_cons_succ]
              refine wpAnyT_ready (rs := [5]) (by kernel_rfl) (by simp) ?_
              refine AllReadyT.cons (by simp only [List.getElem?_toArray, List.getElem?_cons_zero, List.getElem?_cons_succ]; rfl) (fun K hK => ?_) AllReadyT.nil
              rw [if_pos (by rfl)]
              go_simp
              have HVd : Hid (SVar wd g Kn v) := HV5.out.below HBd.out HV5.out.lt
              refine (rvalue_any ac (j + 1) cc (polyC secret ls i) Kn wd (HRC.out.below HBd.out) hnc hK8).mono ?_
              rintro e wq ⟨rfl, hq⟩
              have hq' : wd = wq := hq.symm
              subst hq'
              rw [HSN.out]
              go_wp2_with fail
              refine hK.out _ _ HVd.out.2.1 (fun hHeld => ?_)
              clear hK K
              try simp only [Act.put, List.setIfInBounds_toArray, List.set_cons_zero, List.set_cons_succ]
              refine wpAnyT_ready (rs := [6]) (by kernel_rfl) (by simp) ?_
              refine AllReadyT.cons (by simp only [List.getElem?_toArray, List.getElem?_cons_zero, List.getElem?_cons_succ]; rfl) (fun K hK => ?_) AllReadyT.nil
              rw [if_pos (by rfl)]
              go_simp
              have HBl : Hid (Below w5.heap.size w5 (wd.alloc (.cells #[.int .u8 (T : Int)] 5))) := HBd.out.alloc HBd.out.size _
              have HRl : Hid (Row (wd.alloc (.cells #[.int .u8 (T : Int)] 5)) (some ⟨wd.heap.size, 0, none⟩) 1 [UInt8.ofNat T]) := Row.lit1v wd (UInt8.ofNat T) 5 _ HTB.out
              refine hK.out _ _ (HV5.out.below HBl.out HV5.out.lt).2.1 (fun hHeld => ?_)
              generalize wd.alloc (.cells #[.int .u8 (T : Int)] 5) = wl at *
              generalize wd.heap.size = sl at *
              clear hK K
              try simp only [Act.put, List.setIfInBounds_toArray, List.set_cons_zero, List.set_cons_succ]
              refine wpAnyT_ready (rs := [7]) (by kernel_rfl) (by simp) ?_
              refine AllReadyT.cons (by simp only [List.getElem?_toArray, List.getElem?_cons_zero, List.getElem?_cons_succ]; rfl) (fun K hK => ?_) AllReadyT.nil
              rw [if_pos (by rfl)]
              have HDl : Hid (OwnL wl (g + 1) v DT) := HD5.out.below HBl.out
              refine wp_appendL (.tmp 49) (.tmp 54) rfl (g + 1) v DT rfl HDl.out sl 0 1 1 [UInt8.ofNat T] rfl HRl.out (by omega) (by rw [HDL.out]; have := HIM.out; omega) (by have := HBl.out.size; have := HGS.out; omega) ?_
              intro v7 w7 ho7 hg7
              obtain ⟨a7, n7, c7, hv7⟩ : ∃ a n c, v7 = .slice a n c := by
                obtain ⟨a, c, e, _⟩ := ho7.form
                exact ⟨_, _, _, e⟩
              subst hv7
              have HB7g : Hid (Below (g + 1) w5 w7) := (HBl.out.mono HGS.out).grown hg7 (by have := HBl.out.size; have := HGS.out; omega) (fun q hq => (World.ownsRow.lt HDl.out q hq).1)
              have HV7 : Hid (SVar w7 g Kn v) := HV5.out.below HB7g.out (by omega)
              have HD7 : Hid (OwnL w7 (g + 1) (.slice a7 n7 c7) (DT ++ [UInt8.ofNat T])) := ho7
              refine hK.out _ _ HV7.out.2.1 (fun hHeld => ?_)
              clear hK K
              try simp only [Act.put, List.setIfInBounds_toArray, List.set_cons_zero, List.set_cons_succ]
              refine wpAnyT_take (i := 8) (v := .pointer (some ⟨g, 1, none⟩)) (by simp only [List.getElem?_toArray, List.getElem?_cons_zero, List.getElem?_cons_succ]; rfl) (by kernel_rfl) (by kernel_rfl) (by kernel_rfl) (by kernel_rfl) (fun _ _ _ h => h) (Or.inl ⟨by rfl, ?_⟩) hHeld ?_
              · intro w hSw
                go_simp
              try simp only [Act.put, List.setIfInBounds_toArray, List.set_cons_zero, List.set_cons_succ]
              refine wpAnyT_ready (rs := [9]) (by kernel_rfl) (by simp) ?_
              refine AllReadyT.lastly (by simp only [List.getElem?_toArray, List.getElem?_cons_zero, List.getElem?_cons_succ]; rfl) rfl (fun K hK => ?_) AllReadyT.nil
              rw [if_pos (by rfl)]
              have c9 : w7.cell? ⟨g, 1, none⟩ = some v := HV7.out.2.1
              have f9 : w7.frozen? ⟨g, 1, none⟩ = false := (HV7.out.2.2 1 (by omega)).2
              go_simp
              refine hK.out _ _ ?_
              clear hK K
              try simp only [Act.put, List.setIfInBounds_toArray, List.set_cons_zero, List.set_cons_succ]
              refine wpAnyT_done (by kernel_rfl) (NoPanic.normal ?_) _
              clear hHeld c9 f9
              have HV8 : Hid (SVar (w7.setCell ⟨g, 1, none⟩ (.slice a7 n7 c7)) g Kn (.slice a7 n7 c7)) := HV7.out.put _
              have HD8 : Hid (OwnL (w7.setCell ⟨g, 1, none⟩ (.slice a7 n7 c7)) (g + 1) (.slice a7 n7 c7) (dataS secret ls Kn (i + 1))) := by rw [← HDS.out]; exact HD7.out.aside g 1 _ (by omega)
              have HB8 : Hid (Below g w1 (w7.setCell ⟨g, 1, none⟩ (.slice a7 n7 c7))) := (HB5.out.trans (HB7g.out.mono (by omega))).setCell (Nat.le_refl _) _
              generalize w7.setCell ⟨g, 1, none⟩ (.slice a7 n7 c7) = w8 at *
              go_wp2_with fail
              go_roundw
              case rel => exact ⟨i + 1, _, by go_num, HIM.out, HV8.out, HD8.out, HB8.out⟩
              case measure => have := HIM.out; simp [intOf]; omega
        · have him : i = m := by omega
          subst him
          have g2 : ¬ (i : Int) < (i : Int) := by omega
          obtain ⟨ad, cd, hde, RD, hcd⟩ := HD.out.form
          rw [dataS_length] at hde RD hcd
          subst hde
          have HRD : Hid (wr.rangeAt g 0 (hdC (Kn, ad, i, cd))) := HV.out.range
          have HDH : Hid (DatH wr (Kn, ad, i, cd) (Kn, dataS secret ls Kn i)) := ⟨rfl, by show Kn < 256; omega, hcd, by show i ≤ 140737488351232; omega, RD⟩
          have HOW : Hid (OwnS wr w.heap.size u7 (splitL secret ls k)) := HO.out.below (by rw [HG.out]; exact HB1.out)
          have HAP : Hid (ApartH (Kn, ad, i, cd) u7.ownBlock) := by
            refine .inr fun p e e2 => ?_
            have e' : ad = some p := e
            have q1 := HO.out.lt _ e2
            subst e'
            have q2 := World.ownsRow.lt HD.out p.block rfl
            have := HG.out
            omega
          have HBW : Hid (Below w.heap.size w wr) := HB.out.trans (HB1.out.mono (by have := HB.out.size; have := HG.out; omega))
          have HSS : Hid (splitL secret ls k ++ [(Kn, dataS secret ls Kn i)] = splitL secret ls (k + 1)) := by
            unfold Hid
            rw [← splitL_succ, HLS.out, HK.out]
          have HSL : Hid ((splitL secret ls k).length = k) := splitL_length secret ls k
          have HLC : Hid (∀ x, (wr.alloc (.cells (hdC (Kn, ad, i, cd)).toArray 42)).cell? x = (wr.alloc (.cells (hdC (Kn, ad, i, cd)).toArray 42)).cell? x) := fun x => rfl
          generalize dataS secret ls Kn i = DT at *
          generalize splitL secret ls k = SL at *
          clear RD HV HD HB1 HO hlt HB
          go_wp2_with (first
            | (refine wpList_loadSh (by rfl) (.tmp 9) (by rfl) g 0 (Kn, ad, i, cd) (by rfl) HRD.out ?_)
            | (refine wpList_buildSh (by rfl) (.tmp 58) (by rfl) (Kn, ad, i, cd) (by rfl) ?_)
            | (at_builtin; refine wpList_append_share (by rfl) (.tmp 57) (.tmp 59) (by rfl) w.heap.size u7 SL (by rfl) (OwnS.alloc HOW.out _) wr.heap.size 0 1 (Kn, ad, i, cd) (Kn, DT) (by rfl) (lit_cells wr (Kn, ad, i, cd) _) (HDH.out.below ((Below.refl _ _).alloc (Nat.le_refl _) _)) HAP.out (by rw [HSL.out]; have := HKN.out; omega) (by have := HBW.out.size; simp; omega) ?_; intro v6 w6 ho6 hg6 ha6))
          have q6 : OwnS w6 w.heap.size v6 (splitL secret ls (k + 1)) := by rw [← HSS.out]; exact ho6
          have B6 := OwnS.grown (OwnS.alloc HOW.out _) (HBW.out.alloc HBW.out.size _) hg6 (Nat.le_refl _) (by have := HBW.out.size; simp; omega)
          have hk4 := HK.out
          have hk5 := HKN.out
          go_roundw
          case rel => exact ⟨k + 1, by rw [← HK.out]; go_num, by omega, q6, B6⟩
          case measure => have := HK.out; simp [intOf]; omega
    · have hkn : k = n := by omega
      subst hkn
      have g2 : ¬ ((k + 1 : Nat) : Int) ≤ (k : Int) := by omega
      obtain ⟨a3, c3, e3, R3, h3⟩ := HO.out.form
      rw [splitL_length] at e3 R3 h3
      have HE : Hid (u7 = .slice a3 k c3) := e3
      have HR3 : Hid (SRow wr a3 k (splitL secret ls k)) := R3
      clear e3 R3 hlt
      go_wp2_with fail
      go_ret
      exact ⟨⟨a3, c3, by rw [HE.out]; rfl, h3, HR3.out⟩, HB.out⟩
end Go.Proofs.YtnffmegicgbinaaDoor
/- Rows that share makes: bytes by place, slices of bytes by place, shares by place. -/
namespace Go.Proofs.YtnffmegicgbinaaDoor
open Go.RowKit
set_option linter.unusedVariables false
set_option linter.unusedSimpArgs false

theorem gr_setCellsS (g : Nat) : ∀ (vs : List Value) (o : Nat) (w : World), w.grownBy (w.setCells g o vs) (some g)
  | [], _, w => World.grownBy.refl w _
  | v :: r, o, w => by
    rw [World.setCells]
    have h := gro_cell w g o v
    have k := gr_setCellsS g r (o + 1) (w.setCell ⟨g, o, none⟩ v)
    exact ⟨k.os.trans h.os, k.tape.trans h.tape, k.output.trans h.output, Nat.le_trans h.size k.size, fun i hi hne => (k.block i (Nat.lt_of_lt_of_le hi h.size) hne).trans (h.block i hi hne)⟩
theorem own_thereS {w : World} {B g n cap size : Nat} {e : TypeId} {xs : List Value} (h : w.ownsRow B e size (.slice (some ⟨g, 0, none⟩) n cap) n xs) : w.there g 0 (n * size) := by
  intro j hj
  have hl := h.1
  rw [Nat.zero_add, World.ownsRow.cellAt h j hj, World.ownsRow.frozenAt h j, List.getElem?_eq_getElem (by omega)]
  exact ⟨rfl, rfl⟩
theorem there_belowB {w w' : World} {B g o n : Nat} (h : w.there g o n) (hb : Below B w w') (hg : g < B) : w'.there g o n := fun j hj => by
  have := h j hj
  rwa [← hb.cell (p := ⟨g, o + j, none⟩) hg, ← hb.frozen (p := ⟨g, o + j, none⟩) hg] at this
theorem Row.belowB {w w' : World} {B n : Nat} {ad : Option Addr} {l : List UInt8} (h : Row w ad n l) (hb : Below B w w') (hlt : ∀ x, ad = some x → x.block < B) : Row w' ad n l := by
  refine ⟨h.1, ?_⟩
  rcases h.2 with h0 | ⟨b, o, e, hc⟩
  · exact .inl h0
  · exact .inr ⟨b, o, e, fun i hi => (hb.cell (p := ⟨b, o + i, none⟩) (by show b < B; exact hlt _ e)).trans (hc i hi)⟩
/-- m bytes in a block, by place. -/
def BCells (w : World) (g m : Nat) (f : Nat → Nat) : Prop := w.there g 0 m ∧ ∀ j, j < m → w.cell? ⟨g, j, none⟩ = some (.int .u8 ((f j : Nat) : Int))
theorem BCells.made {w1 : World} {B g m : Nat} (h : w1.ownsRow B 5 1 (.slice (some ⟨g, 0, none⟩) m m) m (madeCells (Value.int .u8 0).cells (m * 1)).toList) : BCells w1 g m (fun _ => 0) := by
  have ht := own_thereS h
  rw [Nat.mul_one] at ht
  refine ⟨ht, fun j hj => ?_⟩
  have := World.ownsRow.cellAt h j (by omega)
  rw [this, show (Value.int .u8 0).cells = #[Value.int .u8 0] from rfl, toList_madeCells_one]
  simp [hj]
theorem BCells.below {w w' : World} {B g m : Nat} {f : Nat → Nat} (h : BCells w g m f) (hb : Below B w w') (hg : g < B) : BCells w' g m f :=
  ⟨there_belowB h.1 hb hg, fun j hj => (hb.cell (p := ⟨g, j, none⟩) hg).trans (h.2 j hj)⟩
theorem BCells.at {w : World} {g m i : Nat} {f : Nat → Nat} (h : BCells w g m f) (hi : i < m) : w.cell? ⟨g, i, none⟩ = some (.int .u8 ((f i : Nat) : Int)) ∧ w.frozen? ⟨g, i, none⟩ = false := by
  have := h.1 i hi
  rw [Nat.zero_add] at this
  exact ⟨h.2 i hi, this.2⟩
theorem BCells.set {w : World} {g m i v : Nat} {f f' : Nat → Nat} (h : BCells w g m f) (hi : i < m) (hf : ∀ j, j < m → f' j = if j = i then v else f j) : BCells (w.setCell ⟨g, i, none⟩ (.int .u8 (v : Int))) g m f' := by
  have e : w.setCell ⟨g, i, none⟩ (.int .u8 (v : Int)) = w.setCells g i [.int .u8 (v : Int)] := rfl
  refine ⟨by rw [e]; exact World.there_setCells h.1 _ _ _, fun j hj => ?_⟩
  rw [hf j hj]
  by_cases c : j = i
  · subst c
    rw [if_pos rfl]
    exact World.cell?_setCell_same' _ _ _ (by rw [h.2 j hj]; rfl)
  · rw [if_neg c]
    have q := World.cell?_setCell_other w ⟨g, i, none⟩ ⟨g, j, none⟩ (.int .u8 (v : Int)) (by intro q; have := congrArg Addr.off q; exact c this.symm)
    rw [q]
    exact h.2 j hj
theorem BCells.row {w : World} {g m : Nat} {f : Nat → Nat} {l : List UInt8} (h : BCells w g m f) (hl : l.length = m) (he : ∀ j, j < m → (l.getD j 0).toNat = f j) : Row w (some ⟨g, 0, none⟩) m l :=
  ⟨hl, .inr ⟨g, 0, rfl, fun i hi => by rw [Nat.zero_add, h.2 i hi, nth_toNat, he i hi]⟩⟩
/-- k slices of bytes in a block that has room for n. -/
def PCells (w : World) (g n k : Nat) (F : Nat → List UInt8) : Prop := w.there g 0 n ∧ ∀ i, i < k → ∃ (ad : Option Addr) (c : Nat), w.cell? ⟨g, i, none⟩ = some (.slice ad (F i).length c) ∧ (F i).length ≤ c ∧ Row w ad (F i).length (F i) ∧ ∀ x, ad = some x → x.block ≠ g ∧ x.block < w.heap.size
theorem PCells.made {w1 : World} {B g n : Nat} {xs : List Value} {F : Nat → List UInt8} (h : w1.ownsRow B 22 1 (.slice (some ⟨g, 0, none⟩) n n) n xs) : PCells w1 g n 0 F := by
  have ht := own_thereS h
  rw [Nat.mul_one] at ht
  exact ⟨ht, fun i hi => absurd hi (by omega)⟩
theorem PCells.below {w w' : World} {g n k : Nat} {F : Nat → List UInt8} (h : PCells w g n k F) (hb : Below w.heap.size w w') (hg : g < w.heap.size) : PCells w' g n k F := by
  refine ⟨there_belowB h.1 hb hg, fun i hi => ?_⟩
  obtain ⟨ad, c, h1, h2, h3, h4⟩ := h.2 i hi
  exact ⟨ad, c, (hb.cell (p := ⟨g, i, none⟩) hg).trans h1, h2, h3.below hb, fun x e => ⟨(h4 x e).1, Nat.lt_of_lt_of_le (h4 x e).2 hb.size⟩⟩
theorem PCells.put {w : World} {g n k c : Nat} {ad : Option Addr} {F : Nat → List UInt8} (h : PCells w g n k F) (hk : k < n) (hc : (F k).length ≤ c) (hR : Row w ad (F k).length (F k)) (hne : ∀ x, ad = some x → x.block ≠ g ∧ x.block < w.heap.size) : PCells (w.setCell ⟨g, k, none⟩ (.slice ad (F k).length c)) g n (k + 1) F := by
  have e : w.setCell ⟨g, k, none⟩ (.slice ad (F k).length c) = w.setCells g k [.slice ad (F k).length c] := rfl
  have hg := gro_cell w g k (.slice ad (F k).length c)
  have keep : ∀ (a : Option Addr) (m : Nat) (l : List UInt8), Row w a m l → (∀ x, a = some x → x.block ≠ g ∧ x.block < w.heap.size) → Row (w.setCell ⟨g, k, none⟩ (.slice ad (F k).length c)) a m l := fun a m l hr hn =>
    row_grown hr hg (.inr fun x e => by intro q; exact (hn x e).1 (Option.some.inj q).symm)
  have hs := hg.size
  refine ⟨by rw [e]; exact World.there_setCells h.1 _ _ _, fun i hi => ?_⟩
  by_cases c1 : i = k
  · subst c1
    refine ⟨ad, c, ?_, hc, keep _ _ _ hR hne, fun x e => ⟨(hne x e).1, Nat.lt_of_lt_of_le (hne x e).2 hs⟩⟩
    have := (h.1 i hk).1
    rw [Nat.zero_add] at this
    exact World.cell?_setCell_same' _ _ _ this
  · obtain ⟨a, c', h1, h2, h3, h4⟩ := h.2 i (by omega)
    refine ⟨a, c', ?_, h2, keep _ _ _ h3 h4, fun x e => ⟨(h4 x e).1, Nat.lt_of_lt_of_le (h4 x e).2 hs⟩⟩
    have q := World.cell?_setCell_other w ⟨g, k, none⟩ ⟨g, i, none⟩ (.slice ad (F k).length c) (by intro q; have := congrArg Addr.off q; exact c1 this.symm)
    rw [q]
    exact h1
theorem PCells.rows {w : World} {g n : Nat} {F : Nat → List UInt8} (h : PCells w g n n F) (hF : ∀ i, i < n → (F i).length ≤ 140737488351232) : BRowsB w (some ⟨g, 0, none⟩) n ((List.range n).map F) := by
  have e : ∀ i, i < n → ((List.range n).map F).getD i [] = F i := fun i hi => by rw [List.getD_eq_getElem?_getD, List.getElem?_map, List.getElem?_range hi]; rfl
  refine ⟨⟨by simp, .inr ⟨g, 0, rfl, fun i hi => ?_⟩⟩, fun i hi => by rw [e i hi]; exact hF i hi⟩
  obtain ⟨ad, c, h1, h2, h3, _⟩ := h.2 i hi
  exact ⟨ad, (F i).length, c, by rw [Nat.zero_add]; exact h1, h2, by rw [e i hi]; exact h3⟩
/-- k shares in a block that has room for n. -/
def SCells (w : World) (g n k : Nat) (S : Nat → Shr) : Prop := w.there g 0 (n * 2) ∧ ∀ i, i < k → (S i).1 < 256 ∧ (S i).2.length ≤ 140737488351232 ∧ ∃ (ad : Option Addr) (c : Nat), w.cell? ⟨g, i * 2, none⟩ = some (.int .u8 ((S i).1 : Int)) ∧ w.cell? ⟨g, i * 2 + 1, none⟩ = some (.slice ad (S i).2.length c) ∧ (S i).2.length ≤ c ∧ Row w ad (S i).2.length (S i).2 ∧ ∀ x, ad = some x → x.block ≠ g ∧ x.block < w.heap.size
theorem SCells.made {w1 : World} {B g n : Nat} {xs : List Value} {S : Nat → Shr} (h : w1.ownsRow B 42 2 (.slice (some ⟨g, 0, none⟩) n n) n xs) : SCells w1 g n 0 S :=
  ⟨own_thereS h, fun i hi => absurd hi (by omega)⟩
theorem SCells.below {w w' : World} {g n k : Nat} {S : Nat → Shr} (h : SCells w g n k S) (hb : Below w.heap.size w w') (hg : g < w.heap.size) : SCells w' g n k S := by
  refine ⟨there_belowB h.1 hb hg, fun i hi => ?_⟩
  obtain ⟨h0, h00, ad, c, h1, h2, h3, h4, h5⟩ := h.2 i hi
  exact ⟨h0, h00, ad, c, (hb.cell (p := ⟨g, i * 2, none⟩) hg).trans h1, (hb.cell (p := ⟨g, i * 2 + 1, none⟩) hg).trans h2, h3, h4.below hb, fun x e => ⟨(h5 x e).1, Nat.lt_of_lt_of_le (h5 x e).2 hb.size⟩⟩
theorem SCells.slot {w : World} {g n k : Nat} {S : Nat → Shr} (h : SCells w g n k S) {i : Nat} (hi : i < n) : w.there g (i * 2) 2 := fun j hj => by
  have := h.1 (i * 2 + j) (by omega)
  rwa [Nat.zero_add] at this
theorem SCells.put {w : World} {g n k c : Nat} {ad : Option Addr} {S : Nat → Shr} (h : SCells w g n k S) (hk : k < n) (h8 : (S k).1 < 256) (h47 : (S k).2.length ≤ 140737488351232) (hc : (S k).2.length ≤ c) (hR : Row w ad (S k).2.length (S k).2) (hne : ∀ x, ad = some x → x.block ≠ g ∧ x.block < w.heap.size) :
    SCells (w.setCells g (k * 2) (hdC ((S k).1, ad, (S k).2.length, c))) g n (k + 1) S := by
  have hg := gr_setCellsS g (hdC ((S k).1, ad, (S k).2.length, c)) (k * 2) w
  have keep : ∀ (a : Option Addr) (m : Nat) (l : List UInt8), Row w a m l → (∀ x, a = some x → x.block ≠ g ∧ x.block < w.heap.size) → Row (w.setCells g (k * 2) (hdC ((S k).1, ad, (S k).2.length, c))) a m l := fun a m l hr hn =>
    row_grown hr hg (.inr fun x e => by intro q; exact (hn x e).1 (Option.some.inj q).symm)
  have hs := hg.size
  refine ⟨World.there_setCells h.1 _ _ _, fun i hi => ?_⟩
  by_cases c1 : i = k
  · subst c1
    have hr : (w.setCells g (i * 2) (hdC ((S i).1, ad, (S i).2.length, c))).rangeAt g (i * 2) (hdC ((S i).1, ad, (S i).2.length, c)) := World.rangeAt_setCells_same _ _ _ _ (h.slot hk)
    exact ⟨h8, h47, ad, c, hr 0 _ rfl, hr 1 _ rfl, hc, keep _ _ _ hR hne, fun x e => ⟨(hne x e).1, Nat.lt_of_lt_of_le (hne x e).2 hs⟩⟩
  · obtain ⟨h0, h00, a, c', h1, h2, h3, h4, h5⟩ := h.2 i (by omega)
    have out : ∀ j, j < 2 → (w.setCells g (k * 2) (hdC ((S k).1, ad, (S k).2.length, c))).cell? ⟨g, i * 2 + j, none⟩ = w.cell? ⟨g, i * 2 + j, none⟩ := fun j hj =>
      World.cell?_setCells_out g _ _ _ ⟨g, i * 2 + j, none⟩ (fun _ _ => by
        show i * 2 + j < k * 2 ∨ k * 2 + (hdC ((S k).1, ad, (S k).2.length, c)).length ≤ i * 2 + j
        rw [hdC_length]
        omega)
    exact ⟨h0, h00, a, c', (out 0 (by omega)).trans h1, (out 1 (by omega)).trans h2, h3, keep _ _ _ h4 h5, fun x e => ⟨(h5 x e).1, Nat.lt_of_lt_of_le (h5 x e).2 hs⟩⟩
theorem SCells.rows {w : World} {g n : Nat} {S : Nat → Shr} {ss : List Shr} (h : SCells w g n n S) (hl : ss.length = n) (he : ∀ i, i < n → ss.getD i noS = S i) : SRow w (some ⟨g, 0, none⟩) n ss := by
  refine ⟨hl, .inr ⟨g, 0, rfl, fun i hi => ?_⟩⟩
  obtain ⟨h0, h00, ad, c, h1, h2, h3, h4, _⟩ := h.2 i hi
  rw [he i hi, Nat.zero_add]
  exact ⟨h0, h1, ad, (S i).2.length, c, h2, h3, h00, h4⟩
theorem wpList_storeShA {ops : Array Oper} {rest : List Oper} {o : Oper} {a : Act} {w : World} {Q : Exit → Act → World → Prop} (hg : o.guard = none) (x y : Operand) (ho : o.op = .store 42 x y)
    (b k : Nat) (hd : Hdr) (hx : a.eval x = .pointer (some ⟨b, k, none⟩)) (hy : a.eval y = hdV hd) (ht : w.there b k 2)
    (h : wpList Tryd.prog ops Q rest (a.put o.dst undef) (w.setCells b k (hdC hd))) : wpList Tryd.prog ops Q (o :: rest) a w :=
  wpList_store_mid hg 42 x y ho b k (hdC hd).toArray hx hy ht Tryd.sizeSh (all_oneCell_toArray (hdC_one hd)) h
theorem run_results_sh {fn : Func} {p : Tmp} (h : fn.results = #[.cell p 42]) (tmps : Array Value) (w : World) (b : Nat) (hp : tmps.getD p undef = .pointer (some ⟨b, 0, none⟩)) (hd : Hdr) (hc : w.rangeAt b 0 (hdC hd)) :
    (results fn tmps).run Tryd.prog w = .ok (hdV hd) w := by
  have hp' : tmps[p]?.getD undef = .pointer (some ⟨b, 0, none⟩) := by simpa using hp
  simp only [results, h]
  simp [Sem.run_bind, Result.andThen, hp', asAddr, run_loadVar_mid w b 0 42 (hdC hd) _ hc Tryd.underlying42 (by rfl) (by rw [hdC_length]; exact Tryd.sizeSh)]
  rfl
end Go.Proofs.YtnffmegicgbinaaDoor
