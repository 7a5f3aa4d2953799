/- Texts of this claim, joined: Wshat, Wsplits, Joinp, Rsfault. -/
import Derived.Test.YtghiniaijobonaaDoorJ11
import Derived.Test.YtghiniaijobonaaDoorJ07
import Derived.WalkKit
import Derived.OrdersHeld
import Derived.Deep.RegionHeld3
import Derived.Deep.DeepCutAuto
/- The contract of share.shareAt. -/
namespace Go.Proofs.YtghiniaijobonaaDoor
open Go.RowKit
set_option linter.unusedVariables false
set_option linter.unusedSimpArgs false

/-- The values of polynomials at x. -/
def valL (ls : List (List UInt8)) (x : Nat) : List UInt8 := ls.map fun l => UInt8.ofNat (polyv (nb l) x)
theorem valL_length (ls : List (List UInt8)) (x : Nat) : (valL ls x).length = ls.length := by simp [valL]
theorem valL_at {ls : List (List UInt8)} {x i : Nat} (h : i < ls.length) : ((valL ls x).getD i 0).toNat = polyv (nb (ls.getD i [])) x := by
  have e : (valL ls x).getD i 0 = UInt8.ofNat (polyv (nb (ls.getD i [])) x) := by
    unfold valL
    rw [List.getD_eq_getElem?_getD, List.getD_eq_getElem?_getD, List.getElem?_map, List.getElem?_eq_getElem h]
    rfl
  have := polyv_lt (nb_bys (ls.getD i [])) x
  rw [e, UInt8.toNat_ofNat']
  omega
set_option maxRecDepth 100000 in
set_option maxHeartbeats 2000000 in
theorem wshat_any (a : Option Addr) (n c : Nat) (ls : List (List UInt8)) (x : Nat) (w : World) (R : BRowsB w a n ls) (hn : n ≤ 100) (hx : x < 256) :
    Calls Tryd.prog 13 #[.slice a n c, .int .u8 (x : Int)] w fun e w' => (∃ g, e = .returned (hdV (x, some ⟨g, 0, none⟩, n, n)) ∧ w.heap.size ≤ g ∧ g < w'.heap.size ∧ Row w' (some ⟨g, 0, none⟩) n (valL ls x)) ∧ Below w.heap.size w w' := by
  obtain ⟨iB, hiB, hz0, hz1, hz2⟩ := info_parts Tryd.infoSh8
  have HL : Hid (ls.length = n) := R.1.1
  have HR : Hid (BRowsB w a n ls) := R
  obtain ⟨g, hg⟩ : ∃ g, w.heap.size = g := ⟨_, rfl⟩
  have HG : Hid (w.heap.size = g) := hg
  obtain ⟨w2, hw2⟩ : ∃ w2, w.alloc (.cells (hdC noH).toArray 37) = w2 := ⟨_, rfl⟩
  have hs2 : w2.heap.size = g + 1 := by rw [← hw2, World.size_alloc, hg]
  have HB2 : Hid (Below w.heap.size w w2) := by rw [← hw2]; exact (Below.refl _ _).alloc (Nat.le_refl _) _
  have HT2 : Hid (w2.there g 0 2) := by rw [← hw2]; exact alloc_thereAt _ _ _ 2 _ hg rfl
  have HBU : Hid (∀ d, Tryd.prog.built 37 [(0, .int .u8 (x : Int)), (1, .slice (some ⟨d, 0, none⟩) n n)] = some (hdC (x, some ⟨d, 0, none⟩, n, n)).toArray) := fun d => by rfl
  have n0 : (0 : Int) ≤ (n : Int) := by omega
  clear R
  go_enter Tryd.func13, Tryd.ntmps13
  go_wp2_with (first
    | (refine wpList_allocSh (by rfl) (by rfl) g hg w2 hw2 ?_)
    | (at_make; (refine wpList_make_full _ rfl _ _ 33 rfl w2.heap.size 5 iB (.int .u8 0) 1 Tryd.underlying33 hiB hz0 hz1 _ _ _ _ n rfl rfl rfl rfl (by rw [hz2]; omega) (by unfold maxLen; omega) (Nat.le_refl _) ?_); intro w5 hown hgrow))
  have HC5 : Hid (BCells w5 w2.heap.size n (fun _ => 0)) := BCells.made hown
  have HG5 : Hid (w2.heap.size < w5.heap.size) := (World.ownsRow.lt hown w2.heap.size rfl).2
  have hb5 : Below w2.heap.size w2 w5 := (Below.refl _ _).grown hgrow (Nat.le_refl _) (fun _ h => by cases h)
  have HB5 : Hid (Below w.heap.size w w5) := HB2.out.trans (hb5.mono HB2.out.size)
  have HT5 : Hid (w5.there g 0 2) := there_belowB HT2.out hb5 (by omega)
  obtain ⟨d, hd⟩ : ∃ d, g + 1 = d := ⟨_, rfl⟩
  have HD : Hid (d = g + 1) := hd.symm
  rw [hs2, hd] at HC5 HG5
  try simp only [hs2]
  simp only [hd]
  clear hown hgrow hb5 HB2 HT2 hw2 hs2 hd hg iB hiB hz0 hz1 hz2
  clear w2
  go_loopw [13] (fun iv wr => ∃ i : Nat, iv = .int .i64 (i : Int) ∧ i ≤ n ∧ Hid (BCells wr d n (fun j => if j < i then polyv (nb (ls.getD j [])) x else 0)) ∧ Hid (Below w.heap.size w wr) ∧ Hid (wr.there g 0 2) ∧ Hid (d < wr.heap.size)) (fun iv _ => n - (intOf iv).toNat)
  case atStart => exact ⟨0, rfl, Nat.zero_le _, HC5.out, HB5.out, HT5.out, HG5.out⟩
  case round =>
    clear HC5 HB5 HT5 HG5
    obtain ⟨i, rfl, hi, HC, HB, HT, HGD⟩ := hrel
    by_cases hlt : i < n
    · obtain ⟨b, o, ha⟩ := HR.out.addr (by omega)
      subst ha
      obtain ⟨ai, ni, ci, hci, hni, _, HCI⟩ := HR.out.head i hlt
      have k0 := (HCI wr HB.out).1
      have hbd := HR.out.2 i hlt
      rw [← hni] at hbd
      have HRI : Hid (Row wr ai ni (ls.getD i [])) := by
        rcases (HR.out.below HB.out).1.2 with h0 | ⟨b', o', e, hc⟩
        · omega
        · cases e
          obtain ⟨ai', ni', ci', c1, c2, c3⟩ := hc i hlt
          rw [k0] at c1
          cases c1
          exact c3
      have HIM : Hid (i < n) := hlt
      have i0 : (0 : Int) ≤ (i : Int) := by omega
      have i1 : (i : Int) < (n : Int) := by omega
      clear HCI hlt hi hni
      go_wp2_with fail
      clear k0
      refine (wvalue0 ai ni ci (ls.getD i []) x wr HRI.out hbd hx).mono ?_
      rintro e w6 ⟨rfl, hb6⟩
      have HB6 : Hid (Below wr.heap.size wr w6) := hb6
      have hx6 := HC.out.below hb6 HGD.out
      obtain ⟨u6, hc6⟩ : ∃ u, w6.cell? ⟨d, i, none⟩ = some u := ⟨_, (hx6.at HIM.out).1⟩
      have hf6 := (hx6.at HIM.out).2
      have hset := hx6.set (v := polyv (nb (ls.getD i [])) x) (f' := fun j => if j < i + 1 then polyv (nb (ls.getD j [])) x else 0) HIM.out (fun j hj => by
        by_cases c1 : j = i
        · subst c1
          rw [if_pos rfl, if_pos (by omega)]
        · rw [if_neg c1]
          by_cases c2 : j < i
          · rw [if_pos c2, if_pos (by omega)]
          · rw [if_neg c2, if_neg (by omega)])
      have HS : Hid (BCells (w6.setCell ⟨d, i, none⟩ (.int .u8 ((polyv (nb (ls.getD i [])) x : Nat) : Int))) d n (fun j => if j < i + 1 then polyv (nb (ls.getD j [])) x else 0)) := hset
      have HBN : Hid (Below w.heap.size w (w6.setCell ⟨d, i, none⟩ (.int .u8 ((polyv (nb (ls.getD i [])) x : Nat) : Int)))) := (HB.out.trans (hb6.mono HB.out.size)).setCell (p := ⟨d, i, none⟩) (by have := HG.out; have := HD.out; show w.heap.size ≤ d; omega) _
      have HTN : Hid ((w6.setCell ⟨d, i, none⟩ (.int .u8 ((polyv (nb (ls.getD i [])) x : Nat) : Int))).there g 0 2) := World.there_setCells (there_belowB HT.out hb6 (by have := HGD.out; have := HD.out; omega)) d i [_]
      have HGN : Hid (d < (w6.setCell ⟨d, i, none⟩ (.int .u8 ((polyv (nb (ls.getD i [])) x : Nat) : Int))).heap.size) := Nat.lt_of_lt_of_le (Nat.lt_of_lt_of_le HGD.out hb6.size) (gro_cell _ _ _ _).size
      have hv8 := polyv_lt (nb_bys (ls.getD i [])) x
      generalize polyv (nb (ls.getD i [])) x = v at *
      clear hset hx6 hb6 HB6 HRI HC HB HT HGD
      go_wp2_with fail
      go_roundw
      case rel => exact ⟨i + 1, by go_num, HIM.out, HS.out, HBN.out, HTN.out, HGN.out⟩
      case measure => have := HIM.out; simp [intOf]; omega
    · have hin : i = n := by omega
      subst hin
      have g2 : ¬ (i : Int) < (i : Int) := by omega
      have HRW : Hid (Row wr (some ⟨d, 0, none⟩) i (valL ls x)) := HC.out.row (by rw [valL_length, HL.out]) (fun j hj => by rw [valL_at (by rw [HL.out]; exact hj), if_pos hj])
      obtain ⟨w7, hw7⟩ : ∃ w7, wr.setCells g 0 (hdC (x, some ⟨d, 0, none⟩, i, i)) = w7 := ⟨_, rfl⟩
      have HR7 : Hid (w7.rangeAt g 0 (hdC (x, some ⟨d, 0, none⟩, i, i))) := by rw [← hw7]; exact World.rangeAt_setCells_same _ _ _ _ HT.out
      have HRW7 : Hid (Row w7 (some ⟨d, 0, none⟩) i (valL ls x)) := by
        rw [← hw7]
        exact row_grown HRW.out (gr_setCellsS g _ _ _) (.inr fun ad e => by cases e; intro q; have q2 : g = d := Option.some.inj q; have := HD.out; omega)
      have HB7 : Hid (Below w.heap.size w w7) := by rw [← hw7]; exact below_setCells _ (by have := HG.out; omega) _ _ _ HB.out
      have HG7 : Hid (d < w7.heap.size) := by rw [← hw7]; exact Nat.lt_of_lt_of_le HGD.out (gr_setCellsS g _ _ _).size
      have HBD := HBU.out d
      clear hlt hi HRW HC HB HGD HBU
      go_wp2_with (first
        | (refine wpList_buildC (by rfl) 37 _ (by rfl) (hdC (x, some ⟨d, 0, none⟩, i, i)).toArray (by show Tryd.prog.built 37 [(0, .int .u8 (x : Int)), (1, .slice (some ⟨d, 0, none⟩) i i)] = _; exact HBD) ?_)
        | (refine wpList_storeSh (by rfl) (.tmp 4) (.tmp 27) (by rfl) g (x, some ⟨d, 0, none⟩, i, i) (by rfl) (by rfl) HT.out w7 hw7 ?_))
      refine bodyPost_ret (run_results_sh Tryd.results13 _ _ g (by rfl) (x, some ⟨d, 0, none⟩, i, i) HR7.out) rfl ⟨⟨d, rfl, by have := HG.out; have := HD.out; omega, HG7.out, HRW7.out⟩, HB7.out⟩
end Go.Proofs.YtghiniaijobonaaDoor
/- The contracts of share.Split. -/
namespace Go.Proofs.YtghiniaijobonaaDoor
open Go.RowKit
set_option linter.unusedVariables false
set_option linter.unusedSimpArgs false

theorem valL_polys (secret : List UInt8) (ls : List (List UInt8)) (m k : Nat) : valL (polysL secret ls m) k = dataS secret ls k m := by
  unfold valL polysL dataS
  rw [List.map_map]
  rfl
set_option maxRecDepth 100000 in
set_option maxHeartbeats 2000000 in
theorem wsplit_out (a1 : Option Addr) (m c1 : Nat) (secret : List UInt8) (n : Int) (a2 : Option Addr) (n2 c2 : Nat) (ls : List (List UInt8)) (q : Int) (w : World) (hm : m ≤ 140737488351232) (k1 : -9223372036854775808 ≤ n) (k2 : n ≤ 9223372036854775807) (R2 : BRowsB w a2 n2 ls) (hn2 : n2 ≤ 140737488351232) (hf : splitE m n ls = q) (hq : q ≠ 0) :
    Calls Tryd.prog 5 #[.slice a1 m c1, .int .i64 n, .slice a2 n2 c2] w fun r w' => (∃ a' c', r = .returned (.tuple #[.slice a' 0 c', .iface 51 (.int .i64 q)])) ∧ Below w.heap.size w w' := by
  have HL : Hid (ls.length = n2) := R2.1.1
  have HQ : Hid (q ≠ 0) := hq
  clear hq
  go_enter Tryd.func5, Tryd.ntmps5
  by_cases c1' : n < 1
  · have HE : Hid (q = 2) := by rw [← hf]; exact if_pos (.inl c1')
    clear hf
    go_wp2_with fail
    go_ret2
    exact ⟨⟨none, 0, by rw [HE.out]; rfl⟩, Below.refl _ _⟩
  by_cases c2' : 20 < n
  · have HE : Hid (q = 2) := by rw [← hf]; exact if_pos (.inr c2')
    clear hf
    go_wp2_with fail
    go_ret2
    exact ⟨⟨none, 0, by rw [HE.out]; rfl⟩, Below.refl _ _⟩
  have HE1 : Hid ((if 100 < m ∨ 20 < ls.length then 4 else if ∀ l ∈ ls, l.length = m then 0 else 3) = q) := by rw [← hf]; exact (if_neg (by omega)).symm
  by_cases c3 : 100 < m
  · have HE : Hid (q = 4) := by rw [← HE1.out]; exact if_pos (.inl c3)
    have g3 : (100 : Int) < (m : Int) := by omega
    clear hf HE1
    go_wp2_with fail
    go_ret2
    exact ⟨⟨none, 0, by rw [HE.out]; rfl⟩, Below.refl _ _⟩
  have g3 : ¬ (100 : Int) < (m : Int) := by omega
  by_cases c4 : 20 < n2
  · have HE : Hid (q = 4) := by rw [← HE1.out]; exact if_pos (.inr (by rw [HL.out]; exact c4))
    have g4 : (20 : Int) < (n2 : Int) := by omega
    clear hf HE1
    go_wp2_with fail
    go_ret2
    exact ⟨⟨none, 0, by rw [HE.out]; rfl⟩, Below.refl _ _⟩
  have g4 : ¬ (20 : Int) < (n2 : Int) := by omega
  have HE2 : Hid ((if ∀ l ∈ ls, l.length = m then 0 else 3) = q) := by rw [← HE1.out]; exact (if_neg (by rw [HL.out]; omega)).symm
  clear hf HE1
  go_wp2_with fail
  have HR2 : Hid (BRowsB w a2 n2 ls) := R2
  clear R2
  go_loopw [31] (fun iv wr => ∃ i : Nat, iv = .int .i64 (i : Int) ∧ i ≤ n2 ∧ Hid (∀ j, j < i → (ls.getD j []).length = m) ∧ Hid (wr = w)) (fun iv _ => n2 - (intOf iv).toNat)
  case atStart => exact ⟨0, rfl, Nat.zero_le _, (fun j h => by omega), rfl⟩
  case round =>
    obtain ⟨i, rfl, hi, HJ, HW⟩ := hrel
    have hw := HW.out.symm
    subst hw
    by_cases hlt : i < n2
    · obtain ⟨b, o, ha⟩ := HR2.out.addr (by omega)
      subst ha
      obtain ⟨ai, ni, ci, hci, hni, _, HC⟩ := HR2.out.head i hlt
      have k0 := (HC _ (Below.refl _ _)).1
      have hbd := HR2.out.2 i hlt
      rw [← hni] at hbd
      have i0 : (0 : Int) ≤ (i : Int) := by omega
      have i1 : (i : Int) < (n2 : Int) := by omega
      have HLT : Hid (i < n2) := hlt
      have HNI : Hid (ni = (ls.getD i []).length) := hni
      clear HC hni hlt hi
      by_cases ce : ni = m
      · have g6 : ((ni : Int) != (m : Int)) = false := by simp; omega
        subst ce
        have g7 : ((ni : Int) != (ni : Int)) = false := by simp
        go_wp2_with fail
        go_roundw
        case rel => exact ⟨i + 1, by go_num, by have := HLT.out; omega, (fun j h => by
          by_cases e : j = i
          · rw [e]; exact HNI.out.symm
          · exact HJ.out j (by omega)), by first | exact True.intro | exact rfl⟩
        case measure => have := HLT.out; simp [intOf]; omega
      · have g5 : ¬ (ni : Int) = (m : Int) := by omega
        have g6 : ((ni : Int) != (m : Int)) = true := by simp; omega
        have HE : Hid (q = 3) := by
          rw [← HE2.out]
          refine if_neg fun q => ce ?_
          rw [HNI.out]
          refine q _ ?_
          rw [List.getD_eq_getElem?_getD, List.getElem?_eq_getElem (by rw [HL.out]; exact HLT.out)]
          exact List.getElem_mem _
        clear ce
        go_wp2_with fail
        go_ret2
        exact ⟨⟨none, 0, by rw [HE.out]; rfl⟩, Below.refl _ _⟩
    · have hin : i = n2 := by omega
      subst hin
      have g2 : ¬ (i : Int) < (i : Int) := by omega
      clear hlt
      refine absurd ?_ HQ.out
      rw [← HE2.out]
      refine if_pos fun l hl => ?_
      obtain ⟨j, hj, rfl⟩ := List.mem_iff_getElem.1 hl
      have := HJ.out j (by rw [← HL.out]; exact hj)
      rw [List.getD_eq_getElem?_getD, List.getElem?_eq_getElem hj] at this
      exact this
set_option maxRecDepth 100000 in
set_option maxHeartbeats 2000000 in
theorem wsplit_in (a1 : Option Addr) (m c1 : Nat) (secret : List UInt8) (n : Nat) (a2 : Option Addr) (n2 c2 : Nat) (ls : List (List UInt8)) (w : World) (R1 : Row w a1 m secret) (R2 : BRowsB w a2 n2 ls) (hf : splitE m (n : Int) ls = 0) :
    Calls Tryd.prog 5 #[.slice a1 m c1, .int .i64 (n : Int), .slice a2 n2 c2] w fun r w' => (∃ a' c', r = .returned (.tuple #[.slice a' n c', .nilIface]) ∧ n ≤ c' ∧ SRow w' a' n (splitL secret ls n)) ∧ Below w.heap.size w w' := by
  obtain ⟨iS, hiS, hs0, hs1, hs2⟩ := info_parts Tryd.infoSh
  obtain ⟨n1, n20, hm100, hl20, hall⟩ := splitE_ok hf
  have HL : Hid (ls.length = n2) := R2.1.1
  have HLS : Hid (secret.length = m) := R1.1
  rw [HL.out] at hl20
  have HALL : Hid (∀ l ∈ ls, l.length = m) := hall
  have g1 : ¬ (n : Int) < 1 := by omega
  have g2 : ¬ (20 : Int) < (n : Int) := by omega
  have g3 : ¬ (100 : Int) < (m : Int) := by omega
  have g4 : ¬ (20 : Int) < (n2 : Int) := by omega
  have n0 : (0 : Int) ≤ (n : Int) := by omega
  have HR1 : Hid (Row w a1 m secret) := R1
  have hn20 : n ≤ 20 := by omega
  clear R1 hall hf n1 n20
  go_enter Tryd.func5, Tryd.ntmps5
  go_wp2_with fail
  have HR2 : Hid (BRowsB w a2 n2 ls) := R2
  clear R2
  go_loopw [31] (fun iv wr => ∃ i : Nat, iv = .int .i64 (i : Int) ∧ i ≤ n2 ∧ Hid (∀ j, j < i → (ls.getD j []).length = m) ∧ Hid (wr = w)) (fun iv _ => n2 - (intOf iv).toNat)
  case atStart => exact ⟨0, rfl, Nat.zero_le _, (fun j h => by omega), rfl⟩
  case round =>
    obtain ⟨i, rfl, hi, HJ, HW⟩ := hrel
    have hw := HW.out.symm
    subst hw
    by_cases hlt : i < n2
    · obtain ⟨b, o, ha⟩ := HR2.out.addr (by omega)
      subst ha
      obtain ⟨ai, ni, ci, hci, hni, _, HC⟩ := HR2.out.head i hlt
      have k0 := (HC _ (Below.refl _ _)).1
      have hbd := HR2.out.2 i hlt
      rw [← hni] at hbd
      have i0 : (0 : Int) ≤ (i : Int) := by omega
      have i1 : (i : Int) < (n2 : Int) := by omega
      have HLT : Hid (i < n2) := hlt
      have HNI : Hid (ni = (ls.getD i []).length) := hni
      clear HC hni hlt hi
      by_cases ce : ni = m
      · have g6 : ((ni : Int) != (m : Int)) = false := by simp; omega
        subst ce
        have g7 : ((ni : Int) != (ni : Int)) = false := by simp
        go_wp2_with fail
        go_roundw
        case rel => exact ⟨i + 1, by go_num, by have := HLT.out; omega, (fun j h => by
          by_cases e : j = i
          · rw [e]; exact HNI.out.symm
          · exact HJ.out j (by omega)), by first | exact True.intro | exact rfl⟩
        case measure => have := HLT.out; simp [intOf]; omega
      · exact absurd (by
          rw [HNI.out]
          refine HALL.out _ ?_
          rw [List.getD_eq_getElem?_getD, List.getElem?_eq_getElem (by rw [HL.out]; exact HLT.out)]
          exact List.getElem_mem _) ce
    · have hin : i = n2 := by omega
      subst hin
      have g2 : ¬ (i : Int) < (i : Int) := by omega
      clear hlt
      clear hi HJ HW
      go_wp2_with fail
      refine (wpolys_any a1 m c1 secret a2 i c2 ls w HR1.out HR2.out hm100 hl20 HALL.out).mono ?_
      rintro e w3 ⟨⟨a3, c3, rfl, hc3, hR3⟩, hb3⟩
      have HR3 : Hid (BRowsB w3 a3 m (polysL secret ls m)) := hR3
      have HB3 : Hid (Below w.heap.size w w3) := hb3
      clear hR3 hb3 HR2 HR1
      go_wp2_with (first
        | (at_make; (refine wpList_make_full _ rfl _ _ 30 rfl w3.heap.size 37 iS (.agg #[.int .u8 0, .slice none 0 0]) 2 Tryd.underlying30 hiS hs0 hs1 _ _ _ _ n rfl rfl rfl rfl (by rw [hs2]; omega) (by unfold maxLen; omega) (Nat.le_refl _) ?_); intro w5 hown hgrow))
      have HP5 : Hid (SCells w5 w3.heap.size n 0 (fun k => (k + 1, dataS secret ls (k + 1) m))) := SCells.made hown
      have hb5 : Below w3.heap.size w3 w5 := (Below.refl _ _).grown hgrow (Nat.le_refl _) (fun _ h => by cases h)
      have HG5 : Hid (w3.heap.size < w5.heap.size) := (World.ownsRow.lt hown w3.heap.size rfl).2
      obtain ⟨g, hg⟩ : ∃ g, w3.heap.size = g := ⟨_, rfl⟩
      have HG : Hid (w3.heap.size = g) := hg
      have HB5 : Hid (Below g w3 w5) := by rw [← hg]; exact hb5
      rw [hg] at HP5 HG5
      try simp only [hg]
      clear hown hgrow hb5 hg iS hiS hs0 hs1 hs2
      go_loopw [49] (fun iv wr => ∃ k : Nat, iv = .int .i64 (k : Int) ∧ k ≤ n ∧ Hid (SCells wr g n k (fun k => (k + 1, dataS secret ls (k + 1) m))) ∧ Hid (Below g w3 wr) ∧ Hid (g < wr.heap.size)) (fun iv _ => n - (intOf iv).toNat)
      case atStart => exact ⟨0, rfl, Nat.zero_le _, HP5.out, HB5.out, HG5.out⟩
      case round =>
        clear HP5 HB5 HG5
        obtain ⟨k, rfl, hk, HP, HB, HGS⟩ := hrel
        by_cases hlk : k < n
        · have HKN : Hid (k < n) := hlk
          have k0 : (0 : Int) ≤ (k : Int) := by omega
          have k1 : (k : Int) < (n : Int) := by omega
          have HBW : Hid (Below w3.heap.size w3 wr) := by rw [HG.out]; exact HB.out
          obtain ⟨Kn, hK⟩ : ∃ Kn, k + 1 = Kn := ⟨_, rfl⟩
          have HK : Hid (k + 1 = Kn) := hK
          have K1 : (k : Int) + 1 = (Kn : Int) := by omega
          have K8 : Kn < 256 := by omega
          have K9 : IntKind.u8.wrap (Kn : Int) = (Kn : Int) := u8_wrap K8
          clear hlk hk hK
          go_wp2_with fail
          refine (wshat_any a3 m c3 (polysL secret ls m) Kn wr (HR3.out.below HBW.out) hm100 K8).mono ?_
          rintro e w6 ⟨⟨gd, rfl, hgd1, hgd2, hR6⟩, hb6⟩
          rw [valL_polys] at hR6
          have hS6 := HP.out.below hb6 HGS.out
          have hput := hS6.put HKN.out (c := m) (ad := some ⟨gd, 0, none⟩) (by show k + 1 < 256; have := HK.out; omega) (by show (dataS secret ls (k + 1) m).length ≤ _; rw [dataS_length]; omega) (by show (dataS secret ls (k + 1) m).length ≤ _; rw [dataS_length]; exact Nat.le_refl _) (by
            show Row w6 _ (dataS secret ls (k + 1) m).length (dataS secret ls (k + 1) m)
            rw [dataS_length, HK.out]
            exact hR6) (fun x e => by
            cases e
            have := HGS.out
            exact ⟨by show gd ≠ g; omega, hgd2⟩)
          have hput : SCells (w6.setCells g (k * 2) (hdC (k + 1, some ⟨gd, 0, none⟩, (dataS secret ls (k + 1) m).length, m))) g n (k + 1) (fun k => (k + 1, dataS secret ls (k + 1) m)) := hput
          rw [dataS_length, HK.out] at hput
          have HPN : Hid (SCells (w6.setCells g (k * 2) (hdC (Kn, some ⟨gd, 0, none⟩, m, m))) g n Kn (fun k => (k + 1, dataS secret ls (k + 1) m))) := hput
          have HT6 : Hid (w6.there g (k * 2) 2) := hS6.slot HKN.out
          have HBN : Hid (Below g w3 (w6.setCells g (k * 2) (hdC (Kn, some ⟨gd, 0, none⟩, m, m)))) := below_setCells _ (Nat.le_refl _) _ _ _ (HB.out.trans (hb6.mono (by have := HGS.out; omega)))
          have HGN : Hid (g < (w6.setCells g (k * 2) (hdC (Kn, some ⟨gd, 0, none⟩, m, m))).heap.size) := Nat.lt_of_lt_of_le (Nat.lt_of_lt_of_le HGS.out hb6.size) (gr_setCellsS g _ _ _).size
          clear hput hS6 hR6 hb6 HP HB HBW
          go_wp2_with (refine wpList_storeShA (by rfl) (.tmp 59) (.tmp 58) (by rfl) g (k * 2) (Kn, some ⟨gd, 0, none⟩, m, m) (by rfl) (by rfl) HT6.out ?_)
          go_roundw
          case rel => exact ⟨Kn, by first | rfl | go_num, by have := HKN.out; have := HK.out; omega, HPN.out, HBN.out, HGN.out⟩
          case measure => have := HKN.out; have := HK.out; simp [intOf]; omega
        · have hkn : k = n := by omega
          subst hkn
          have g5 : ¬ (k : Int) < (k : Int) := by omega
          clear hlk hk
          go_wp2_with fail
          go_ret2
          refine ⟨⟨_, _, rfl, Nat.le_refl _, HP.out.rows (splitL_length _ _ _) (fun j hj => ?_)⟩, HB3.out.trans (HB.out.mono (by have := HG.out; have := HB3.out.size; omega))⟩
          rw [splitL_at _ _ _ _ hj, HLS.out]
theorem wshare_split (a1 : Option Addr) (m c1 : Nat) (secret : List UInt8) (n : Nat) (a2 : Option Addr) (n2 c2 : Nat) (ls : List (List UInt8)) (w : World) (G : Env w) (R1 : Row w a1 m secret) (h1 : m ≤ c1) (R2 : BRowsB w a2 n2 ls) (h2 : n2 ≤ c2) (hf : splitE m (n : Int) ls = 0) :
    Calls Tryd.prog 5 #[.slice a1 m c1, .int .i64 (n : Int), .slice a2 n2 c2] w fun r w' => (∃ a' c', r = .returned (.tuple #[.slice a' n c', .nilIface]) ∧ n ≤ c' ∧ SRow w' a' n (splitL secret ls n)) ∧ Below w.heap.size w w' :=
  wsplit_in a1 m c1 secret n a2 n2 c2 ls w R1 R2 hf
theorem wshare_splitout (a1 : Option Addr) (m c1 : Nat) (secret : List UInt8) (n : Int) (a2 : Option Addr) (n2 c2 : Nat) (ls : List (List UInt8)) (q : Int) (w : World) (G : Env w) (R1 : Row w a1 m secret) (h1 : m ≤ c1) (hm : m ≤ 140737488351232) (k1 : -9223372036854775808 ≤ n) (k2 : n ≤ 9223372036854775807) (R2 : BRowsB w a2 n2 ls) (h2 : n2 ≤ c2) (hn2 : n2 ≤ 140737488351232) (hf : splitE m n ls = q) (hq : q ≠ 0) :
    Calls Tryd.prog 5 #[.slice a1 m c1, .int .i64 n, .slice a2 n2 c2] w fun r w' => (∃ a' c', r = .returned (.tuple #[.slice a' 0 c', .iface 51 (.int .i64 q)])) ∧ Below w.heap.size w w' :=
  wsplit_out a1 m c1 secret n a2 n2 c2 ls q w hm k1 k2 R2 hn2 hf hq
end Go.Proofs.YtghiniaijobonaaDoor
/- Plain facts of what shares tell, whatever way it is reckoned. -/
namespace Go.Proofs.YtghiniaijobonaaDoor
open Go.RowKit
set_option linter.unusedVariables false
set_option linter.unusedSimpArgs false

/-- What is wrong with shares that are to be joined. -/
def joinE (ss : List Shr) : Int := if ss.length < 1 ∨ 20 < ss.length then 2 else sfault 1 255 ss
theorem joinE_ok {ss : List Shr} (h : joinE ss = 0) : 0 < ss.length ∧ ss.length ≤ 20 ∧ sfault 1 255 ss = 0 := by
  unfold joinE at h
  by_cases c : ss.length < 1 ∨ 20 < ss.length
  · rw [if_pos c] at h; omega
  · rw [if_neg c] at h
    exact ⟨by omega, by omega, h⟩
/-- What shares have at a place. -/
def colN (ss : List Shr) (k : Nat) : List Nat := ss.map fun s => (s.2.getD k 0).toNat
theorem nb_col (ss : List Shr) (k : Nat) : nb (colL ss k) = colN ss k := by
  unfold nb colL colN
  rw [List.map_map]
  rfl
/-- l is, place by place, what the shares tell at x. -/
def joinedP (ss : List Shr) (x : Nat) (l : List UInt8) : Prop :=
  l.length = (ss.getD 0 noS).2.length ∧ ∀ k, k < l.length → Interp (ss.map (·.1)) (colN ss k) x ((nb l).getD k 0)
theorem joinedL_at {ss : List Shr} {x n k : Nat} (hk : k < n) : (nb (joinedL ss x n)).getD k 0 = thrS ss x k := by
  rw [nb_at]
  unfold joinedL
  rw [List.getD_eq_getElem?_getD, List.getElem?_map, List.getElem?_range hk]
  show (UInt8.ofNat (thrS ss x k)).toNat = _
  rw [UInt8.toNat_ofNat']
  have := thrS_lt ss x k
  omega
theorem thrS_interp {ss : List Shr} {x : Nat} (hn : 0 < ss.length) (hp : ∀ s ∈ ss, s.1 < 256) (hd : (ss.map (·.1)).Nodup) (hx : x < 256) (k : Nat) : Interp (ss.map (·.1)) (colN ss k) x (thrS ss x k) := by
  have h := through_interp (at' := nb (placesL ss)) (v := nb (colL ss k)) (x := x) (by rw [nb_len, placesL_length]; exact hn) (nb_bys _) (nb_bys _) (by rw [nb_places hp]; exact hd) hx
  rw [nb_len, placesL_length] at h
  have e : Interp (nb (placesL ss)) (nb (colL ss k)) x (thrS ss x k) := h
  rwa [nb_places hp, nb_col] at e
theorem joinedL_is {ss : List Shr} {x : Nat} (hn : 0 < ss.length) (hp : ∀ s ∈ ss, s.1 < 256) (hd : (ss.map (·.1)).Nodup) (hx : x < 256) : joinedP ss x (joinedL ss x (ss.getD 0 noS).2.length) := by
  refine ⟨joinedL_length _ _ _, fun k hk => ?_⟩
  rw [joinedL_length] at hk
  rw [joinedL_at hk]
  exact thrS_interp hn hp hd hx k
theorem places_bys {ss : List Shr} (hp : ∀ s ∈ ss, s.1 < 256) : bys (ss.map (·.1)) := fun y hy => by
  obtain ⟨s, hs, rfl⟩ := List.mem_map.1 hy
  exact hp s hs
/-- There is one. -/
theorem joinedP_unique {ss : List Shr} {x : Nat} {l m : List UInt8} (hp : ∀ s ∈ ss, s.1 < 256) (hd : (ss.map (·.1)).Nodup) (hx : x < 256) (hl : joinedP ss x l) (hm : joinedP ss x m) : l = m := by
  refine nb_inj ?_
  apply List.ext_getElem
  · rw [nb_len, nb_len, hl.1, hm.1]
  · intro k a b
    have h1 := hl.2 k (by rwa [nb_len] at a)
    have h2 := hm.2 k (by rwa [nb_len] at b)
    have e := interp_unique hd (places_bys hp) hx h1 h2
    rw [List.getD_eq_getElem?_getD, List.getD_eq_getElem?_getD, List.getElem?_eq_getElem a, List.getElem?_eq_getElem b] at e
    exact e
/-- One share tells what it has. -/
theorem joinedP_one {p v : UInt8} {l : List UInt8} {x : Nat} (hx : x < 256) (h : joinedP [(p.toNat, [v])] x l) : l = [v] := by
  have hp : ∀ s ∈ ([(p.toNat, [v])] : List Shr), s.1 < 256 := fun s hs => by rw [List.mem_singleton.1 hs]; exact p.toNat_lt
  refine joinedP_unique hp (by simp) hx h ⟨rfl, fun k hk => ?_⟩
  have hk0 : k = 0 := by simp at hk; exact hk
  subst hk0
  have e3 : ∀ y, polyv [v.toNat] y = v.toNat := fun y => by
    show v.toNat ^^^ gm y 0 = v.toNat
    rw [gm_zero, Nat.xor_zero]
  have e := e3 x
  have e2 := e3 p.toNat
  refine ⟨[v.toNat], fun y hy => by rw [List.mem_singleton.1 hy]; exact v.toNat_lt, by simp, fun i hi => ?_, ?_⟩
  · have : i = 0 := by simp at hi; exact hi
    subst this
    exact e2
  · show (nb [v]).getD 0 0 = _
    rw [e]
    rfl
end Go.Proofs.YtghiniaijobonaaDoor
/- The contract of oathbookref2.SharesFault. -/
namespace Go.Proofs.YtghiniaijobonaaDoor
open Go.RowKit
set_option linter.unusedVariables false
set_option linter.unusedSimpArgs false

theorem anyS_yes {ss : List Shr} {i j p : Nat} (hj : j < i) (hi : i ≤ ss.length) (h : (ss.getD j noS).1 = p) : (ss.take i).any (fun x => x.1 == p) = true := by
  refine List.any_eq_true.2 ⟨ss.getD j noS, ?_, by simpa using h⟩
  rw [List.getD_eq_getElem?_getD, List.getElem?_eq_getElem (show j < ss.length by omega)]
  exact List.mem_take_iff_getElem.2 ⟨j, by omega, rfl⟩
theorem anyS_no {ss : List Shr} {i p : Nat} (hi : i ≤ ss.length) (h : ∀ j, j < i → (ss.getD j noS).1 ≠ p) : (ss.take i).any (fun x => x.1 == p) = false := by
  rw [List.any_eq_false]
  intro x hx
  obtain ⟨j, hj, rfl⟩ := List.mem_take_iff_getElem.1 hx
  have := h j (by omega)
  rw [List.getD_eq_getElem?_getD, List.getElem?_eq_getElem (show j < ss.length by omega)] at this
  simpa using this
end Go.Proofs.YtghiniaijobonaaDoor
