/- Texts of this claim, joined: Shc, Wcspr, Wcgat, Wcode. -/
import Derived.Test.YtnffmegicgbinabJ09
import Derived.Test.YtnffmegicgbinabJ12
import Derived.Test.YtnffmegicgbinabJ08
import Derived.Test.YtnffmegicgbinabJ01
import Derived.Test.YtnffmegicgbinabJ06
/- Shares in a block, whose bytes lie elsewhere: by their heads. -/
namespace Go.Proofs.Ytnffmegicgbinab
open Go.RowKit
set_option linter.unusedVariables false
set_option linter.unusedSimpArgs false

/-- k heads of shares in a block that has room for n. -/
def HCells (w : World) (g n k : Nat) (H : Nat → Hdr) : Prop := w.there g 0 (n * 2) ∧ ∀ i, i < k → w.rangeAt g (i * 2) (hdC (H i))
theorem HCells.made {w1 : World} {B g n : Nat} {xs : List Value} {H : Nat → Hdr} (h : w1.ownsRow B 31 2 (.slice (some ⟨g, 0, none⟩) n n) n xs) : HCells w1 g n 0 H :=
  ⟨own_thereS h, fun i hi => absurd hi (by omega)⟩
theorem HCells.below {w w' : World} {g n k : Nat} {H : Nat → Hdr} (h : HCells w g n k H) (hb : Below w.heap.size w w') (hg : g < w.heap.size) : HCells w' g n k H :=
  ⟨there_belowB h.1 hb hg, fun i hi j v hj => (hb.cell (p := ⟨g, i * 2 + j, none⟩) hg).trans (h.2 i hi j v hj)⟩
theorem HCells.slot {w : World} {g n k : Nat} {H : Nat → Hdr} (h : HCells w g n k H) {i : Nat} (hi : i < n) : w.there g (i * 2) 2 := fun j hj => by
  have := h.1 (i * 2 + j) (by omega)
  rwa [Nat.zero_add] at this
theorem HCells.put {w : World} {g n k : Nat} {H : Nat → Hdr} (h : HCells w g n k H) (hk : k < n) : HCells (w.setCells g (k * 2) (hdC (H k))) g n (k + 1) H := by
  refine ⟨World.there_setCells h.1 _ _ _, fun i hi => ?_⟩
  by_cases c1 : i = k
  · subst c1
    exact World.rangeAt_setCells_same _ _ _ _ (h.slot hk)
  · intro j v hj
    have hlt := (List.getElem?_eq_some_iff.1 hj).1
    rw [hdC_length] at hlt
    refine (World.cell?_setCells_out g _ _ _ ⟨g, i * 2 + j, none⟩ (fun _ _ => ?_)).trans (h.2 i (by omega) j v hj)
    show i * 2 + j < k * 2 ∨ k * 2 + (hdC (H k)).length ≤ i * 2 + j
    rw [hdC_length]
    omega
theorem HCells.rows {w : World} {g n : Nat} {H : Nat → Hdr} {ss : List Shr} (h : HCells w g n n H) (hl : ss.length = n) (he : ∀ i, i < n → (ss.getD i noS).1 = (H i).1 ∧ (H i).1 < 256 ∧ (H i).2.2.1 ≤ (H i).2.2.2 ∧ (H i).2.2.1 ≤ 140737488351232 ∧ Row w (H i).2.1 (H i).2.2.1 (ss.getD i noS).2) : SRow w (some ⟨g, 0, none⟩) n ss := by
  refine ⟨hl, .inr ⟨g, 0, rfl, fun i hi => ?_⟩⟩
  obtain ⟨h1, h2, h3, h4, h5⟩ := he i hi
  have hr := h.2 i hi
  rw [Nat.zero_add]
  exact ⟨by rw [h1]; exact h2, by rw [h1]; exact hr 0 _ rfl, (H i).2.1, (H i).2.2.1, (H i).2.2.2, hr 1 _ rfl, h3, h4, h5⟩
end Go.Proofs.Ytnffmegicgbinab
/- The contracts of code.canSpread and code.Spread. -/
namespace Go.Proofs.Ytnffmegicgbinab
open Go.RowKit
set_option linter.unusedVariables false
set_option linter.unusedSimpArgs false

theorem BRowsB.heads {w : World} {b o n : Nat} {ls : List (List UInt8)} (R : BRowsB w (some ⟨b, o, none⟩) n ls) : ∃ A : Nat → Option Addr × Nat × Nat, ∀ i, i < n → (A i).2.1 ≤ (A i).2.2 ∧ (A i).2.1 ≤ 140737488351232 ∧ w.cell? ⟨b, o + i, none⟩ = some (.slice (A i).1 (A i).2.1 (A i).2.2) ∧ Row w (A i).1 (A i).2.1 (ls.getD i []) := by
  have h : ∀ i, ∃ t : Option Addr × Nat × Nat, i < n → t.2.1 ≤ t.2.2 ∧ t.2.1 ≤ 140737488351232 ∧ w.cell? ⟨b, o + i, none⟩ = some (.slice t.1 t.2.1 t.2.2) ∧ Row w t.1 t.2.1 (ls.getD i []) := by
    intro i
    by_cases hi : i < n
    · rcases R.1.2 with h0 | ⟨b', o', e, hc⟩
      · omega
      · cases e
        obtain ⟨ai, ni, ci, c1, h4, hR⟩ := hc i hi
        have := R.2 i hi
        rw [hR.1] at this
        exact ⟨(ai, ni, ci), fun _ => ⟨h4, this, c1, hR⟩⟩
    · exact ⟨(none, 0, 0), fun q => absurd q hi⟩
  obtain ⟨A, hA⟩ := Classical.axiomOfChoice h
  exact ⟨A, hA⟩
set_option maxRecDepth 100000 in
set_option maxHeartbeats 2000000 in
theorem wcanspread_any (a : Option Addr) (n c : Nat) (N : Int) (ls : List (List UInt8)) (q : Int) (w : World) (R : BRowsB w a n ls) (hn : n ≤ 140737488351232) (k1 : -9223372036854775808 ≤ N) (k2 : N ≤ 9223372036854775807) (hf : spreadE ls N = q) :
    Calls Try.prog 9 #[.slice a n c, .int .i64 N] w fun r w' => r = .returned (errV q) ∧ w' = w := by
  have HL : Hid (ls.length = n) := R.1.1
  have HF : Hid (spreadE ls N = q) := hf
  clear hf
  go_enter Try.func9, Try.ntmps9
  by_cases c1 : n = 0
  · have HE : Hid (q = 2) := by rw [← HF.out]; exact if_pos (.inl (by rw [HL.out]; omega))
    subst c1
    clear R
    go_wp2_with fail
    go_ret
    exact ⟨by rw [HE.out]; rfl, rfl⟩
  have g1 : ¬ (n : Int) = 0 := by omega
  have g2 : ((n : Int) == 0) = false := by simp; omega
  by_cases c2 : N < n
  · have HE : Hid (q = 2) := by rw [← HF.out]; exact if_pos (.inr (.inl (by rw [HL.out]; exact c2)))
    clear c1 R
    go_wp2_with fail
    go_ret
    exact ⟨by rw [HE.out]; rfl, rfl⟩
  by_cases c3 : 20 < N
  · have HE : Hid (q = 2) := by rw [← HF.out]; exact if_pos (.inr (.inr c3))
    clear c1 R
    go_wp2_with fail
    go_ret
    exact ⟨by rw [HE.out]; rfl, rfl⟩
  obtain ⟨b, o, ha⟩ := R.addr (by omega)
  subst ha
  obtain ⟨A, hA⟩ := R.heads
  obtain ⟨_, hz47, z3, z4⟩ := hA 0 (by omega)
  obtain ⟨⟨a0, F, cF⟩, hA0⟩ : ∃ t, A 0 = t := ⟨_, rfl⟩
  rw [hA0] at hz47 z3 z4
  have hF47 : F ≤ 140737488351232 := hz47
  have k0 : w.cell? ⟨b, o, none⟩ = some (.slice a0 F cF) := z3
  have HFE : Hid ((ls.getD 0 []).length = F) := z4.1
  have HF1 : Hid ((if 100 < F then 4 else if ∀ l ∈ ls, l.length = F then 0 else 3) = q) := by
    rw [← HF.out, ← HFE.out]
    exact (if_neg (by rw [HL.out]; omega)).symm
  have n0 : (0 : Int) < (n : Int) := by omega
  clear hz47 z3 z4 hA0 HF R
  by_cases c4 : 100 < F
  · have HE : Hid (q = 4) := by rw [← HF1.out]; exact if_pos c4
    have g4 : (100 : Int) < (F : Int) := by omega
    clear c1 hA
    go_wp2_with fail
    go_ret
    exact ⟨by rw [HE.out]; rfl, rfl⟩
  have g4 : ¬ (100 : Int) < (F : Int) := by omega
  have HF2 : Hid ((if ∀ l ∈ ls, l.length = F then 0 else 3) = q) := by rw [← HF1.out]; exact (if_neg c4).symm
  have HA : Hid (∀ i, i < n → (A i).2.1 ≤ (A i).2.2 ∧ (A i).2.1 ≤ 140737488351232 ∧ w.cell? ⟨b, o + i, none⟩ = some (.slice (A i).1 (A i).2.1 (A i).2.2) ∧ Row w (A i).1 (A i).2.1 (ls.getD i [])) := hA
  have HK0 : Hid (w.cell? ⟨b, o, none⟩ = some (.slice a0 F cF)) := k0
  clear c1 hA HF1 c4
  go_wp2_with fail
  go_loopw [29] (fun iv wr => ∃ i : Nat, iv = .int .i64 (i : Int) ∧ i ≤ n ∧ Hid (∀ j, j < i → (ls.getD j []).length = F) ∧ Hid (wr = w)) (fun iv _ => n - (intOf iv).toNat)
  case atStart => exact ⟨0, rfl, Nat.zero_le _, (fun j h => by omega), rfl⟩
  case round =>
    clear k0
    obtain ⟨i, rfl, hi, HJ, HW⟩ := hrel
    have hw := HW.out.symm
    subst hw
    by_cases hlt : i < n
    · obtain ⟨_, hni47, c5, c6⟩ := HA.out i hlt
      obtain ⟨⟨ai, ni, ci⟩, hAi⟩ : ∃ t, A i = t := ⟨_, rfl⟩
      rw [hAi] at hni47 c5 c6
      have hn47 : ni ≤ 140737488351232 := hni47
      have k5 : w.cell? ⟨b, o + i, none⟩ = some (.slice ai ni ci) := c5
      have k0 := HK0.out
      have HNI : Hid ((ls.getD i []).length = ni) := c6.1
      have i0 : (0 : Int) ≤ (i : Int) := by omega
      have i1 : (i : Int) < (n : Int) := by omega
      have HLT : Hid (i < n) := hlt
      clear hni47 c5 c6 hAi hlt hi
      by_cases ce : ni = F
      · subst ce
        have g7 : ((ni : Int) != (ni : Int)) = false := by simp
        go_wp2_with fail
        go_roundw
        case rel => exact ⟨i + 1, by go_num, by have := HLT.out; omega, (fun j h => by
          by_cases e : j = i
          · rw [e]; exact HNI.out
          · exact HJ.out j (by omega)), by first | exact True.intro | exact rfl⟩
        case measure => have := HLT.out; simp [intOf]; omega
      · have g5 : ¬ (ni : Int) = (F : Int) := by omega
        have g6 : ((ni : Int) != (F : Int)) = true := by simp; omega
        have HE : Hid (q = 3) := by
          rw [← HF2.out]
          refine if_neg fun q => ce ?_
          rw [← HNI.out]
          refine q _ ?_
          rw [List.getD_eq_getElem?_getD, List.getElem?_eq_getElem (by rw [HL.out]; exact HLT.out)]
          exact List.getElem_mem _
        clear ce
        go_wp2_with fail
        go_ret
        exact ⟨by rw [HE.out]; rfl, rfl⟩
    · have hin : i = n := by omega
      subst hin
      have g2 : ¬ (i : Int) < (i : Int) := by omega
      clear hlt
      have HE : Hid (q = 0) := by
        rw [← HF2.out]
        refine if_pos fun l hl => ?_
        obtain ⟨j, hj, rfl⟩ := List.mem_iff_getElem.1 hl
        have := HJ.out j (by rw [← HL.out]; exact hj)
        rw [List.getD_eq_getElem?_getD, List.getElem?_eq_getElem hj] at this
        exact this
      go_wp2_with fail
      go_ret
      exact ⟨by rw [HE.out]; rfl, rfl⟩

set_option maxRecDepth 100000 in
set_option maxHeartbeats 2000000 in
theorem wspread_out (a : Option Addr) (n c : Nat) (N : Int) (ls : List (List UInt8)) (q : Int) (w : World) (R : BRowsB w a n ls) (hn : n ≤ 140737488351232) (k1 : -9223372036854775808 ≤ N) (k2 : N ≤ 9223372036854775807) (hf : spreadE ls N = q) (hq : q ≠ 0) :
    Calls Try.prog 5 #[.slice a n c, .int .i64 N] w fun r w' => (∃ a' c', r = .returned (.tuple #[.slice a' 0 c', .iface 40 (.int .i64 q)])) ∧ Below w.heap.size w w' := by
  have hcall := wcanspread_any a n c N ls q w R hn k1 k2 hf
  have e : errV q = .iface 40 (.int .i64 q) := if_neg hq
  rw [e] at hcall
  have HCL : Hid (Calls Try.prog 9 #[.slice a n c, .int .i64 N] w fun r w' => r = .returned (.iface 40 (.int .i64 q)) ∧ w' = w) := hcall
  clear hcall e R hf hq
  go_enter Try.func5, Try.ntmps5
  go_wp2_with fail
  refine HCL.out.mono ?_
  rintro e w1 ⟨rfl, hw⟩
  have hw' : w = w1 := hw.symm
  subst hw'
  go_wp2_with fail
  go_ret2
  exact ⟨⟨none, 0, rfl⟩, Below.refl _ _⟩

set_option maxRecDepth 100000 in
set_option maxHeartbeats 2000000 in
theorem wspread_in (a : Option Addr) (n c N : Nat) (ls : List (List UInt8)) (w : World) (R : BRowsB w a n ls) (hf : spreadE ls (N : Int) = 0) :
    Calls Try.prog 5 #[.slice a n c, .int .i64 (N : Int)] w fun r w' => (∃ a' c' rows, r = .returned (.tuple #[.slice a' N c', .nilIface]) ∧ N ≤ c' ∧ BRowsB w' a' N rows ∧ spreadP ls N rows) ∧ Below w.heap.size w w' := by
  obtain ⟨iS, hiS, hs0, hs1, hs2⟩ := info_parts Try.infoSh
  obtain ⟨h1, h2, h3, _, hall⟩ := spreadE_ok hf
  have hl := R.1.1
  rw [hl] at h1 h2
  have HL : Hid (ls.length = n) := hl
  have HCL : Hid (Calls Try.prog 9 #[.slice a n c, .int .i64 (N : Int)] w fun r w' => r = .returned .nilIface ∧ w' = w) := wcanspread_any a n c N ls 0 w R (by omega) (by omega) (by omega) hf
  obtain ⟨b, o, ha⟩ := R.addr h1
  subst ha
  obtain ⟨A, hA⟩ := R.heads
  have HA : Hid (∀ i, i < n → (A i).2.1 ≤ (A i).2.2 ∧ (A i).2.1 ≤ 140737488351232 ∧ w.cell? ⟨b, o + i, none⟩ = some (.slice (A i).1 (A i).2.1 (A i).2.2) ∧ Row w (A i).1 (A i).2.1 (ls.getD i [])) := hA
  have hNN : n ≤ N := by omega
  have h20 : N ≤ 20 := by omega
  have n0 : (0 : Int) ≤ (n : Int) := by omega
  have HALL : Hid (∀ l ∈ ls, l.length = (ls.getD 0 []).length) := hall
  obtain ⟨g, hg⟩ : ∃ g, w.heap.size = g := ⟨_, rfl⟩
  have HG : Hid (w.heap.size = g) := hg
  clear R hf h2 h3 hA hall hl
  go_enter Try.func5, Try.ntmps5
  go_wp2_with fail
  refine HCL.out.mono ?_
  rintro e w1 ⟨rfl, hw⟩
  have hw' : w = w1 := hw.symm
  subst hw'
  clear hw HCL
  go_wp2_with (first
    | (at_make; (refine wpList_make_full _ rfl _ _ 29 rfl w.heap.size 31 iS (.agg #[.int .u8 0, .slice none 0 0]) 2 Try.underlying29 hiS hs0 hs1 _ _ _ _ n rfl rfl rfl rfl (by rw [hs2]; omega) (by unfold maxLen; omega) (Nat.le_refl _) ?_); intro w5 hown hgrow))
  have HP5 : Hid (HCells w5 w.heap.size n 0 (fun i => (i, A i))) := HCells.made hown
  have HB5 : Hid (Below w.heap.size w w5) := (Below.refl _ _).grown hgrow (Nat.le_refl _) (fun _ h => by cases h)
  have HG5 : Hid (w.heap.size < w5.heap.size) := (World.ownsRow.lt hown w.heap.size rfl).2
  clear hown hgrow iS hiS hs0 hs1 hs2
  rw [hg] at HP5 HG5
  try simp only [hg]
  clear hg
  go_loopw [21] (fun iv wr => ∃ i : Nat, iv = .int .i64 (i : Int) ∧ i ≤ n ∧ Hid (HCells wr g n i (fun i => (i, A i))) ∧ Hid (Below w.heap.size w wr) ∧ Hid (g < wr.heap.size)) (fun iv _ => n - (intOf iv).toNat)
  case atStart => exact ⟨0, rfl, Nat.zero_le _, HP5.out, HB5.out, HG5.out⟩
  case round =>
    clear HP5 HB5 HG5
    obtain ⟨i, rfl, hi, HP, HB, HGS⟩ := hrel
    by_cases hlt : i < n
    · obtain ⟨_, hni47, c5, c6⟩ := HA.out i hlt
      have hput := HP.out.put hlt
      have hput : HCells (wr.setCells g (i * 2) (hdC (i, A i))) g n (i + 1) (fun i => (i, A i)) := hput
      obtain ⟨⟨ai, ni, ci⟩, hAi⟩ : ∃ t, A i = t := ⟨_, rfl⟩
      rw [hAi] at c5 hput
      have k5 : wr.cell? ⟨b, o + i, none⟩ = some (.slice ai ni ci) := (HB.out.cell (p := ⟨b, o + i, none⟩) (cell_block c5)).trans c5
      have HT6 : Hid (wr.there g (i * 2) 2) := HP.out.slot hlt
      have HPN : Hid (HCells (wr.setCells g (i * 2) (hdC (i, ai, ni, ci))) g n (i + 1) (fun i => (i, A i))) := hput
      have HBN : Hid (Below w.heap.size w (wr.setCells g (i * 2) (hdC (i, ai, ni, ci)))) := below_setCells _ (by have := HG.out; omega) _ _ _ HB.out
      have HGN : Hid (g < (wr.setCells g (i * 2) (hdC (i, ai, ni, ci))).heap.size) := Nat.lt_of_lt_of_le HGS.out (gr_setCellsS g _ _ _).size
      have i0 : (0 : Int) ≤ (i : Int) := by omega
      have i1 : (i : Int) < (n : Int) := by omega
      have HLT : Hid (i < n) := hlt
      have i8 : i < 256 := by omega
      have i9 : IntKind.u8.wrap (i : Int) = (i : Int) := u8_wrap i8
      clear hni47 c5 c6 hAi hlt hi hput HP
      go_wp2_with (refine wpList_storeShA (by rfl) (.tmp 32) (.tmp 31) (by rfl) g (i * 2) (i, ai, ni, ci) (by rfl) (by rfl) HT6.out ?_)
      go_roundw
      case rel => exact ⟨i + 1, by first | rfl | go_num, by have := HLT.out; omega, HPN.out, HBN.out, HGN.out⟩
      case measure => have := HLT.out; simp [intOf]; omega
    · have hin : i = n := by omega
      subst hin
      have g5 : ¬ (i : Int) < (i : Int) := by omega
      have hpl := placedL_length ls
      have HSR : Hid (SRow wr (some ⟨g, 0, none⟩) i (placedL ls)) := HP.out.rows (by rw [hpl]; exact HL.out) (fun j hj => by
        obtain ⟨a1, a2, _, a4⟩ := HA.out j hj
        rw [placedL_at (by rw [HL.out]; exact hj)]
        exact ⟨rfl, by show j < 256; omega, a1, a2, a4.below HB.out⟩)
      have h0 : ((placedL ls).getD 0 noS).2 = ls.getD 0 [] := by rw [placedL_at (by rw [HL.out]; exact h1)]
      have hps : ∀ s ∈ placedL ls, s.1 < 256 := fun s hs => by
        have := (placedL_mem hs).1
        rw [HL.out] at this
        omega
      have HFC : Hid (Calls Try.prog 10 #[.slice (some ⟨g, 0, none⟩) i i, .int .i64 (N : Int)] wr fun r w' => (∃ a' c', r = .returned (.slice a' N c') ∧ N ≤ c' ∧ BRowsB w' a' N ((List.range N).map fun j => mixL (placedL ls) j ((placedL ls).getD 0 noS).2.length i 0)) ∧ Below wr.heap.size wr w') :=
        wfirst_any (some ⟨g, 0, none⟩) i i (placedL ls) N wr HSR.out h1 (by omega) h20 (placedL_nodup ls) (fun s hs => by rw [h0]; exact HALL.out _ (placedL_mem hs).2.2)
      have HSP : Hid (spreadP ls N ((List.range N).map fun j => mixL (placedL ls) j ((placedL ls).getD 0 noS).2.length i 0)) := by
        refine spreadP_of (by rw [HL.out]; exact hNN) h20 HALL.out (by simp) (fun j hj => ?_)
        rw [List.getD_eq_getElem?_getD, List.getElem?_map, List.getElem?_range hj]
        have := mixL_joined (ss := placedL ls) (x := j) (by omega) hps (placedL_nodup ls)
        rw [hpl, HL.out] at this
        exact this
      generalize (List.range N).map (fun j => mixL (placedL ls) j ((placedL ls).getD 0 noS).2.length i 0) = rows at *
      clear hlt hi hpl h0 hps HSR HP
      go_wp2_with fail
      refine HFC.out.mono ?_
      rintro e w6 ⟨⟨a6, c6, rfl, hc6, hR6⟩, hb6⟩
      have HB6 : Hid (Below w.heap.size w w6) := HB.out.trans (hb6.mono HB.out.size)
      have HR6 : Hid (BRowsB w6 a6 N rows) := hR6
      have HC6 : Hid (N ≤ c6) := hc6
      clear hc6 hR6 hb6 HFC
      go_wp2_with fail
      go_ret2
      exact ⟨⟨_, _, rows, rfl, HC6.out, HR6.out, HSP.out⟩, HB6.out⟩
end Go.Proofs.Ytnffmegicgbinab
/- The contracts of code.canGather and code.Gather. -/
namespace Go.Proofs.Ytnffmegicgbinab
open Go.RowKit
set_option linter.unusedVariables false
set_option linter.unusedSimpArgs false

set_option maxRecDepth 100000 in
set_option maxHeartbeats 2000000 in
theorem wcangather_any (a : Option Addr) (n c : Nat) (k : Int) (ss : List Shr) (q : Int) (w : World) (R : SRow w a n ss) (hc : n ≤ c) (hn : n ≤ 140737488351232) (k1 : -9223372036854775808 ≤ k) (k2 : k ≤ 9223372036854775807) (hf : gatherE ss k = q) :
    Calls Try.prog 11 #[.slice a n c, .int .i64 k] w fun r w' => r = .returned (errV q) ∧ Below w.heap.size w w' := by
  have HL : Hid (ss.length = n) := R.1
  have HF : Hid (gatherE ss k = q) := hf
  clear hf
  go_enter Try.func11, Try.ntmps11
  by_cases c1 : k < 1
  · have HE : Hid (q = 2) := by rw [← HF.out]; exact if_pos (.inl c1)
    go_wp2_with fail
    go_ret
    exact ⟨by rw [HE.out]; rfl, Below.refl _ _⟩
  by_cases c2 : 20 < k
  · have HE : Hid (q = 2) := by rw [← HF.out]; exact if_pos (.inr c2)
    go_wp2_with fail
    go_ret
    exact ⟨by rw [HE.out]; rfl, Below.refl _ _⟩
  have HF1 : Hid ((if (ss.length : Int) < k then 3 else sfault 0 19 (ss.take k.toNat)) = q) := by rw [← HF.out]; exact (if_neg (by omega)).symm
  rw [HL.out] at HF1
  by_cases c3 : (n : Int) < k
  · have HE : Hid (q = 3) := by rw [← HF1.out]; exact if_pos c3
    go_wp2_with fail
    go_ret
    exact ⟨by rw [HE.out]; rfl, Below.refl _ _⟩
  have HF2 : Hid (sfault 0 19 (ss.take k.toNat) = q) := by rw [← HF1.out]; exact (if_neg c3).symm
  obtain ⟨m, hm⟩ := Int.eq_ofNat_of_zero_le (show 0 ≤ k by omega)
  have hm' : k = (m : Int) := hm
  subst hm'
  rw [Int.toNat_natCast] at HF2
  have hmn : m ≤ n := by omega
  have m0 : (0 : Int) ≤ (m : Int) := by omega
  have m1 : (m : Int) ≤ (c : Int) := by omega
  have HCL : Hid (Calls Try.prog 13 #[.slice a m c, .int .u8 0, .int .u8 19] w fun e w' => e = .returned (errV q) ∧ Below w.heap.size w w') := wcheck_any a m c (ss.take m) q 0 19 w (R.takeR hmn) (by omega) (by omega) (by omega) (by omega) (by omega) HF2.out
  obtain ⟨ev, hev⟩ : ∃ ev, errV q = ev := ⟨_, rfl⟩
  rw [hev] at HCL
  simp only [hev]
  clear HF HF1 HF2 R hm hev
  go_wp2_with fail
  refine HCL.out.mono ?_
  rintro e w4 ⟨rfl, hb4⟩
  go_wp2_with fail
  go_ret
  exact ⟨rfl, hb4⟩

set_option maxRecDepth 100000 in
set_option maxHeartbeats 2000000 in
theorem wgather_out (a : Option Addr) (n c : Nat) (k : Int) (ss : List Shr) (q : Int) (w : World) (R : SRow w a n ss) (hc : n ≤ c) (hn : n ≤ 140737488351232) (k1 : -9223372036854775808 ≤ k) (k2 : k ≤ 9223372036854775807) (hf : gatherE ss k = q) (hq : q ≠ 0) :
    Calls Try.prog 6 #[.slice a n c, .int .i64 k] w fun r w' => (∃ a' c', r = .returned (.tuple #[.slice a' 0 c', .iface 40 (.int .i64 q)])) ∧ Below w.heap.size w w' := by
  have hcall := wcangather_any a n c k ss q w R hc hn k1 k2 hf
  have e : errV q = .iface 40 (.int .i64 q) := if_neg hq
  rw [e] at hcall
  have HCL : Hid (Calls Try.prog 11 #[.slice a n c, .int .i64 k] w fun r w' => r = .returned (.iface 40 (.int .i64 q)) ∧ Below w.heap.size w w') := hcall
  clear hcall e R hf hq
  go_enter Try.func6, Try.ntmps6
  go_wp2_with fail
  refine HCL.out.mono ?_
  rintro e w1 ⟨rfl, hb1⟩
  go_wp2_with fail
  go_ret2
  exact ⟨⟨none, 0, rfl⟩, hb1⟩

set_option maxRecDepth 100000 in
set_option maxHeartbeats 2000000 in
theorem wgather_in (a : Option Addr) (n c k : Nat) (ss : List Shr) (w : World) (R : SRow w a n ss) (hc : n ≤ c) (hn : n ≤ 140737488351232) (hf : gatherE ss (k : Int) = 0) :
    Calls Try.prog 6 #[.slice a n c, .int .i64 (k : Int)] w fun r w' => (∃ a' c' rows, r = .returned (.tuple #[.slice a' k c', .nilIface]) ∧ k ≤ c' ∧ BRowsB w' a' k rows ∧ gatherP ss k rows) ∧ Below w.heap.size w w' := by
  obtain ⟨h1, h2, h3, h4⟩ := gatherE_ok hf
  have hl := R.1
  rw [hl] at h3
  rw [Int.toNat_natCast] at h4
  obtain ⟨hall, hnd⟩ := sfault_ok h4
  have HCL : Hid (Calls Try.prog 11 #[.slice a n c, .int .i64 (k : Int)] w fun r w' => r = .returned .nilIface ∧ Below w.heap.size w w') := wcangather_any a n c k ss 0 w R hc hn (by omega) (by omega) hf
  have hk0 : 0 < k := by omega
  have hk20 : k ≤ 20 := by omega
  have hkn : k ≤ n := by omega
  have hps : ∀ s ∈ ss.take k, s.1 < 256 := (R.takeR hkn).place
  have hlt : (ss.take k).length = k := (R.takeR hkn).1
  have HFC : Hid (∀ wx, Below w.heap.size w wx → Calls Try.prog 10 #[.slice a k c, .int .i64 (k : Int)] wx fun r w' => (∃ a' c', r = .returned (.slice a' k c') ∧ k ≤ c' ∧ BRowsB w' a' k ((List.range k).map fun j => mixL (ss.take k) j ((ss.take k).getD 0 noS).2.length k 0)) ∧ Below wx.heap.size wx w') := fun wx hx =>
    wfirst_any a k c (ss.take k) k wx ((R.takeR hkn).below hx) hk0 hk20 hk20 hnd (fun s hs => (hall s hs).2.2)
  have HSP : Hid (gatherP ss k ((List.range k).map fun j => mixL (ss.take k) j ((ss.take k).getD 0 noS).2.length k 0)) := by
    refine ⟨by simp, fun j hj => ?_⟩
    rw [List.getD_eq_getElem?_getD, List.getElem?_map, List.getElem?_range hj]
    have := mixL_joined (ss := ss.take k) (x := j) (by omega) hps hnd
    rw [hlt] at this
    exact this
  generalize (List.range k).map (fun j => mixL (ss.take k) j ((ss.take k).getD 0 noS).2.length k 0) = rows at *
  have m0 : (0 : Int) ≤ (k : Int) := by omega
  have m1 : (k : Int) ≤ (c : Int) := by omega
  clear hf R h1 h2 h3 h4 hall hnd hps hlt hl
  go_enter Try.func6, Try.ntmps6
  go_wp2_with fail
  refine HCL.out.mono ?_
  rintro e w1 ⟨rfl, hb1⟩
  have HF1 : Hid (Calls Try.prog 10 #[.slice a k c, .int .i64 (k : Int)] w1 fun r w' => (∃ a' c', r = .returned (.slice a' k c') ∧ k ≤ c' ∧ BRowsB w' a' k rows) ∧ Below w1.heap.size w1 w') := HFC.out w1 hb1
  have HB1 : Hid (Below w.heap.size w w1) := hb1
  clear hb1 HFC HCL
  go_wp2_with fail
  refine HF1.out.mono ?_
  rintro e w6 ⟨⟨a6, c6, rfl, hc6, hR6⟩, hb6⟩
  have HB6 : Hid (Below w.heap.size w w6) := HB1.out.trans (hb6.mono HB1.out.size)
  have HR6 : Hid (BRowsB w6 a6 k rows) := hR6
  have HC6 : Hid (k ≤ c6) := hc6
  clear hc6 hR6 hb6 HF1
  go_wp2_with fail
  go_ret2
  exact ⟨⟨_, _, rows, rfl, HC6.out, HR6.out, HSP.out⟩, HB6.out⟩
end Go.Proofs.Ytnffmegicgbinab
/- The contracts of package code, as landed at 5f1e105. -/
namespace Go.Proofs.Ytnffmegicgbinab
open Go.RowKit
set_option linter.unusedVariables false
theorem wcode_spread (a : Option Addr) (n c N : Nat) (ls : List (List UInt8)) (w : World) (G : Env w) (R : BRowsB w a n ls) (hc : n ≤ c) (hf : spreadE ls (N : Int) = 0) :
    Calls Try.prog 5 #[.slice a n c, .int .i64 (N : Int)] w fun r w' => (∃ a' c' rows, r = .returned (.tuple #[.slice a' N c', .nilIface]) ∧ N ≤ c' ∧ BRowsB w' a' N rows ∧ spreadP ls N rows) ∧ Below w.heap.size w w' :=
  wspread_in a n c N ls w R hf
theorem wcode_spreadout (a : Option Addr) (n c : Nat) (N : Int) (ls : List (List UInt8)) (q : Int) (w : World) (G : Env w) (R : BRowsB w a n ls) (hc : n ≤ c) (hn : n ≤ 140737488351232) (k1 : -9223372036854775808 ≤ N) (k2 : N ≤ 9223372036854775807) (hf : spreadE ls N = q) (hq : q ≠ 0) :
    Calls Try.prog 5 #[.slice a n c, .int .i64 N] w fun r w' => (∃ a' c', r = .returned (.tuple #[.slice a' 0 c', .iface 40 (.int .i64 q)])) ∧ Below w.heap.size w w' :=
  wspread_out a n c N ls q w R hn k1 k2 hf hq
theorem wcode_gather (a : Option Addr) (n c k : Nat) (ss : List Shr) (w : World) (G : Env w) (R : SRow w a n ss) (hc : n ≤ c) (hn : n ≤ 140737488351232) (hf : gatherE ss (k : Int) = 0) :
    Calls Try.prog 6 #[.slice a n c, .int .i64 (k : Int)] w fun r w' => (∃ a' c' rows, r = .returned (.tuple #[.slice a' k c', .nilIface]) ∧ k ≤ c' ∧ BRowsB w' a' k rows ∧ gatherP ss k rows) ∧ Below w.heap.size w w' :=
  wgather_in a n c k ss w R hc hn hf
theorem wcode_gatherout (a : Option Addr) (n c : Nat) (k : Int) (ss : List Shr) (q : Int) (w : World) (G : Env w) (R : SRow w a n ss) (hc : n ≤ c) (hn : n ≤ 140737488351232) (k1 : -9223372036854775808 ≤ k) (k2 : k ≤ 9223372036854775807) (hf : gatherE ss k = q) (hq : q ≠ 0) :
    Calls Try.prog 6 #[.slice a n c, .int .i64 k] w fun r w' => (∃ a' c', r = .returned (.tuple #[.slice a' 0 c', .iface 40 (.int .i64 q)])) ∧ Below w.heap.size w w' :=
  wgather_out a n c k ss q w R hc hn k1 k2 hf hq
end Go.Proofs.Ytnffmegicgbinab
