/- Texts of this claim, joined: Rwotss, Rwotsk. -/
import Derived.Test.YtdgaimlccpmojaaGreatDoorJ23
import Derived.Test.YtdgaimlccpmojaaGreatDoorJ24
import Derived.Test.YtdgaimlccpmojaaGreatDoorJ15
import Derived.Deep.RegionHeld3
import Derived.Deep.Onto
/- The contract of oathbookref1.WotsSigned. -/
namespace Go.Proofs.YtdgaimlccpmojaaGreatDoor
open Go.RowKit
set_option linter.unusedVariables false
set_option linter.unusedSimpArgs false

theorem wotsSigL_len (seed m : List UInt8) (n : Nat) : (wotsSigL seed m n).length = n := by simp [wotsSigL]
theorem wotsSigL_succ (seed m : List UInt8) (n : Nat) : wotsSigL seed m n ++ [walkL (wotsSecL seed n) (digL m n)] = wotsSigL seed m (n + 1) := by
  unfold wotsSigL; rw [List.range_succ, List.map_append]; rfl

set_option maxRecDepth 100000 in
set_option maxHeartbeats 1000000 in
theorem rwotsSigned_own (seed m : List UInt8) (w : World) (hs : seed.length = 32) (hm : m.length = 32) :
    Calls Tryz.prog 9 #[digestV seed, digestV m] w fun e w' => (∃ v, e = .returned v ∧ OwnD w' w.heap.size v (wotsSigL seed m 67)) ∧ Below w.heap.size w w' := by
  obtain ⟨w2, hw2⟩ : ∃ w2, (w.alloc (.cells (cellsB seed).toArray 23)).alloc (.cells (cellsB m).toArray 23) = w2 := ⟨_, rfl⟩
  have hs1 : (w.alloc (.cells (cellsB seed).toArray 23)).heap.size = w.heap.size + 1 := by simp
  have HS2 : Hid (w2.heap.size = w.heap.size + 1 + 1) := by unfold Hid; rw [← hw2]; simp
  have HD2 : Hid (DAt w2 w.heap.size 0 seed) := by rw [← hw2]; exact World.rangeAt_alloc (box_dat w seed _) _
  have HM2 : Hid (DAt w2 (w.heap.size + 1) 0 m) := by rw [← hw2]; exact box_rangeAt _ _ _ _ hs1
  have HB2 : Hid (Below w.heap.size w w2) := by rw [← hw2]; exact ((Below.refl _ _).alloc (Nat.le_refl _) _).alloc (by simp) _
  go_enter Tryz.func9, Tryz.ntmps9
  go_wp2_with (refine wpList_load_mid (by rfl) 23 (.tmp 3) (by rfl) (w.heap.size + 1) 0 (by rfl) (cellsB m) _ (by first | exact HM2.out | (rw [hw2]; exact HM2.out)) Tryz.underlying23 (by rfl) (by rw [cellsB_length, hm]; exact Tryz.sizeDg) ?_)
  try rw [hw2]
  clear hw2 hs1
  refine (rnib_any m w2 hm).mono ?_
  rintro e w3 ⟨⟨an, cn, rfl, hcn, hrn⟩, hb3⟩
  obtain ⟨bn, on, rfl, hcell⟩ : ∃ b o, an = some ⟨b, o, none⟩ ∧ ∀ i, i < 67 → w3.cell? ⟨b, o + i, none⟩ = some (.int .i64 ((digsL m 67).getD i 0)) := by
    rcases hrn.2 with h | h
    · omega
    · exact h
  have HC : Hid (∀ i, i < 67 → w3.cell? ⟨bn, on + i, none⟩ = some (.int .i64 (digL m i : Int))) := fun i hi => by rw [hcell i hi, digsL_at m 67 i hi]
  have HD3 : Hid (DAt w3 w.heap.size 0 seed ∧ w.heap.size < w3.heap.size ∧ Below w.heap.size w w3) := by
    have := HS2.out
    have h3 := hb3.size
    exact ⟨HD2.out.below hb3 (by omega), by omega, HB2.out.trans (hb3.mono (by omega))⟩
  clear hcell hrn hb3 HD2 HM2 HB2 HS2
  go_wp2_with fail
  go_loopw [6, 7] (fun v i wr => ∃ k : Nat, k ≤ 67 ∧ i = .int .i64 (k : Int) ∧ OwnD wr w3.heap.size v (wotsSigL seed m k) ∧ Below w3.heap.size w3 wr) (fun _ i _ => 67 - (intOf i).toNat)
  case atStart => exact ⟨0, Nat.zero_le _, rfl, OwnD.nil _ _, Below.refl _ _⟩
  case round =>
    obtain ⟨k, hk, rfl, hO, hB⟩ := hrel
    by_cases hlt : k < 67
    · have HO : Hid (OwnD wr w3.heap.size u6 (wotsSigL seed m k)) := hO
      have HB : Hid (Below w3.heap.size w3 wr) := hB
      have HSN : Hid (wotsSigL seed m k ++ [walkL (wotsSecL seed k) (digL m k)] = wotsSigL seed m (k + 1)) := wotsSigL_succ seed m k
      have HLN : Hid ((wotsSigL seed m k).length = k) := wotsSigL_len seed m k
      have hc := HC.out k hlt
      have hdl := digL_lt m k
      have HKEEP : Hid (∀ wx, Below w3.heap.size w3 wx → wx.rangeAt w.heap.size 0 (cellsB seed) ∧ wx.cell? ⟨bn, on + k, none⟩ = some (.int .i64 (digL m k : Int))) := fun wx hx =>
        ⟨HD3.out.1.below hx HD3.out.2.1, (hx.cell (p := ⟨bn, on + k, none⟩) (cell_block hc)).trans hc⟩
      clear hO hB hc
      generalize digL m k = d at *
      have k0 : (0 : Int) ≤ (k : Int) := by omega
      have k1 : (k : Int) < 67 := by omega
      go_wp2_with fail
      refine wp_region_noPanic ?_
      refine wp_region_held_drew (S := fun w' => w'.rangeAt w.heap.size 0 (cellsB seed) ∧ w'.cell? ⟨bn, on + k, none⟩ = some (.int .i64 (d : Int))) (by kernel_rfl) (HKEEP.out _ HB.out.drew) (fun hHeld => ?_)
      try simp only [Act.put, List.setIfInBounds_toArray, List.set_cons_zero, List.set_cons_succ]
      have HOd : Hid (OwnD wr.drew w3.heap.size u6 (wotsSigL seed m k)) := OwnD.below HO.out (below_drewN wr 1)
      have HBd : Hid (Below w3.heap.size w3 wr.drew) := HB.out.drew
      clear HO HB
      generalize wr.drew = wd at *
      refine wpAnyH_take (i := 0) (v := ?_) (by simp only [List.getElem?_toArray, List.getElem?_cons_zero, List.getElem?_cons_succ]; rfl) (by kernel_rfl) (by kernel_rfl) (by kernel_rfl) (fun _ _ _ h => h) (Or.inl ⟨by rfl, ?_⟩) hHeld ?_
      rotate_left
      · intro w hSw
        obtain ⟨hSw1, hSw2⟩ := hSw
        go_simp
        try with_reducible rfl
      try simp only [Act.put, List.setIfInBounds_toArray, List.set_cons_zero, List.set_cons_succ]
      refine wpAnyH_take (i := 1) (v := .agg (cellsB seed).toArray) (by simp only [List.getElem?_toArray, List.getElem?_cons_zero, List.getElem?_cons_succ]; rfl) (by kernel_rfl) (by kernel_rfl) (by kernel_rfl) (fun _ _ _ h => h)
        (yieldsIf_load_mid (by rfl) _ _ rfl _ _ rfl _ _ (fun w hw => hw.1) Tryz.underlying23 rfl (by rw [cellsB_length, hs]; exact Tryz.sizeDg)) hHeld ?_
      try simp only [Act.put, List.setIfInBounds_toArray, List.set_cons_zero, List.set_cons_succ]
      refine wpAnyH_take (i := 2) (v := ?_) (by simp only [List.getElem?_toArray, List.getElem?_cons_zero, List.getElem?_cons_succ]; rfl) (by kernel_rfl) (by kernel_rfl) (by kernel_rfl) (fun _ _ _ h => h) (Or.inl ⟨by rfl, ?_⟩) hHeld ?_
      rotate_left
      · intro w hSw
        obtain ⟨hSw1, hSw2⟩ := hSw
        go_simp
        try with_reducible rfl
      try simp only [Act.put, List.setIfInBounds_toArray, List.set_cons_zero, List.set_cons_succ]
      refine wpAnyH_take (i := 4) (v := ?_) (by simp only [List.getElem?_toArray, List.getElem?_cons_zero, List.getElem?_cons_succ]; rfl) (by kernel_rfl) (by kernel_rfl) (by kernel_rfl) (fun _ _ _ h => h) (Or.inl ⟨by rfl, ?_⟩) hHeld ?_
      rotate_left
      · intro w hSw
        obtain ⟨hSw1, hSw2⟩ := hSw
        go_simp
        try with_reducible rfl
      try simp only [Act.put, List.setIfInBounds_toArray, List.set_cons_zero, List.set_cons_succ]
      refine wpAnyH_take (i := 5) (v := ?_) (by simp only [List.getElem?_toArray, List.getElem?_cons_zero, List.getElem?_cons_succ]; rfl) (by kernel_rfl) (by kernel_rfl) (by kernel_rfl) (fun _ _ _ h => h) (Or.inl ⟨by rfl, ?_⟩) hHeld ?_
      rotate_left
      · intro w hSw
        obtain ⟨hSw1, hSw2⟩ := hSw
        go_simp
        try with_reducible rfl
      try simp only [Act.put, List.setIfInBounds_toArray, List.set_cons_zero, List.set_cons_succ]
      refine wpAnyH_take (i := 6) (v := ?_) (by simp only [List.getElem?_toArray, List.getElem?_cons_zero, List.getElem?_cons_succ]; rfl) (by kernel_rfl) (by kernel_rfl) (by kernel_rfl) (fun _ _ _ h => h) (Or.inl ⟨by rfl, ?_⟩) hHeld ?_
      rotate_left
      · intro w hSw
        obtain ⟨hSw1, hSw2⟩ := hSw
        go_simp
        try with_reducible rfl
      try simp only [Act.put, List.setIfInBounds_toArray, List.set_cons_zero, List.set_cons_succ]
      refine wpAnyH_take (i := 7) (v := ?_) (by simp only [List.getElem?_toArray, List.getElem?_cons_zero, List.getElem?_cons_succ]; rfl) (by kernel_rfl) (by kernel_rfl) (by kernel_rfl) (fun _ _ _ h => h) (Or.inl ⟨by rfl, ?_⟩) hHeld ?_
      rotate_left
      · intro w hSw
        obtain ⟨hSw1, hSw2⟩ := hSw
        go_simp
        try with_reducible rfl
      try simp only [Act.put, List.setIfInBounds_toArray, List.set_cons_zero, List.set_cons_succ]
      refine wpAnyH_ready (rs := [3]) (by kernel_rfl) (by simp) ?_
      refine AllReadyH.cons (by simp only [List.getElem?_toArray, List.getElem?_cons_zero, List.getElem?_cons_succ]; rfl) (fun K hK => ?_) AllReadyH.nil
      rw [if_pos (by rfl)]
      go_simp
      refine (rwotsSecret_any seed k wd hs (by omega)).mono ?_
      rintro e w4 ⟨rfl, hb4⟩
      have hl4 := wotsSecL_length seed k
      have HO4 : Hid (OwnD w4 w3.heap.size u6 (wotsSigL seed m k)) := OwnD.below HOd.out hb4
      have HB4 : Hid (Below w3.heap.size w3 w4) := HBd.out.trans (hb4.mono HBd.out.size)
      clear hb4 HOd HBd
      generalize wotsSecL seed k = X at *
      go_wp2_with fail
      refine hK.out _ _ (HKEEP.out _ HB4.out) (fun hHeld => ?_)
      clear hK K
      try simp only [Act.put, List.setIfInBounds_toArray, List.set_cons_zero, List.set_cons_succ]
      refine wpAnyH_ready (rs := [8]) (by kernel_rfl) (by simp) ?_
      refine AllReadyH.cons (by simp only [List.getElem?_toArray, List.getElem?_cons_zero, List.getElem?_cons_succ]; rfl) (fun K hK => ?_) AllReadyH.nil
      rw [if_pos (by rfl)]
      go_simp
      refine (rwalk_any X d w4 hl4 (by omega)).mono ?_
      rintro e w5 ⟨rfl, hb5⟩
      have hl5 := walkL_length hl4 d
      have HO5 : Hid (OwnD w5 w3.heap.size u6 (wotsSigL seed m k)) := OwnD.below HO4.out hb5
      have HB5 : Hid (Below w3.heap.size w3 w5) := HB4.out.trans (hb5.mono HB4.out.size)
      clear hb5 HO4 HB4
      generalize walkL X d = Y at *
      go_wp2_with fail
      refine hK.out _ _ (HKEEP.out _ HB5.out) (fun hHeld => ?_)
      clear hK K
      try simp only [Act.put, List.setIfInBounds_toArray, List.set_cons_zero, List.set_cons_succ]
      refine wpAnyH_ready (rs := [9]) (by kernel_rfl) (by simp) ?_
      refine AllReadyH.cons (by simp only [List.getElem?_toArray, List.getElem?_cons_zero, List.getElem?_cons_succ]; rfl) (fun K hK => ?_) AllReadyH.nil
      rw [if_pos (by rfl)]
      refine wp_buildD1 _ rfl Y hl5 rfl ?_
      have hs5 := HB5.out.size
      have HO6 : Hid (OwnD (w5.alloc (.cells (cellsB Y).toArray 23)) w3.heap.size u6 (wotsSigL seed m k)) := OwnD.alloc HO5.out _
      have HB6 : Hid (Below w3.heap.size w3 (w5.alloc (.cells (cellsB Y).toArray 23))) := Below.alloc HB5.out hs5 _
      have HY6 : Hid (DRow (w5.alloc (.cells (cellsB Y).toArray 23)) (some ⟨w5.heap.size, 0, none⟩) 1 [Y]) := DRow.lit1 w5 Y _ hl5
      refine hK.out _ _ (HKEEP.out _ HB6.out) (fun hHeld => ?_)
      clear HO5 HB5 hs5
      generalize w5.alloc (.cells (cellsB Y).toArray 23) = w6 at *
      clear hK K
      try simp only [Act.put, List.setIfInBounds_toArray, List.set_cons_zero, List.set_cons_succ]
      refine wpAnyH_ready (rs := [10]) (by kernel_rfl) (by simp) ?_
      refine AllReadyH.cons (by simp only [List.getElem?_toArray, List.getElem?_cons_zero, List.getElem?_cons_succ]; rfl) (fun K hK => ?_) AllReadyH.nil
      rw [if_pos (by rfl)]
      refine wp_appendD _ _ rfl w3.heap.size u6 (wotsSigL seed m k) rfl HO6.out ⟨w5.heap.size, 0, none⟩ 1 1 [Y] rfl HY6.out (by omega) (by rw [HLN.out]; omega) HB6.out.size ?_
      intro v7 w7 ho7 hg7 _
      have HB7 : Hid (Below w3.heap.size w3 w7) := OwnD.grown HO6.out HB6.out hg7 (Nat.le_refl _) HB6.out.size
      rw [HSN.out] at ho7
      refine hK.out _ _ (HKEEP.out _ HB7.out) (fun hHeld => ?_)
      clear HO6 HB6 HY6 hg7 HSN HLN
      clear hK K
      try simp only [Act.put, List.setIfInBounds_toArray, List.set_cons_zero, List.set_cons_succ]
      refine wpAnyH_take (i := 11) (v := ?_) (by simp only [List.getElem?_toArray, List.getElem?_cons_zero, List.getElem?_cons_succ]; rfl) (by kernel_rfl) (by kernel_rfl) (by kernel_rfl) (fun _ _ _ h => h) (Or.inl ⟨by rfl, ?_⟩) hHeld ?_
      rotate_left
      · intro w hSw
        obtain ⟨hSw1, hSw2⟩ := hSw
        go_simp
        try with_reducible rfl
      try simp only [Act.put, List.setIfInBounds_toArray, List.set_cons_zero, List.set_cons_succ]
      refine wpAnyH_done (by kernel_rfl) (NoPanic.normal ?_) _
      clear hHeld HKEEP
      go_wp2
      go_roundw
      case rel => exact ⟨k + 1, by omega, by go_num, ho7, HB7.out⟩
      case measure => simp [intOf]; omega
    · obtain rfl : k = 67 := by omega
      have HO5 : Hid (OwnD wr w3.heap.size u6 (wotsSigL seed m 67)) := hO
      have HB : Hid (Below w3.heap.size w3 wr) := hB
      clear hO hB
      generalize hL : wotsSigL seed m 67 = L at *
      have HL : Hid (wotsSigL seed m 67 = L) := hL
      clear hL
      go_wp2
      go_ret
      rw [HL.out]
      exact ⟨⟨u6, rfl, HO5.out.1, World.ownsRow.mono HO5.out.2 (by have h1 := HD3.out.2.2.size; have := HD3.out.2.1; omega)⟩, HD3.out.2.2.trans (HB.out.mono (by have := HD3.out.2.1; omega))⟩
theorem rwotsSigned_any (seed m : List UInt8) (w : World) (hs : seed.length = 32) (hm : m.length = 32) :
    Calls Tryz.prog 9 #[digestV seed, digestV m] w fun e w' => (∃ a c, e = .returned (.slice a 67 c) ∧ 67 ≤ c ∧ DRow w' a 67 (wotsSigL seed m 67)) ∧ Below w.heap.size w w' := by
  refine (rwotsSigned_own seed m w hs hm).mono ?_
  rintro e w' ⟨⟨v, rfl, hv⟩, hb⟩
  obtain ⟨a, c, rfl, R, hc⟩ := hv.form
  rw [wotsSigL_len] at R hc ⊢
  exact ⟨⟨a, c, rfl, hc, R⟩, hb⟩
end Go.Proofs.YtdgaimlccpmojaaGreatDoor
/- The contract of oathbookref1.WotsKey. -/
namespace Go.Proofs.YtdgaimlccpmojaaGreatDoor
open Go.RowKit
set_option linter.unusedVariables false
set_option linter.unusedSimpArgs false

theorem wotsToldL_len (m : List UInt8) (sig : List (List UInt8)) (n : Nat) : (wotsToldL m sig n).length = n := by simp [wotsToldL]
theorem wotsToldL_succ (m : List UInt8) (sig : List (List UInt8)) (n : Nat) : wotsToldL m sig n ++ [walkL (sig.getD n []) (15 - digL m n)] = wotsToldL m sig (n + 1) := by
  unfold wotsToldL; rw [List.range_succ, List.map_append]; rfl

set_option maxRecDepth 100000 in
set_option maxHeartbeats 1000000 in
theorem rwotsKey_any (m : List UInt8) (a : Option Addr) (c : Nat) (sig : List (List UInt8)) (w : World) (hm : m.length = 32) (R : DRow w a 67 sig) :
    Calls Tryz.prog 17 #[digestV m, .slice a 67 c] w fun e w' => e = .returned (digestV (wotsKeyL m sig)) ∧ Below w.heap.size w w' := by
  obtain ⟨w2, hw2⟩ : ∃ w2, (w.alloc (.cells (cellsB m).toArray 23)).alloc (.cells (cellsB zD).toArray 23) = w2 := ⟨_, rfl⟩
  have hs1 : (w.alloc (.cells (cellsB m).toArray 23)).heap.size = w.heap.size + 1 := by simp
  have HS2 : Hid (w2.heap.size = w.heap.size + 1 + 1) := by unfold Hid; rw [← hw2]; simp
  have HM2 : Hid (DAt w2 w.heap.size 0 m) := by rw [← hw2]; exact World.rangeAt_alloc (box_dat w m _) _
  have HT2 : Hid (w2.there (w.heap.size + 1) 0 32) := by rw [← hw2]; exact alloc_thereAt _ _ _ 32 _ hs1 zD_size.symm
  have HB2 : Hid (Below w.heap.size w w2) := by rw [← hw2]; exact ((Below.refl _ _).alloc (Nat.le_refl _) _).alloc (by simp) _
  obtain ⟨bs, os, rfl, hsc⟩ : ∃ b o, a = some ⟨b, o, none⟩ ∧ ∀ i, i < 67 → DAt w b (o + 32 * i) (sig.getD i []) := by
    rcases R.2.2 with h | h
    · omega
    · exact h
  have HSC : Hid (∀ i, i < 67 → DAt w bs (os + 32 * i) (sig.getD i [])) := hsc
  have HLL : Hid (∀ i, i < 67 → (sig.getD i []).length = 32) := R.len
  clear hsc R
  go_enter Tryz.func17, Tryz.ntmps17
  go_wp2_with (first
    | (refine wpList_allocE (by rfl) 23 (by rfl) (cellsB zD).toArray Tryz.zeroDg (w.heap.size + 1) hs1 w2 hw2 ?_)
    | (refine wpList_load_mid (by rfl) 23 (.tmp 2) (by rfl) w.heap.size 0 (by rfl) (cellsB m) _ HM2.out Tryz.underlying23 (by rfl) (by rw [cellsB_length, hm]; exact Tryz.sizeDg) ?_))
  clear hw2 hs1
  refine (rnib_any m w2 hm).mono ?_
  rintro e w3 ⟨⟨an, cn, rfl, hcn, hrn⟩, hb3⟩
  obtain ⟨bn, on, rfl, hcell⟩ : ∃ b o, an = some ⟨b, o, none⟩ ∧ ∀ i, i < 67 → w3.cell? ⟨b, o + i, none⟩ = some (.int .i64 ((digsL m 67).getD i 0)) := by
    rcases hrn.2 with h | h
    · omega
    · exact h
  have HC : Hid (∀ i, i < 67 → w3.cell? ⟨bn, on + i, none⟩ = some (.int .i64 (digL m i : Int))) := fun i hi => by rw [hcell i hi, digsL_at m 67 i hi]
  have HD3 : Hid (w3.there (w.heap.size + 1) 0 32 ∧ w.heap.size + 1 < w3.heap.size ∧ Below w.heap.size w w3) := by
    have := HS2.out
    have h3 := hb3.size
    exact ⟨there_below HT2.out hb3 (by omega), by omega, HB2.out.trans (hb3.mono (by omega))⟩
  clear hcell hrn hb3 HT2 HM2 HB2 HS2
  go_wp2_with fail
  go_loopw [6, 7] (fun v i wr => ∃ k : Nat, k ≤ 67 ∧ i = .int .i64 (k : Int) ∧ OwnD wr w3.heap.size v (wotsToldL m sig k) ∧ Below w3.heap.size w3 wr) (fun _ i _ => 67 - (intOf i).toNat)
  case atStart => exact ⟨0, Nat.zero_le _, rfl, OwnD.nil _ _, Below.refl _ _⟩
  case round =>
    obtain ⟨k, hk, rfl, hO, hB⟩ := hrel
    by_cases hlt : k < 67
    · have HO : Hid (OwnD wr w3.heap.size u6 (wotsToldL m sig k)) := hO
      have HB : Hid (Below w3.heap.size w3 wr) := hB
      have HSN : Hid (wotsToldL m sig k ++ [walkL (sig.getD k []) (15 - digL m k)] = wotsToldL m sig (k + 1)) := wotsToldL_succ m sig k
      have HLN : Hid ((wotsToldL m sig k).length = k) := wotsToldL_len m sig k
      have hc := HC.out k hlt
      have hdl := digL_lt m k
      have hl4 := HLL.out k hlt
      have hsk := HSC.out k hlt
      have HKEEP : Hid (∀ wx, Below w3.heap.size w3 wx → wx.rangeAt bs (os + k * 32) (cellsB (sig.getD k [])) ∧ wx.cell? ⟨bn, on + k, none⟩ = some (.int .i64 (digL m k : Int))) := fun wx hx => by
        refine ⟨?_, (hx.cell (p := ⟨bn, on + k, none⟩) (cell_block hc)).trans hc⟩
        rw [Nat.mul_comm]
        have h3 : DAt w3 bs (os + 32 * k) (sig.getD k []) := hsk.below HD3.out.2.2 (cell_block (hsk.cell 0 (by omega)))
        exact h3.below hx (cell_block (h3.cell 0 (by omega)))
      clear hO hB hc hsk
      generalize sig.getD k [] = X at *
      generalize digL m k = d at *
      have k0 : (0 : Int) ≤ (k : Int) := by omega
      have k1 : (k : Int) < 67 := by omega
      have d0 : (0 : Int) ≤ (d : Int) := by omega
      have d1 : (d : Int) < 16 := by omega
      go_wp2_with fail
      refine wp_region_noPanic ?_
      refine wp_region_held_drew (S := fun w' => w'.rangeAt bs (os + k * 32) (cellsB X) ∧ w'.cell? ⟨bn, on + k, none⟩ = some (.int .i64 (d : Int))) (by kernel_rfl) (HKEEP.out _ HB.out.drew) (fun hHeld => ?_)
      try simp only [Act.put, List.setIfInBounds_toArray, List.set_cons_zero, List.set_cons_succ]
      have HOd : Hid (OwnD wr.drew w3.heap.size u6 (wotsToldL m sig k)) := OwnD.below HO.out (below_drewN wr 1)
      have HBd : Hid (Below w3.heap.size w3 wr.drew) := HB.out.drew
      clear HO HB
      generalize wr.drew = wd at *
      refine wpAnyH_take (i := 0) (v := ?_) (by simp only [List.getElem?_toArray, List.getElem?_cons_zero, List.getElem?_cons_succ]; rfl) (by kernel_rfl) (by kernel_rfl) (by kernel_rfl) (fun _ _ _ h => h) (Or.inl ⟨by rfl, ?_⟩) hHeld ?_
      rotate_left
      · intro w hSw
        obtain ⟨hSw1, hSw2⟩ := hSw
        go_simp
        try with_reducible rfl
      try simp only [Act.put, List.setIfInBounds_toArray, List.set_cons_zero, List.set_cons_succ]
      refine wpAnyH_take (i := 1) (v := ?_) (by simp only [List.getElem?_toArray, List.getElem?_cons_zero, List.getElem?_cons_succ]; rfl) (by kernel_rfl) (by kernel_rfl) (by kernel_rfl) (fun _ _ _ h => h) (Or.inl ⟨by rfl, ?_⟩) hHeld ?_
      rotate_left
      · intro w hSw
        obtain ⟨hSw1, hSw2⟩ := hSw
        go_simp
        try with_reducible rfl
      try simp only [Act.put, List.setIfInBounds_toArray, List.set_cons_zero, List.set_cons_succ]
      refine wpAnyH_take (i := 2) (v := ?_) (by simp only [List.getElem?_toArray, List.getElem?_cons_zero, List.getElem?_cons_succ]; rfl) (by kernel_rfl) (by kernel_rfl) (by kernel_rfl) (fun _ _ _ h => h) (Or.inl ⟨by rfl, ?_⟩) hHeld ?_
      rotate_left
      · intro w hSw
        obtain ⟨hSw1, hSw2⟩ := hSw
        go_simp
        try with_reducible rfl
      try simp only [Act.put, List.setIfInBounds_toArray, List.set_cons_zero, List.set_cons_succ]
      refine wpAnyH_take (i := 3) (v := ?_) (by simp only [List.getElem?_toArray, List.getElem?_cons_zero, List.getElem?_cons_succ]; rfl) (by kernel_rfl) (by kernel_rfl) (by kernel_rfl) (fun _ _ _ h => h) (Or.inl ⟨by rfl, ?_⟩) hHeld ?_
      rotate_left
      · intro w hSw
        obtain ⟨hSw1, hSw2⟩ := hSw
        go_simp
        try with_reducible rfl
      try simp only [Act.put, List.setIfInBounds_toArray, List.set_cons_zero, List.set_cons_succ]
      refine wpAnyH_take (i := 4) (v := .agg (cellsB X).toArray) (by simp only [List.getElem?_toArray, List.getElem?_cons_zero, List.getElem?_cons_succ]; rfl) (by kernel_rfl) (by kernel_rfl) (by kernel_rfl) (fun _ _ _ h => h)
        (yieldsIf_load_mid (by rfl) _ _ rfl _ _ rfl _ _ (fun w hw => hw.1) Tryz.underlying23 rfl (by rw [cellsB_length, hl4]; exact Tryz.sizeDg)) hHeld ?_
      try simp only [Act.put, List.setIfInBounds_toArray, List.set_cons_zero, List.set_cons_succ]
      refine wpAnyH_take (i := 5) (v := ?_) (by simp only [List.getElem?_toArray, List.getElem?_cons_zero, List.getElem?_cons_succ]; rfl) (by kernel_rfl) (by kernel_rfl) (by kernel_rfl) (fun _ _ _ h => h) (Or.inl ⟨by rfl, ?_⟩) hHeld ?_
      rotate_left
      · intro w hSw
        obtain ⟨hSw1, hSw2⟩ := hSw
        go_simp
        try with_reducible rfl
      try simp only [Act.put, List.setIfInBounds_toArray, List.set_cons_zero, List.set_cons_succ]
      refine wpAnyH_take (i := 6) (v := ?_) (by simp only [List.getElem?_toArray, List.getElem?_cons_zero, List.getElem?_cons_succ]; rfl) (by kernel_rfl) (by kernel_rfl) (by kernel_rfl) (fun _ _ _ h => h) (Or.inl ⟨by rfl, ?_⟩) hHeld ?_
      rotate_left
      · intro w hSw
        obtain ⟨hSw1, hSw2⟩ := hSw
        go_simp
        try with_reducible rfl
      try simp only [Act.put, List.setIfInBounds_toArray, List.set_cons_zero, List.set_cons_succ]
      refine wpAnyH_take (i := 7) (v := ?_) (by simp only [List.getElem?_toArray, List.getElem?_cons_zero, List.getElem?_cons_succ]; rfl) (by kernel_rfl) (by kernel_rfl) (by kernel_rfl) (fun _ _ _ h => h) (Or.inl ⟨by rfl, ?_⟩) hHeld ?_
      rotate_left
      · intro w hSw
        obtain ⟨hSw1, hSw2⟩ := hSw
        go_simp
        try with_reducible rfl
      try simp only [Act.put, List.setIfInBounds_toArray, List.set_cons_zero, List.set_cons_succ]
      refine wpAnyH_take (i := 8) (v := ?_) (by simp only [List.getElem?_toArray, List.getElem?_cons_zero, List.getElem?_cons_succ]; rfl) (by kernel_rfl) (by kernel_rfl) (by kernel_rfl) (fun _ _ _ h => h) (Or.inl ⟨by rfl, ?_⟩) hHeld ?_
      rotate_left
      · intro w hSw
        obtain ⟨hSw1, hSw2⟩ := hSw
        go_simp
        try with_reducible rfl
      try simp only [Act.put, List.setIfInBounds_toArray, List.set_cons_zero, List.set_cons_succ]
      refine wpAnyH_take (i := 9) (v := ?_) (by simp only [List.getElem?_toArray, List.getElem?_cons_zero, List.getElem?_cons_succ]; rfl) (by kernel_rfl) (by kernel_rfl) (by kernel_rfl) (fun _ _ _ h => h) (Or.inl ⟨by rfl, ?_⟩) hHeld ?_
      rotate_left
      · intro w hSw
        obtain ⟨hSw1, hSw2⟩ := hSw
        go_simp
        try with_reducible rfl
      try simp only [Act.put, List.setIfInBounds_toArray, List.set_cons_zero, List.set_cons_succ]
      refine wpAnyH_ready (rs := [10]) (by kernel_rfl) (by simp) ?_
      refine AllReadyH.cons (by simp only [List.getElem?_toArray, List.getElem?_cons_zero, List.getElem?_cons_succ]; rfl) (fun K hK => ?_) AllReadyH.nil
      rw [if_pos (by rfl)]
      go_simp
      have hdd : (15 : Int) - (d : Int) = ((15 - d : Nat) : Int) := by omega
      rw [hdd, wrap_i64_in _ (by omega)]
      clear hdd
      refine (rwalk_any X (15 - d) wd hl4 (by omega)).mono ?_
      rintro e w5 ⟨rfl, hb5⟩
      have hl5 := walkL_length hl4 (15 - d)
      have HO5 : Hid (OwnD w5 w3.heap.size u6 (wotsToldL m sig k)) := OwnD.below HOd.out hb5
      have HB5 : Hid (Below w3.heap.size w3 w5) := HBd.out.trans (hb5.mono HBd.out.size)
      clear hb5 HOd HBd
      generalize walkL X (15 - d) = Y at *
      go_wp2_with fail
      refine hK.out _ _ (HKEEP.out _ HB5.out) (fun hHeld => ?_)
      clear hK K
      try simp only [Act.put, List.setIfInBounds_toArray, List.set_cons_zero, List.set_cons_succ]
      refine wpAnyH_ready (rs := [11]) (by kernel_rfl) (by simp) ?_
      refine AllReadyH.cons (by simp only [List.getElem?_toArray, List.getElem?_cons_zero, List.getElem?_cons_succ]; rfl) (fun K hK => ?_) AllReadyH.nil
      rw [if_pos (by rfl)]
      refine wp_buildD1 _ rfl Y hl5 rfl ?_
      have hs5 := HB5.out.size
      have HO6 : Hid (OwnD (w5.alloc (.cells (cellsB Y).toArray 23)) w3.heap.size u6 (wotsToldL m sig k)) := OwnD.alloc HO5.out _
      have HB6 : Hid (Below w3.heap.size w3 (w5.alloc (.cells (cellsB Y).toArray 23))) := Below.alloc HB5.out hs5 _
      have HY6 : Hid (DRow (w5.alloc (.cells (cellsB Y).toArray 23)) (some ⟨w5.heap.size, 0, none⟩) 1 [Y]) := DRow.lit1 w5 Y _ hl5
      refine hK.out _ _ (HKEEP.out _ HB6.out) (fun hHeld => ?_)
      clear HO5 HB5 hs5
      generalize w5.alloc (.cells (cellsB Y).toArray 23) = w6 at *
      clear hK K
      try simp only [Act.put, List.setIfInBounds_toArray, List.set_cons_zero, List.set_cons_succ]
      refine wpAnyH_ready (rs := [12]) (by kernel_rfl) (by simp) ?_
      refine AllReadyH.cons (by simp only [List.getElem?_toArray, List.getElem?_cons_zero, List.getElem?_cons_succ]; rfl) (fun K hK => ?_) AllReadyH.nil
      rw [if_pos (by rfl)]
      refine wp_appendD _ _ rfl w3.heap.size u6 (wotsToldL m sig k) rfl HO6.out ⟨w5.heap.size, 0, none⟩ 1 1 [Y] rfl HY6.out (by omega) (by rw [HLN.out]; omega) HB6.out.size ?_
      intro v7 w7 ho7 hg7 _
      have HB7 : Hid (Below w3.heap.size w3 w7) := OwnD.grown HO6.out HB6.out hg7 (Nat.le_refl _) HB6.out.size
      rw [HSN.out] at ho7
      refine hK.out _ _ (HKEEP.out _ HB7.out) (fun hHeld => ?_)
      clear HO6 HB6 HY6 hg7 HSN HLN
      clear hK K
      try simp only [Act.put, List.setIfInBounds_toArray, List.set_cons_zero, List.set_cons_succ]
      refine wpAnyH_take (i := 13) (v := ?_) (by simp only [List.getElem?_toArray, List.getElem?_cons_zero, List.getElem?_cons_succ]; rfl) (by kernel_rfl) (by kernel_rfl) (by kernel_rfl) (fun _ _ _ h => h) (Or.inl ⟨by rfl, ?_⟩) hHeld ?_
      rotate_left
      · intro w hSw
        obtain ⟨hSw1, hSw2⟩ := hSw
        go_simp
        try with_reducible rfl
      try simp only [Act.put, List.setIfInBounds_toArray, List.set_cons_zero, List.set_cons_succ]
      refine wpAnyH_done (by kernel_rfl) (NoPanic.normal ?_) _
      clear hHeld HKEEP
      go_wp2
      go_roundw
      case rel => exact ⟨k + 1, by omega, by go_num, ho7, HB7.out⟩
      case measure => simp [intOf]; omega
    · obtain rfl : k = 67 := by omega
      obtain ⟨a5, c5, rfl, R5, hc5⟩ := OwnD.form hO
      have hl5 : (wotsToldL m sig 67).length = 67 := by rw [wotsToldL_len]
      rw [hl5] at R5
      rw [hl5]
      have HR5 : Hid (DRow wr a5 67 (wotsToldL m sig 67)) := R5
      have HB : Hid (Below w3.heap.size w3 wr) := hB
      have HE : Hid (shaL (7 :: (wotsToldL m sig 67).flatten) = wotsKeyL m sig) := rfl
      clear hO hB R5 hl5 hc5
      generalize wotsToldL m sig 67 = L at *
      go_wp2_with fail
      refine (rof_any 7 a5 67 c5 L wr HR5.out (by omega)).mono ?_
      rintro e w6 ⟨rfl, hb6⟩
      rw [HE.out]
      have HB6 : Hid (Below w3.heap.size w3 w6) := HB.out.trans (hb6.mono HB.out.size)
      have HT6 : Hid (w6.there (w.heap.size + 1) 0 32) := there_below HD3.out.1 HB6.out HD3.out.2.1
      have hlen : (wotsKeyL m sig).length = 32 := by rw [← HE.out]; exact shaL_length _
      clear hb6 HB HR5 HE
      generalize hD : wotsKeyL m sig = D at *
      have HD : Hid (wotsKeyL m sig = D) := hD
      clear hD
      go_wp2_with (refine wpList_store_mid (by rfl) 23 (.tmp 4) (.tmp 28) (by rfl) (w.heap.size + 1) 0 (cellsB D).toArray (by rfl) (by rfl) (by rw [cellsB_size, hlen]; exact HT6.out) (by rw [cellsB_size, hlen]; exact Tryz.sizeDg) (all_oneCell_toArray (cellsB_one _)) ?_)
      refine bodyPost_ret (v := digestV D) (run_results_row Tryz.results17 _ _ (w.heap.size + 1) 0 (by rfl) (cellsB D) (World.rangeAt_setCells_same _ _ _ _ (by rw [cellsB_length, hlen]; exact HT6.out)) _ Tryz.underlying23 (by rfl) (by rw [cellsB_length, hlen]; exact Tryz.sizeDg)) rfl ⟨by rw [HD.out], ?_⟩
      exact below_setCells _ (by omega) _ _ _ (HD3.out.2.2.trans (HB6.out.mono (by have := HD3.out.2.1; omega)))
end Go.Proofs.YtdgaimlccpmojaaGreatDoor
