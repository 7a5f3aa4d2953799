/- The law ShareJoins: the program's Join is the document's. -/
import Derived.Test.YtnffmegicgbinaaDoorJ13
import Derived.Test.YtnffmegicgbinaaDoorJ07
import Derived.Test.YtnffmegicgbinaaDoorJ12
import Derived.Test.YtnffmegicgbinaaDoorJ14
namespace Go.Proofs.YtnffmegicgbinaaDoor
open Go.RowKit
set_option linter.unusedVariables false
set_option linter.unusedSimpArgs false

theorem SRow.lit1 (w : World) (hd : Hdr) (s : Shr) (t : TypeId) (hdat : DatH w hd s) : SRow (w.alloc (.cells (hdC hd).toArray t)) (some ⟨w.heap.size, 0, none⟩) 1 [s] := by
  refine ⟨rfl, .inr ⟨_, 0, rfl, fun i hi => ?_⟩⟩
  have : i = 0 := by omega
  subst this
  exact (hdat.below ((Below.refl _ _).alloc (Nat.le_refl _) _)).sat (lit_cells w hd t)
theorem join_nine : joinE [(3, [9])] = 0 := by decide
theorem row_first {w : World} {a : Option Addr} {n : Nat} {l : List UInt8} (R : Row w a n l) (hn : 0 < n) : ∃ b o, a = some ⟨b, o, none⟩ ∧ w.cell? ⟨b, o, none⟩ = some (.int .u8 (nth l 0)) := by
  rcases R.2 with h | ⟨b, o, e, hc⟩
  · omega
  · exact ⟨b, o, e, hc 0 hn⟩
set_option maxRecDepth 100000 in
set_option maxHeartbeats 2000000 in
theorem sjoins_walk (a : Option Addr) (n c : Nat) (ss : List Shr) (w : World) (G : Env w) (HH : Handle w) (R : SRow w a n ss) (hc : n ≤ c) (hn : 32 * n ≤ 140737488351232) :
    Calls Tryd.prog 4 #[.slice a n c] w fun r w' => r = .returned (.bool true) ∧ Below w.heap.size w w' := by
  have HALL : Hid (∀ wx, Below w.heap.size w wx → Env wx ∧ Handle wx ∧ SRow wx a n ss) := fun wx hx => ⟨G.below hx, HH.below hx, R.below hx⟩
  have HLN : Hid (ss.length = n) := R.1
  have HPL : Hid (∀ s ∈ ss, s.1 < 256) := R.place
  have HB0 : Hid (Below w.heap.size w w) := Below.refl _ _
  clear G HH R
  go_enter Tryd.func4, Tryd.ntmps4
  by_cases c1 : n < 1
  · have HE : Hid (joinE ss = 2) := if_pos (.inl (by rw [HLN.out]; exact c1))
    have g1 : (n : Int) < 1 := by omega
    clear c1
    go_wp2_with fail
    refine (wshare_joinout a n c ss 2 w (HALL.out _ HB0.out).1 (HALL.out _ HB0.out).2.2 hc (by omega) HE.out (by omega)).mono ?_
    rintro r w3 ⟨⟨ag, cg, rfl⟩, hb3⟩
    have HBw3 : Hid (Below w.heap.size w w3) := hb3
    have HGOT : Hid (Row w3 ag 0 ([] : List UInt8)) := ⟨rfl, .inl rfl⟩
    have HWANT : Hid (Row w3 none 0 ([] : List UInt8)) := ⟨rfl, .inl rfl⟩
    clear hb3 HE HB0
    go_wp2_with fail
    refine (error_errno 2 2 w3 (HALL.out _ HBw3.out).2.1).mono ?_
    rintro r w31 ⟨rfl, hb1⟩
    rw [show decide ((2 : Int) = 2) = true from decide_eq_true rfl]
    have HB1 : Hid (Below w.heap.size w w31) := HBw3.out.trans (hb1.mono HBw3.out.size)
    have HG1 : Hid (Row w31 ag 0 ([] : List UInt8)) := HGOT.out.below hb1
    have HW1 : Hid (Row w31 none 0 ([] : List UInt8)) := HWANT.out.below hb1
    clear hb1 HGOT HWANT HBw3
    go_wp2_with fail
    refine (bytes_any ag none 0 0 cg _ ([] : List UInt8) ([] : List UInt8) w31 HG1.out HW1.out (by omega)).mono ?_
    rintro r w32 ⟨rfl, q, hq⟩
    rw [show decide (([] : List UInt8) = ([] : List UInt8)) = true from decide_eq_true rfl]
    have HB2 : Hid (Below w.heap.size w w32) := by rw [hq]; exact HB1.out.trans ((below_drewN w31 q).mono HB1.out.size)
    clear hq HG1 HW1 HB1
    generalize w32 = x at *
    have HR3 : Hid (Row (x.alloc (.cells #[.int .u8 9] 5)) (some ⟨x.heap.size, 0, none⟩) 1 [9]) := Row.lit1v x 9 5 9 rfl
    obtain ⟨x1, hx1⟩ : ∃ x1, x.alloc (.cells #[.int .u8 9] 5) = x1 := ⟨_, rfl⟩
    rw [hx1] at HR3
    have HS1 : Hid (x1.heap.size = x.heap.size + 1) := by unfold Hid; rw [← hx1]; simp
    have HX1 : Hid (x.alloc (.cells #[.int .u8 9] 5) = x1) := hx1
    have HB3 : Hid (Below w.heap.size w x1) := by rw [← hx1]; exact HB2.out.alloc HB2.out.size _
    have HBU : Hid (Tryd.prog.built 42 [(0, .int .u8 3), (1, .slice (some ⟨x.heap.size, 0, none⟩) 1 1)] = some (hdC (3, some ⟨x.heap.size, 0, none⟩, 1, 1)).toArray) := by rfl
    have HSR : Hid (SRow (x1.alloc (.cells (hdC (3, some ⟨x.heap.size, 0, none⟩, 1, 1)).toArray 42)) (some ⟨x.heap.size + 1, 0, none⟩) 1 [(3, [9])]) := by rw [← HS1.out]; exact SRow.lit1 x1 _ (3, [9]) _ ⟨rfl, by show 3 < 256; omega, Nat.le_refl _, by show 1 ≤ 140737488351232; omega, HR3.out⟩
    have HB4 : Hid (Below w.heap.size w (x1.alloc (.cells (hdC (3, some ⟨x.heap.size, 0, none⟩, 1, 1)).toArray 42))) := HB3.out.alloc HB3.out.size _
    clear hx1
    go_wp2_with (first
      | (refine wpList_buildC (by rfl) 42 _ (by rfl) (hdC (3, some ⟨x.heap.size, 0, none⟩, 1, 1)).toArray (by simp only [List.map_toArray, List.map_cons, List.map_nil, Act.eval]; exact HBU.out) ?_)
      | (refine wpList_buildSh (by rfl) (.tmp 40) (by rfl) (3, some ⟨x.heap.size, 0, none⟩, 1, 1) (by rfl) ?_))
    rw [HX1.out]
    refine (wshare_join (some ⟨x.heap.size + 1, 0, none⟩) 1 1 [(3, [9])] (x1.alloc (.cells (hdC (3, some ⟨x.heap.size, 0, none⟩, 1, 1)).toArray 42)) (HALL.out _ HB4.out).1 HSR.out (Nat.le_refl _) join_nine).mono ?_
    rintro r x5 ⟨⟨a5, c5, l5, rfl, hc5, r5, j5⟩, hb5⟩
    have hl5 : l5 = [9] := joinedP_one (p := 3) (v := 9) (by omega) j5
    subst hl5
    obtain ⟨b5, o5, rfl, k5⟩ := row_first r5 (by decide)
    have HB5 : Hid (Below w.heap.size w x5) := HB4.out.trans (hb5.mono HB4.out.size)
    have k5' : x5.cell? ⟨b5, o5, none⟩ = some (.int .u8 9) := k5
    clear hb5 r5 j5 k5 HSR HB4 HB3 HR3
    go_wp2_with fail
    go_ret
    exact ⟨rfl, HB5.out⟩
  by_cases c2 : 20 < n
  · have HE : Hid (joinE ss = 2) := if_pos (.inr (by rw [HLN.out]; exact c2))
    have g1 : ¬ (n : Int) < 1 := by omega
    have g2 : (20 : Int) < (n : Int) := by omega
    clear c1 c2
    go_wp2_with fail
    refine (wshare_joinout a n c ss 2 w (HALL.out _ HB0.out).1 (HALL.out _ HB0.out).2.2 hc (by omega) HE.out (by omega)).mono ?_
    rintro r w3 ⟨⟨ag, cg, rfl⟩, hb3⟩
    have HBw3 : Hid (Below w.heap.size w w3) := hb3
    have HGOT : Hid (Row w3 ag 0 ([] : List UInt8)) := ⟨rfl, .inl rfl⟩
    have HWANT : Hid (Row w3 none 0 ([] : List UInt8)) := ⟨rfl, .inl rfl⟩
    clear hb3 HE HB0
    go_wp2_with fail
    refine (error_errno 2 2 w3 (HALL.out _ HBw3.out).2.1).mono ?_
    rintro r w31 ⟨rfl, hb1⟩
    rw [show decide ((2 : Int) = 2) = true from decide_eq_true rfl]
    have HB1 : Hid (Below w.heap.size w w31) := HBw3.out.trans (hb1.mono HBw3.out.size)
    have HG1 : Hid (Row w31 ag 0 ([] : List UInt8)) := HGOT.out.below hb1
    have HW1 : Hid (Row w31 none 0 ([] : List UInt8)) := HWANT.out.below hb1
    clear hb1 HGOT HWANT HBw3
    go_wp2_with fail
    refine (bytes_any ag none 0 0 cg _ ([] : List UInt8) ([] : List UInt8) w31 HG1.out HW1.out (by omega)).mono ?_
    rintro r w32 ⟨rfl, q, hq⟩
    rw [show decide (([] : List UInt8) = ([] : List UInt8)) = true from decide_eq_true rfl]
    have HB2 : Hid (Below w.heap.size w w32) := by rw [hq]; exact HB1.out.trans ((below_drewN w31 q).mono HB1.out.size)
    clear hq HG1 HW1 HB1
    generalize w32 = x at *
    have HR3 : Hid (Row (x.alloc (.cells #[.int .u8 9] 5)) (some ⟨x.heap.size, 0, none⟩) 1 [9]) := Row.lit1v x 9 5 9 rfl
    obtain ⟨x1, hx1⟩ : ∃ x1, x.alloc (.cells #[.int .u8 9] 5) = x1 := ⟨_, rfl⟩
    rw [hx1] at HR3
    have HS1 : Hid (x1.heap.size = x.heap.size + 1) := by unfold Hid; rw [← hx1]; simp
    have HX1 : Hid (x.alloc (.cells #[.int .u8 9] 5) = x1) := hx1
    have HB3 : Hid (Below w.heap.size w x1) := by rw [← hx1]; exact HB2.out.alloc HB2.out.size _
    have HBU : Hid (Tryd.prog.built 42 [(0, .int .u8 3), (1, .slice (some ⟨x.heap.size, 0, none⟩) 1 1)] = some (hdC (3, some ⟨x.heap.size, 0, none⟩, 1, 1)).toArray) := by rfl
    have HSR : Hid (SRow (x1.alloc (.cells (hdC (3, some ⟨x.heap.size, 0, none⟩, 1, 1)).toArray 42)) (some ⟨x.heap.size + 1, 0, none⟩) 1 [(3, [9])]) := by rw [← HS1.out]; exact SRow.lit1 x1 _ (3, [9]) _ ⟨rfl, by show 3 < 256; omega, Nat.le_refl _, by show 1 ≤ 140737488351232; omega, HR3.out⟩
    have HB4 : Hid (Below w.heap.size w (x1.alloc (.cells (hdC (3, some ⟨x.heap.size, 0, none⟩, 1, 1)).toArray 42))) := HB3.out.alloc HB3.out.size _
    clear hx1
    go_wp2_with (first
      | (refine wpList_buildC (by rfl) 42 _ (by rfl) (hdC (3, some ⟨x.heap.size, 0, none⟩, 1, 1)).toArray (by simp only [List.map_toArray, List.map_cons, List.map_nil, Act.eval]; exact HBU.out) ?_)
      | (refine wpList_buildSh (by rfl) (.tmp 40) (by rfl) (3, some ⟨x.heap.size, 0, none⟩, 1, 1) (by rfl) ?_))
    rw [HX1.out]
    refine (wshare_join (some ⟨x.heap.size + 1, 0, none⟩) 1 1 [(3, [9])] (x1.alloc (.cells (hdC (3, some ⟨x.heap.size, 0, none⟩, 1, 1)).toArray 42)) (HALL.out _ HB4.out).1 HSR.out (Nat.le_refl _) join_nine).mono ?_
    rintro r x5 ⟨⟨a5, c5, l5, rfl, hc5, r5, j5⟩, hb5⟩
    have hl5 : l5 = [9] := joinedP_one (p := 3) (v := 9) (by omega) j5
    subst hl5
    obtain ⟨b5, o5, rfl, k5⟩ := row_first r5 (by decide)
    have HB5 : Hid (Below w.heap.size w x5) := HB4.out.trans (hb5.mono HB4.out.size)
    have k5' : x5.cell? ⟨b5, o5, none⟩ = some (.int .u8 9) := k5
    clear hb5 r5 j5 k5 HSR HB4 HB3 HR3
    go_wp2_with fail
    go_ret
    exact ⟨rfl, HB5.out⟩
  have HE1 : Hid (joinE ss = sfault 1 255 ss) := if_neg (by rw [HLN.out]; omega)
  have g1 : ¬ (n : Int) < 1 := by omega
  have g2 : ¬ (20 : Int) < (n : Int) := by omega
  have hn1 : 0 < n := by omega
  have hn20 : n ≤ 20 := by omega
  clear c1 c2
  go_wp2_with fail
  refine (rsfault_any a n c ss 1 255 w (HALL.out _ HB0.out).2.2 hc (by omega) (by omega) (by omega)).mono ?_
  rintro r w1 ⟨rfl, hb1⟩
  have HB1 : Hid (Below w.heap.size w w1) := hb1
  clear hb1 HB0
  by_cases hf : sfault 1 255 ss = 0
  · have HE : Hid (joinE ss = 0) := by rw [HE1.out]; exact hf
    have hok := sfault_ok hf
    have HND : Hid ((ss.map (·.1)).Nodup) := hok.2
    obtain ⟨F, hF⟩ : ∃ F, (ss.getD 0 noS).2.length = F := ⟨_, rfl⟩
    have HFE : Hid ((ss.getD 0 noS).2.length = F) := hF
    have HLF : Hid (∀ s ∈ ss, s.2.length = F) := fun s hs => by rw [← hF]; exact (hok.1 s hs).2.2
    have hF47 : F ≤ 140737488351232 := by
      obtain ⟨b, o, ha⟩ := (HALL.out _ HB1.out).2.2.addr hn1
      have R := (HALL.out _ HB1.out).2.2
      rw [ha] at R
      obtain ⟨_, _, ai, ni, ci, _, _, h5, hR⟩ := R.at 0 hn1
      rw [← hF, hR.1]
      exact h5
    rw [hf]
    clear hok hF hf HE1
    go_wp2_with fail
    refine (rjoined_any a n c ss 0 F w1 (HALL.out _ HB1.out).2.2 hc hn1 (by omega) (by omega) HLF.out hF47 HND.out).mono ?_
    rintro r w2 ⟨⟨aw, cw, rfl, hcw, rw2⟩, hb2⟩
    have HB2 : Hid (Below w.heap.size w w2) := HB1.out.trans (hb2.mono HB1.out.size)
    have HRW : Hid (Row w2 aw F (joinedL ss 0 F)) := rw2
    clear hb2 HB1 rw2
    go_wp2_with fail
    refine (wshare_join a n c ss w2 (HALL.out _ HB2.out).1 (HALL.out _ HB2.out).2.2 hc HE.out).mono ?_
    rintro r w3 ⟨⟨ag, cg, L, rfl, hcg, rg3, j3⟩, hb3⟩
    have hLL : joinedL ss 0 F = L := by
      have q := joinedL_is (ss := ss) (x := 0) (by rw [HLN.out]; exact hn1) HPL.out HND.out (by omega)
      rw [HFE.out] at q
      exact joinedP_unique HPL.out HND.out (by omega) q j3
    have hlF : L.length = F := by rw [← hLL]; exact joinedL_length _ _ _
    have HBw3 : Hid (Below w.heap.size w w3) := HB2.out.trans (hb3.mono HB2.out.size)
    have HGOT : Hid (Row w3 ag L.length L) := rg3
    have HWANT : Hid (Row w3 aw L.length L) := by rw [← hLL, joinedL_length]; exact HRW.out.below hb3
    rw [hlF] at hcg
    rw [← hlF] at hF47 hcw
    rw [← hlF]
    clear hb3 HB2 HRW rg3 j3 hLL hlF HLF HFE HND HE
    obtain ⟨ng, hng⟩ : ∃ ng, L.length = ng := ⟨_, rfl⟩
    rw [hng] at HGOT HWANT hF47
    rw [hng]
    clear hng hcg hcw
    go_wp2_with fail
    refine (error_nil 0 w3).mono ?_
    rintro r w31 ⟨rfl, hb1⟩
    rw [show decide ((0 : Int) = 0) = true from decide_eq_true rfl]
    have HB1 : Hid (Below w.heap.size w w31) := HBw3.out.trans (hb1.mono HBw3.out.size)
    have HG1 : Hid (Row w31 ag ng (L : List UInt8)) := HGOT.out.below hb1
    have HW1 : Hid (Row w31 aw ng (L : List UInt8)) := HWANT.out.below hb1
    clear hb1 HGOT HWANT HBw3
    go_wp2_with fail
    refine (bytes_any ag aw ng ng cg _ (L : List UInt8) (L : List UInt8) w31 HG1.out HW1.out (by omega)).mono ?_
    rintro r w32 ⟨rfl, q, hq⟩
    rw [show decide ((L : List UInt8) = (L : List UInt8)) = true from decide_eq_true rfl]
    have HB2 : Hid (Below w.heap.size w w32) := by rw [hq]; exact HB1.out.trans ((below_drewN w31 q).mono HB1.out.size)
    clear hq HG1 HW1 HB1
    generalize w32 = x at *
    have HR3 : Hid (Row (x.alloc (.cells #[.int .u8 9] 5)) (some ⟨x.heap.size, 0, none⟩) 1 [9]) := Row.lit1v x 9 5 9 rfl
    obtain ⟨x1, hx1⟩ : ∃ x1, x.alloc (.cells #[.int .u8 9] 5) = x1 := ⟨_, rfl⟩
    rw [hx1] at HR3
    have HS1 : Hid (x1.heap.size = x.heap.size + 1) := by unfold Hid; rw [← hx1]; simp
    have HX1 : Hid (x.alloc (.cells #[.int .u8 9] 5) = x1) := hx1
    have HB3 : Hid (Below w.heap.size w x1) := by rw [← hx1]; exact HB2.out.alloc HB2.out.size _
    have HBU : Hid (Tryd.prog.built 42 [(0, .int .u8 3), (1, .slice (some ⟨x.heap.size, 0, none⟩) 1 1)] = some (hdC (3, some ⟨x.heap.size, 0, none⟩, 1, 1)).toArray) := by rfl
    have HSR : Hid (SRow (x1.alloc (.cells (hdC (3, some ⟨x.heap.size, 0, none⟩, 1, 1)).toArray 42)) (some ⟨x.heap.size + 1, 0, none⟩) 1 [(3, [9])]) := by rw [← HS1.out]; exact SRow.lit1 x1 _ (3, [9]) _ ⟨rfl, by show 3 < 256; omega, Nat.le_refl _, by show 1 ≤ 140737488351232; omega, HR3.out⟩
    have HB4 : Hid (Below w.heap.size w (x1.alloc (.cells (hdC (3, some ⟨x.heap.size, 0, none⟩, 1, 1)).toArray 42))) := HB3.out.alloc HB3.out.size _
    clear hx1
    go_wp2_with (first
      | (refine wpList_buildC (by rfl) 42 _ (by rfl) (hdC (3, some ⟨x.heap.size, 0, none⟩, 1, 1)).toArray (by simp only [List.map_toArray, List.map_cons, List.map_nil, Act.eval]; exact HBU.out) ?_)
      | (refine wpList_buildSh (by rfl) (.tmp 40) (by rfl) (3, some ⟨x.heap.size, 0, none⟩, 1, 1) (by rfl) ?_))
    rw [HX1.out]
    refine (wshare_join (some ⟨x.heap.size + 1, 0, none⟩) 1 1 [(3, [9])] (x1.alloc (.cells (hdC (3, some ⟨x.heap.size, 0, none⟩, 1, 1)).toArray 42)) (HALL.out _ HB4.out).1 HSR.out (Nat.le_refl _) join_nine).mono ?_
    rintro r x5 ⟨⟨a5, c5, l5, rfl, hc5, r5, j5⟩, hb5⟩
    have hl5 : l5 = [9] := joinedP_one (p := 3) (v := 9) (by omega) j5
    subst hl5
    obtain ⟨b5, o5, rfl, k5⟩ := row_first r5 (by decide)
    have HB5 : Hid (Below w.heap.size w x5) := HB4.out.trans (hb5.mono HB4.out.size)
    have k5' : x5.cell? ⟨b5, o5, none⟩ = some (.int .u8 9) := k5
    clear hb5 r5 j5 k5 HSR HB4 HB3 HR3
    go_wp2_with fail
    go_ret
    exact ⟨rfl, HB5.out⟩
  · obtain ⟨E, hE⟩ : ∃ E, sfault 1 255 ss = E := ⟨_, rfl⟩
    have HE : Hid (joinE ss = E) := by rw [HE1.out]; exact hE
    rw [hE] at hf
    rw [hE]
    have HEQ : Hid (E ≠ 0) := hf
    have e1 : ¬ E = 0 := hf
    clear hE HE1
    go_wp2_with fail
    refine (wshare_joinout a n c ss E w1 (HALL.out _ HB1.out).1 (HALL.out _ HB1.out).2.2 hc (by omega) HE.out HEQ.out).mono ?_
    rintro r w3 ⟨⟨ag, cg, rfl⟩, hb3⟩
    have HBw3 : Hid (Below w.heap.size w w3) := HB1.out.trans (hb3.mono HB1.out.size)
    have HGOT : Hid (Row w3 ag 0 ([] : List UInt8)) := ⟨rfl, .inl rfl⟩
    have HWANT : Hid (Row w3 none 0 ([] : List UInt8)) := ⟨rfl, .inl rfl⟩
    clear hb3 HE HEQ HB1
    go_wp2_with fail
    refine (error_errno E E w3 (HALL.out _ HBw3.out).2.1).mono ?_
    rintro r w31 ⟨rfl, hb1⟩
    rw [show decide ((E : Int) = E) = true from decide_eq_true rfl]
    have HB1 : Hid (Below w.heap.size w w31) := HBw3.out.trans (hb1.mono HBw3.out.size)
    have HG1 : Hid (Row w31 ag 0 ([] : List UInt8)) := HGOT.out.below hb1
    have HW1 : Hid (Row w31 none 0 ([] : List UInt8)) := HWANT.out.below hb1
    clear hb1 HGOT HWANT HBw3
    go_wp2_with fail
    refine (bytes_any ag none 0 0 cg _ ([] : List UInt8) ([] : List UInt8) w31 HG1.out HW1.out (by omega)).mono ?_
    rintro r w32 ⟨rfl, q, hq⟩
    rw [show decide (([] : List UInt8) = ([] : List UInt8)) = true from decide_eq_true rfl]
    have HB2 : Hid (Below w.heap.size w w32) := by rw [hq]; exact HB1.out.trans ((below_drewN w31 q).mono HB1.out.size)
    clear hq HG1 HW1 HB1
    generalize w32 = x at *
    have HR3 : Hid (Row (x.alloc (.cells #[.int .u8 9] 5)) (some ⟨x.heap.size, 0, none⟩) 1 [9]) := Row.lit1v x 9 5 9 rfl
    obtain ⟨x1, hx1⟩ : ∃ x1, x.alloc (.cells #[.int .u8 9] 5) = x1 := ⟨_, rfl⟩
    rw [hx1] at HR3
    have HS1 : Hid (x1.heap.size = x.heap.size + 1) := by unfold Hid; rw [← hx1]; simp
    have HX1 : Hid (x.alloc (.cells #[.int .u8 9] 5) = x1) := hx1
    have HB3 : Hid (Below w.heap.size w x1) := by rw [← hx1]; exact HB2.out.alloc HB2.out.size _
    have HBU : Hid (Tryd.prog.built 42 [(0, .int .u8 3), (1, .slice (some ⟨x.heap.size, 0, none⟩) 1 1)] = some (hdC (3, some ⟨x.heap.size, 0, none⟩, 1, 1)).toArray) := by rfl
    have HSR : Hid (SRow (x1.alloc (.cells (hdC (3, some ⟨x.heap.size, 0, none⟩, 1, 1)).toArray 42)) (some ⟨x.heap.size + 1, 0, none⟩) 1 [(3, [9])]) := by rw [← HS1.out]; exact SRow.lit1 x1 _ (3, [9]) _ ⟨rfl, by show 3 < 256; omega, Nat.le_refl _, by show 1 ≤ 140737488351232; omega, HR3.out⟩
    have HB4 : Hid (Below w.heap.size w (x1.alloc (.cells (hdC (3, some ⟨x.heap.size, 0, none⟩, 1, 1)).toArray 42))) := HB3.out.alloc HB3.out.size _
    clear hx1
    go_wp2_with (first
      | (refine wpList_buildC (by rfl) 42 _ (by rfl) (hdC (3, some ⟨x.heap.size, 0, none⟩, 1, 1)).toArray (by simp only [List.map_toArray, List.map_cons, List.map_nil, Act.eval]; exact HBU.out) ?_)
      | (refine wpList_buildSh (by rfl) (.tmp 40) (by rfl) (3, some ⟨x.heap.size, 0, none⟩, 1, 1) (by rfl) ?_))
    rw [HX1.out]
    refine (wshare_join (some ⟨x.heap.size + 1, 0, none⟩) 1 1 [(3, [9])] (x1.alloc (.cells (hdC (3, some ⟨x.heap.size, 0, none⟩, 1, 1)).toArray 42)) (HALL.out _ HB4.out).1 HSR.out (Nat.le_refl _) join_nine).mono ?_
    rintro r x5 ⟨⟨a5, c5, l5, rfl, hc5, r5, j5⟩, hb5⟩
    have hl5 : l5 = [9] := joinedP_one (p := 3) (v := 9) (by omega) j5
    subst hl5
    obtain ⟨b5, o5, rfl, k5⟩ := row_first r5 (by decide)
    have HB5 : Hid (Below w.heap.size w x5) := HB4.out.trans (hb5.mono HB4.out.size)
    have k5' : x5.cell? ⟨b5, o5, none⟩ = some (.int .u8 9) := k5
    clear hb5 r5 j5 k5 HSR HB4 HB3 HR3
    go_wp2_with fail
    go_ret
    exact ⟨rfl, HB5.out⟩
end Go.Proofs.YtnffmegicgbinaaDoor
