/- The contract of oathbookref1.Sum: the digest of bytes. -/
import Derived.Test.YtigdgmoiljifjaaDoorRblock
import Derived.Test.YtigdgmoiljifjaaDoorRrounds
import Derived.Test.YtigdgmoiljifjaaDoorRput
import Derived.Test.YtigdgmoiljifjaaDoorDigest
namespace Go.Proofs.YtigdgmoiljifjaaDoor
open Go.RowKit
set_option linter.unusedVariables false
set_option linter.unusedSimpArgs false
theorem Tryd.infoU8 : (Tryd.prog.info? 5).map (fun i => (i.zero, i.size, i.bytes)) = some (some (.int .u8 0), 1, 1) := by kernel_rfl

/-- How long a slice is. -/
def lenV : Value → Nat
  | .slice _ n _ => n
  | _ => 0
theorem pad_zeros (n z : Nat) : (n + 1 + z) % 64 = 56 → z < 64 → z = (119 - n % 64) % 64 := by omega

set_option maxRecDepth 100000 in
set_option maxHeartbeats 1000000 in
theorem rsum_any (a : Option Addr) (n c : Nat) (l : List UInt8) (w : World) (R : Row w a n l) (hn : n ≤ 140737488354000) :
    Calls Tryd.prog 24 #[.slice a n c] w fun e w' => e = .returned (digestV (shaL l)) ∧ Below w.heap.size w w' := by
  obtain ⟨i0, hi, hz0, hz1, hz2⟩ := info_parts Tryd.infoU8
  have hln := R.1
  go_enter Tryd.func24, Tryd.ntmps24
  go_wp2_with (first
    | (at_builtin; refine wpList_append_bytes rfl (.tmp 11) (.tmp 12) 49 rfl (w.heap.size + 1) i0 Tryd.underlying49 hi hz0 hz1 hz2 (.slice (some ⟨w.heap.size + 1, 0, none⟩) 0 0) [] rfl (OwnL.lit0' _ _ (w.heap.size + 1) (by simp) (Nat.le_refl _)) a n c l rfl (R.below (((Below.refl _ _).alloc (Nat.le_refl _) _).alloc (by simp) _)) (by simp; omega) (by simp) ?_; intro v1 w1 ho1 hg1)
    | (at_builtin; refine wpList_append_bytes rfl (.tmp 13) (.tmp 14) 49 rfl (w.heap.size + 1) i0 Tryd.underlying49 hi hz0 hz1 hz2 _ ([] ++ l) rfl (World.ownsRow.alloc ho1 _) _ 1 1 [128] rfl (Row.lit1 w1 128 5) (by simp; omega) (by have := hg1.size; simp at this; simp; omega) ?_; intro v2 w2 ho2 hg2))
  have B1 : Below (w.heap.size + 1) (w.alloc _) w1 := ((Below.refl (w.heap.size + 1) (w.alloc _)).alloc (by simp) _).grown hg1 (by simp) (fun k hk => by cases hk; exact Nat.le_refl _)
  have B2 := OwnL.grown (World.ownsRow.alloc ho1 _) (B1.alloc (by have := B1.size; simpa using this) _) hg2 (Nat.le_refl _) (by have := B1.size; simp at this; simp; omega)
  rw [List.nil_append] at ho2
  clear ho1 hg1 hg2 B1
  go_loopw [3] (fun v wr => ∃ z : Nat, z ≤ (119 - n % 64) % 64 ∧ OwnL wr (w.heap.size + 1) v (l ++ [128] ++ List.replicate z 0) ∧ Below (w.heap.size + 1) (w.alloc _) wr) (fun v _ => n + 100 - lenV v)
  case atStart => exact ⟨0, Nat.zero_le _, by simpa using ho2, B2⟩
  case round =>
    clear ho2 B2
    obtain ⟨z, hz, hO, hB⟩ := hrel
    have el : (l ++ [128] ++ List.replicate z 0).length = n + 1 + z := by simp [hln]; omega
    have hsz := hB.size
    have hsz' : w.heap.size + 1 ≤ wr.heap.size := by simpa using hsz
    by_cases h56 : (n + 1 + z) % 64 = 56
    · have hzz := pad_zeros n z h56 (by omega)
      have HO : Hid (OwnL wr (w.heap.size + 1) u3 (l ++ [128] ++ List.replicate z 0)) := hO
      have HZ : Hid (l ++ [128] ++ List.replicate z 0 ++ putL ((8 * n : Nat) : Int) 8 = padL l) := by
        unfold Hid padL
        rw [hln, ← hzz, Int.natCast_mul]
        rfl
      obtain ⟨g3, c3, rfl, R3, hc3, hg3, hg3'⟩ := hO.formSome (by omega)
      rw [el] at HO R3 hc3
      rw [el]
      clear hO R3 hc3 hzz
      go_wp2_with fail
      refine (rput8 (8 * n) _ _ (by omega) (by omega)).mono ?_
      rintro e w4 ⟨⟨g4, rfl, hg4, r4⟩, hb4⟩
      have ho4 := OwnL.below HO.out hb4
      have B4 : Below (w.heap.size + 1) (w.alloc _) w4 := hB.trans (hb4.mono hsz')
      have hs4 := hb4.size
      clear HO hB hb4
      go_wp2_with (at_builtin; refine wpList_append_bytes rfl (.tmp 30) (.tmp 31) 49 rfl (w.heap.size + 1) i0 Tryd.underlying49 hi hz0 hz1 hz2 (.slice (some ⟨g3, 0, none⟩) (n + 1 + z) c3) (l ++ [128] ++ List.replicate z 0) rfl ho4 (some ⟨g4, 0, none⟩) 8 8 (putL ((8 * n : Nat) : Int) 8) rfl r4 (by rw [el]; omega) (by omega) ?_; intro v5 w5 ho5 hg5)
      have B5 := OwnL.grown ho4 B4 hg5 (Nat.le_refl _) (by omega)
      rw [HZ.out] at ho5
      have eN : (padL l).length = n + 1 + z + 8 := by rw [← HZ.out, List.length_append, el, putL_length]
      obtain ⟨g5, c5, rfl, R5, hc5, hg5', hg5''⟩ := ho5.formSome (by omega)
      rw [eN] at R5 hc5
      rw [eN]
      have HE : Hid ((padL l).length = n + 1 + z + 8) := eN
      clear ho4 hg5 r4 B4 HZ ho5 eN el
      go_wp2_with fail
      refine (rrounds_any _).mono ?_
      rintro e w6 ⟨rfl, rk, hb6⟩
      have hs5 : w5.heap.size < w6.heap.size := by have := hb6.size; simp at this; omega
      have rk : RowK .i64 w6 (some ⟨w5.heap.size + 1, 0, none⟩) 64 kW := by simpa using rk
      have rh := (RowK.lit .i64 w5 hW #[.int .i64 1779033703, .int .i64 3144134277, .int .i64 1013904242, .int .i64 2773480762, .int .i64 1359893119, .int .i64 2600822924, .int .i64 528734635, .int .i64 1541459225] 3 (by kernel_rfl)).below hb6
      have b56 : Below w5.heap.size w5 w6 := below_trans ((Below.refl _ _).alloc (Nat.le_refl _) _) hb6
      have R6 := R5.below b56
      have B6 : Below (w.heap.size + 1) (w.alloc _) w6 := B5.trans (b56.mono (by omega))
      clear R5 B5 hb6 b56
      go_wp2_with fail
      go_loopw [6, 8] (fun hv i wr => ∃ b gh ch : Nat, 64 * b ≤ n + 1 + z + 8 ∧ i = .int .i64 (64 * (b : Int)) ∧ hv = .slice (some ⟨gh, 0, none⟩) 8 ch ∧ RowK .i64 wr (some ⟨gh, 0, none⟩) 8 (hTo (padL l) b) ∧ Below w6.heap.size w6 wr) (fun _ i _ => n + 1 + z + 8 - (intOf i).toNat)
      case atStart => exact ⟨0, _, _, Nat.zero_le _, rfl, rfl, rh, Below.refl _ _⟩
      case round =>
        clear rh
        obtain ⟨b, gh, ch, hb, rfl, rfl, rh, hBr⟩ := hrel
        have R7 := R6.below hBr
        have rk7 := rk.below hBr
        by_cases hlt : 64 * b < n + 1 + z + 8
        · have h64 : 64 * b + 64 ≤ n + 1 + z + 8 := by omega
          have r64 : Row wr (some ⟨g5, 64 * b, none⟩) 64 (((padL l).drop (64 * b)).take 64) := by
            obtain ⟨q1, q2 | ⟨bb, oo, e1, q2⟩⟩ := R7
            · omega
            cases e1
            refine ⟨by have := HE.out; simp; omega, .inr ⟨g5, 64 * b, rfl, fun i hi => ?_⟩⟩
            have := q2 (64 * b + i) (by omega)
            rw [Nat.zero_add] at this
            rw [this]
            unfold nth
            simp [List.getD_eq_getElem?_getD, List.getElem?_take, hi, List.getElem?_drop]
          have HF : Hid (Fit (hTo (padL l) b)) := fit_hTo _ _
          have a1 : (0 : Int) ≤ 64 * (b : Int) := by omega
          have a2 : 64 * (b : Int) + 64 ≤ (n : Int) + 1 + (z : Int) + 8 := by omega
          have a3 : 64 * (b : Int) + 64 ≤ (c5 : Int) := by omega
          go_wp2_with fail
          refine (rblock_any _ _ _ _ _ _ (hTo (padL l) b) _ _ rh rk7 r64 (by omega) HF.out).mono ?_
          rintro e w8 ⟨⟨g8, c8, rfl, hg8, r8⟩, hb8⟩
          have B8 := below_trans hBr hb8
          have r8 : RowK .i64 w8 (some ⟨g8, 0, none⟩) 8 (hTo (padL l) (b + 1)) := r8
          clear rk7 R7 r64 rh hb8 hBr
          go_wp2
          go_roundw
          case rel => exact ⟨b + 1, g8, c8, by omega, by go_num, rfl, r8, B8⟩
          case measure => simp [intOf]; omega
        · have hbN : 64 * b = n + 1 + z + 8 := by omega
          have HB : Hid (b = (padL l).length / 64) := by unfold Hid; rw [HE.out]; omega
          rename World => wH
          have HR : Hid (RowK .i64 wH (some ⟨gh, 0, none⟩) 8 (hTo (padL l) b)) := rh
          clear rk7 R7 hlt
          obtain ⟨lh, q0 | ⟨bb, oo, e1, hcell⟩⟩ := rh
          · omega
          cases e1
          go_wp2_with fail
          go_loopw [10] (fun i wx => ∃ k : Nat, k ≤ 32 ∧ i = .int .i64 (k : Int) ∧ OwnK .u8 23 wx wH.heap.size wH.heap.size 32 32 (fun x => if x < k then nth (outL (hTo (padL l) b)) x else 0) ∧ Below wH.heap.size wH wx) (fun i _ => 32 - (intOf i).toNat)
          case atStart => exact ⟨0, Nat.zero_le _, rfl, (OwnK.zero32 wH 23).congr (fun i hi => by rw [if_neg (by omega)]), (Below.refl _ _).alloc (Nat.le_refl _) _⟩
          case round =>
            obtain ⟨k, hk, rfl, hD, hBx⟩ := hrel
            by_cases hk32 : k < 32
            · have c0 := hD.cell k hk32
              have z0 := hD.frozen k
              have hq := hcell (k / 4) (by omega)
              have ch4 := (hBx.cell (p := ⟨gh, 0 + k / 4, none⟩) (cell_block hq)).trans hq
              rw [Nat.zero_add] at ch4
              have HN : Hid (nth (outL (hTo (padL l) b)) k = ((at' (hTo (padL l) b) (k / 4) >>> (24 - k % 4 * 8) % 256 : Nat) : Int)) := nth_outL _ _ hk32
              have fx := fit_hTo (padL l) b (k / 4)
              have HD : Hid (OwnK .u8 23 wr wH.heap.size wH.heap.size 32 32 (fun x => if x < k then nth (outL (hTo (padL l) b)) x else 0)) := hD
              clear hD hq hcell
              generalize hx : at' (hTo (padL l) b) (k / 4) = x at *
              clear hx
              go_wp2
              go_roundw
              case rel =>
                refine ⟨k + 1, by omega, by go_num, (OwnK.store HD.out k _).congr fun i hi => ?_, hBx.setCell (Nat.le_refl _) _⟩
                by_cases hik : i = k
                · subst hik
                  rw [if_pos rfl, if_pos (by omega), HN.out, Nat.shiftRight_eq_div_pow, Int.natCast_emod, Int.natCast_ediv, Int.natCast_pow]
                  rfl
                · rw [if_neg hik]
                  by_cases hl2 : i < k
                  · rw [if_pos hl2, if_pos (by omega)]
                  · rw [if_neg hl2, if_neg (by omega)]
              case measure => simp [intOf]; omega
            · obtain rfl : k = 32 := by omega
              have HD : Hid (DAt wr wH.heap.size 0 (shaL l)) := by
                have hs : shaL l = outL (hTo (padL l) b) := by unfold shaL; rw [← HB.out]
                rw [hs]
                exact hD.dat (outL_length _) (fun i hi => by rw [if_pos hi])
              clear hD
              have BT := (B6.trans (hBr.mono (by omega))).trans (hBx.mono (by have := hBr.size; omega))
              have hth := there_digest BT
              have HT : Hid (wr.there w.heap.size 0 32) := hth
              have HBT : Hid (Below w.heap.size w wr) := ((Below.refl _ _).alloc (Nat.le_refl _) _).trans (BT.mono (Nat.le_succ _))
              clear hth BT B6 hBr hBx
              go_wp2_with (first
                | (refine wpList_load_mid (by rfl) 23 (.tmp 9) (by rfl) wH.heap.size 0 (by rfl) (cellsB (shaL l)) _ HD.out Tryd.underlying23 (by rfl) (by rw [cellsB_length, shaL_length]; kernel_rfl) ?_)
                | (refine wpList_store_mid (by rfl) 23 (.tmp 2) (.tmp 66) (by rfl) w.heap.size 0 (cellsB (shaL l)).toArray (by rfl) (by rfl) (by rw [cells32 (shaL_length l)]; exact HT.out) (by rw [cells32 (shaL_length l)]; kernel_rfl) (all_oneCell_toArray (cellsB_one _)) ?_))
              refine bodyPost_ret (v := digestV (shaL l)) (run_results_digest Tryd.results24 _ _ w.heap.size 0 (by rfl) (shaL l) (World.rangeAt_setCells_same _ _ _ _ (by rw [cellsB_length, shaL_length]; exact HT.out)) _ Tryd.underlying23 (by rfl) (by rw [shaL_length]; kernel_rfl)) rfl ⟨rfl, ?_⟩
              exact below_setCells _ (Nat.le_refl _) _ _ _ HBT.out
    · have hzlt : z < (119 - n % 64) % 64 := by omega
      have HO : Hid (OwnL wr (w.heap.size + 1) u3 (l ++ [128] ++ List.replicate z 0)) := hO
      obtain ⟨a3, c3, rfl, R3, hc3⟩ := hO.form
      rw [el] at HO R3
      rw [el]
      clear R3 hc3
      go_wp2_with (at_builtin; refine wpList_append_bytes rfl (.tmp 20) (.tmp 21) 49 rfl (w.heap.size + 1) i0 Tryd.underlying49 hi hz0 hz1 hz2 (.slice a3 (n + 1 + z) c3) (l ++ [128] ++ List.replicate z 0) rfl (World.ownsRow.alloc HO.out _) _ 1 1 [0] rfl (Row.lit1 wr 0 5) (by rw [el]; omega) (by simp; omega) ?_; intro v4 w4 ho4 hg4)
      have B4 := OwnL.grown (World.ownsRow.alloc HO.out _) (hB.alloc hsz' _) hg4 (Nat.le_refl _) (by simp; omega)
      have ho4 : OwnL w4 (w.heap.size + 1) v4 (l ++ [128] ++ List.replicate (z + 1) 0) := by
        rw [List.replicate_succ', ← List.append_assoc]; exact ho4
      have hv4 : lenV v4 = n + 2 + z := by
        obtain ⟨a5, c5, rfl, _⟩ := ho4.form
        simp [lenV, hln]
        omega
      have HV4 : Hid (lenV v4 = n + 2 + z) := hv4
      clear hv4
      go_wp2
      go_roundw
      case rel => exact ⟨z + 1, by omega, ho4, B4⟩
      case measure => rw [HV4.out]; simp [lenV]; omega
end Go.Proofs.YtigdgmoiljifjaaDoor
