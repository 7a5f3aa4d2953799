/- Texts of this claim, joined: Rsum, Rmac, Rof, Ronce. -/
import Derived.Test.YtdgaimlccpmojaaGreatDoorJ17
import Derived.Test.YtdgaimlccpmojaaGreatDoorJ02
import Derived.Test.YtdgaimlccpmojaaGreatDoorJ06
import Derived.Deep.DeepCutAuto
import Derived.Test.YtdgaimlccpmojaaGreatDoorJ04
import Derived.Test.YtdgaimlccpmojaaGreatDoorJ16
import Derived.Test.YtdgaimlccpmojaaGreatDoorJ05
/- The contract of oathbookref1.Sum: the digest of bytes. -/
namespace Go.Proofs.YtdgaimlccpmojaaGreatDoor
open Go.RowKit
set_option linter.unusedVariables false
set_option linter.unusedSimpArgs false
theorem Tryz.infoU8 : (Tryz.prog.info? 5).map (fun i => (i.zero, i.size, i.bytes)) = some (some (.int .u8 0), 1, 1) := by kernel_rfl

/-- How long a slice is. -/
def lenV : Value → Nat
  | .slice _ n _ => n
  | _ => 0
theorem pad_zeros (n z : Nat) : (n + 1 + z) % 64 = 56 → z < 64 → z = (119 - n % 64) % 64 := by omega

set_option maxRecDepth 100000 in
set_option maxHeartbeats 1000000 in
theorem rsum_any (a : Option Addr) (n c : Nat) (l : List UInt8) (w : World) (R : Row w a n l) (hn : n ≤ 140737488354000) :
    Calls Tryz.prog 20 #[.slice a n c] w fun e w' => e = .returned (digestV (shaL l)) ∧ Below w.heap.size w w' := by
  obtain ⟨i0, hi, hz0, hz1, hz2⟩ := info_parts Tryz.infoU8
  have hln := R.1
  go_enter Tryz.func20, Tryz.ntmps20
  go_wp2_with (first
    | (at_builtin; refine wpList_append_bytes rfl (.tmp 11) (.tmp 12) 63 rfl (w.heap.size + 1) i0 Tryz.underlying63 hi hz0 hz1 hz2 (.slice (some ⟨w.heap.size + 1, 0, none⟩) 0 0) [] rfl (OwnL.lit0' _ _ (w.heap.size + 1) (by simp) (Nat.le_refl _)) a n c l rfl (R.below (((Below.refl _ _).alloc (Nat.le_refl _) _).alloc (by simp) _)) (by simp; omega) (by simp) ?_; intro v1 w1 ho1 hg1)
    | (at_builtin; refine wpList_append_bytes rfl (.tmp 13) (.tmp 14) 63 rfl (w.heap.size + 1) i0 Tryz.underlying63 hi hz0 hz1 hz2 _ ([] ++ l) rfl (World.ownsRow.alloc ho1 _) _ 1 1 [128] rfl (Row.lit1 w1 128 5) (by simp; omega) (by have := hg1.size; simp at this; simp; omega) ?_; intro v2 w2 ho2 hg2))
  have B1 : Below (w.heap.size + 1) (w.alloc _) w1 := ((Below.refl (w.heap.size + 1) (w.alloc _)).alloc (by simp) _).grown hg1 (by simp) (fun k hk => by cases hk; exact Nat.le_refl _)
  have B2 := OwnL.grown (World.ownsRow.alloc ho1 _) (B1.alloc (by have := B1.size; simpa using this) _) hg2 (Nat.le_refl _) (by have := B1.size; simp at this; simp; omega)
  rw [List.nil_append] at ho2
  clear ho1 hg1 hg2 B1
  go_loopw [3] (fun v wr => ∃ z : Nat, z ≤ (119 - n % 64) % 64 ∧ OwnL wr (w.heap.size + 1) v (l ++ [128] ++ List.replicate z 0) ∧ Below (w.heap.size + 1) (w.alloc _) wr) (fun v _ => n + 100 - lenV v)
  case atStart => exact ⟨0, Nat.zero_le _, by simpa using ho2, B2⟩
  case round =>
    clear ho2 B2
    obtain ⟨z, hz, hO, hB⟩ := hrel
    have el : (l ++ [128] ++ List.replicate z 0).length = n + 1 + z := by simp [hln]; omega
    have hsz := hB.size
    have hsz' : w.heap.size + 1 ≤ wr.heap.size := by simpa using hsz
    by_cases h56 : (n + 1 + z) % 64 = 56
    · have hzz := pad_zeros n z h56 (by omega)
      have HO : Hid (OwnL wr (w.heap.size + 1) u3 (l ++ [128] ++ List.replicate z 0)) := hO
      have HZ : Hid (l ++ [128] ++ List.replicate z 0 ++ putL ((8 * n : Nat) : Int) 8 = padL l) := by
        unfold Hid padL
        rw [hln, ← hzz, Int.natCast_mul]
        rfl
      obtain ⟨g3, c3, rfl, R3, hc3, hg3, hg3'⟩ := hO.formSome (by omega)
      rw [el] at HO R3 hc3
      rw [el]
      clear hO R3 hc3 hzz
      go_wp2_with fail
      refine (rput8 (8 * n) _ _ (by omega) (by omega)).mono ?_
      rintro e w4 ⟨⟨g4, rfl, hg4, r4⟩, hb4⟩
      have ho4 := OwnL.below HO.out hb4
      have B4 : Below (w.heap.size + 1) (w.alloc _) w4 := hB.trans (hb4.mono hsz')
      have hs4 := hb4.size
      clear HO hB hb4
      go_wp2_with (at_builtin; refine wpList_append_bytes rfl (.tmp 30) (.tmp 31) 63 rfl (w.heap.size + 1) i0 Tryz.underlying63 hi hz0 hz1 hz2 (.slice (some ⟨g3, 0, none⟩) (n + 1 + z) c3) (l ++ [128] ++ List.replicate z 0) rfl ho4 (some ⟨g4, 0, none⟩) 8 8 (putL ((8 * n : Nat) : Int) 8) rfl r4 (by rw [el]; omega) (by omega) ?_; intro v5 w5 ho5 hg5)
      have B5 := OwnL.grown ho4 B4 hg5 (Nat.le_refl _) (by omega)
      rw [HZ.out] at ho5
      have eN : (padL l).length = n + 1 + z + 8 := by rw [← HZ.out, List.length_append, el, putL_length]
      obtain ⟨g5, c5, rfl, R5, hc5, hg5', hg5''⟩ := ho5.formSome (by omega)
      rw [eN] at R5 hc5
      rw [eN]
      have HE : Hid ((padL l).length = n + 1 + z + 8) := eN
      clear ho4 hg5 r4 B4 HZ ho5 eN el
      go_wp2_with fail
      refine (rrounds_any _).mono ?_
      rintro e w6 ⟨rfl, rk, hb6⟩
      have hs5 : w5.heap.size < w6.heap.size := by have := hb6.size; simp at this; omega
      have rk : RowK .i64 w6 (some ⟨w5.heap.size + 1, 0, none⟩) 64 kW := by simpa using rk
      have rh := (RowK.lit .i64 w5 hW #[.int .i64 1779033703, .int .i64 3144134277, .int .i64 1013904242, .int .i64 2773480762, .int .i64 1359893119, .int .i64 2600822924, .int .i64 528734635, .int .i64 1541459225] 3 (by kernel_rfl)).below hb6
      have b56 : Below w5.heap.size w5 w6 := below_trans ((Below.refl _ _).alloc (Nat.le_refl _) _) hb6
      have R6 := R5.below b56
      have B6 : Below (w.heap.size + 1) (w.alloc _) w6 := B5.trans (b56.mono (by omega))
      clear R5 B5 hb6 b56
      go_wp2_with fail
      go_loopw [6, 8] (fun hv i wr => ∃ b gh ch : Nat, 64 * b ≤ n + 1 + z + 8 ∧ i = .int .i64 (64 * (b : Int)) ∧ hv = .slice (some ⟨gh, 0, none⟩) 8 ch ∧ RowK .i64 wr (some ⟨gh, 0, none⟩) 8 (hTo (padL l) b) ∧ Below w6.heap.size w6 wr) (fun _ i _ => n + 1 + z + 8 - (intOf i).toNat)
      case atStart => exact ⟨0, _, _, Nat.zero_le _, rfl, rfl, rh, Below.refl _ _⟩
      case round =>
        clear rh
        obtain ⟨b, gh, ch, hb, rfl, rfl, rh, hBr⟩ := hrel
        have R7 := R6.below hBr
        have rk7 := rk.below hBr
        by_cases hlt : 64 * b < n + 1 + z + 8
        · have h64 : 64 * b + 64 ≤ n + 1 + z + 8 := by omega
          have r64 : Row wr (some ⟨g5, 64 * b, none⟩) 64 (((padL l).drop (64 * b)).take 64) := by
            obtain ⟨q1, q2 | ⟨bb, oo, e1, q2⟩⟩ := R7
            · omega
            cases e1
            refine ⟨by have := HE.out; simp; omega, .inr ⟨g5, 64 * b, rfl, fun i hi => ?_⟩⟩
            have := q2 (64 * b + i) (by omega)
            rw [Nat.zero_add] at this
            rw [this]
            unfold nth
            simp [List.getD_eq_getElem?_getD, List.getElem?_take, hi, List.getElem?_drop]
          have HF : Hid (Fit (hTo (padL l) b)) := fit_hTo _ _
          have a1 : (0 : Int) ≤ 64 * (b : Int) := by omega
          have a2 : 64 * (b : Int) + 64 ≤ (n : Int) + 1 + (z : Int) + 8 := by omega
          have a3 : 64 * (b : Int) + 64 ≤ (c5 : Int) := by omega
          go_wp2_with fail
          refine (rblock_any _ _ _ _ _ _ (hTo (padL l) b) _ _ rh rk7 r64 (by omega) HF.out).mono ?_
          rintro e w8 ⟨⟨g8, c8, rfl, hg8, r8⟩, hb8⟩
          have B8 := below_trans hBr hb8
          have r8 : RowK .i64 w8 (some ⟨g8, 0, none⟩) 8 (hTo (padL l) (b + 1)) := r8
          clear rk7 R7 r64 rh hb8 hBr
          go_wp2
          go_roundw
          case rel => exact ⟨b + 1, g8, c8, by omega, by go_num, rfl, r8, B8⟩
          case measure => simp [intOf]; omega
        · have hbN : 64 * b = n + 1 + z + 8 := by omega
          have HB : Hid (b = (padL l).length / 64) := by unfold Hid; rw [HE.out]; omega
          rename World => wH
          have HR : Hid (RowK .i64 wH (some ⟨gh, 0, none⟩) 8 (hTo (padL l) b)) := rh
          clear rk7 R7 hlt
          obtain ⟨lh, q0 | ⟨bb, oo, e1, hcell⟩⟩ := rh
          · omega
          cases e1
          go_wp2_with fail
          go_loopw [10] (fun i wx => ∃ k : Nat, k ≤ 32 ∧ i = .int .i64 (k : Int) ∧ OwnK .u8 23 wx wH.heap.size wH.heap.size 32 32 (fun x => if x < k then nth (outL (hTo (padL l) b)) x else 0) ∧ Below wH.heap.size wH wx) (fun i _ => 32 - (intOf i).toNat)
          case atStart => exact ⟨0, Nat.zero_le _, rfl, (OwnK.zero32 wH 23).congr (fun i hi => by rw [if_neg (by omega)]), (Below.refl _ _).alloc (Nat.le_refl _) _⟩
          case round =>
            obtain ⟨k, hk, rfl, hD, hBx⟩ := hrel
            by_cases hk32 : k < 32
            · have c0 := hD.cell k hk32
              have z0 := hD.frozen k
              have hq := hcell (k / 4) (by omega)
              have ch4 := (hBx.cell (p := ⟨gh, 0 + k / 4, none⟩) (cell_block hq)).trans hq
              rw [Nat.zero_add] at ch4
              have HN : Hid (nth (outL (hTo (padL l) b)) k = ((at' (hTo (padL l) b) (k / 4) >>> (24 - k % 4 * 8) % 256 : Nat) : Int)) := nth_outL _ _ hk32
              have fx := fit_hTo (padL l) b (k / 4)
              have HD : Hid (OwnK .u8 23 wr wH.heap.size wH.heap.size 32 32 (fun x => if x < k then nth (outL (hTo (padL l) b)) x else 0)) := hD
              clear hD hq hcell
              generalize hx : at' (hTo (padL l) b) (k / 4) = x at *
              clear hx
              go_wp2
              go_roundw
              case rel =>
                refine ⟨k + 1, by omega, by go_num, (OwnK.store HD.out k _).congr fun i hi => ?_, hBx.setCell (Nat.le_refl _) _⟩
                by_cases hik : i = k
                · subst hik
                  rw [if_pos rfl, if_pos (by omega), HN.out, Nat.shiftRight_eq_div_pow, Int.natCast_emod, Int.natCast_ediv, Int.natCast_pow]
                  rfl
                · rw [if_neg hik]
                  by_cases hl2 : i < k
                  · rw [if_pos hl2, if_pos (by omega)]
                  · rw [if_neg hl2, if_neg (by omega)]
              case measure => simp [intOf]; omega
            · obtain rfl : k = 32 := by omega
              have HD : Hid (DAt wr wH.heap.size 0 (shaL l)) := by
                have hs : shaL l = outL (hTo (padL l) b) := by unfold shaL; rw [← HB.out]
                rw [hs]
                exact hD.dat (outL_length _) (fun i hi => by rw [if_pos hi])
              clear hD
              have BT := (B6.trans (hBr.mono (by omega))).trans (hBx.mono (by have := hBr.size; omega))
              have hth := there_digest BT
              have HT : Hid (wr.there w.heap.size 0 32) := hth
              have HBT : Hid (Below w.heap.size w wr) := ((Below.refl _ _).alloc (Nat.le_refl _) _).trans (BT.mono (Nat.le_succ _))
              clear hth BT B6 hBr hBx
              go_wp2_with (first
                | (refine wpList_load_mid (by rfl) 23 (.tmp 9) (by rfl) wH.heap.size 0 (by rfl) (cellsB (shaL l)) _ HD.out Tryz.underlying23 (by rfl) (by rw [cellsB_length, shaL_length]; kernel_rfl) ?_)
                | (refine wpList_store_mid (by rfl) 23 (.tmp 2) (.tmp 66) (by rfl) w.heap.size 0 (cellsB (shaL l)).toArray (by rfl) (by rfl) (by rw [cells32 (shaL_length l)]; exact HT.out) (by rw [cells32 (shaL_length l)]; kernel_rfl) (all_oneCell_toArray (cellsB_one _)) ?_))
              refine bodyPost_ret (v := digestV (shaL l)) (run_results_digest Tryz.results20 _ _ w.heap.size 0 (by rfl) (shaL l) (World.rangeAt_setCells_same _ _ _ _ (by rw [cellsB_length, shaL_length]; exact HT.out)) _ Tryz.underlying23 (by rfl) (by rw [shaL_length]; kernel_rfl)) rfl ⟨rfl, ?_⟩
              exact below_setCells _ (Nat.le_refl _) _ _ _ HBT.out
    · have hzlt : z < (119 - n % 64) % 64 := by omega
      have HO : Hid (OwnL wr (w.heap.size + 1) u3 (l ++ [128] ++ List.replicate z 0)) := hO
      obtain ⟨a3, c3, rfl, R3, hc3⟩ := hO.form
      rw [el] at HO R3
      rw [el]
      clear R3 hc3
      go_wp2_with (at_builtin; refine wpList_append_bytes rfl (.tmp 20) (.tmp 21) 63 rfl (w.heap.size + 1) i0 Tryz.underlying63 hi hz0 hz1 hz2 (.slice a3 (n + 1 + z) c3) (l ++ [128] ++ List.replicate z 0) rfl (World.ownsRow.alloc HO.out _) _ 1 1 [0] rfl (Row.lit1 wr 0 5) (by rw [el]; omega) (by simp; omega) ?_; intro v4 w4 ho4 hg4)
      have B4 := OwnL.grown (World.ownsRow.alloc HO.out _) (hB.alloc hsz' _) hg4 (Nat.le_refl _) (by simp; omega)
      have ho4 : OwnL w4 (w.heap.size + 1) v4 (l ++ [128] ++ List.replicate (z + 1) 0) := by
        rw [List.replicate_succ', ← List.append_assoc]; exact ho4
      have hv4 : lenV v4 = n + 2 + z := by
        obtain ⟨a5, c5, rfl, _⟩ := ho4.form
        simp [lenV, hln]
        omega
      have HV4 : Hid (lenV v4 = n + 2 + z) := hv4
      clear hv4
      go_wp2
      go_roundw
      case rel => exact ⟨z + 1, by omega, ho4, B4⟩
      case measure => rw [HV4.out]; simp [lenV]; omega
end Go.Proofs.YtdgaimlccpmojaaGreatDoor
/- The contract of oathbookref1.Mac. -/
namespace Go.Proofs.YtdgaimlccpmojaaGreatDoor
open Go.RowKit
set_option linter.unusedVariables false
set_option linter.unusedSimpArgs false

set_option maxRecDepth 100000 in
set_option maxHeartbeats 1000000 in
theorem rmac_any (a1 a2 : Option Addr) (n1 n2 c1 c2 : Nat) (key b : List UInt8) (w : World) (R1 : Row w a1 n1 key) (R2 : Row w a2 n2 b) (h1 : n1 ≤ 140737488353000) (h2 : n2 ≤ 140737488353000) :
    Calls Tryz.prog 29 #[.slice a1 n1 c1, .slice a2 n2 c2] w fun e w' => e = .returned (digestV (macL key b)) ∧ Below w.heap.size w w' := by
  obtain ⟨i0, hi, hz0, hz1, hz2⟩ := info_parts Tryz.infoU8
  have HK1 : Hid (key.length = n1) := R1.1
  go_enter Tryz.func29, Tryz.ntmps29
  go_upto_if 13 with fail
  go_cut [0, 5] (fun kv dv wq => ∃ (ak : Option Addr) (nk ck : Nat), kv = .slice ak nk ck ∧ nk ≤ 64 ∧ Row wq ak nk (keyL key) ∧ Row wq a2 n2 b ∧ Below (w.heap.size + 1) (w.alloc (.cells zeros32 23)) wq)
  case first =>
    by_cases h64 : 64 < n1
    · have HKL : Hid (keyL key = shaL key) := by unfold Hid keyL; rw [if_pos (by rw [HK1.out]; exact h64)]
      go_wp2_with fail
      refine (rsum_any _ _ _ _ _ (R1.below ((Below.refl _ _).alloc (Nat.le_refl _) _)) (by omega)).mono ?_
      rintro e w1 ⟨rfl, hb1⟩
      go_wp2_with (refine wpList_store_mid (by rfl) 23 (.tmp 5) (.tmp 15) (by rfl) w1.heap.size 0 (cellsB (shaL key)).toArray (by rfl) (by rfl) (by rw [cells32 (shaL_length _)]; exact there_new w1 _) (by rw [cells32 (shaL_length _)]; kernel_rfl) (all_oneCell_toArray (cellsB_one _)) ?_)
      go_meet
      case rel =>
        have hs1 : w.heap.size + 1 ≤ w1.heap.size := by have := hb1.size; simpa using this
        have hb2 := new_stored w1 (.cells zeros32 23) (cellsB (shaL key))
        have hb1' : Below (w.heap.size + 1) (w.alloc (.cells zeros32 23)) w1 := hb1.mono (by simp)
        refine ⟨_, 32, 32, rfl, by omega, ?_, ?_, hb1'.trans (hb2.mono hs1)⟩
        · rw [HKL.out]
          exact (dat_stored (there_new w1 23) (shaL_length key)).row (shaL_length key)
        · exact R2.below (((Below.refl _ _).alloc (Nat.le_refl _) _).trans ((hb1'.trans (hb2.mono hs1)).mono (Nat.le_succ _)))
    · have HKL : Hid (keyL key = key) := by unfold Hid keyL; rw [if_neg (by rw [HK1.out]; exact h64)]
      go_wp2_with fail
      go_meet
      case rel => exact ⟨_, _, _, rfl, by omega, by rw [HKL.out]; exact R1.below ((Below.refl _ _).alloc (Nat.le_refl _) _), R2.below ((Below.refl _ _).alloc (Nat.le_refl _) _), Below.refl _ _⟩
  case rest =>
    obtain ⟨ak, nk, ck, rfl, hnk, Rk, R2q, BQ⟩ := hcut
    have HKK : Hid ((keyL key).length = nk) := Rk.1
    have hsq : w.heap.size + 1 ≤ wc.heap.size := by have := BQ.size; simpa using this
    have HG : Hid (macL key b = shaL (padX (keyL key) 92 64 ++ shaL (padX (keyL key) 54 64 ++ b))) := rfl
    generalize keyL key = kk at *
    clear R1 R2 h1
    go_wp2_with fail
    go_loopw [6, 7, 8] (fun ov iv i wr => ∃ k : Nat, k ≤ 64 ∧ i = .int .i64 (k : Int) ∧ OwnL wr wc.heap.size ov (padX kk 92 k) ∧ OwnL wr wc.heap.size iv (padX kk 54 k) ∧ Sep ov iv ∧ Below wc.heap.size wc wr) (fun _ _ i _ => 64 - (intOf i).toNat)
    case atStart => exact ⟨0, Nat.zero_le _, rfl, OwnL.nil _ _, OwnL.nil _ _, .inl rfl, Below.refl _ _⟩
    case round =>
      obtain ⟨k, hk, rfl, hO, hI, hS, hB⟩ := hrel
      by_cases hlt : k < 64
      · have E1 : bits .xor .u8 (nth kk k) 92 = (((xorB kk k 92).toNat : Nat) : Int) := xor_byte kk k 92
        have E2 : bits .xor .u8 (nth kk k) 54 = (((xorB kk k 54).toNat : Nat) : Int) := xor_byte kk k 54
        have HO : Hid (OwnL wr wc.heap.size u6 (padX kk 92 k)) := hO
        have HI : Hid (OwnL wr wc.heap.size u7 (padX kk 54 k)) := hI
        have HP : Hid (∀ x, (padX kk x k).length = k) := fun x => padX_length kk x k
        clear hO hI
        by_cases hkn : k < nk
        · obtain ⟨_, h0 | ⟨bk, ok, rfl, hkc⟩⟩ := Rk
          · omega
          have hcell := (hB.cell (p := ⟨bk, ok + k, none⟩) (cell_block (hkc k hkn))).trans (hkc k hkn)
          have hk0 : (0 : Int) ≤ (k : Int) := by omega
          have hk1 : (k : Int) < (nk : Int) := by omega
          clear hkc
          go_wp2_with (first
            | (at_builtin; refine wpList_append_bytes_at rfl (.tmp 29) (.tmp 32) 63 rfl wc.heap.size i0 Tryz.underlying63 hi hz0 hz1 hz2 u6 (padX kk 92 k) rfl (World.ownsRow.alloc HO.out _) _ 1 1 [xorB kk k 92] rfl (Row.lit1 wr (xorB kk k 92) 5) (by rw [HP.out]; omega) (by have := hB.size; simp; omega) ?_; intro v6 w6 ho6 hg6 ha6)
            | (at_builtin; refine wpList_append_bytes_at rfl (.tmp 34) (.tmp 37) 63 rfl wc.heap.size i0 Tryz.underlying63 hi hz0 hz1 hz2 u7 (padX kk 54 k) rfl (World.ownsRow.alloc (OwnL.other (World.ownsRow.alloc HI.out _) hg6 hS) _) _ 1 1 [xorB kk k 54] rfl (Row.lit1 w6 (xorB kk k 54) 5) (by rw [HP.out]; omega) (by have := hB.size; have := hg6.size; simp at this; simp; omega) ?_; intro v7 w7 ho7 hg7 ha7))
          have s6 : Sep v6 u7 := Sep.next hS ha6 (World.ownsRow.alloc HI.out _)
          have B6 := OwnL.grown (World.ownsRow.alloc HO.out _) (hB.alloc hB.size _) hg6 (Nat.le_refl _) (by have := hB.size; simp; omega)
          have o6 : OwnL w6 wc.heap.size u7 (padX kk 54 k) := OwnL.other (World.ownsRow.alloc HI.out _) hg6 hS
          have B7 := OwnL.grown (World.ownsRow.alloc o6 _) (B6.alloc B6.size _) hg7 (Nat.le_refl _) (by have := B6.size; simp; omega)
          have q6 : OwnL w7 wc.heap.size v6 (padX kk 92 (k + 1)) := by rw [← padX_succ]; exact OwnL.other (World.ownsRow.alloc ho6 _) hg7 s6.symm
          have q7 : OwnL w7 wc.heap.size v7 (padX kk 54 (k + 1)) := by rw [← padX_succ]; exact ho7
          have s7 : Sep v6 v7 := (Sep.next s6.symm ha7 (World.ownsRow.alloc ho6 _)).symm
          clear ho6 hg6 ha6 ho7 hg7 ha7 s6 B6 o6 HO HI hS hB
          go_wp2
          go_roundw
          case rel => exact ⟨k + 1, by omega, by go_num, q6, q7, s7, B7⟩
          case measure => simp [intOf]; omega
        · have hn0 := nth_out kk k (by have := HKK.out; omega)
          rw [hn0] at E1 E2
          clear hn0
          go_wp2_with (first
            | (at_builtin; refine wpList_append_bytes_at rfl (.tmp 29) (.tmp 32) 63 rfl wc.heap.size i0 Tryz.underlying63 hi hz0 hz1 hz2 u6 (padX kk 92 k) rfl (World.ownsRow.alloc HO.out _) _ 1 1 [xorB kk k 92] rfl (Row.lit1 wr (xorB kk k 92) 5) (by rw [HP.out]; omega) (by have := hB.size; simp; omega) ?_; intro v6 w6 ho6 hg6 ha6)
            | (at_builtin; refine wpList_append_bytes_at rfl (.tmp 34) (.tmp 37) 63 rfl wc.heap.size i0 Tryz.underlying63 hi hz0 hz1 hz2 u7 (padX kk 54 k) rfl (World.ownsRow.alloc (OwnL.other (World.ownsRow.alloc HI.out _) hg6 hS) _) _ 1 1 [xorB kk k 54] rfl (Row.lit1 w6 (xorB kk k 54) 5) (by rw [HP.out]; omega) (by have := hB.size; have := hg6.size; simp at this; simp; omega) ?_; intro v7 w7 ho7 hg7 ha7))
          have s6 : Sep v6 u7 := Sep.next hS ha6 (World.ownsRow.alloc HI.out _)
          have B6 := OwnL.grown (World.ownsRow.alloc HO.out _) (hB.alloc hB.size _) hg6 (Nat.le_refl _) (by have := hB.size; simp; omega)
          have o6 : OwnL w6 wc.heap.size u7 (padX kk 54 k) := OwnL.other (World.ownsRow.alloc HI.out _) hg6 hS
          have B7 := OwnL.grown (World.ownsRow.alloc o6 _) (B6.alloc B6.size _) hg7 (Nat.le_refl _) (by have := B6.size; simp; omega)
          have q6 : OwnL w7 wc.heap.size v6 (padX kk 92 (k + 1)) := by rw [← padX_succ]; exact OwnL.other (World.ownsRow.alloc ho6 _) hg7 s6.symm
          have q7 : OwnL w7 wc.heap.size v7 (padX kk 54 (k + 1)) := by rw [← padX_succ]; exact ho7
          have s7 : Sep v6 v7 := (Sep.next s6.symm ha7 (World.ownsRow.alloc ho6 _)).symm
          clear ho6 hg6 ha6 ho7 hg7 ha7 s6 B6 o6 HO HI hS hB
          go_wp2
          go_roundw
          case rel => exact ⟨k + 1, by omega, by go_num, q6, q7, s7, B7⟩
          case measure => simp [intOf]; omega
      · obtain rfl : k = 64 := by omega
        have R2w := R2q.below hB
        have HO : Hid (OwnL wr wc.heap.size u6 (padX kk 92 64)) := hO
        have HI : Hid (OwnL wr wc.heap.size u7 (padX kk 54 64)) := hI
        have HP : Hid (∀ x, (padX kk x 64).length = 64) := fun x => padX_length kk x 64
        have hlb := R2q.1
        have hsw := hB.size
        have HE6 : Hid ((padX kk 54 64 ++ b).length = 64 + n2) := by unfold Hid; rw [List.length_append, HP.out, hlb]
        clear hO hI hlb
        go_wp2_with (at_builtin; refine wpList_append_bytes_at rfl (.tmp 39) (.tmp 40) 63 rfl wc.heap.size i0 Tryz.underlying63 hi hz0 hz1 hz2 u7 (padX kk 54 64) rfl HI.out a2 n2 c2 b rfl R2w (by rw [HP.out]; omega) hsw ?_; intro v6 w6 ho6 hg6 ha6; obtain ⟨g6, c6, rfl, r6, _⟩ := OwnL.formSome ho6 (by rw [List.length_append, HP.out]; omega); rw [HE6.out] at r6; rw [HE6.out])
        have q6 : OwnL w6 wc.heap.size u6 (padX kk 92 64) := OwnL.other HO.out hg6 hS.symm
        have B6 := OwnL.grown HI.out hB hg6 (Nat.le_refl _) hsw
        clear ho6 hg6 ha6 HO HI hS hB
        refine (rsum_any _ _ _ _ _ r6 (by omega)).mono ?_
        rintro e w7 ⟨rfl, hb7⟩
        have q7 := OwnL.below q6 hb7
        have B7 := below_trans B6 hb7
        have HD : Hid ((shaL (padX kk 54 64 ++ b)).length = 32) := shaL_length _
        generalize shaL (padX kk 54 64 ++ b) = d at *
        have hs7 := B7.size
        have HE8 : Hid ((padX kk 92 64 ++ d).length = 96) := by unfold Hid; rw [List.length_append, HP.out, HD.out]
        clear q6 B6 r6 hb7
        go_wp2_with (first
          | (refine wpList_store_mid (by rfl) 23 (.tmp 10) (.tmp 42) (by rfl) w7.heap.size 0 (cellsB d).toArray (by rfl) (by rfl) (by rw [cells32 HD.out]; exact there_new w7 _) (by rw [cells32 HD.out]; kernel_rfl) (all_oneCell_toArray (cellsB_one _)) ?_)
          | (at_builtin; refine wpList_append_bytes_at rfl (.tmp 43) (.tmp 44) 63 rfl wc.heap.size i0 Tryz.underlying63 hi hz0 hz1 hz2 u6 (padX kk 92 64) rfl (OwnL.below q7 (new_stored _ _ _)) (some ⟨w7.heap.size, 0, none⟩) 32 32 d rfl ((dat_stored (there_new w7 _) HD.out).row HD.out) (by rw [HP.out]; omega) (Nat.le_trans hs7 (new_stored _ _ _).size) ?_; intro v8 w8 ho8 hg8 ha8; obtain ⟨g8, c8, rfl, r8, _⟩ := OwnL.formSome ho8 (by rw [List.length_append, HP.out]; omega); rw [HE8.out] at r8; rw [HE8.out]))
        have B8 := OwnL.grown (OwnL.below q7 (new_stored _ _ _)) (B7.trans ((new_stored w7 _ _).mono hs7)) hg8 (Nat.le_refl _) (Nat.le_trans hs7 (new_stored _ _ _).size)
        clear ho8 hg8 ha8 q7 B7
        refine (rsum_any _ _ _ _ _ r8 (by omega)).mono ?_
        rintro e w9 ⟨rfl, hb9⟩
        have B9 := below_trans B8 hb9
        rw [← HG.out]
        have BT := BQ.trans (B9.mono hsq)
        clear B8 hb9 B9 r8
        go_wp2_with (refine wpList_store_mid (by rfl) 23 (.tmp 4) (.tmp 46) (by rfl) w.heap.size 0 (cellsB (macL key b)).toArray (by rfl) (by rfl) (by rw [cells32 (macL_length _ _)]; exact there_digest BT) (by rw [cells32 (macL_length _ _)]; kernel_rfl) (all_oneCell_toArray (cellsB_one _)) ?_)
        refine bodyPost_ret (v := digestV (macL key b)) (run_results_digest Tryz.results29 _ _ w.heap.size 0 (by rfl) (macL key b) (dat_stored (there_digest BT) (macL_length _ _)) _ Tryz.underlying23 (by rfl) (by rw [macL_length]; kernel_rfl)) rfl ⟨rfl, ?_⟩
        exact below_setCells _ (Nat.le_refl _) _ _ _ (((Below.refl _ _).alloc (Nat.le_refl _) _).trans (BT.mono (Nat.le_succ _)))
end Go.Proofs.YtdgaimlccpmojaaGreatDoor
/- The contract of oathbookref1.Of: the digest of a byte and digests. -/
namespace Go.Proofs.YtdgaimlccpmojaaGreatDoor
open Go.RowKit
set_option linter.unusedVariables false
set_option linter.unusedSimpArgs false
theorem OwnL.lit1 (w : World) (B : Nat) (x : UInt8) (hB : B ≤ w.heap.size) : OwnL (w.alloc (.cells #[.int .u8 (x.toNat : Int)] 5)) B (.slice (some ⟨w.heap.size, 0, none⟩) 1 1) [x] :=
  World.ownsRow_lit w #[.int .u8 (x.toNat : Int)] 1 hB (by unfold maxLen; omega) rfl
theorem OwnL.lit1' (w : World) (B s : Nat) (x : UInt8) (hs : w.heap.size = s) (hB : B ≤ s) : OwnL (w.alloc (.cells #[.int .u8 (x.toNat : Int)] 5)) B (.slice (some ⟨s, 0, none⟩) 1 1) [x] := by
  subst hs
  exact OwnL.lit1 w B x hB
theorem take_flatten (ls : List (List UInt8)) (k : Nat) (h : k < ls.length) : (ls.take k).flatten ++ ls.getD k [] = (ls.take (k + 1)).flatten := by
  rw [List.take_succ_eq_append_getElem h, List.flatten_append]
  simp [List.getD_eq_getElem?_getD, List.getElem?_eq_getElem h]
theorem flatten_length {ls : List (List UInt8)} (h : ∀ l ∈ ls, l.length = 32) : ls.flatten.length = 32 * ls.length := by
  induction ls with
  | nil => rfl
  | cons a r ih =>
    rw [List.flatten_cons, List.length_append, h a (List.mem_cons_self ..), ih (fun l hl => h l (List.mem_cons_of_mem _ hl)), List.length_cons]
    omega
theorem take_len {ls : List (List UInt8)} (h : ∀ l ∈ ls, l.length = 32) (k : Nat) (hk : k ≤ ls.length) : (ls.take k).flatten.length = 32 * k := by
  rw [flatten_length (fun l hl => h l (List.mem_of_mem_take hl)), List.length_take, Nat.min_eq_left hk]

set_option maxRecDepth 100000 in
set_option maxHeartbeats 1000000 in
theorem rof_any (x : UInt8) (a : Option Addr) (n c : Nat) (ls : List (List UInt8)) (w : World) (R : DRow w a n ls) (hn : 32 * n ≤ 140737488351232) :
    Calls Tryz.prog 34 #[.int .u8 (x.toNat : Int), .slice a n c] w fun e w' => e = .returned (digestV (shaL (x :: ls.flatten))) ∧ Below w.heap.size w w' := by
  obtain ⟨i0, hi, hz0, hz1, hz2⟩ := info_parts Tryz.infoU8
  have HLS : Hid (ls.length = n ∧ ∀ l ∈ ls, l.length = 32) := ⟨R.1, R.2.1⟩
  have HLD : Hid (∀ i, i < n → (ls.getD i []).length = 32) := R.len
  have HD : Hid (n = 0 ∨ ∃ b o, a = some ⟨b, o, none⟩ ∧ ∀ i, i < n → DAt w b (o + 32 * i) (ls.getD i [])) := R.2.2
  clear R
  go_enter Tryz.func34, Tryz.ntmps34
  go_wp2
  go_loopw [5, 6] (fun v i wr => ∃ k : Nat, k ≤ n ∧ i = .int .i64 (k : Int) ∧ OwnL wr (w.heap.size + 1) v (x :: (ls.take k).flatten) ∧ Below (w.heap.size + 1) (w.alloc _) wr) (fun _ i _ => n - (intOf i).toNat)
  case atStart => exact ⟨0, Nat.zero_le _, rfl, OwnL.lit1' _ _ _ x (by simp) (Nat.le_refl _), (Below.refl _ _).alloc (by simp) _⟩
  case round =>
    obtain ⟨k, hk, rfl, hO, hB⟩ := hrel
    have hsz : w.heap.size + 1 ≤ wr.heap.size := by have := hB.size; simpa using this
    by_cases hlt : k < n
    · rcases HD.out with h0 | ⟨b, o, rfl, hc⟩
      · omega
      have BW : Below w.heap.size w wr := ((Below.refl _ _).alloc (Nat.le_refl _) _).trans (hB.mono (Nat.le_succ _))
      have hd := hc k hlt
      have hl := HLD.out k hlt
      have hd := hd.below BW (cell_block (hd.cell 0 (by omega)))
      have hk' := take_flatten ls k (by have := HLS.out.1; omega)
      generalize ls.getD k [] = d at *
      have HDk : Hid (DAt wr b (o + k * 32) d) := by rw [Nat.mul_comm k 32]; exact hd
      have HL : Hid (d.length = 32 ∧ (ls.take k).flatten ++ d = (ls.take (k + 1)).flatten) := ⟨hl, hk'⟩
      have HO : Hid (OwnL wr (w.heap.size + 1) u5 (x :: (ls.take k).flatten)) := hO
      have el : (x :: (ls.take k).flatten).length = 1 + 32 * k := by rw [List.length_cons, take_len HLS.out.2 k (by have := HLS.out.1; omega)]; omega
      have HEL : Hid ((x :: (ls.take k).flatten).length = 1 + 32 * k) := el
      clear hd hl hk' hc hO BW el
      go_wp2_with (first
        | (refine wpList_load_mid (by rfl) 23 (.tmp 18) (by rfl) b (o + k * 32) (by rfl) (cellsB d) _ HDk.out Tryz.underlying23 (by rfl) (by rw [cellsB_length, HL.out.1]; kernel_rfl) ?_)
        | (refine wpList_store_mid (by rfl) 23 (.tmp 7) (.tmp 19) (by rfl) wr.heap.size 0 (cellsB d).toArray (by rfl) (by rfl) (by rw [cells32 HL.out.1]; exact there_new wr _) (by rw [cells32 HL.out.1]; kernel_rfl) (all_oneCell_toArray (cellsB_one _)) ?_)
        | (at_builtin; refine wpList_append_bytes rfl (.tmp 20) (.tmp 21) 63 rfl (w.heap.size + 1) i0 Tryz.underlying63 hi hz0 hz1 hz2 u5 (x :: (ls.take k).flatten) rfl (OwnL.below HO.out (new_stored _ _ _)) (some ⟨wr.heap.size, 0, none⟩) 32 32 d rfl ((dat_stored (there_new wr _) HL.out.1).row HL.out.1) (by rw [HEL.out]; omega) (Nat.le_trans hsz (new_stored _ _ _).size) ?_; intro v5 w5 ho5 hg5))
      have B5 := OwnL.grown (OwnL.below HO.out (new_stored _ _ _)) (hB.trans ((new_stored wr _ _).mono hsz)) hg5 (Nat.le_refl _) (Nat.le_trans hsz (new_stored _ _ _).size)
      have ho5 : OwnL w5 (w.heap.size + 1) v5 (x :: (ls.take (k + 1)).flatten) := by rw [← HL.out.2]; exact ho5
      clear hg5 HO hB
      go_wp2
      go_roundw
      case rel => exact ⟨k + 1, by omega, by go_num, ho5, B5⟩
      case measure => simp [intOf]; omega
    · obtain rfl : k = n := by omega
      obtain ⟨g, c5, rfl, R5, _⟩ := hO.formSome (by simp)
      have el : (x :: (ls.take k).flatten).length = 1 + 32 * k := by rw [List.length_cons, take_len HLS.out.2 k (by have := HLS.out.1; omega)]; omega
      rw [el] at R5
      rw [el]
      have et : (ls.take k).flatten = ls.flatten := by rw [List.take_of_length_le (by have := HLS.out.1; omega)]
      rw [et] at R5
      have HT : Hid (wr.there w.heap.size 0 32) := there_digest hB
      clear hO el et
      go_wp2_with fail
      refine (rsum_any _ _ _ _ _ R5 (by omega)).mono ?_
      rintro e w6 ⟨rfl, hb6⟩
      go_wp2_with (refine wpList_store_mid (by rfl) 23 (.tmp 4) (.tmp 24) (by rfl) w.heap.size 0 (cellsB (shaL (x :: ls.flatten))).toArray (by rfl) (by rfl) (by rw [cells32 (shaL_length _)]; exact there_digest (hB.trans (hb6.mono hsz))) (by rw [cells32 (shaL_length _)]; kernel_rfl) (all_oneCell_toArray (cellsB_one _)) ?_)
      refine bodyPost_ret (v := digestV (shaL (x :: ls.flatten))) (run_results_digest Tryz.results34 _ _ w.heap.size 0 (by rfl) (shaL (x :: ls.flatten)) (dat_stored (there_digest (hB.trans (hb6.mono hsz))) (shaL_length _)) _ Tryz.underlying23 (by rfl) (by rw [shaL_length]; kernel_rfl)) rfl ⟨rfl, ?_⟩
      exact below_setCells _ (Nat.le_refl _) _ _ _ (((Below.refl _ _).alloc (Nat.le_refl _) _).trans ((hB.mono (Nat.le_succ _)).trans (hb6.mono (by omega))))
end Go.Proofs.YtdgaimlccpmojaaGreatDoor
/- The contracts of oathbookref1's keyed, OnceSecret and OnceLeaf. -/
namespace Go.Proofs.YtdgaimlccpmojaaGreatDoor
open Go.RowKit
set_option linter.unusedVariables false
set_option linter.unusedSimpArgs false

set_option maxRecDepth 100000 in
set_option maxHeartbeats 1000000 in
theorem rkeyed_any (seed : List UInt8) (a : Option Addr) (n c : Nat) (b : List UInt8) (w : World) (hs : seed.length = 32) (R : Row w a n b) (hn : n ≤ 140737488353000) :
    Calls Tryz.prog 44 #[digestV seed, .slice a n c] w fun e w' => e = .returned (digestV (macL seed b)) ∧ Below w.heap.size w w' := by
  obtain ⟨w2, hw2⟩ : ∃ w2, (w.alloc (.cells (cellsB seed).toArray 23)).alloc (.cells (cellsB zD).toArray 23) = w2 := ⟨_, rfl⟩
  have hs1 : (w.alloc (.cells (cellsB seed).toArray 23)).heap.size = w.heap.size + 1 := by simp
  have hs2 : w2.heap.size = w.heap.size + 1 + 1 := by rw [← hw2]; simp
  have HR2 : Hid (Row w2 (some ⟨w.heap.size, 0, none⟩) 32 seed) := by
    rw [← hw2]
    exact DAt.row (World.rangeAt_alloc (box_dat w seed _) _) hs
  have HT2 : Hid (w2.there (w.heap.size + 1) 0 32) := by rw [← hw2]; exact alloc_thereAt _ _ _ 32 _ hs1 zD_size.symm
  have HB2 : Hid (Below w.heap.size w w2) := by rw [← hw2]; exact ((Below.refl _ _).alloc (Nat.le_refl _) _).alloc (by simp) _
  have HRb : Hid (Row w2 a n b) := R.below HB2.out
  clear R
  go_enter Tryz.func44, Tryz.ntmps44
  go_wp2_with (refine wpList_allocE (by rfl) 23 (by rfl) (cellsB zD).toArray Tryz.zeroDg (w.heap.size + 1) hs1 w2 hw2 ?_)
  refine (rmac_any (some ⟨w.heap.size, 0, none⟩) a 32 n 32 c seed b w2 HR2.out HRb.out (by omega) hn).mono ?_
  rintro e w3 ⟨rfl, hb3⟩
  have HB3 : Hid (Below w.heap.size w w3) := below_trans HB2.out hb3
  have HT3 : Hid (w3.there (w.heap.size + 1) 0 32) := there_below HT2.out hb3 (by omega)
  have hlen := macL_length seed b
  clear hb3 HB2 HT2 HR2 HRb hw2 hs2 hs1
  generalize hD : macL seed b = D at *
  have HD : Hid (macL seed b = D) := hD
  clear hD
  go_wp2_with (refine wpList_store_mid (by rfl) 23 (.tmp 4) (.tmp 7) (by rfl) (w.heap.size + 1) 0 (cellsB D).toArray (by rfl) (by rfl) (by rw [cellsB_size, hlen]; exact HT3.out) (by rw [cellsB_size, hlen]; exact Tryz.sizeDg) (all_oneCell_toArray (cellsB_one _)) ?_)
  refine bodyPost_ret (v := digestV D) (run_results_row Tryz.results44 _ _ (w.heap.size + 1) 0 (by rfl) (cellsB D) (World.rangeAt_setCells_same _ _ _ _ (by rw [cellsB_length, hlen]; exact HT3.out)) _ Tryz.underlying23 (by rfl) (by rw [cellsB_length, hlen]; exact Tryz.sizeDg)) rfl ⟨by rw [HD.out], ?_⟩
  exact below_setCells _ (by omega) _ _ _ HB3.out

/-- A literal of bytes. -/
theorem Row.litL (w : World) (cs : Array Value) (t : TypeId) (l : List UInt8) (h : cs.toList = cellsB l) (n : Nat) (hn : l.length = n) : Row (w.alloc (.cells cs t)) (some ⟨w.heap.size, 0, none⟩) n l := by
  have : DAt (w.alloc (.cells cs t)) w.heap.size 0 l := by
    unfold DAt
    rw [← h]
    exact alloc_range w cs t
  exact ⟨hn, .inr ⟨w.heap.size, 0, rfl, fun i hi => this.cell i (by omega)⟩⟩

end Go.Proofs.YtdgaimlccpmojaaGreatDoor
