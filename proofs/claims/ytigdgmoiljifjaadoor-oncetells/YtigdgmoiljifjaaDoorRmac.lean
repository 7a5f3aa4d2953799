/- The contract of oathbookref1.Mac. -/
import Derived.Test.YtigdgmoiljifjaaDoorRsum
import Derived.Test.YtigdgmoiljifjaaDoorMac
import Derived.Deep.DeepCutAuto
namespace Go.Proofs.YtigdgmoiljifjaaDoor
open Go.RowKit
set_option linter.unusedVariables false
set_option linter.unusedSimpArgs false

set_option maxRecDepth 100000 in
set_option maxHeartbeats 1000000 in
theorem rmac_any (a1 a2 : Option Addr) (n1 n2 c1 c2 : Nat) (key b : List UInt8) (w : World) (R1 : Row w a1 n1 key) (R2 : Row w a2 n2 b) (h1 : n1 ≤ 140737488353000) (h2 : n2 ≤ 140737488353000) :
    Calls Tryd.prog 29 #[.slice a1 n1 c1, .slice a2 n2 c2] w fun e w' => e = .returned (digestV (macL key b)) ∧ Below w.heap.size w w' := by
  obtain ⟨i0, hi, hz0, hz1, hz2⟩ := info_parts Tryd.infoU8
  have HK1 : Hid (key.length = n1) := R1.1
  go_enter Tryd.func29, Tryd.ntmps29
  go_upto_if 13 with fail
  go_cut [0, 5] (fun kv dv wq => ∃ (ak : Option Addr) (nk ck : Nat), kv = .slice ak nk ck ∧ nk ≤ 64 ∧ Row wq ak nk (keyL key) ∧ Row wq a2 n2 b ∧ Below (w.heap.size + 1) (w.alloc (.cells zeros32 23)) wq)
  case first =>
    by_cases h64 : 64 < n1
    · have HKL : Hid (keyL key = shaL key) := by unfold Hid keyL; rw [if_pos (by rw [HK1.out]; exact h64)]
      go_wp2_with fail
      refine (rsum_any _ _ _ _ _ (R1.below ((Below.refl _ _).alloc (Nat.le_refl _) _)) (by omega)).mono ?_
      rintro e w1 ⟨rfl, hb1⟩
      go_wp2_with (refine wpList_store_mid (by rfl) 23 (.tmp 5) (.tmp 15) (by rfl) w1.heap.size 0 (cellsB (shaL key)).toArray (by rfl) (by rfl) (by rw [cells32 (shaL_length _)]; exact there_new w1 _) (by rw [cells32 (shaL_length _)]; kernel_rfl) (all_oneCell_toArray (cellsB_one _)) ?_)
      go_meet
      case rel =>
        have hs1 : w.heap.size + 1 ≤ w1.heap.size := by have := hb1.size; simpa using this
        have hb2 := new_stored w1 (.cells zeros32 23) (cellsB (shaL key))
        have hb1' : Below (w.heap.size + 1) (w.alloc (.cells zeros32 23)) w1 := hb1.mono (by simp)
        refine ⟨_, 32, 32, rfl, by omega, ?_, ?_, hb1'.trans (hb2.mono hs1)⟩
        · rw [HKL.out]
          exact (dat_stored (there_new w1 23) (shaL_length key)).row (shaL_length key)
        · exact R2.below (((Below.refl _ _).alloc (Nat.le_refl _) _).trans ((hb1'.trans (hb2.mono hs1)).mono (Nat.le_succ _)))
    · have HKL : Hid (keyL key = key) := by unfold Hid keyL; rw [if_neg (by rw [HK1.out]; exact h64)]
      go_wp2_with fail
      go_meet
      case rel => exact ⟨_, _, _, rfl, by omega, by rw [HKL.out]; exact R1.below ((Below.refl _ _).alloc (Nat.le_refl _) _), R2.below ((Below.refl _ _).alloc (Nat.le_refl _) _), Below.refl _ _⟩
  case rest =>
    obtain ⟨ak, nk, ck, rfl, hnk, Rk, R2q, BQ⟩ := hcut
    have HKK : Hid ((keyL key).length = nk) := Rk.1
    have hsq : w.heap.size + 1 ≤ wc.heap.size := by have := BQ.size; simpa using this
    have HG : Hid (macL key b = shaL (padX (keyL key) 92 64 ++ shaL (padX (keyL key) 54 64 ++ b))) := rfl
    generalize keyL key = kk at *
    clear R1 R2 h1
    go_wp2_with fail
    go_loopw [6, 7, 8] (fun ov iv i wr => ∃ k : Nat, k ≤ 64 ∧ i = .int .i64 (k : Int) ∧ OwnL wr wc.heap.size ov (padX kk 92 k) ∧ OwnL wr wc.heap.size iv (padX kk 54 k) ∧ Sep ov iv ∧ Below wc.heap.size wc wr) (fun _ _ i _ => 64 - (intOf i).toNat)
    case atStart => exact ⟨0, Nat.zero_le _, rfl, OwnL.nil _ _, OwnL.nil _ _, .inl rfl, Below.refl _ _⟩
    case round =>
      obtain ⟨k, hk, rfl, hO, hI, hS, hB⟩ := hrel
      by_cases hlt : k < 64
      · have E1 : bits .xor .u8 (nth kk k) 92 = (((xorB kk k 92).toNat : Nat) : Int) := xor_byte kk k 92
        have E2 : bits .xor .u8 (nth kk k) 54 = (((xorB kk k 54).toNat : Nat) : Int) := xor_byte kk k 54
        have HO : Hid (OwnL wr wc.heap.size u6 (padX kk 92 k)) := hO
        have HI : Hid (OwnL wr wc.heap.size u7 (padX kk 54 k)) := hI
        have HP : Hid (∀ x, (padX kk x k).length = k) := fun x => padX_length kk x k
        clear hO hI
        by_cases hkn : k < nk
        · obtain ⟨_, h0 | ⟨bk, ok, rfl, hkc⟩⟩ := Rk
          · omega
          have hcell := (hB.cell (p := ⟨bk, ok + k, none⟩) (cell_block (hkc k hkn))).trans (hkc k hkn)
          have hk0 : (0 : Int) ≤ (k : Int) := by omega
          have hk1 : (k : Int) < (nk : Int) := by omega
          clear hkc
          go_wp2_with (first
            | (at_builtin; refine wpList_append_bytes_at rfl (.tmp 29) (.tmp 32) 49 rfl wc.heap.size i0 Tryd.underlying49 hi hz0 hz1 hz2 u6 (padX kk 92 k) rfl (World.ownsRow.alloc HO.out _) _ 1 1 [xorB kk k 92] rfl (Row.lit1 wr (xorB kk k 92) 5) (by rw [HP.out]; omega) (by have := hB.size; simp; omega) ?_; intro v6 w6 ho6 hg6 ha6)
            | (at_builtin; refine wpList_append_bytes_at rfl (.tmp 34) (.tmp 37) 49 rfl wc.heap.size i0 Tryd.underlying49 hi hz0 hz1 hz2 u7 (padX kk 54 k) rfl (World.ownsRow.alloc (OwnL.other (World.ownsRow.alloc HI.out _) hg6 hS) _) _ 1 1 [xorB kk k 54] rfl (Row.lit1 w6 (xorB kk k 54) 5) (by rw [HP.out]; omega) (by have := hB.size; have := hg6.size; simp at this; simp; omega) ?_; intro v7 w7 ho7 hg7 ha7))
          have s6 : Sep v6 u7 := Sep.next hS ha6 (World.ownsRow.alloc HI.out _)
          have B6 := OwnL.grown (World.ownsRow.alloc HO.out _) (hB.alloc hB.size _) hg6 (Nat.le_refl _) (by have := hB.size; simp; omega)
          have o6 : OwnL w6 wc.heap.size u7 (padX kk 54 k) := OwnL.other (World.ownsRow.alloc HI.out _) hg6 hS
          have B7 := OwnL.grown (World.ownsRow.alloc o6 _) (B6.alloc B6.size _) hg7 (Nat.le_refl _) (by have := B6.size; simp; omega)
          have q6 : OwnL w7 wc.heap.size v6 (padX kk 92 (k + 1)) := by rw [← padX_succ]; exact OwnL.other (World.ownsRow.alloc ho6 _) hg7 s6.symm
          have q7 : OwnL w7 wc.heap.size v7 (padX kk 54 (k + 1)) := by rw [← padX_succ]; exact ho7
          have s7 : Sep v6 v7 := (Sep.next s6.symm ha7 (World.ownsRow.alloc ho6 _)).symm
          clear ho6 hg6 ha6 ho7 hg7 ha7 s6 B6 o6 HO HI hS hB
          go_wp2
          go_roundw
          case rel => exact ⟨k + 1, by omega, by go_num, q6, q7, s7, B7⟩
          case measure => simp [intOf]; omega
        · have hn0 := nth_out kk k (by have := HKK.out; omega)
          rw [hn0] at E1 E2
          clear hn0
          go_wp2_with (first
            | (at_builtin; refine wpList_append_bytes_at rfl (.tmp 29) (.tmp 32) 49 rfl wc.heap.size i0 Tryd.underlying49 hi hz0 hz1 hz2 u6 (padX kk 92 k) rfl (World.ownsRow.alloc HO.out _) _ 1 1 [xorB kk k 92] rfl (Row.lit1 wr (xorB kk k 92) 5) (by rw [HP.out]; omega) (by have := hB.size; simp; omega) ?_; intro v6 w6 ho6 hg6 ha6)
            | (at_builtin; refine wpList_append_bytes_at rfl (.tmp 34) (.tmp 37) 49 rfl wc.heap.size i0 Tryd.underlying49 hi hz0 hz1 hz2 u7 (padX kk 54 k) rfl (World.ownsRow.alloc (OwnL.other (World.ownsRow.alloc HI.out _) hg6 hS) _) _ 1 1 [xorB kk k 54] rfl (Row.lit1 w6 (xorB kk k 54) 5) (by rw [HP.out]; omega) (by have := hB.size; have := hg6.size; simp at this; simp; omega) ?_; intro v7 w7 ho7 hg7 ha7))
          have s6 : Sep v6 u7 := Sep.next hS ha6 (World.ownsRow.alloc HI.out _)
          have B6 := OwnL.grown (World.ownsRow.alloc HO.out _) (hB.alloc hB.size _) hg6 (Nat.le_refl _) (by have := hB.size; simp; omega)
          have o6 : OwnL w6 wc.heap.size u7 (padX kk 54 k) := OwnL.other (World.ownsRow.alloc HI.out _) hg6 hS
          have B7 := OwnL.grown (World.ownsRow.alloc o6 _) (B6.alloc B6.size _) hg7 (Nat.le_refl _) (by have := B6.size; simp; omega)
          have q6 : OwnL w7 wc.heap.size v6 (padX kk 92 (k + 1)) := by rw [← padX_succ]; exact OwnL.other (World.ownsRow.alloc ho6 _) hg7 s6.symm
          have q7 : OwnL w7 wc.heap.size v7 (padX kk 54 (k + 1)) := by rw [← padX_succ]; exact ho7
          have s7 : Sep v6 v7 := (Sep.next s6.symm ha7 (World.ownsRow.alloc ho6 _)).symm
          clear ho6 hg6 ha6 ho7 hg7 ha7 s6 B6 o6 HO HI hS hB
          go_wp2
          go_roundw
          case rel => exact ⟨k + 1, by omega, by go_num, q6, q7, s7, B7⟩
          case measure => simp [intOf]; omega
      · obtain rfl : k = 64 := by omega
        have R2w := R2q.below hB
        have HO : Hid (OwnL wr wc.heap.size u6 (padX kk 92 64)) := hO
        have HI : Hid (OwnL wr wc.heap.size u7 (padX kk 54 64)) := hI
        have HP : Hid (∀ x, (padX kk x 64).length = 64) := fun x => padX_length kk x 64
        have hlb := R2q.1
        have hsw := hB.size
        have HE6 : Hid ((padX kk 54 64 ++ b).length = 64 + n2) := by unfold Hid; rw [List.length_append, HP.out, hlb]
        clear hO hI hlb
        go_wp2_with (at_builtin; refine wpList_append_bytes_at rfl (.tmp 39) (.tmp 40) 49 rfl wc.heap.size i0 Tryd.underlying49 hi hz0 hz1 hz2 u7 (padX kk 54 64) rfl HI.out a2 n2 c2 b rfl R2w (by rw [HP.out]; omega) hsw ?_; intro v6 w6 ho6 hg6 ha6; obtain ⟨g6, c6, rfl, r6, _⟩ := OwnL.formSome ho6 (by rw [List.length_append, HP.out]; omega); rw [HE6.out] at r6; rw [HE6.out])
        have q6 : OwnL w6 wc.heap.size u6 (padX kk 92 64) := OwnL.other HO.out hg6 hS.symm
        have B6 := OwnL.grown HI.out hB hg6 (Nat.le_refl _) hsw
        clear ho6 hg6 ha6 HO HI hS hB
        refine (rsum_any _ _ _ _ _ r6 (by omega)).mono ?_
        rintro e w7 ⟨rfl, hb7⟩
        have q7 := OwnL.below q6 hb7
        have B7 := below_trans B6 hb7
        have HD : Hid ((shaL (padX kk 54 64 ++ b)).length = 32) := shaL_length _
        generalize shaL (padX kk 54 64 ++ b) = d at *
        have hs7 := B7.size
        have HE8 : Hid ((padX kk 92 64 ++ d).length = 96) := by unfold Hid; rw [List.length_append, HP.out, HD.out]
        clear q6 B6 r6 hb7
        go_wp2_with (first
          | (refine wpList_store_mid (by rfl) 23 (.tmp 10) (.tmp 42) (by rfl) w7.heap.size 0 (cellsB d).toArray (by rfl) (by rfl) (by rw [cells32 HD.out]; exact there_new w7 _) (by rw [cells32 HD.out]; kernel_rfl) (all_oneCell_toArray (cellsB_one _)) ?_)
          | (at_builtin; refine wpList_append_bytes_at rfl (.tmp 43) (.tmp 44) 49 rfl wc.heap.size i0 Tryd.underlying49 hi hz0 hz1 hz2 u6 (padX kk 92 64) rfl (OwnL.below q7 (new_stored _ _ _)) (some ⟨w7.heap.size, 0, none⟩) 32 32 d rfl ((dat_stored (there_new w7 _) HD.out).row HD.out) (by rw [HP.out]; omega) (Nat.le_trans hs7 (new_stored _ _ _).size) ?_; intro v8 w8 ho8 hg8 ha8; obtain ⟨g8, c8, rfl, r8, _⟩ := OwnL.formSome ho8 (by rw [List.length_append, HP.out]; omega); rw [HE8.out] at r8; rw [HE8.out]))
        have B8 := OwnL.grown (OwnL.below q7 (new_stored _ _ _)) (B7.trans ((new_stored w7 _ _).mono hs7)) hg8 (Nat.le_refl _) (Nat.le_trans hs7 (new_stored _ _ _).size)
        clear ho8 hg8 ha8 q7 B7
        refine (rsum_any _ _ _ _ _ r8 (by omega)).mono ?_
        rintro e w9 ⟨rfl, hb9⟩
        have B9 := below_trans B8 hb9
        rw [← HG.out]
        have BT := BQ.trans (B9.mono hsq)
        clear B8 hb9 B9 r8
        go_wp2_with (refine wpList_store_mid (by rfl) 23 (.tmp 4) (.tmp 46) (by rfl) w.heap.size 0 (cellsB (macL key b)).toArray (by rfl) (by rfl) (by rw [cells32 (macL_length _ _)]; exact there_digest BT) (by rw [cells32 (macL_length _ _)]; kernel_rfl) (all_oneCell_toArray (cellsB_one _)) ?_)
        refine bodyPost_ret (v := digestV (macL key b)) (run_results_digest Tryd.results29 _ _ w.heap.size 0 (by rfl) (macL key b) (dat_stored (there_digest BT) (macL_length _ _)) _ Tryd.underlying23 (by rfl) (by rw [macL_length]; kernel_rfl)) rfl ⟨rfl, ?_⟩
        exact below_setCells _ (Nat.le_refl _) _ _ _ (((Below.refl _ _).alloc (Nat.le_refl _) _).trans (BT.mono (Nat.le_succ _)))
end Go.Proofs.YtigdgmoiljifjaaDoor
