/- The contract of oathbookref1.Expanded. -/
import Derived.Test.YtlekbfbhkgnpjaaDoorRmac
namespace Go.Proofs.YtlekbfbhkgnpjaaDoor
open Go.RowKit
set_option linter.unusedVariables false
set_option linter.unusedSimpArgs false

set_option maxRecDepth 100000 in
set_option maxHeartbeats 1000000 in
theorem rexp_any (a1 a2 : Option Addr) (n1 n2 c1 c2 n : Nat) (key info : List UInt8) (w : World) (R1 : Row w a1 n1 key) (R2 : Row w a2 n2 info) (h1 : n1 ≤ 140737488351232) (h2 : n2 ≤ 140737488351232) (hn : n ≤ 2000) :
    Calls Tryd.prog 16 #[.slice a1 n1 c1, .slice a2 n2 c2, .int .i64 (n : Int)] w fun e w' => (∃ a c, e = .returned (.slice a n c) ∧ Row w' a n (expL key info n)) ∧ Below w.heap.size w w' := by
  obtain ⟨i0, hi, hz0, hz1, hz2⟩ := info_parts Tryd.infoU8
  go_enter Tryd.func16, Tryd.ntmps16
  go_wp2
  go_loopw [7, 8, 9] (fun ov lv i wr => ∃ k : Nat, k ≤ (n + 31) / 32 ∧ i = .int .i64 ((k : Int) + 1) ∧ OwnL wr w.heap.size ov (outTo key info k) ∧ (∃ (al : Option Addr) (cl : Nat), lv = .slice al (expT key info k).length cl ∧ Row wr al (expT key info k).length (expT key info k)) ∧ Below w.heap.size w wr) (fun _ _ i _ => 100 - (intOf i).toNat)
  case atStart => exact ⟨0, Nat.zero_le _, rfl, OwnL.nil _ _, ⟨none, 0, rfl, Row.nil _⟩, Below.refl _ _⟩
  case round =>
    obtain ⟨k, hk, rfl, hO, ⟨al, cl, rfl, hL⟩, hB⟩ := hrel
    have HOl : Hid ((outTo key info k).length = 32 * k) := outTo_length key info k
    have hle := expT_le key info k
    have HT : Hid (expT key info (k + 1) = macL key (expT key info k ++ info ++ [UInt8.ofNat (k + 1)])) := rfl
    have HOs : Hid (outTo key info (k + 1) = outTo key info k ++ expT key info (k + 1)) := rfl
    have HT1 : Hid ((expT key info (k + 1)).length = 32) := expT_length key info k
    have HO : Hid (OwnL wr w.heap.size u7 (outTo key info k)) := hO
    obtain ⟨ao, co, rfl, Ro, hco⟩ := hO.form
    rw [HOl.out] at Ro hco HO
    rw [HOl.out]
    generalize hT : expT key info k = T at *
    clear hT
    by_cases hlt : 32 * k < n
    · have R1w := R1.below hB
      have R2w := R2.below hB
      have hsw := hB.size
      have hk63 : k ≤ 62 := by omega
      have HCV : Hid ((k : Int) + 1 = (((UInt8.ofNat (k + 1)).toNat : Nat) : Int)) := by unfold Hid; rw [UInt8.toNat_ofNat']; omega
      have HE1 : Hid (([] ++ T : List UInt8).length = T.length) := rfl
      have HE2 : Hid ((T ++ info : List UInt8).length = T.length + n2) := by unfold Hid; rw [List.length_append, R2.1]
      have HE3 : Hid ((T ++ info ++ [UInt8.ofNat (k + 1)] : List UInt8).length = T.length + n2 + 1) := by unfold Hid; rw [List.length_append, HE2.out]; rfl
      go_wp2_with (first
        | (at_builtin; refine wpList_append_bytes rfl (.tmp 18) (.tmp 19) 22 rfl wr.heap.size i0 Tryd.underlying22 hi hz0 hz1 hz2 (.slice (some ⟨wr.heap.size, 0, none⟩) 0 0) [] rfl (OwnL.lit0 _ _ (Nat.le_refl _)) al T.length cl T rfl (hL.below ((Below.refl _ _).alloc (Nat.le_refl _) _)) (by simp; omega) (by simp) ?_; intro v1 w1 ho1 hg1; have b1 := OwnL.grown (OwnL.lit0 wr _ (Nat.le_refl _)) ((Below.refl _ _).alloc (Nat.le_refl _) _) hg1 (Nat.le_refl _) (by simp); have ho1 : OwnL w1 wr.heap.size v1 T := ho1; clear hg1)
        | (at_builtin; refine wpList_append_bytes rfl (.tmp 20) (.tmp 21) 22 rfl wr.heap.size i0 Tryd.underlying22 hi hz0 hz1 hz2 v1 T rfl ho1 a2 n2 c2 info rfl (R2w.below b1) (by omega) b1.size ?_; intro v2 w2 ho2 hg2; have b2 := OwnL.grown ho1 b1 hg2 (Nat.le_refl _) b1.size; clear hg2 ho1)
        | (at_builtin; refine wpList_append_bytes rfl (.tmp 24) (.tmp 27) 22 rfl wr.heap.size i0 Tryd.underlying22 hi hz0 hz1 hz2 v2 (T ++ info) rfl (World.ownsRow.alloc ho2 _) _ 1 1 [UInt8.ofNat (k + 1)] rfl (Row.lit1v w2 (UInt8.ofNat (k + 1)) 5 _ HCV.out) (by rw [HE2.out]; omega) (by have := b2.size; simp; omega) ?_; intro v3 w3 ho3 hg3; have b3 := OwnL.grown (World.ownsRow.alloc ho2 _) (b2.alloc b2.size _) hg3 (Nat.le_refl _) (by have := b2.size; simp; omega); obtain ⟨g3, c3, rfl, r3, _⟩ := OwnL.formSome ho3 (by rw [HE3.out]; omega); rw [HE3.out] at r3; rw [HE3.out]; clear hg3 ho2 ho3))
      refine (rmac_any _ _ _ _ _ _ key _ _ (R1w.below b3) r3 (by omega) (by omega)).mono ?_
      rintro e w4 ⟨rfl, hb4⟩
      rw [← HT.out]
      have b4 := below_trans b3 hb4
      have q4 := OwnL.below HO.out b4
      generalize hT1 : expT key info (k + 1) = T1 at *
      have HT1' : Hid (expT key info (k + 1) = T1) := hT1
      clear hT1 b3 hb4 r3 HO hL R1w R2w HCV
      have b5 := new_stored w4 (.cells zeros32 25) (cellsB T1)
      go_wp2_with (first
        | (refine wpList_store_mid (by rfl) 25 (.tmp 11) (.tmp 29) (by rfl) w4.heap.size 0 (cellsB T1).toArray (by rfl) (by rfl) (by rw [cells32 HT1.out]; exact there_new w4 _) (by rw [cells32 HT1.out]; kernel_rfl) (all_oneCell_toArray (cellsB_one _)) ?_)
        | (at_builtin; refine wpList_append_bytes rfl (.tmp 31) (.tmp 32) 22 rfl w.heap.size i0 Tryd.underlying22 hi hz0 hz1 hz2 (.slice ao (32 * k) co) (outTo key info k) rfl (OwnL.below q4 b5) (some ⟨w4.heap.size, 0, none⟩) 32 32 T1 rfl ((dat_stored (there_new w4 _) HT1.out).row HT1.out) (by rw [HOl.out]; omega) (Nat.le_trans hsw (Nat.le_trans b4.size b5.size)) ?_; intro v6 w6 ho6 hg6))
      have B6 := OwnL.grown (OwnL.below q4 b5) (hB.trans ((below_trans b4 b5).mono hsw)) hg6 (Nat.le_refl _) (Nat.le_trans hsw (Nat.le_trans b4.size b5.size))
      have o6 : OwnL w6 w.heap.size v6 (outTo key info (k + 1)) := by rw [HOs.out]; exact ho6
      have hne : some w4.heap.size ≠ (Value.slice ao (32 * k) co).ownBlock := by
        intro e
        have := (World.ownsRow.lt q4 w4.heap.size e.symm).2
        omega
      have r6 : Row w6 (some ⟨w4.heap.size, 0, none⟩) 32 T1 := (DAt.mk fun i hi => hg6.cell ((dat_stored (there_new w4 25) HT1.out).cell i hi) hne).row HT1.out
      clear hne
      clear ho6 hg6 q4 b4 b5 hB
      go_wp2
      go_roundw
      case rel => exact ⟨k + 1, by omega, by go_num, o6, ⟨_, _, by rw [HT1'.out, HT1.out], by rw [HT1'.out, HT1.out]; exact r6⟩, B6⟩
      case measure => simp [intOf]; omega
    · have hkk : (n + 31) / 32 = k := by omega
      have HKK : Hid ((n + 31) / 32 = k) := hkk
      have hnk : n ≤ 32 * k := by omega
      have hnc : (n : Int) ≤ (co : Int) := by omega
      clear hkk
      go_wp2
      go_ret
      exact ⟨⟨_, _, rfl, by unfold expL; rw [HKK.out]; exact Ro.take n hnk⟩, hB⟩
end Go.Proofs.YtlekbfbhkgnpjaaDoor
