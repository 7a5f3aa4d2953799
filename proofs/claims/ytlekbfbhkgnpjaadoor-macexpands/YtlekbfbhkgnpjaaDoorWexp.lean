/- The contract of mac.Expand: as many bytes as one likes. -/
import Derived.Test.YtlekbfbhkgnpjaaDoorWmac
namespace Go.Proofs.YtlekbfbhkgnpjaaDoor
open Go.RowKit
set_option linter.unusedVariables false
set_option linter.unusedSimpArgs false

theorem Tryd.infoX8 : (Tryd.prog.info? 5).map (fun i => (i.zero, i.size, i.bytes)) = some (some (.int .u8 0), 1, 1) := by kernel_rfl
/-- What the first k digests have filled of n bytes, and bytes 0 behind it. -/
def outZ (key info : List UInt8) (n k : Nat) : List UInt8 := (outTo key info k).take n ++ List.replicate (n - 32 * k) 0
theorem outZ_length (key info : List UInt8) (n k : Nat) : (outZ key info n k).length = n := by
  unfold outZ
  rw [List.length_append, List.length_take, outTo_length, List.length_replicate]
  omega
theorem outZ_zero (key info : List UInt8) (n : Nat) : outZ key info n 0 = List.replicate n 0 := by simp [outZ, outTo]
theorem outZ_succ (key info : List UInt8) (n k : Nat) (h : 32 * k < n) : blkPut (outZ key info n k) (32 * k) ((expT key info (k + 1)).take (Nat.min 32 (n - 32 * k))) = outZ key info n (k + 1) := by
  have hT := expT_length key info k
  have hO := outTo_length key info k
  have hmin : Nat.min 32 (n - 32 * k) ≤ 32 := Nat.min_le_left _ _
  have hmin2 : Nat.min 32 (n - 32 * k) ≤ n - 32 * k := Nat.min_le_right _ _
  have hl : ((expT key info (k + 1)).take (Nat.min 32 (n - 32 * k))).length = Nat.min 32 (n - 32 * k) := by rw [List.length_take, hT]; omega
  have e1 : (outTo key info k).take n = outTo key info k := List.take_of_length_le (by omega)
  have e2 : (outTo key info k ++ List.replicate (n - 32 * k) 0).take (32 * k) = outTo key info k := by
    rw [List.take_append_of_le_length (by omega)]
    exact List.take_of_length_le (by omega)
  have e3 : (outTo key info k ++ List.replicate (n - 32 * k) 0).drop (32 * k + Nat.min 32 (n - 32 * k)) = List.replicate (n - 32 * (k + 1)) (0 : UInt8) := by
    rw [List.drop_append, hO]
    have : (outTo key info k).drop (32 * k + Nat.min 32 (n - 32 * k)) = [] := List.drop_eq_nil_of_le (by omega)
    rw [this, List.nil_append, List.drop_replicate]
    congr 1
    by_cases hc : 32 ≤ n - 32 * k
    · have hm : Nat.min 32 (n - 32 * k) = 32 := Nat.min_eq_left hc
      rw [hm]; omega
    · have hm : Nat.min 32 (n - 32 * k) = n - 32 * k := Nat.min_eq_right (by omega)
      rw [hm]; omega
  have e4 : (outTo key info (k + 1)).take n = outTo key info k ++ (expT key info (k + 1)).take (Nat.min 32 (n - 32 * k)) := by
    rw [outTo, List.take_append, hO, e1]
    congr 1
    by_cases hc : 32 ≤ n - 32 * k
    · have hm : Nat.min 32 (n - 32 * k) = 32 := Nat.min_eq_left hc
      rw [hm, List.take_of_length_le (by omega), List.take_of_length_le (by omega)]
    · have hm : Nat.min 32 (n - 32 * k) = n - 32 * k := Nat.min_eq_right (by omega)
      rw [hm]
  unfold blkPut outZ
  rw [hl, e1, e2, e3, e4]
theorem outZ_end (key info : List UInt8) (n k : Nat) (h : n ≤ 32 * k) (hk : k ≤ (n + 31) / 32) : outZ key info n k = expL key info n := by
  obtain rfl : k = (n + 31) / 32 := by omega
  unfold outZ expL
  rw [show n - 32 * ((n + 31) / 32) = 0 by omega]
  simp
theorem OwnB.dat {w : World} {B g n cap : Nat} (h : OwnB w B g n cap (fun _ => 0)) : DAt w g 0 (List.replicate n 0) ∧ w.there g 0 n := by
  refine ⟨DAt.mk fun i hi => ?_, fun j hj => ?_⟩
  · simp at hi
    rw [Nat.zero_add, h.cell i hi]
    unfold nth
    simp [List.getD_eq_getElem?_getD, hi]
  · rw [Nat.zero_add, h.cell j hj, h.frozen j]
    exact ⟨rfl, rfl⟩

/-- Expand out of its range. -/
theorem wexp_out (v1 v2 : Value) (m : Int) (w : World) (hm : m < 0 ∨ 2000 < m) :
    Calls Tryd.prog 17 #[v1, v2, .int .i64 m] w fun e w' => e = .returned (.tuple #[.slice none 0 0, .iface 35 (.int .i64 2)]) ∧ Below w.heap.size w w' := by
  by_cases h0 : m < 0
  · go_enter Tryd.func17, Tryd.ntmps17
    go_wp2
    go_ret2
    exact ⟨rfl, Below.refl _ _⟩
  · have h1 : 2000 < m := by omega
    go_enter Tryd.func17, Tryd.ntmps17
    go_wp2
    go_ret2
    exact ⟨rfl, Below.refl _ _⟩

set_option maxRecDepth 100000 in
set_option maxHeartbeats 1000000 in
theorem wexp_any (a1 : Option Addr) (n1 c1 : Nat) (key : List UInt8) (a2 : Option Addr) (n2 c2 : Nat) (info : List UInt8) (n : Nat) (w : World) (G : Tab w) (R1 : Row w a1 n1 key) (R2 : Row w a2 n2 info) (hc1 : n1 ≤ c1) (hc2 : n2 ≤ c2) (h1 : n1 ≤ 10000000000000000) (h2 : n2 ≤ 10000000000000000) (hn : n ≤ 2000) :
    Calls Tryd.prog 17 #[.slice a1 n1 c1, .slice a2 n2 c2, .int .i64 (n : Int)] w fun e w' => (∃ g, e = .returned (.tuple #[.slice (some ⟨g, 0, none⟩) n n, .nilIface]) ∧ w.heap.size ≤ g ∧ Row w' (some ⟨g, 0, none⟩) n (expL key info n)) ∧ Below w.heap.size w w' := by
  obtain ⟨i0, hi, hz0, hz1, hz2⟩ := info_parts Tryd.infoX8
  have HG : Hid (Tab w ∧ Row w a1 n1 key ∧ Row w a2 n2 info) := ⟨G, R1, R2⟩
  have hln2 := R2.1
  clear G R1 R2
  have hn0 : (0 : Int) ≤ (n : Int) := by omega
  have hn1 : (n : Int) ≤ 2000 := by omega
  go_enter Tryd.func17, Tryd.ntmps17
  go_wp2_with fail
  refine (wblockof_any _ _ _ key _ HG.out.1 HG.out.2.1 hc1 (by omega)).mono ?_
  rintro e w1 ⟨rfl, hb1⟩
  have hkl := kblk_length key
  obtain ⟨w2, hw2⟩ : ∃ w2, w1.alloc (.cells (cellsB z64).toArray 58) = w2 := ⟨_, rfl⟩
  have ht2 : Hid (w2.there w1.heap.size 0 64) := by rw [← hw2]; exact alloc_thereAt _ _ _ 64 _ rfl z64_size.symm
  have HB3 : Hid (Below w.heap.size w (w2.setCells w1.heap.size 0 (cellsB (kblk key)))) := by rw [← hw2]; exact below_trans hb1 (new_stored _ _ _)
  have HD3 : Hid (DAt (w2.setCells w1.heap.size 0 (cellsB (kblk key))) w1.heap.size 0 (kblk key)) := World.rangeAt_setCells_same _ _ _ _ (by rw [cellsB_length, hkl]; exact ht2.out)
  have hsl : w1.heap.size < (w2.setCells w1.heap.size 0 (cellsB (kblk key))).heap.size := by
    have := (gr_setCells w1.heap.size (cellsB (kblk key)) 0 w2).size
    have : w2.heap.size = w1.heap.size + 1 := by rw [← hw2]; simp
    omega
  have hs1 := hb1.size
  have HM : Hid (∀ b, shaL (padX (kblk key) 92 64 ++ shaL (padX (kblk key) 54 64 ++ b)) = macL key b) := macL_kblk key
  clear hb1
  generalize kblk key = kk at *
  generalize hw3 : w2.setCells w1.heap.size 0 (cellsB kk) = w3 at *
  go_wp2_with (first
    | (refine wpList_allocE (by rfl) 58 (by rfl) (cellsB z64).toArray Tryd.zeroKblock w1.heap.size rfl w2 hw2 ?_)
    | (refine wpList_store_mid (by rfl) 58 (.tmp 8) (.tmp 22) (by rfl) w1.heap.size 0 (cellsB kk).toArray (by rfl) (by rfl) (by rw [cellsB_size, hkl]; exact ht2.out) (by rw [cellsB_size, hkl]; exact Tryd.sizeKblock) (all_oneCell_toArray (cellsB_one _)) ?_; rw [show (cellsB kk).toArray.toList = cellsB kk from rfl, hw3])
    | (at_make; refine wpList_make_full _ rfl _ _ 22 rfl w3.heap.size 5 i0 (.int .u8 0) 1 Tryd.underlying22 hi hz0 hz1 _ _ _ _ n rfl rfl rfl rfl (by rw [hz2]; omega) (by unfold maxLen; omega) (Nat.le_refl _) ?_; intro w4 hown hgrow))
  clear hw2 ht2 hw3
  have HB4 : Hid (Below w3.heap.size w3 w4) := (Below.refl _ _).grown hgrow (Nat.le_refl _) (fun _ h => by cases h)
  have HO4 : Hid (DAt w4 w3.heap.size 0 (List.replicate n 0) ∧ w4.there w3.heap.size 0 n) := OwnB.dat (OwnB.zero hown)
  have HS4 : Hid (w3.heap.size < w4.heap.size ∨ n = 0) := by
    by_cases hz : n = 0
    · exact .inr hz
    · exact .inl (cell_block (HO4.out.1.cell 0 (by simp; omega)))
  have HD4 : Hid (DAt w4 w1.heap.size 0 kk) := HD3.out.below HB4.out hsl
  have HBB : Hid (Below w.heap.size w w4) := HB3.out.trans (HB4.out.mono (by have := HB3.out.size; omega))
  clear hown hgrow HB3 HD3 HB4
  generalize hg1 : w1.heap.size = g1 at *
  generalize hg3 : w3.heap.size = g3 at *
  have hz0 : outZ key info n 0 = List.replicate n 0 := outZ_zero key info n
  have HZ0 : Hid (outZ key info n 0 = List.replicate n 0) := hz0
  clear hz0
  go_loopw [10, 11, 12] (fun lv iv av wr => ∃ k : Nat, k ≤ (n + 31) / 32 ∧ iv = .int .u8 ((k : Int) + 1) ∧ av = .int .i64 ((Nat.min (32 * k) n : Nat) : Int) ∧ (∃ (al : Option Addr) (cl : Nat), lv = .slice al (expT key info k).length cl ∧ (expT key info k).length ≤ cl ∧ Row wr al (expT key info k).length (expT key info k)) ∧ DAt wr g3 0 (outZ key info n k) ∧ wr.there g3 0 n ∧ DAt wr g1 0 kk ∧ Below w.heap.size w wr ∧ (g3 < wr.heap.size ∨ n = 0)) (fun _ iv _ _ => 100 - (intOf iv).toNat)
  case atStart => exact ⟨0, Nat.zero_le _, rfl, by rw [Nat.mul_zero]; show _ = Value.int .i64 ((Nat.min 0 n : Nat) : Int); rw [show Nat.min 0 n = 0 from Nat.zero_min n]; rfl, ⟨none, 0, rfl, Nat.le_refl _, Row.nil _⟩, by rw [HZ0.out]; exact HO4.out.1, HO4.out.2, HD4.out, HBB.out, HS4.out⟩
  case round =>
    clear HO4 HS4 HD4 HBB HZ0
    obtain ⟨k, hk, rfl, rfl, ⟨al, cl, rfl, hcl, hL⟩, hO, hT, hD, hB, hS⟩ := hrel
    have hTl := expT_le key info k
    have HT1 : Hid (expT key info (k + 1) = macL key (expT key info k ++ info ++ [UInt8.ofNat (k + 1)])) := rfl
    have HTn : Hid ((expT key info (k + 1)).length = 32) := expT_length key info k
    by_cases hlt : 32 * k < n
    · have hg3 : g3 < wr.heap.size := by
        rcases hS with h | h
        · exact h
        · omega
      have hg1 : g1 < wr.heap.size := cell_block (hD.cell 0 (by omega))
      have hk62 : k ≤ 62 := by omega
      have HOS : Hid (blkPut (outZ key info n k) (32 * k) ((expT key info (k + 1)).take (Nat.min 32 (n - 32 * k))) = outZ key info n (k + 1)) := outZ_succ key info n k hlt
      have hmn : Nat.min (32 * k) n = 32 * k := Nat.min_eq_left (by omega)
      rw [hmn]
      have HOL : Hid ((outZ key info n k).length = n) := outZ_length key info n k
      have HNX : Hid (32 * k + Nat.min 32 (n - 32 * k) = Nat.min (32 * (k + 1)) n ∧ Nat.min 32 (n - 32 * k) ≤ 32 ∧ 32 * k + Nat.min 32 (n - 32 * k) ≤ n) := by
        by_cases hc : 32 ≤ n - 32 * k
        · have e1 : Nat.min 32 (n - 32 * k) = 32 := Nat.min_eq_left hc
          have e2 : Nat.min (32 * (k + 1)) n = 32 * (k + 1) := Nat.min_eq_left (by omega)
          rw [Hid, e1, e2]; omega
        · have e1 : Nat.min 32 (n - 32 * k) = n - 32 * k := Nat.min_eq_right (by omega)
          have e2 : Nat.min (32 * (k + 1)) n = n := Nat.min_eq_right (by omega)
          rw [Hid, e1, e2]; omega
      generalize hT0 : expT key info k = T at *
      generalize hT1 : expT key info (k + 1) = T1 at *
      have HTE : Hid (expT key info (k + 1) = T1) := hT1
      clear hT0 hT1
      generalize hq : 32 * k = q at *
      have HQ : Hid (32 * k = q) := hq
      clear hq hmn
      generalize hm : Nat.min 32 (n - q) = m at *
      have HMm : Hid (Nat.min 32 (n - q) = m) := hm
      clear hm
      have hCV : (k : Int) + 1 = (((UInt8.ofNat (k + 1)).toNat : Nat) : Int) := by rw [UInt8.toNat_ofNat']; omega
      have HCV : Hid ((k : Int) + 1 = (((UInt8.ofNat (k + 1)).toNat : Nat) : Int)) := hCV
      clear hCV
      have hba : Below wr.heap.size wr (wr.alloc (.cells #[.int .u8 ((k : Int) + 1)] 5)) := (Below.refl _ _).alloc (Nat.le_refl _) _
      have R1a : Row (wr.alloc (.cells #[.int .u8 ((k : Int) + 1)] 5)) (some ⟨wr.heap.size, 0, none⟩) 1 [UInt8.ofNat (k + 1)] := Row.lit1v wr (UInt8.ofNat (k + 1)) 5 _ HCV.out
      have hsa : (wr.alloc (.cells #[.int .u8 ((k : Int) + 1)] 5)).heap.size = wr.heap.size + 1 := by simp
      have HRb : Hid (BRows ((wr.alloc (.cells #[.int .u8 ((k : Int) + 1)] 5)).alloc (.cells #[.slice al T.length cl, .slice a2 n2 c2, .slice (some ⟨wr.heap.size, 0, none⟩) 1 1] 22)) (some ⟨wr.heap.size + 1, 0, none⟩) 3 [T, info, [UInt8.ofNat (k + 1)]]) := by
        have := BRows.lit3 (t := 22) hcl (hL.below hba) hc2 ((HG.out.2.2.below hB).below hba) (Nat.le_refl 1) R1a
        rw [hsa] at this
        exact this
      have HBb : Hid (Below wr.heap.size wr ((wr.alloc (.cells #[.int .u8 ((k : Int) + 1)] 5)).alloc (.cells #[.slice al T.length cl, .slice a2 n2 c2, .slice (some ⟨wr.heap.size, 0, none⟩) 1 1] 22))) := hba.alloc hba.size _
      have hfl : [T, info, [UInt8.ofNat (k + 1)]].flatten = T ++ info ++ [UInt8.ofNat (k + 1)] := by simp
      have hfn : [T, info, [UInt8.ofNat (k + 1)]].flatten.length ≤ 100000000000000000 := by rw [hfl]; simp; omega
      have HMe : Hid (shaL (padX kk 92 64 ++ shaL (padX kk 54 64 ++ [T, info, [UInt8.ofNat (k + 1)]].flatten)) = T1) := by
        unfold Hid
        rw [hfl, HM.out, HT1.out]
      have HOD : Hid (DAt wr g3 0 (outZ key info n k) ∧ wr.there g3 0 n ∧ DAt wr g1 0 kk ∧ Below w.heap.size w wr) := ⟨hO, hT, hD, hB⟩
      clear hba R1a hsa hfl hL hO hT hD hB hS HT1
      have hq0 : (0 : Int) ≤ (q : Int) := by omega
      have hq1 : (q : Int) < (n : Int) := by omega
      have hq2 : (q : Int) ≤ (n : Int) := by omega
      have hqn : ¬ n = q := by omega
      go_wp2_with (refine wpList_load_mid (by rfl) 58 (.tmp 8) (by rfl) g1 0 (by rfl) (cellsB kk) _ HOD.out.2.2.1 Tryd.underlying58 (by rfl) (by rw [cellsB_length, hkl]; exact Tryd.sizeKblock) ?_)
      refine (wkmac_any kk _ 3 3 _ _ (HG.out.1.below (HOD.out.2.2.2.trans (HBb.out.mono HOD.out.2.2.2.size))) hkl HRb.out (by omega) (by omega) hfn).mono ?_
      rintro e w5 ⟨rfl, hb5⟩
      rw [HMe.out]
      have hb5' : Below wr.heap.size wr w5 := below_trans HBb.out hb5
      have hs5 := hb5'.size
      obtain ⟨w6, hw6⟩ : ∃ w6, w5.alloc (.cells (cellsB z32).toArray 25) = w6 := ⟨_, rfl⟩
      have ht6 : Hid (w6.there w5.heap.size 0 32) := by rw [← hw6]; exact alloc_thereAt _ _ _ 32 _ rfl z32_size.symm
      have hb7 : Below wr.heap.size wr (w6.setCells w5.heap.size 0 (cellsB T1)) := by rw [← hw6]; exact below_trans hb5' (new_stored _ _ _)
      have HD7 : Hid (DAt (w6.setCells w5.heap.size 0 (cellsB T1)) w5.heap.size 0 T1) := dat_stored ht6.out HTn.out
      have HB7 : Hid (Below wr.heap.size wr (w6.setCells w5.heap.size 0 (cellsB T1))) := hb7
      clear hb5 hb5' hb7 HRb HBb hfn HMe HCV
      generalize hw7 : w6.setCells w5.heap.size 0 (cellsB T1) = w7 at *
      have HR7 : Hid (Row w7 (some ⟨w5.heap.size, 0, none⟩) 32 T1) := HD7.out.row HTn.out
      have HO7 : Hid (DAt w7 g3 0 (outZ key info n k) ∧ w7.there g3 0 n ∧ DAt w7 g1 0 kk ∧ Below w.heap.size w w7) :=
        ⟨HOD.out.1.below HB7.out hg3, there_below HOD.out.2.1 HB7.out hg3, HOD.out.2.2.1.below HB7.out hg1, HOD.out.2.2.2.trans (HB7.out.mono HOD.out.2.2.2.size)⟩
      have HTm : Hid (w7.there g3 q m) := fun j hj => by
        have := HO7.out.2.1 (q + j) (by have := HNX.out.2.2; omega)
        rwa [Nat.zero_add] at this
      have HX : Hid (DAt (w7.setCells g3 q (cellsB (T1.take m))) g3 0 (outZ key info n (k + 1)) ∧ (w7.setCells g3 q (cellsB (T1.take m))).there g3 0 n ∧ DAt (w7.setCells g3 q (cellsB (T1.take m))) g1 0 kk ∧ Below w.heap.size w (w7.setCells g3 q (cellsB (T1.take m))) ∧ Row (w7.setCells g3 q (cellsB (T1.take m))) (some ⟨w5.heap.size, 0, none⟩) 32 T1 ∧ g3 < (w7.setCells g3 q (cellsB (T1.take m))).heap.size) := by
        have hlm : (T1.take m).length = m := by rw [List.length_take, HTn.out]; have := HNX.out.2.1; omega
        refine ⟨?_, World.there_setCells HO7.out.2.1 _ _ _, World.rangeAt_setCells_apart HO7.out.2.2.1 _ _ _ (.inl (by omega)), below_setCells _ (by omega) _ _ _ HO7.out.2.2.2, ?_, ?_⟩
        · have := dat_put (r := q) (y := T1.take m) HO7.out.1 (by rw [HOL.out]; exact HO7.out.2.1) (by rw [HOL.out, hlm]; exact HNX.out.2.2)
          rw [Nat.zero_add, HOS.out] at this
          exact this
        · have : DAt (w7.setCells g3 q (cellsB (T1.take m))) w5.heap.size 0 T1 := World.rangeAt_setCells_apart HD7.out _ _ _ (.inl (by omega))
          exact this.row HTn.out
        · have := (gr_setCells g3 (cellsB (T1.take m)) q w7).size
          have := HB7.out.size
          omega
      have hm2 : (q : Int) + (m : Int) ≤ 2000 := by have := HNX.out.2.2; omega
      clear HD7 HOD HO7 HB7 HOS HOL
      go_wp2_with (first
        | (refine wpList_allocE (by rfl) 25 (by rfl) (cellsB z32).toArray Tryd.zeroDigest w5.heap.size rfl w6 hw6 ?_)
        | (refine wpList_store_mid (by rfl) 25 (.tmp 13) (.tmp 36) (by rfl) w5.heap.size 0 (cellsB T1).toArray (by rfl) (by rfl) (by rw [cellsB_size, HTn.out]; exact ht6.out) (by rw [cellsB_size, HTn.out]; exact Tryd.sizeDigest) (all_oneCell_toArray (cellsB_one _)) ?_; rw [show (cellsB T1).toArray.toList = cellsB T1 from rfl, hw7])
        | (refine wpList_copy_bytes (by rfl) (.tmp 41) (.tmp 42) 22 22 (by rfl) 5 Tryd.underlying22 Tryd.sizeU8 (some ⟨g3, q, none⟩) (n - q) (n - q) (by first | rfl | (simp only [hqn, if_false]; rfl)) _ 32 32 T1 (by rfl) HR7.out m HMm.out.symm g3 q (fun _ => rfl) HTm.out ?_))
      refine ⟨⟨k + 1, by have := HQ.out; omega, by go_num, by rw [← HNX.out.1, Int.natCast_add], ⟨some ⟨w5.heap.size, 0, none⟩, 32, by rw [HTE.out, HTn.out], by rw [HTE.out, HTn.out]; exact Nat.le_refl _, by rw [HTE.out, HTn.out]; exact HX.out.2.2.2.2.1⟩, HX.out.1, HX.out.2.1, HX.out.2.2.1, HX.out.2.2.2.1, .inl HX.out.2.2.2.2.2⟩, by simp [intOf]; omega⟩
    · have hmn : Nat.min (32 * k) n = n := Nat.min_eq_right (by omega)
      have HOE : Hid (outZ key info n k = expL key info n) := outZ_end key info n k (by omega) hk
      have hlE := expL_length key info n
      have HRO : Hid (Row wr (some ⟨g3, 0, none⟩) n (expL key info n)) := by
        rw [HOE.out] at hO
        exact ⟨hlE, .inr ⟨g3, 0, rfl, fun i hi => hO.cell i (by omega)⟩⟩
      have HBr : Hid (Below w.heap.size w wr) := hB
      rw [hmn]
      clear hmn HOE hL hO hT hD hB hS HT1 HTn
      go_wp2
      go_ret2
      exact ⟨⟨g3, rfl, by omega, HRO.out⟩, HBr.out⟩
end Go.Proofs.YtlekbfbhkgnpjaaDoor
