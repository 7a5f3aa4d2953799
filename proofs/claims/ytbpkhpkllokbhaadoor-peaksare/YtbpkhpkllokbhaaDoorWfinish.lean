/- The contract of Hasher.finish: what stands behind the bytes. -/
import Derived.Test.YtbpkhpkllokbhaaDoorWwrite
namespace Go.Proofs.YtbpkhpkllokbhaaDoor
open Go.RowKit
set_option linter.unusedVariables false
set_option linter.unusedSimpArgs false

/-- What stands behind n bytes: 128, zeros, eight bytes of their bits' number. -/
def endL (n : Nat) : List UInt8 := [128] ++ List.replicate ((119 - n % 64) % 64) 0 ++ putL (8 * n) 8
theorem endL_length (n : Nat) : (endL n).length = 1 + (119 - n % 64) % 64 + 8 := by simp [endL, putL_length]; omega
theorem padL_end (l : List UInt8) : padL l = l ++ endL l.length := by simp [padL, endL]
theorem endL_nth (n z : Nat) (hz : (119 - n % 64) % 64 = z) (q : Nat) (hq : q < 1 + z + 8) : nth (endL n) q = if q = 0 then 128 else if q < 1 + z then 0 else putB (8 * (n : Int)) 8 (q - (1 + z)) := by
  unfold endL
  rw [hz]
  by_cases h0 : q = 0
  · subst h0; rfl
  · rw [if_neg h0]
    obtain ⟨j, rfl⟩ : ∃ j, q = j + 1 := ⟨q - 1, by omega⟩
    have e1 : nth ([128] ++ List.replicate z 0 ++ putL (8 * (n : Int)) 8) (j + 1) = nth (List.replicate z 0 ++ putL (8 * (n : Int)) 8) j := by unfold nth; simp [List.getD_eq_getElem?_getD]
    rw [e1]
    by_cases h1 : j + 1 < 1 + z
    · rw [if_pos h1]
      unfold nth
      rw [List.getD_eq_getElem?_getD, List.getElem?_append_left (by simp; omega), List.getElem?_replicate, if_pos (by omega)]
      rfl
    · rw [if_neg h1, ← nth_putL _ _ _ (by omega)]
      unfold nth
      rw [List.getD_eq_getElem?_getD, List.getD_eq_getElem?_getD, List.getElem?_append_right (by simp; omega), List.length_replicate, show j + 1 - (1 + z) = j - z by omega]
theorem put_shr (n i e : Nat) (hi : i < 8) (h : e = 8 * (7 - i)) : (n : Int) * 8 / 2 ^ e % 256 = putB (8 * (n : Int)) 8 i := by
  unfold putB
  rw [h, Int.pow_mul, Int.mul_comm, show 8 - 1 - i = 7 - i by omega]
  rfl
/-- 72 bytes 0. -/
def z72 : List UInt8 := List.replicate 72 0
theorem z72_length : (cellsB z72).length = 72 := by rw [cellsB_length]; rfl
theorem Tryd.zero72 : (Tryd.prog.info? 104).map (·.zero) = some (some (.agg (cellsB z72).toArray)) := by kernel_rfl
theorem z72_cells : (cellsB z72) = (List.range 72).map fun _ => Value.int .u8 0 := by kernel_rfl

set_option maxRecDepth 100000 in
set_option maxHeartbeats 1000000 in
theorem wfinish_any (g : Nat) (l : List UInt8) (w : World) (G : Tab w) (H : Hasher w g l) (hG : g ≠ 1) (hn : l.length ≤ 1000000000000000000) :
    Calls Tryd.prog 42 #[.pointer (some ⟨g, 0, none⟩)] w fun e w' => e = .returned (.tuple #[]) ∧ Hasher w' g (padL l) ∧ w.grownBy w' (some g) := by
  have hgl := H.block
  have hct : w.cell? ⟨g, 72, none⟩ = some (.int .i64 ((l.length : Nat) : Int)) := by
    obtain ⟨h, blk, HA, HK⟩ := H
    exact HA.2.2.1
  obtain ⟨w1, hw1⟩ : ∃ w1, w.alloc (.cells (cellsB z72).toArray 104) = w1 := ⟨_, rfl⟩
  have hO : OwnK .u8 104 w1 w.heap.size w.heap.size 72 72 (fun _ => 0) := by
    rw [← hw1]
    exact OwnK.newAt w _ _ 72 (by omega) (fun _ => 0) _ rfl z72_cells
  have hB : Below w.heap.size w w1 := by rw [← hw1]; exact (Below.refl _ _).alloc (Nat.le_refl _) _
  have HH : Hid (Hasher w g l ∧ Tab w) := ⟨H, G⟩
  have hct1 := (hB.cell (p := ⟨g, 72, none⟩) hgl).trans hct
  clear H G
  have HL : Hid (padL l = l ++ endL l.length) := padL_end l
  have HLn : Hid (l.length = l.length) := rfl
  generalize hL : l.length = L at *
  have HLL : Hid (l.length = L) := hL
  clear hL HLn
  have c0 := hO.cell 0 (by omega)
  have z0 := hO.frozen 0
  have HO : Hid (OwnK .u8 104 w1 w.heap.size w.heap.size 72 72 (fun _ => 0)) := hO
  have HB : Hid (Below w.heap.size w w1) := hB
  clear hO hB
  go_enter Tryd.func42, Tryd.ntmps42
  go_wp2_with (refine wpList_allocE (by rfl) 104 (by rfl) (cellsB z72).toArray Tryd.zero72 w.heap.size rfl w1 hw1 ?_)
  obtain ⟨z, hz⟩ : ∃ z, (119 - L % 64) % 64 = z := ⟨_, rfl⟩
  have HZ : Hid ((119 - L % 64) % 64 = z) := hz
  have hz64 : z < 64 := by omega
  clear hz
  have HO : Hid (OwnK .u8 104 (w1.setCell ⟨w.heap.size, 0, none⟩ (.int .u8 128)) w.heap.size w.heap.size 72 72 (fun q => if q = 0 then 128 else 0)) := OwnK.store HO.out 0 128
  have HB : Hid (Below w.heap.size w (w1.setCell ⟨w.heap.size, 0, none⟩ (.int .u8 128))) := Below.setCell HB.out (Nat.le_refl _) _
  have hct2 : (w1.setCell ⟨w.heap.size, 0, none⟩ (.int .u8 128)).cell? ⟨g, 72, none⟩ = some (.int .i64 (L : Int)) := (Below.cell HB.out (p := ⟨g, 72, none⟩) hgl).trans hct
  clear c0 z0 hw1
  generalize w1.setCell ⟨w.heap.size, 0, none⟩ (.int .u8 128) = w2 at *
  clear hct1 hct
  go_loopw [4] (fun v wr => ∃ n : Nat, 1 ≤ n ∧ n ≤ 1 + z ∧ v = .int .i64 (n : Int) ∧ Hid (wr = w2)) (fun v _ => 100 - (intOf v).toNat)
  case atStart => exact ⟨1, by omega, by omega, rfl, rfl⟩
  case round =>
    obtain ⟨n, hn1, hnz, rfl, HW⟩ := hrel
    obtain rfl : wr = w2 := HW.out
    clear HW
    have htm : ((L : Int) + (n : Int) + 8).tmod 64 = (((L + n + 8) % 64 : Nat) : Int) := by rw [Int.tmod_eq_emod_of_nonneg (by omega)]; omega
    have hzz := HZ.out
    by_cases hend : n = 1 + z
    · have hz : ((L : Int) + (n : Int) + 8).tmod 64 = 0 := by rw [htm]; omega
      clear htm hzz
      have HNZ : Hid (n = 1 + z) := hend
      have hn64 : n ≤ 64 := by omega
      clear hend
      go_wp2_with fail
      go_loopw [24] (fun i wx => ∃ t : Nat, t ≤ 8 ∧ i = .int .i64 (t : Int) ∧ OwnK .u8 104 wx w.heap.size w.heap.size 72 72 (fun q => if q = 0 then 128 else if q < n then 0 else if q < n + t then putB (8 * (L : Int)) 8 (q - n) else 0) ∧ Below w.heap.size w wx) (fun i _ => 8 - (intOf i).toNat)
      case atStart =>
        refine ⟨0, Nat.zero_le _, rfl, OwnK.congr HO.out fun q hq => ?_, HB.out⟩
        by_cases h0 : q = 0
        · rw [if_pos h0, if_pos h0]
        · rw [if_neg h0, if_neg h0]
          by_cases h1 : q < n
          · rw [if_pos h1]
          · rw [if_neg h1, if_neg (by omega)]
      case round =>
        clear hct2 HO HB hz
        obtain ⟨t, ht, rfl, hO, hB⟩ := hrel
        by_cases hlt : t < 8
        · have c0 := hO.cell (n + t) (by omega)
          have z0 := hO.frozen (n + t)
          have HO : Hid (OwnK .u8 104 wr w.heap.size w.heap.size 72 72 (fun q => if q = 0 then 128 else if q < n then 0 else if q < n + t then putB (8 * (L : Int)) 8 (q - n) else 0)) := hO
          clear hO
          rw [if_neg (by omega), if_neg (by omega), if_neg (by omega)] at c0
          go_wp2
          go_roundw
          case rel =>
            refine ⟨t + 1, by omega, by go_num, (OwnK.store HO.out (n + t) _).congr fun q hq => ?_, Below.setCell hB (Nat.le_refl _) _⟩
            by_cases hqt : q = n + t
            · subst hqt
              rw [if_pos rfl, if_neg (by omega), if_neg (by omega), if_pos (by omega), Nat.add_sub_cancel_left]
              exact put_shr L t _ hlt rfl
            · rw [if_neg hqt]
              by_cases h0 : q = 0
              · rw [if_pos h0, if_pos h0]
              · rw [if_neg h0, if_neg h0]
                by_cases h1 : q < n
                · rw [if_pos h1, if_pos h1]
                · rw [if_neg h1, if_neg h1]
                  by_cases h2 : q < n + t
                  · rw [if_pos h2, if_pos (by omega)]
                  · rw [if_neg h2, if_neg (by omega)]
          case measure => simp [intOf]; omega
        · obtain rfl : t = 8 := by omega
          have HR : Hid (Row wr (some ⟨w.heap.size, 0, none⟩) (n + 8) (endL L)) := by
            have hlen : (endL L).length = n + 8 := by rw [endL_length, HZ.out, HNZ.out]
            refine ⟨hlen, .inr ⟨w.heap.size, 0, rfl, fun i hi => ?_⟩⟩
            rw [Nat.zero_add, hO.cell i (by omega), endL_nth L z HZ.out i (by have := HNZ.out; omega), ← HNZ.out]
            by_cases h0 : i = 0
            · rw [if_pos h0, if_pos h0]
            · rw [if_neg h0, if_neg h0]
              by_cases h1 : i < n
              · rw [if_pos h1, if_pos h1]
              · rw [if_neg h1, if_neg h1, if_pos hi]
          have hB' : Hid (Below w.heap.size w wr) := hB
          clear hO hB
          have hs1 : (0 : Int) ≤ (n : Int) + 8 := by omega
          have hs2 : (n : Int) + 8 ≤ 72 := by omega
          go_wp2_with fail
          refine (wwrite_any g l _ _ 72 (endL L) wr (HH.out.2.below hB'.out) (HH.out.1.below hB'.out) HR.out (by omega) (fun _ ad h => by cases h; show w.heap.size ≠ g; omega) hG (by have := HLL.out; omega)).mono ?_
          rintro e w5 ⟨rfl, H5, hg5⟩
          have H5 : Hid (Hasher w5 g (padL l)) := by
            unfold Hid
            rw [HL.out]
            exact H5
          have hg6 := gr_trans (gr_below hB'.out (some g)) hg5
          go_wp2
          go_end0
          exact ⟨rfl, H5.out, hg6⟩
    · have hz : ¬ ((L : Int) + (n : Int) + 8).tmod 64 = 0 := by rw [htm]; omega
      have hz' : ¬ ((L : Int) + (n : Int) + 8) % 64 = 0 := by omega
      clear htm hzz
      go_wp2
      go_roundw
      case rel => exact ⟨n + 1, by omega, by omega, by go_num, by first | exact True.intro | exact rfl⟩
      case measure => simp [intOf]; omega
end Go.Proofs.YtbpkhpkllokbhaaDoor
