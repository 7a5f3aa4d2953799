/- The contract of state.digest: the words as bytes. -/
import Derived.Test.YtbpkhpkllokbhaaDoorWafter
namespace Go.Proofs.YtbpkhpkllokbhaaDoor
open Go.RowKit
set_option linter.unusedVariables false
set_option linter.unusedSimpArgs false

theorem out_eq (x k : Nat) (e : Nat) (h : e = 24 - k % 4 * 8) : (x : Int) / 2 ^ e % 256 = ((x >>> (24 - k % 4 * 8) % 256 : Nat) : Int) := by
  rw [← h, Nat.shiftRight_eq_div_pow, Int.natCast_emod, Int.natCast_ediv, Int.natCast_pow]
  rfl

set_option maxRecDepth 100000 in
set_option maxHeartbeats 1000000 in
theorem wdigest_any (h : List Nat) (w : World) (h8 : h.length = 8) (hf : Fit h) :
    Calls Tryd.prog 43 #[.agg (cellsW h).toArray] w fun e w' => e = .returned (digestV (outL h)) ∧ Below w.heap.size w w' := by
  go_enter Tryd.func43, Tryd.ntmps43
  go_wp2_with fail
  go_loopw [5] (fun i wr => ∃ t : Nat, t ≤ 32 ∧ i = .int .i64 (t : Int) ∧ OwnK .u8 24 wr (w.heap.size + 1 + 1) (w.heap.size + 1 + 1) 32 32 (fun q => if q < t then nth (outL h) q else 0) ∧ WAt wr w.heap.size 0 h ∧ wr.there (w.heap.size + 1) 0 32 ∧ Below w.heap.size w wr) (fun i _ => 32 - (intOf i).toNat)
  case atStart =>
    refine ⟨0, Nat.zero_le _, rfl, ?_, ?_, ?_, ?_⟩
    · refine OwnK.congr (f := fun _ => 0) ?_ (fun i hi => by rw [if_neg (by omega)])
      refine OwnK.newAt _ _ 24 32 (by omega) (fun _ => 0) _ (by simp) ?_
      kernel_rfl
    · exact World.rangeAt_alloc (World.rangeAt_alloc (box_range w (cellsW h) _) _) _
    · refine World.there_alloc (alloc_thereAt _ _ _ 32 _ (by simp) ?_) _
      kernel_rfl
    · exact (((Below.refl _ _).alloc (Nat.le_refl _) _).alloc (by simp) _).alloc (by simp; omega) _
  case round =>
    obtain ⟨t, ht, rfl, hO, hh, hT, hB⟩ := hrel
    by_cases hlt : t < 32
    · have c0 := hO.cell t hlt
      rw [if_neg (by omega)] at c0
      have z0 := hO.frozen t
      have ch := hh.cell (t / 4) (by omega)
      rw [Nat.zero_add] at ch
      have fx := hf (t / 4)
      have HN : Hid (nth (outL h) t = ((at' h (t / 4) >>> (24 - t % 4 * 8) % 256 : Nat) : Int)) := nth_outL _ _ hlt
      have HO : Hid (OwnK .u8 24 wr (w.heap.size + 1 + 1) (w.heap.size + 1 + 1) 32 32 (fun q => if q < t then nth (outL h) q else 0)) := hO
      have HH : Hid (WAt wr w.heap.size 0 h ∧ wr.there (w.heap.size + 1) 0 32) := ⟨hh, hT⟩
      clear hO hh hT
      generalize hx : at' h (t / 4) = x at *
      clear hx
      go_wp2
      go_roundw
      case rel =>
        refine ⟨t + 1, by omega, by go_num, (OwnK.store HO.out t _).congr fun q hq => ?_, range_set HH.out.1 _ _ _ (by omega), there_set HH.out.2 _ _ _, hB.setCell (by show w.heap.size ≤ w.heap.size + 1 + 1; omega) _⟩
        by_cases hqt : q = t
        · subst hqt
          rw [if_pos rfl, if_pos (by omega), HN.out]
          exact out_eq x q _ (by omega)
        · rw [if_neg hqt]
          by_cases hlt2 : q < t
          · rw [if_pos hlt2, if_pos (by omega)]
          · rw [if_neg hlt2, if_neg (by omega)]
      case measure => simp [intOf]; omega
    · obtain rfl : t = 32 := by omega
      have HD : Hid (DAt wr (w.heap.size + 1 + 1) 0 (outL h)) := hO.dat (outL_length _) fun i hi => by rw [if_pos hi]
      have HT : Hid (wr.there (w.heap.size + 1) 0 32) := hT
      have hlen := outL_length h
      clear hO hT hh
      generalize hD : outL h = D at *
      have HE : Hid (outL h = D) := hD
      clear hD
      go_wp2_with (first
        | (refine wpList_load_mid (by rfl) 24 (.tmp 3) (by rfl) (w.heap.size + 1 + 1) 0 (by rfl) (cellsB D) _ HD.out Tryd.underlying24 (by rfl) (by rw [cellsB_length, hlen]; kernel_rfl) ?_)
        | (refine wpList_store_mid (by rfl) 24 (.tmp 2) (.tmp 21) (by rfl) (w.heap.size + 1) 0 (cellsB D).toArray (by rfl) (by rfl) (by rw [cellsB_size, hlen]; exact HT.out) (by rw [cellsB_size, hlen]; kernel_rfl) (all_oneCell_toArray (cellsB_one _)) ?_))
      refine bodyPost_ret (v := digestV D) (run_results_row Tryd.results43 _ _ (w.heap.size + 1) 0 (by rfl) (cellsB D) (World.rangeAt_setCells_same _ _ _ _ (by rw [cellsB_length, hlen]; exact HT.out)) _ Tryd.underlying24 (by rfl) (by rw [cellsB_length, hlen]; kernel_rfl)) rfl ⟨by rw [HE.out], ?_⟩
      exact below_setCells _ (by omega) _ _ _ hB
end Go.Proofs.YtbpkhpkllokbhaaDoor
