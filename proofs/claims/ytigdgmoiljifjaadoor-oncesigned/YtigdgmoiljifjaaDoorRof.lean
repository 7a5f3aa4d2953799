/- The contract of oathbookref1.Of: the digest of a byte and digests. -/
import Derived.Test.YtigdgmoiljifjaaDoorRsum
import Derived.Test.YtigdgmoiljifjaaDoorOpenD
namespace Go.Proofs.YtigdgmoiljifjaaDoor
open Go.RowKit
set_option linter.unusedVariables false
set_option linter.unusedSimpArgs false
theorem OwnL.lit1 (w : World) (B : Nat) (x : UInt8) (hB : B ≤ w.heap.size) : OwnL (w.alloc (.cells #[.int .u8 (x.toNat : Int)] 5)) B (.slice (some ⟨w.heap.size, 0, none⟩) 1 1) [x] :=
  World.ownsRow_lit w #[.int .u8 (x.toNat : Int)] 1 hB (by unfold maxLen; omega) rfl
theorem OwnL.lit1' (w : World) (B s : Nat) (x : UInt8) (hs : w.heap.size = s) (hB : B ≤ s) : OwnL (w.alloc (.cells #[.int .u8 (x.toNat : Int)] 5)) B (.slice (some ⟨s, 0, none⟩) 1 1) [x] := by
  subst hs
  exact OwnL.lit1 w B x hB
theorem take_flatten (ls : List (List UInt8)) (k : Nat) (h : k < ls.length) : (ls.take k).flatten ++ ls.getD k [] = (ls.take (k + 1)).flatten := by
  rw [List.take_succ_eq_append_getElem h, List.flatten_append]
  simp [List.getD_eq_getElem?_getD, List.getElem?_eq_getElem h]
theorem flatten_length {ls : List (List UInt8)} (h : ∀ l ∈ ls, l.length = 32) : ls.flatten.length = 32 * ls.length := by
  induction ls with
  | nil => rfl
  | cons a r ih =>
    rw [List.flatten_cons, List.length_append, h a (List.mem_cons_self ..), ih (fun l hl => h l (List.mem_cons_of_mem _ hl)), List.length_cons]
    omega
theorem take_len {ls : List (List UInt8)} (h : ∀ l ∈ ls, l.length = 32) (k : Nat) (hk : k ≤ ls.length) : (ls.take k).flatten.length = 32 * k := by
  rw [flatten_length (fun l hl => h l (List.mem_of_mem_take hl)), List.length_take, Nat.min_eq_left hk]

set_option maxRecDepth 100000 in
set_option maxHeartbeats 1000000 in
theorem rof_any (x : UInt8) (a : Option Addr) (n c : Nat) (ls : List (List UInt8)) (w : World) (R : DRow w a n ls) (hn : 32 * n ≤ 140737488351232) :
    Calls Tryd.prog 17 #[.int .u8 (x.toNat : Int), .slice a n c] w fun e w' => e = .returned (digestV (shaL (x :: ls.flatten))) ∧ Below w.heap.size w w' := by
  obtain ⟨i0, hi, hz0, hz1, hz2⟩ := info_parts Tryd.infoU8
  have HLS : Hid (ls.length = n ∧ ∀ l ∈ ls, l.length = 32) := ⟨R.1, R.2.1⟩
  have HLD : Hid (∀ i, i < n → (ls.getD i []).length = 32) := R.len
  have HD : Hid (n = 0 ∨ ∃ b o, a = some ⟨b, o, none⟩ ∧ ∀ i, i < n → DAt w b (o + 32 * i) (ls.getD i [])) := R.2.2
  clear R
  go_enter Tryd.func17, Tryd.ntmps17
  go_wp2
  go_loopw [5, 6] (fun v i wr => ∃ k : Nat, k ≤ n ∧ i = .int .i64 (k : Int) ∧ OwnL wr (w.heap.size + 1) v (x :: (ls.take k).flatten) ∧ Below (w.heap.size + 1) (w.alloc _) wr) (fun _ i _ => n - (intOf i).toNat)
  case atStart => exact ⟨0, Nat.zero_le _, rfl, OwnL.lit1' _ _ _ x (by simp) (Nat.le_refl _), (Below.refl _ _).alloc (by simp) _⟩
  case round =>
    obtain ⟨k, hk, rfl, hO, hB⟩ := hrel
    have hsz : w.heap.size + 1 ≤ wr.heap.size := by have := hB.size; simpa using this
    by_cases hlt : k < n
    · rcases HD.out with h0 | ⟨b, o, rfl, hc⟩
      · omega
      have BW : Below w.heap.size w wr := ((Below.refl _ _).alloc (Nat.le_refl _) _).trans (hB.mono (Nat.le_succ _))
      have hd := hc k hlt
      have hl := HLD.out k hlt
      have hd := hd.below BW (cell_block (hd.cell 0 (by omega)))
      have hk' := take_flatten ls k (by have := HLS.out.1; omega)
      generalize ls.getD k [] = d at *
      have HDk : Hid (DAt wr b (o + k * 32) d) := by rw [Nat.mul_comm k 32]; exact hd
      have HL : Hid (d.length = 32 ∧ (ls.take k).flatten ++ d = (ls.take (k + 1)).flatten) := ⟨hl, hk'⟩
      have HO : Hid (OwnL wr (w.heap.size + 1) u5 (x :: (ls.take k).flatten)) := hO
      have el : (x :: (ls.take k).flatten).length = 1 + 32 * k := by rw [List.length_cons, take_len HLS.out.2 k (by have := HLS.out.1; omega)]; omega
      have HEL : Hid ((x :: (ls.take k).flatten).length = 1 + 32 * k) := el
      clear hd hl hk' hc hO BW el
      go_wp2_with (first
        | (refine wpList_load_mid (by rfl) 23 (.tmp 18) (by rfl) b (o + k * 32) (by rfl) (cellsB d) _ HDk.out Tryd.underlying23 (by rfl) (by rw [cellsB_length, HL.out.1]; kernel_rfl) ?_)
        | (refine wpList_store_mid (by rfl) 23 (.tmp 7) (.tmp 19) (by rfl) wr.heap.size 0 (cellsB d).toArray (by rfl) (by rfl) (by rw [cells32 HL.out.1]; exact there_new wr _) (by rw [cells32 HL.out.1]; kernel_rfl) (all_oneCell_toArray (cellsB_one _)) ?_)
        | (at_builtin; refine wpList_append_bytes rfl (.tmp 20) (.tmp 21) 49 rfl (w.heap.size + 1) i0 Tryd.underlying49 hi hz0 hz1 hz2 u5 (x :: (ls.take k).flatten) rfl (OwnL.below HO.out (new_stored _ _ _)) (some ⟨wr.heap.size, 0, none⟩) 32 32 d rfl ((dat_stored (there_new wr _) HL.out.1).row HL.out.1) (by rw [HEL.out]; omega) (Nat.le_trans hsz (new_stored _ _ _).size) ?_; intro v5 w5 ho5 hg5))
      have B5 := OwnL.grown (OwnL.below HO.out (new_stored _ _ _)) (hB.trans ((new_stored wr _ _).mono hsz)) hg5 (Nat.le_refl _) (Nat.le_trans hsz (new_stored _ _ _).size)
      have ho5 : OwnL w5 (w.heap.size + 1) v5 (x :: (ls.take (k + 1)).flatten) := by rw [← HL.out.2]; exact ho5
      clear hg5 HO hB
      go_wp2
      go_roundw
      case rel => exact ⟨k + 1, by omega, by go_num, ho5, B5⟩
      case measure => simp [intOf]; omega
    · obtain rfl : k = n := by omega
      obtain ⟨g, c5, rfl, R5, _⟩ := hO.formSome (by simp)
      have el : (x :: (ls.take k).flatten).length = 1 + 32 * k := by rw [List.length_cons, take_len HLS.out.2 k (by have := HLS.out.1; omega)]; omega
      rw [el] at R5
      rw [el]
      have et : (ls.take k).flatten = ls.flatten := by rw [List.take_of_length_le (by have := HLS.out.1; omega)]
      rw [et] at R5
      have HT : Hid (wr.there w.heap.size 0 32) := there_digest hB
      clear hO el et
      go_wp2_with fail
      refine (rsum_any _ _ _ _ _ R5 (by omega)).mono ?_
      rintro e w6 ⟨rfl, hb6⟩
      go_wp2_with (refine wpList_store_mid (by rfl) 23 (.tmp 4) (.tmp 24) (by rfl) w.heap.size 0 (cellsB (shaL (x :: ls.flatten))).toArray (by rfl) (by rfl) (by rw [cells32 (shaL_length _)]; exact there_digest (hB.trans (hb6.mono hsz))) (by rw [cells32 (shaL_length _)]; kernel_rfl) (all_oneCell_toArray (cellsB_one _)) ?_)
      refine bodyPost_ret (v := digestV (shaL (x :: ls.flatten))) (run_results_digest Tryd.results17 _ _ w.heap.size 0 (by rfl) (shaL (x :: ls.flatten)) (dat_stored (there_digest (hB.trans (hb6.mono hsz))) (shaL_length _)) _ Tryd.underlying23 (by rfl) (by rw [shaL_length]; kernel_rfl)) rfl ⟨rfl, ?_⟩
      exact below_setCells _ (Nat.le_refl _) _ _ _ (((Below.refl _ _).alloc (Nat.le_refl _) _).trans ((hB.mono (Nat.le_succ _)).trans (hb6.mono (by omega))))
end Go.Proofs.YtigdgmoiljifjaaDoor
