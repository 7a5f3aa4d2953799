/- Texts of this claim, joined: Rrounds, Rsum, Rof, OwnD. -/
import Derived.Test.YtbhoijnhpmkglaaDoorJ01
import Derived.Test.YtbhoijnhpmkglaaDoorJ09
import Derived.Test.YtbhoijnhpmkglaaDoorJ02
import Derived.Test.YtbhoijnhpmkglaaDoorJ07
import Derived.Test.YtbhoijnhpmkglaaDoorJ08
/- The contract of oathbookref1.rounds: the words that are added in each round. -/
namespace Go.Proofs.YtbhoijnhpmkglaaDoor
open Go.RowKit
set_option linter.unusedVariables false
set_option linter.unusedSimpArgs false

theorem RowK.lit (k : IntKind) (w : World) (l : List Nat) (cs : Array Value) (t : TypeId) (hc : cs = (l.map fun (x : Nat) => Value.int k ((x : Nat) : Int)).toArray) : RowK k (w.alloc (.cells cs t)) (some ⟨w.heap.size, 0, none⟩) l.length l := by
  subst hc
  refine ⟨rfl, .inr ⟨w.heap.size, 0, rfl, fun i hi => ?_⟩⟩
  rw [Nat.zero_add]
  have h : (w.alloc (.cells (l.map fun (x : Nat) => Value.int k ((x : Nat) : Int)).toArray t)).heap[w.heap.size]? = some (.cells (l.map fun (x : Nat) => Value.int k ((x : Nat) : Int)).toArray t) := by
    show (w.heap.push _)[w.heap.size]? = _
    simp
  unfold World.cell?
  rw [h]
  unfold at'
  simp [List.getElem?_eq_getElem hi]

set_option maxRecDepth 100000 in
theorem rrounds_any (w : World) :
    Calls Tryd.prog 38 #[] w fun e w' => e = .returned (.slice (some ⟨w.heap.size, 0, none⟩) 64 64) ∧ RowK .i64 w' (some ⟨w.heap.size, 0, none⟩) 64 kW ∧ Below w.heap.size w w' := by
  go_enter Tryd.func38, Tryd.ntmps38
  go_wp2
  go_ret
  exact ⟨rfl, RowK.lit .i64 w kW _ 3 (by kernel_rfl), (Below.refl _ _).alloc (Nat.le_refl _) _⟩
end Go.Proofs.YtbhoijnhpmkglaaDoor
/- The contract of oathbookref1.Sum: the digest of bytes. -/
namespace Go.Proofs.YtbhoijnhpmkglaaDoor
open Go.RowKit
set_option linter.unusedVariables false
set_option linter.unusedSimpArgs false
theorem Tryd.infoU8 : (Tryd.prog.info? 5).map (fun i => (i.zero, i.size, i.bytes)) = some (some (.int .u8 0), 1, 1) := by kernel_rfl

/-- How long a slice is. -/
def lenV : Value → Nat
  | .slice _ n _ => n
  | _ => 0
theorem pad_zeros (n z : Nat) : (n + 1 + z) % 64 = 56 → z < 64 → z = (119 - n % 64) % 64 := by omega

set_option maxRecDepth 100000 in
set_option maxHeartbeats 1000000 in
theorem rsum_any (a : Option Addr) (n c : Nat) (l : List UInt8) (w : World) (R : Row w a n l) (hn : n ≤ 140737488354000) :
    Calls Tryd.prog 33 #[.slice a n c] w fun e w' => e = .returned (digestV (shaL l)) ∧ Below w.heap.size w w' := by
  obtain ⟨i0, hi, hz0, hz1, hz2⟩ := info_parts Tryd.infoU8
  have hln := R.1
  go_enter Tryd.func33, Tryd.ntmps33
  go_wp2_with (first
    | (at_builtin; refine wpList_append_bytes rfl (.tmp 11) (.tmp 12) 65 rfl (w.heap.size + 1) i0 Tryd.underlying65 hi hz0 hz1 hz2 (.slice (some ⟨w.heap.size + 1, 0, none⟩) 0 0) [] rfl (OwnL.lit0' _ _ (w.heap.size + 1) (by simp) (Nat.le_refl _)) a n c l rfl (R.below (((Below.refl _ _).alloc (Nat.le_refl _) _).alloc (by simp) _)) (by simp; omega) (by simp) ?_; intro v1 w1 ho1 hg1)
    | (at_builtin; refine wpList_append_bytes rfl (.tmp 13) (.tmp 14) 65 rfl (w.heap.size + 1) i0 Tryd.underlying65 hi hz0 hz1 hz2 _ ([] ++ l) rfl (World.ownsRow.alloc ho1 _) _ 1 1 [128] rfl (Row.lit1 w1 128 5) (by simp; omega) (by have := hg1.size; simp at this; simp; omega) ?_; intro v2 w2 ho2 hg2))
  have B1 : Below (w.heap.size + 1) (w.alloc _) w1 := ((Below.refl (w.heap.size + 1) (w.alloc _)).alloc (by simp) _).grown hg1 (by simp) (fun k hk => by cases hk; exact Nat.le_refl _)
  have B2 := OwnL.grown (World.ownsRow.alloc ho1 _) (B1.alloc (by have := B1.size; simpa using this) _) hg2 (Nat.le_refl _) (by have := B1.size; simp at this; simp; omega)
  rw [List.nil_append] at ho2
  clear ho1 hg1 hg2 B1
  go_loopw [3] (fun v wr => ∃ z : Nat, z ≤ (119 - n % 64) % 64 ∧ OwnL wr (w.heap.size + 1) v (l ++ [128] ++ List.replicate z 0) ∧ Below (w.heap.size + 1) (w.alloc _) wr) (fun v _ => n + 100 - lenV v)
  case atStart => exact ⟨0, Nat.zero_le _, by simpa using ho2, B2⟩
  case round =>
    clear ho2 B2
    obtain ⟨z, hz, hO, hB⟩ := hrel
    have el : (l ++ [128] ++ List.replicate z 0).length = n + 1 + z := by simp [hln]; omega
    have hsz := hB.size
    have hsz' : w.heap.size + 1 ≤ wr.heap.size := by simpa using hsz
    by_cases h56 : (n + 1 + z) % 64 = 56
    · have hzz := pad_zeros n z h56 (by omega)
      have HO : Hid (OwnL wr (w.heap.size + 1) u3 (l ++ [128] ++ List.replicate z 0)) := hO
      have HZ : Hid (l ++ [128] ++ List.replicate z 0 ++ putL ((8 * n : Nat) : Int) 8 = padL l) := by
        unfold Hid padL
        rw [hln, ← hzz, Int.natCast_mul]
        rfl
      obtain ⟨g3, c3, rfl, R3, hc3, hg3, hg3'⟩ := hO.formSome (by omega)
      rw [el] at HO R3 hc3
      rw [el]
      clear hO R3 hc3 hzz
      go_wp2_with fail
      refine (rput8 (8 * n) _ _ (by omega) (by omega)).mono ?_
      rintro e w4 ⟨⟨g4, rfl, hg4, r4⟩, hb4⟩
      have ho4 := OwnL.below HO.out hb4
      have B4 : Below (w.heap.size + 1) (w.alloc _) w4 := hB.trans (hb4.mono hsz')
      have hs4 := hb4.size
      clear HO hB hb4
      go_wp2_with (at_builtin; refine wpList_append_bytes rfl (.tmp 30) (.tmp 31) 65 rfl (w.heap.size + 1) i0 Tryd.underlying65 hi hz0 hz1 hz2 (.slice (some ⟨g3, 0, none⟩) (n + 1 + z) c3) (l ++ [128] ++ List.replicate z 0) rfl ho4 (some ⟨g4, 0, none⟩) 8 8 (putL ((8 * n : Nat) : Int) 8) rfl r4 (by rw [el]; omega) (by omega) ?_; intro v5 w5 ho5 hg5)
      have B5 := OwnL.grown ho4 B4 hg5 (Nat.le_refl _) (by omega)
      rw [HZ.out] at ho5
      have eN : (padL l).length = n + 1 + z + 8 := by rw [← HZ.out, List.length_append, el, putL_length]
      obtain ⟨g5, c5, rfl, R5, hc5, hg5', hg5''⟩ := ho5.formSome (by omega)
      rw [eN] at R5 hc5
      rw [eN]
      have HE : Hid ((padL l).length = n + 1 + z + 8) := eN
      clear ho4 hg5 r4 B4 HZ ho5 eN el
      go_wp2_with fail
      refine (rrounds_any _).mono ?_
      rintro e w6 ⟨rfl, rk, hb6⟩
      have hs5 : w5.heap.size < w6.heap.size := by have := hb6.size; simp at this; omega
      have rk : RowK .i64 w6 (some ⟨w5.heap.size + 1, 0, none⟩) 64 kW := by simpa using rk
      have rh := (RowK.lit .i64 w5 hW #[.int .i64 1779033703, .int .i64 3144134277, .int .i64 1013904242, .int .i64 2773480762, .int .i64 1359893119, .int .i64 2600822924, .int .i64 528734635, .int .i64 1541459225] 3 (by kernel_rfl)).below hb6
      have b56 : Below w5.heap.size w5 w6 := below_trans ((Below.refl _ _).alloc (Nat.le_refl _) _) hb6
      have R6 := R5.below b56
      have B6 : Below (w.heap.size + 1) (w.alloc _) w6 := B5.trans (b56.mono (by omega))
      clear R5 B5 hb6 b56
      go_wp2_with fail
      go_loopw [6, 8] (fun hv i wr => ∃ b gh ch : Nat, 64 * b ≤ n + 1 + z + 8 ∧ i = .int .i64 (64 * (b : Int)) ∧ hv = .slice (some ⟨gh, 0, none⟩) 8 ch ∧ RowK .i64 wr (some ⟨gh, 0, none⟩) 8 (hTo (padL l) b) ∧ Below w6.heap.size w6 wr) (fun _ i _ => n + 1 + z + 8 - (intOf i).toNat)
      case atStart => exact ⟨0, _, _, Nat.zero_le _, rfl, rfl, rh, Below.refl _ _⟩
      case round =>
        clear rh
        obtain ⟨b, gh, ch, hb, rfl, rfl, rh, hBr⟩ := hrel
        have R7 := R6.below hBr
        have rk7 := rk.below hBr
        by_cases hlt : 64 * b < n + 1 + z + 8
        · have h64 : 64 * b + 64 ≤ n + 1 + z + 8 := by omega
          have r64 : Row wr (some ⟨g5, 64 * b, none⟩) 64 (((padL l).drop (64 * b)).take 64) := by
            obtain ⟨q1, q2 | ⟨bb, oo, e1, q2⟩⟩ := R7
            · omega
            cases e1
            refine ⟨by have := HE.out; simp; omega, .inr ⟨g5, 64 * b, rfl, fun i hi => ?_⟩⟩
            have := q2 (64 * b + i) (by omega)
            rw [Nat.zero_add] at this
            rw [this]
            unfold nth
            simp [List.getD_eq_getElem?_getD, List.getElem?_take, hi, List.getElem?_drop]
          have HF : Hid (Fit (hTo (padL l) b)) := fit_hTo _ _
          have a1 : (0 : Int) ≤ 64 * (b : Int) := by omega
          have a2 : 64 * (b : Int) + 64 ≤ (n : Int) + 1 + (z : Int) + 8 := by omega
          have a3 : 64 * (b : Int) + 64 ≤ (c5 : Int) := by omega
          go_wp2_with fail
          refine (rblock_any _ _ _ _ _ _ (hTo (padL l) b) _ _ rh rk7 r64 (by omega) HF.out).mono ?_
          rintro e w8 ⟨⟨g8, c8, rfl, hg8, r8⟩, hb8⟩
          have B8 := below_trans hBr hb8
          have r8 : RowK .i64 w8 (some ⟨g8, 0, none⟩) 8 (hTo (padL l) (b + 1)) := r8
          clear rk7 R7 r64 rh hb8 hBr
          go_wp2
          go_roundw
          case rel => exact ⟨b + 1, g8, c8, by omega, by go_num, rfl, r8, B8⟩
          case measure => simp [intOf]; omega
        · have hbN : 64 * b = n + 1 + z + 8 := by omega
          have HB : Hid (b = (padL l).length / 64) := by unfold Hid; rw [HE.out]; omega
          rename World => wH
          have HR : Hid (RowK .i64 wH (some ⟨gh, 0, none⟩) 8 (hTo (padL l) b)) := rh
          clear rk7 R7 hlt
          obtain ⟨lh, q0 | ⟨bb, oo, e1, hcell⟩⟩ := rh
          · omega
          cases e1
          go_wp2_with fail
          go_loopw [10] (fun i wx => ∃ k : Nat, k ≤ 32 ∧ i = .int .i64 (k : Int) ∧ OwnK .u8 24 wx wH.heap.size wH.heap.size 32 32 (fun x => if x < k then nth (outL (hTo (padL l) b)) x else 0) ∧ Below wH.heap.size wH wx) (fun i _ => 32 - (intOf i).toNat)
          case atStart => exact ⟨0, Nat.zero_le _, rfl, (OwnK.zero32 wH 24).congr (fun i hi => by rw [if_neg (by omega)]), (Below.refl _ _).alloc (Nat.le_refl _) _⟩
          case round =>
            obtain ⟨k, hk, rfl, hD, hBx⟩ := hrel
            by_cases hk32 : k < 32
            · have c0 := hD.cell k hk32
              have z0 := hD.frozen k
              have hq := hcell (k / 4) (by omega)
              have ch4 := (hBx.cell (p := ⟨gh, 0 + k / 4, none⟩) (cell_block hq)).trans hq
              rw [Nat.zero_add] at ch4
              have HN : Hid (nth (outL (hTo (padL l) b)) k = ((at' (hTo (padL l) b) (k / 4) >>> (24 - k % 4 * 8) % 256 : Nat) : Int)) := nth_outL _ _ hk32
              have fx := fit_hTo (padL l) b (k / 4)
              have HD : Hid (OwnK .u8 24 wr wH.heap.size wH.heap.size 32 32 (fun x => if x < k then nth (outL (hTo (padL l) b)) x else 0)) := hD
              clear hD hq hcell
              generalize hx : at' (hTo (padL l) b) (k / 4) = x at *
              clear hx
              go_wp2
              go_roundw
              case rel =>
                refine ⟨k + 1, by omega, by go_num, (OwnK.store HD.out k _).congr fun i hi => ?_, hBx.setCell (Nat.le_refl _) _⟩
                by_cases hik : i = k
                · subst hik
                  rw [if_pos rfl, if_pos (by omega), HN.out, Nat.shiftRight_eq_div_pow, Int.natCast_emod, Int.natCast_ediv, Int.natCast_pow]
                  rfl
                · rw [if_neg hik]
                  by_cases hl2 : i < k
                  · rw [if_pos hl2, if_pos (by omega)]
                  · rw [if_neg hl2, if_neg (by omega)]
              case measure => simp [intOf]; omega
            · obtain rfl : k = 32 := by omega
              have HD : Hid (DAt wr wH.heap.size 0 (shaL l)) := by
                have hs : shaL l = outL (hTo (padL l) b) := by unfold shaL; rw [← HB.out]
                rw [hs]
                exact hD.dat (outL_length _) (fun i hi => by rw [if_pos hi])
              clear hD
              have BT := (B6.trans (hBr.mono (by omega))).trans (hBx.mono (by have := hBr.size; omega))
              have hth := there_digest BT
              have HT : Hid (wr.there w.heap.size 0 32) := hth
              have HBT : Hid (Below w.heap.size w wr) := ((Below.refl _ _).alloc (Nat.le_refl _) _).trans (BT.mono (Nat.le_succ _))
              clear hth BT B6 hBr hBx
              go_wp2_with (first
                | (refine wpList_load_mid (by rfl) 24 (.tmp 9) (by rfl) wH.heap.size 0 (by rfl) (cellsB (shaL l)) _ HD.out Tryd.underlying24 (by rfl) (by rw [cellsB_length, shaL_length]; kernel_rfl) ?_)
                | (refine wpList_store_mid (by rfl) 24 (.tmp 2) (.tmp 66) (by rfl) w.heap.size 0 (cellsB (shaL l)).toArray (by rfl) (by rfl) (by rw [cells32 (shaL_length l)]; exact HT.out) (by rw [cells32 (shaL_length l)]; kernel_rfl) (all_oneCell_toArray (cellsB_one _)) ?_))
              refine bodyPost_ret (v := digestV (shaL l)) (run_results_digest Tryd.results33 _ _ w.heap.size 0 (by rfl) (shaL l) (World.rangeAt_setCells_same _ _ _ _ (by rw [cellsB_length, shaL_length]; exact HT.out)) _ Tryd.underlying24 (by rfl) (by rw [shaL_length]; kernel_rfl)) rfl ⟨rfl, ?_⟩
              exact below_setCells _ (Nat.le_refl _) _ _ _ HBT.out
    · have hzlt : z < (119 - n % 64) % 64 := by omega
      have HO : Hid (OwnL wr (w.heap.size + 1) u3 (l ++ [128] ++ List.replicate z 0)) := hO
      obtain ⟨a3, c3, rfl, R3, hc3⟩ := hO.form
      rw [el] at HO R3
      rw [el]
      clear R3 hc3
      go_wp2_with (at_builtin; refine wpList_append_bytes rfl (.tmp 20) (.tmp 21) 65 rfl (w.heap.size + 1) i0 Tryd.underlying65 hi hz0 hz1 hz2 (.slice a3 (n + 1 + z) c3) (l ++ [128] ++ List.replicate z 0) rfl (World.ownsRow.alloc HO.out _) _ 1 1 [0] rfl (Row.lit1 wr 0 5) (by rw [el]; omega) (by simp; omega) ?_; intro v4 w4 ho4 hg4)
      have B4 := OwnL.grown (World.ownsRow.alloc HO.out _) (hB.alloc hsz' _) hg4 (Nat.le_refl _) (by simp; omega)
      have ho4 : OwnL w4 (w.heap.size + 1) v4 (l ++ [128] ++ List.replicate (z + 1) 0) := by
        rw [List.replicate_succ', ← List.append_assoc]; exact ho4
      have hv4 : lenV v4 = n + 2 + z := by
        obtain ⟨a5, c5, rfl, _⟩ := ho4.form
        simp [lenV, hln]
        omega
      have HV4 : Hid (lenV v4 = n + 2 + z) := hv4
      clear hv4
      go_wp2
      go_roundw
      case rel => exact ⟨z + 1, by omega, ho4, B4⟩
      case measure => rw [HV4.out]; simp [lenV]; omega
end Go.Proofs.YtbhoijnhpmkglaaDoor
/- The contract of oathbookref1.Of: the digest of a byte and digests. -/
namespace Go.Proofs.YtbhoijnhpmkglaaDoor
open Go.RowKit
set_option linter.unusedVariables false
set_option linter.unusedSimpArgs false
theorem OwnL.lit1 (w : World) (B : Nat) (x : UInt8) (hB : B ≤ w.heap.size) : OwnL (w.alloc (.cells #[.int .u8 (x.toNat : Int)] 5)) B (.slice (some ⟨w.heap.size, 0, none⟩) 1 1) [x] :=
  World.ownsRow_lit w #[.int .u8 (x.toNat : Int)] 1 hB (by unfold maxLen; omega) rfl
theorem OwnL.lit1' (w : World) (B s : Nat) (x : UInt8) (hs : w.heap.size = s) (hB : B ≤ s) : OwnL (w.alloc (.cells #[.int .u8 (x.toNat : Int)] 5)) B (.slice (some ⟨s, 0, none⟩) 1 1) [x] := by
  subst hs
  exact OwnL.lit1 w B x hB
theorem take_flatten (ls : List (List UInt8)) (k : Nat) (h : k < ls.length) : (ls.take k).flatten ++ ls.getD k [] = (ls.take (k + 1)).flatten := by
  rw [List.take_succ_eq_append_getElem h, List.flatten_append]
  simp [List.getD_eq_getElem?_getD, List.getElem?_eq_getElem h]
theorem flatten_length {ls : List (List UInt8)} (h : ∀ l ∈ ls, l.length = 32) : ls.flatten.length = 32 * ls.length := by
  induction ls with
  | nil => rfl
  | cons a r ih =>
    rw [List.flatten_cons, List.length_append, h a (List.mem_cons_self ..), ih (fun l hl => h l (List.mem_cons_of_mem _ hl)), List.length_cons]
    omega
theorem take_len {ls : List (List UInt8)} (h : ∀ l ∈ ls, l.length = 32) (k : Nat) (hk : k ≤ ls.length) : (ls.take k).flatten.length = 32 * k := by
  rw [flatten_length (fun l hl => h l (List.mem_of_mem_take hl)), List.length_take, Nat.min_eq_left hk]

set_option maxRecDepth 100000 in
set_option maxHeartbeats 1000000 in
theorem rof_any (x : UInt8) (a : Option Addr) (n c : Nat) (ls : List (List UInt8)) (w : World) (R : DRow w a n ls) (hn : 32 * n ≤ 140737488351232) :
    Calls Tryd.prog 36 #[.int .u8 (x.toNat : Int), .slice a n c] w fun e w' => e = .returned (digestV (shaL (x :: ls.flatten))) ∧ Below w.heap.size w w' := by
  obtain ⟨i0, hi, hz0, hz1, hz2⟩ := info_parts Tryd.infoU8
  have HLS : Hid (ls.length = n ∧ ∀ l ∈ ls, l.length = 32) := ⟨R.1, R.2.1⟩
  have HLD : Hid (∀ i, i < n → (ls.getD i []).length = 32) := R.len
  have HD : Hid (n = 0 ∨ ∃ b o, a = some ⟨b, o, none⟩ ∧ ∀ i, i < n → DAt w b (o + 32 * i) (ls.getD i [])) := R.2.2
  clear R
  go_enter Tryd.func36, Tryd.ntmps36
  go_wp2
  go_loopw [5, 6] (fun v i wr => ∃ k : Nat, k ≤ n ∧ i = .int .i64 (k : Int) ∧ OwnL wr (w.heap.size + 1) v (x :: (ls.take k).flatten) ∧ Below (w.heap.size + 1) (w.alloc _) wr) (fun _ i _ => n - (intOf i).toNat)
  case atStart => exact ⟨0, Nat.zero_le _, rfl, OwnL.lit1' _ _ _ x (by simp) (Nat.le_refl _), (Below.refl _ _).alloc (by simp) _⟩
  case round =>
    obtain ⟨k, hk, rfl, hO, hB⟩ := hrel
    have hsz : w.heap.size + 1 ≤ wr.heap.size := by have := hB.size; simpa using this
    by_cases hlt : k < n
    · rcases HD.out with h0 | ⟨b, o, rfl, hc⟩
      · omega
      have BW : Below w.heap.size w wr := ((Below.refl _ _).alloc (Nat.le_refl _) _).trans (hB.mono (Nat.le_succ _))
      have hd := hc k hlt
      have hl := HLD.out k hlt
      have hd := hd.below BW (cell_block (hd.cell 0 (by omega)))
      have hk' := take_flatten ls k (by have := HLS.out.1; omega)
      generalize ls.getD k [] = d at *
      have HDk : Hid (DAt wr b (o + k * 32) d) := by rw [Nat.mul_comm k 32]; exact hd
      have HL : Hid (d.length = 32 ∧ (ls.take k).flatten ++ d = (ls.take (k + 1)).flatten) := ⟨hl, hk'⟩
      have HO : Hid (OwnL wr (w.heap.size + 1) u5 (x :: (ls.take k).flatten)) := hO
      have el : (x :: (ls.take k).flatten).length = 1 + 32 * k := by rw [List.length_cons, take_len HLS.out.2 k (by have := HLS.out.1; omega)]; omega
      have HEL : Hid ((x :: (ls.take k).flatten).length = 1 + 32 * k) := el
      clear hd hl hk' hc hO BW el
      go_wp2_with (first
        | (refine wpList_load_mid (by rfl) 24 (.tmp 18) (by rfl) b (o + k * 32) (by rfl) (cellsB d) _ HDk.out Tryd.underlying24 (by rfl) (by rw [cellsB_length, HL.out.1]; kernel_rfl) ?_)
        | (refine wpList_store_mid (by rfl) 24 (.tmp 7) (.tmp 19) (by rfl) wr.heap.size 0 (cellsB d).toArray (by rfl) (by rfl) (by rw [cells32 HL.out.1]; exact there_new wr _) (by rw [cells32 HL.out.1]; kernel_rfl) (all_oneCell_toArray (cellsB_one _)) ?_)
        | (at_builtin; refine wpList_append_bytes rfl (.tmp 20) (.tmp 21) 65 rfl (w.heap.size + 1) i0 Tryd.underlying65 hi hz0 hz1 hz2 u5 (x :: (ls.take k).flatten) rfl (OwnL.below HO.out (new_stored _ _ _)) (some ⟨wr.heap.size, 0, none⟩) 32 32 d rfl ((dat_stored (there_new wr _) HL.out.1).row HL.out.1) (by rw [HEL.out]; omega) (Nat.le_trans hsz (new_stored _ _ _).size) ?_; intro v5 w5 ho5 hg5))
      have B5 := OwnL.grown (OwnL.below HO.out (new_stored _ _ _)) (hB.trans ((new_stored wr _ _).mono hsz)) hg5 (Nat.le_refl _) (Nat.le_trans hsz (new_stored _ _ _).size)
      have ho5 : OwnL w5 (w.heap.size + 1) v5 (x :: (ls.take (k + 1)).flatten) := by rw [← HL.out.2]; exact ho5
      clear hg5 HO hB
      go_wp2
      go_roundw
      case rel => exact ⟨k + 1, by omega, by go_num, ho5, B5⟩
      case measure => simp [intOf]; omega
    · obtain rfl : k = n := by omega
      obtain ⟨g, c5, rfl, R5, _⟩ := hO.formSome (by simp)
      have el : (x :: (ls.take k).flatten).length = 1 + 32 * k := by rw [List.length_cons, take_len HLS.out.2 k (by have := HLS.out.1; omega)]; omega
      rw [el] at R5
      rw [el]
      have et : (ls.take k).flatten = ls.flatten := by rw [List.take_of_length_le (by have := HLS.out.1; omega)]
      rw [et] at R5
      have HT : Hid (wr.there w.heap.size 0 32) := there_digest hB
      clear hO el et
      go_wp2_with fail
      refine (rsum_any _ _ _ _ _ R5 (by omega)).mono ?_
      rintro e w6 ⟨rfl, hb6⟩
      go_wp2_with (refine wpList_store_mid (by rfl) 24 (.tmp 4) (.tmp 24) (by rfl) w.heap.size 0 (cellsB (shaL (x :: ls.flatten))).toArray (by rfl) (by rfl) (by rw [cells32 (shaL_length _)]; exact there_digest (hB.trans (hb6.mono hsz))) (by rw [cells32 (shaL_length _)]; kernel_rfl) (all_oneCell_toArray (cellsB_one _)) ?_)
      refine bodyPost_ret (v := digestV (shaL (x :: ls.flatten))) (run_results_digest Tryd.results36 _ _ w.heap.size 0 (by rfl) (shaL (x :: ls.flatten)) (dat_stored (there_digest (hB.trans (hb6.mono hsz))) (shaL_length _)) _ Tryd.underlying24 (by rfl) (by rw [shaL_length]; kernel_rfl)) rfl ⟨rfl, ?_⟩
      exact below_setCells _ (Nat.le_refl _) _ _ _ (((Below.refl _ _).alloc (Nat.le_refl _) _).trans ((hB.mono (Nat.le_succ _)).trans (hb6.mono (by omega))))
end Go.Proofs.YtbhoijnhpmkglaaDoor
/- Rows of digests that a call itself made: read, and appended to. -/
namespace Go.Proofs.YtbhoijnhpmkglaaDoor
open Go.RowKit
set_option linter.unusedVariables false
set_option linter.unusedSimpArgs false

theorem flat_len {ls : List (List UInt8)} (h : ∀ l ∈ ls, l.length = 32) : ls.flatten.length = 32 * ls.length := by
  induction ls with
  | nil => rfl
  | cons l r ih =>
    rw [List.flatten_cons, List.length_append, h l (List.mem_cons_self ..), ih (fun x hx => h x (List.mem_cons_of_mem _ hx)), List.length_cons]
    omega
theorem nth_flat : ∀ {ls : List (List UInt8)}, (∀ l ∈ ls, l.length = 32) → ∀ (i j : Nat), i < ls.length → j < 32 → nth ls.flatten (32 * i + j) = nth (ls.getD i []) j
  | [], _, i, j, hi, _ => by simp at hi
  | l :: r, h, i, j, hi, hj => by
    have hl := h l (List.mem_cons_self ..)
    cases i with
    | zero =>
      unfold nth
      simp only [List.flatten_cons, List.getD_eq_getElem?_getD, Nat.mul_zero, Nat.zero_add]
      rw [List.getElem?_append_left (by omega)]
      rfl
    | succ i =>
      have ih := nth_flat (fun x hx => h x (List.mem_cons_of_mem _ hx)) i j (by simpa using hi) hj
      unfold nth at ih ⊢
      simp only [List.flatten_cons, List.getD_eq_getElem?_getD] at ih ⊢
      rw [List.getElem?_append_right (by omega), hl, show 32 * (i + 1) + j - 32 = 32 * i + j by omega, ih]
      rfl
/-- The call's own slice of digests v reads as ls. -/
def OwnD (w : World) (B : Nat) (v : Value) (ls : List (List UInt8)) : Prop := (∀ l ∈ ls, l.length = 32) ∧ w.ownsRow B 24 32 v ls.length (cellsB ls.flatten)
theorem OwnD.nil (w : World) (B : Nat) : OwnD w B (.slice none 0 0) [] := ⟨(fun l hl => by cases hl), World.ownsRow_nil _ _ _ _⟩
theorem OwnD.form {w : World} {B : Nat} {v : Value} {ls : List (List UInt8)} (h : OwnD w B v ls) : ∃ a cap, v = .slice a ls.length cap ∧ DRow w a ls.length ls ∧ ls.length ≤ cap := by
  obtain ⟨h32, h⟩ := h
  rcases h.2 with ⟨rfl, h0⟩ | ⟨g, cap, cur, rfl, h1, h2, h3, _⟩
  · exact ⟨none, 0, by rw [h0], ⟨rfl, h32, .inl h0⟩, by omega⟩
  · refine ⟨_, cap, rfl, ⟨rfl, h32, .inr ⟨g, 0, rfl, fun i hi => DAt.mk fun j hj => ?_⟩⟩, h3⟩
    have hlen : (ls.getD i []).length = 32 := by
      rw [List.getD_eq_getElem?_getD, List.getElem?_eq_getElem hi]
      exact h32 _ (List.getElem_mem _)
    rw [hlen] at hj
    have hf := flat_len h32
    rw [Nat.zero_add, World.ownsRow.cellAt h (32 * i + j) (by omega), cellsB_at _ _ (by omega), nth_flat h32 i j hi hj]
theorem OwnD.below {w w' : World} {B : Nat} {v : Value} {ls : List (List UInt8)} (h : OwnD w B v ls) (hb : Below w.heap.size w w') : OwnD w' B v ls := by
  refine ⟨h.1, ?_⟩
  have h := h.2
  rcases h.2 with ⟨h1, h0⟩ | ⟨g, cap, cur, e1, e2, e3, e4⟩
  · exact ⟨h.1, .inl ⟨h1, h0⟩⟩
  · have hg : g < w.heap.size := (World.ownsRow.lt h g (by rw [e1]; rfl)).2
    exact ⟨h.1, .inr ⟨g, cap, cur, e1, e2, (hb.block g hg).trans e3, e4⟩⟩
theorem OwnD.grown {w w0 w' : World} {B B0 : Nat} {v : Value} {ls : List (List UInt8)} (h : OwnD w B v ls) (hb : Below B0 w0 w) (hg : w.grownBy w' v.ownBlock) (h0 : B0 ≤ B) (hs : B0 ≤ w.heap.size) : Below B0 w0 w' :=
  hb.grown hg hs (fun k hk => Nat.le_trans h0 (World.ownsRow.lt h.2 k hk).1)
theorem OwnD.alloc {w : World} {B : Nat} {v : Value} {ls : List (List UInt8)} (h : OwnD w B v ls) (o : Obj) : OwnD (w.alloc o) B v ls := h.below ((Below.refl _ _).alloc (Nat.le_refl _) _)
theorem Tryd.infoDg : (Tryd.prog.info? 24).map (fun i => (i.zero, i.size, i.bytes)) = some (some (.agg zeros32), 32, 32) := by kernel_rfl
/-- 'append(v, ds...)', v the call's own row of digests. -/
theorem wpList_append_digests {w : World} {ops : Array Oper} {rest : List Oper} {o : Oper} {a : Act} {Q : Exit → Act → World → Prop} (hgd : o.guard = none) (s x : Operand)
    (ho : o.op = .call { callee := .builtin .append, args := #[s, x], argTypes := #[36, 36] })
    (base : Nat) (v : Value) (ls : List (List UInt8)) (hs : a.eval s = v) (hown : OwnD w base v ls)
    (ad : Addr) (n c : Nat) (ds : List (List UInt8)) (hx : a.eval x = .slice (some ad) n c) (hr : DRow w (some ad) n ds) (hn0 : 0 < n) (h47 : (ls.length + n) * 32 ≤ 140737488355328) (hbase : base ≤ w.heap.size)
    (h : ∀ v' w', OwnD w' base v' (ls ++ ds) → w.grownBy w' v.ownBlock → (v'.ownBlock = v.ownBlock ∨ v'.ownBlock = some w.heap.size) → wpList Tryd.prog ops Q rest (a.put o.dst v') w') : wpList Tryd.prog ops Q (o :: rest) a w := by
  obtain ⟨i0, hi, hz0, hz1, hz2⟩ := info_parts Tryd.infoDg
  have hlen := hr.len
  obtain ⟨hl, h32, h1 | ⟨b, off, e1, hc⟩⟩ := hr
  · omega
  cases e1
  have hf := flat_len h32
  refine wpList_append_own_at w hgd s x 36 ho base 24 i0 (.agg zeros32) 32 32 Tryd.underlying36 hi hz0 hz1 hz2 rfl (by decide) v ls.length (cellsB ls.flatten) hs hown.2 ⟨b, off, none⟩ n c (cellsB ds.flatten) hx (by rw [cellsB_length, hf, hl]; omega) ?_ (cellsB_one _) (by unfold maxLen; omega) h47 hbase ?_
  · intro j u hj
    have hj' : j < ds.flatten.length := by have := (List.getElem?_eq_some_iff.1 hj).1; rwa [cellsB_length] at this
    have hq : j / 32 < n := by omega
    have hm : j % 32 < 32 := Nat.mod_lt _ (by omega)
    have e : j = 32 * (j / 32) + j % 32 := by omega
    rw [Go.WideShapes.add_plain, ← hj, cellsB_at _ j hj']
    have := (hc (j / 32) hq).cell (j % 32) (by rw [hlen _ hq]; exact hm)
    rw [show off + 32 * (j / 32) + j % 32 = off + j by omega] at this
    rw [this]
    have hn := nth_flat h32 (j / 32) (j % 32) (by omega) hm
    rw [← e] at hn
    rw [hn]
  · intro v' w' hown' hgrow _ hat
    refine h v' w' ⟨?_, ?_⟩ hgrow hat
    · intro l hl'
      rcases List.mem_append.1 hl' with h' | h'
      · exact hown.1 l h'
      · exact h32 l h'
    · rw [List.length_append, List.flatten_append, cellsB_append, hl]
      exact hown'
end Go.Proofs.YtbhoijnhpmkglaaDoor
