/- The law ShaPieces: bytes written in pieces have the digest of all. -/
import Derived.Test.YtlekbfbhkgnpjaaDoorLknown
import Derived.Test.YtlekbfbhkgnpjaaDoorOpenR
import Derived.Test.YtlekbfbhkgnpjaaDoorSame
namespace Go.Proofs.YtlekbfbhkgnpjaaDoor
open Go.RowKit
set_option linter.unusedVariables false
set_option linter.unusedSimpArgs false
theorem Tryd.infoP8 : (Tryd.prog.info? 5).map (fun i => (i.zero, i.size, i.bytes)) = some (some (.int .u8 0), 1, 1) := by kernel_rfl

theorem OwnL.block_ne {w : World} {g : Nat} {v : Value} {l : List UInt8} (h : OwnL w (g + 1) v l) : v.ownBlock ≠ some g := by
  rcases h.2 with ⟨rfl, _⟩ | ⟨g', cap, cur, rfl, hb, _⟩
  · simp [Value.ownBlock]
  · simp only [Value.ownBlock]
    intro e
    have := Option.some.inj e
    omega
theorem OwnL.aside {w w' : World} {g : Nat} {v : Value} {l : List UInt8} (h : OwnL w (g + 1) v l) (hg : w.grownBy w' (some g)) : OwnL w' (g + 1) v l :=
  World.ownsRow.kept h hg (.inr h.block_ne)
theorem Hasher.grown {w w' : World} {g : Nat} {l : List UInt8} {r : Option Nat} (H : Hasher w g l) (hb : w.grownBy w' r) (hne : r ≠ some g) : Hasher w' g l := by
  cases r with
  | none => exact H.other (g' := g + 1) ⟨hb.os, hb.tape, hb.output, hb.size, fun k hk _ => hb.block k hk (by simp)⟩ (by omega)
  | some g' => exact H.other hb (fun e => hne (by rw [e]))

set_option maxRecDepth 100000 in
set_option maxHeartbeats 1000000 in
theorem pieces_walk (a : Option Addr) (n c : Nat) (ls : List (List UInt8)) (w : World) (G : Tab w) (R : BRows w a n ls) (hc : n ≤ c) (hn : ls.flatten.length + n ≤ 2097152) :
    Calls Tryd.prog 4 #[.slice a n c] w fun e w' => e = .returned (.bool true) ∧ Below w.heap.size w w' := by
  obtain ⟨i0, hi, hz0, hz1, hz2⟩ := info_parts Tryd.infoP8
  have h0 : 0 < w.heap.size := cell_block (G 0 (by omega))
  have HG : Hid (Tab w ∧ BRows w a n ls) := ⟨G, R⟩
  have hln := R.1
  clear G R
  go_enter Tryd.func4, Tryd.ntmps4
  go_wp2_with fail
  refine (lknown_any w HG.out.1).mono ?_
  rintro e w1 ⟨rfl, hb1⟩
  go_wp2_with fail
  refine (wnew_any w1).mono ?_
  rintro e w2 ⟨rfl, H2, hb2⟩
  have hs1 := hb1.size
  have HB2 : Hid (Below w.heap.size w w2) := below_trans hb1 hb2
  have HH2 : Hid (Hasher w2 w1.heap.size []) := H2
  generalize hg : w1.heap.size = g at *
  clear hb1 hb2 hg H2
  go_wp2_with fail
  go_loopw [5, 6] (fun v i wr => ∃ k : Nat, k ≤ n ∧ i = .int .i64 (k : Int) ∧ OwnL wr (g + 1) v (firstL ls k) ∧ Hasher wr g (firstL ls k) ∧ Below w.heap.size w wr) (fun _ i _ => n - (intOf i).toNat)
  case atStart => exact ⟨0, Nat.zero_le _, rfl, OwnL.nil _ _, HH2.out, HB2.out⟩
  case round =>
    clear HH2 HB2
    obtain ⟨k, hk, rfl, hO, hH, hB⟩ := hrel
    have hle := firstL_le ls k
    by_cases hlt : k < n
    · rcases HG.out.2.2 with hq | ⟨b, o, rfl, hcells⟩
      · omega
      obtain ⟨ai, ni, ci, e1, e3, e2⟩ := hcells k hlt
      have hcell := (hB.cell (p := ⟨b, o + k, none⟩) (cell_block e1)).trans e1
      have hni := e2.1
      have hsucc := firstL_succ ls k (by omega)
      have hle1 := firstL_le ls (k + 1)
      rw [hsucc, List.length_append] at hle1
      have HS : Hid (firstL ls (k + 1) = firstL ls k ++ ls.getD k []) := hsucc
      clear hsucc
      generalize ls.getD k [] = x at *
      generalize hp : firstL ls k = p at *
      clear hp
      have HO : Hid (OwnL wr (g + 1) u5 p) := hO
      have HH : Hid (Hasher wr g p) := hH
      have HB : Hid (Below w.heap.size w wr) := hB
      have HR : Hid (Row w ai ni x) := e2
      have hgs : g < wr.heap.size := hH.block
      have HE1 : Hid (w.cell? ⟨b, o + k, none⟩ = some (.slice ai ni ci)) := e1
      clear hO hH hB e2 e1
      have hk0 : (0 : Int) ≤ (k : Int) := by omega
      have hkn : (k : Int) < (n : Int) := by omega
      go_wp2_with fail
      refine (wwrite_any g p ai ni ci x wr (HG.out.1.below HB.out) HH.out (HR.out.below HB.out) e3 (row_ne HR.out hs1) (by omega) (by omega)).mono ?_
      rintro e w3 ⟨rfl, H3, hg3⟩
      have HH3 : Hid (Hasher w3 g (p ++ x)) := H3
      have HO3 : Hid (OwnL w3 (g + 1) u5 p) := OwnL.aside HO.out hg3
      have HB3 : Hid (Below w.heap.size w w3) := below_gr HB.out hg3 HB.out.size hs1
      have hcell3 := (Below.cell HB3.out (p := ⟨b, o + k, none⟩) (cell_block HE1.out)).trans HE1.out
      have hgs3 : g < w3.heap.size := H3.block
      clear H3 hg3 HH HO HB hcell hgs
      go_wp2_with (at_builtin; refine wpList_append_bytes rfl (.tmp 27) (.tmp 31) 22 rfl (g + 1) i0 Tryd.underlying22 hi hz0 hz1 hz2 u5 p rfl HO3.out ai ni ci x rfl (HR.out.below HB3.out) (by omega) (by omega) ?_; intro v4 w4 ho4 hg4)
      have HH4 : Hid (Hasher w4 g (p ++ x)) := HH3.out.grown hg4 (OwnL.block_ne HO3.out)
      have HB4 : Hid (Below w.heap.size w w4) := OwnL.grown HO3.out HB3.out hg4 (by omega) HB3.out.size
      rw [← HS.out] at HH4 ho4
      have hl4 : (firstL ls (k + 1)).length ≤ 2097152 := by rw [HS.out, List.length_append]; omega
      have HO4 : Hid (OwnL w4 (g + 1) v4 (firstL ls (k + 1))) := ho4
      clear ho4 hg4 HH3 HO3 HB3 hcell3 hgs3
      refine (wsumh_any g (firstL ls (k + 1)) w4 (HG.out.1.below HB4.out) HH4.out (by omega)).mono ?_
      rintro e w5 ⟨rfl, hb5⟩
      have HO5 : Hid (OwnL w5 (g + 1) v4 (firstL ls (k + 1))) := OwnL.below HO4.out hb5
      have HH5 : Hid (Hasher w5 g (firstL ls (k + 1))) := HH4.out.below hb5
      have HB5 : Hid (Below w.heap.size w w5) := below_trans HB4.out hb5
      clear hb5 HO4 HH4 HB4
      obtain ⟨a5, c5, rfl, R5, hc5⟩ := OwnL.form HO5.out
      have HR5 : Hid (Row w5 a5 (firstL ls (k + 1)).length (firstL ls (k + 1))) := R5
      clear R5
      go_wp2_with fail
      refine (wsum_any a5 _ c5 (firstL ls (k + 1)) w5 (HG.out.1.below HB5.out) HR5.out hc5 (by omega)).mono ?_
      rintro e w6 ⟨rfl, hb6⟩
      have HO6 := OwnL.below HO5.out hb6
      have HH6 := HH5.out.below hb6
      have HB6 := below_trans HB5.out hb6
      have HX : Hid (OwnL w6 (g + 1) (.slice a5 (firstL ls (k + 1)).length c5) (firstL ls (k + 1)) ∧ Hasher w6 g (firstL ls (k + 1)) ∧ Below w.heap.size w w6) := ⟨HO6, HH6, HB6⟩
      clear hb6 HO5 HH5 HB5 HO6 HH6 HB6 HR5
      have hq := run_same_true (shaL (firstL ls (k + 1))) (shaL_length _)
      generalize shaL (firstL ls (k + 1)) = D at *
      go_wp2
      go_roundw
      case rel => exact ⟨k + 1, by omega, by go_num, HX.out.1, HX.out.2.1, HX.out.2.2⟩
      case measure => simp [intOf]; omega
    · obtain rfl : k = n := by omega
      have HH : Hid (Hasher wr g (firstL ls k)) := hH
      have HB : Hid (Below w.heap.size w wr) := hB
      have HO : Hid (OwnL wr (g + 1) u5 (firstL ls k)) := hO
      clear hH hB hO
      go_wp2_with fail
      refine (wsumh_any g (firstL ls k) wr (HG.out.1.below HB.out) HH.out (by omega)).mono ?_
      rintro e w5 ⟨rfl, hb5⟩
      have HO5 : Hid (OwnL w5 (g + 1) u5 (firstL ls k)) := OwnL.below HO.out hb5
      have HB5 : Hid (Below w.heap.size w w5) := below_trans HB.out hb5
      clear hb5 HO HH HB
      obtain ⟨a5, c5, rfl, R5, hc5⟩ := OwnL.form HO5.out
      have HR5 : Hid (Row w5 a5 (firstL ls k).length (firstL ls k)) := R5
      clear R5
      go_wp2_with fail
      refine (wsum_any a5 _ c5 (firstL ls k) w5 (HG.out.1.below HB5.out) HR5.out hc5 (by omega)).mono ?_
      rintro e w6 ⟨rfl, hb6⟩
      have HB6 := below_trans HB5.out hb6
      clear hb6 HO5 HB5 HR5
      have hq := run_same_true (shaL (firstL ls k)) (shaL_length _)
      generalize shaL (firstL ls k) = D at *
      go_wp2
      go_ret
      exact ⟨rfl, HB6⟩
end Go.Proofs.YtlekbfbhkgnpjaaDoor
