/- Texts of this claim, joined: Shc, Wcspr, Wcgat, Wcode. -/
import Derived.Test.YtnffmegicgbinabDoorJ09
import Derived.Test.YtnffmegicgbinabDoorJ12
import Derived.Test.YtnffmegicgbinabDoorJ08
import Derived.Test.YtnffmegicgbinabDoorJ01
import Derived.Test.YtnffmegicgbinabDoorJ06
/- Shares in a block, whose bytes lie elsewhere: by their heads. -/
namespace Go.Proofs.YtnffmegicgbinabDoor
open Go.RowKit
set_option linter.unusedVariables false
set_option linter.unusedSimpArgs false

/-- k heads of shares in a block that has room for n. -/
def HCells (w : World) (g n k : Nat) (H : Nat → Hdr) : Prop := w.there g 0 (n * 2) ∧ ∀ i, i < k → w.rangeAt g (i * 2) (hdC (H i))
theorem HCells.made {w1 : World} {B g n : Nat} {xs : List Value} {H : Nat → Hdr} (h : w1.ownsRow B 36 2 (.slice (some ⟨g, 0, none⟩) n n) n xs) : HCells w1 g n 0 H :=
  ⟨own_thereS h, fun i hi => absurd hi (by omega)⟩
theorem HCells.below {w w' : World} {g n k : Nat} {H : Nat → Hdr} (h : HCells w g n k H) (hb : Below w.heap.size w w') (hg : g < w.heap.size) : HCells w' g n k H :=
  ⟨there_belowB h.1 hb hg, fun i hi j v hj => (hb.cell (p := ⟨g, i * 2 + j, none⟩) hg).trans (h.2 i hi j v hj)⟩
theorem HCells.slot {w : World} {g n k : Nat} {H : Nat → Hdr} (h : HCells w g n k H) {i : Nat} (hi : i < n) : w.there g (i * 2) 2 := fun j hj => by
  have := h.1 (i * 2 + j) (by omega)
  rwa [Nat.zero_add] at this
theorem HCells.put {w : World} {g n k : Nat} {H : Nat → Hdr} (h : HCells w g n k H) (hk : k < n) : HCells (w.setCells g (k * 2) (hdC (H k))) g n (k + 1) H := by
  refine ⟨World.there_setCells h.1 _ _ _, fun i hi => ?_⟩
  by_cases c1 : i = k
  · subst c1
    exact World.rangeAt_setCells_same _ _ _ _ (h.slot hk)
  · intro j v hj
    have hlt := (List.getElem?_eq_some_iff.1 hj).1
    rw [hdC_length] at hlt
    refine (World.cell?_setCells_out g _ _ _ ⟨g, i * 2 + j, none⟩ (fun _ _ => ?_)).trans (h.2 i (by omega) j v hj)
    show i * 2 + j < k * 2 ∨ k * 2 + (hdC (H k)).length ≤ i * 2 + j
    rw [hdC_length]
    omega
theorem HCells.rows {w : World} {g n : Nat} {H : Nat → Hdr} {ss : List Shr} (h : HCells w g n n H) (hl : ss.length = n) (he : ∀ i, i < n → (ss.getD i noS).1 = (H i).1 ∧ (H i).1 < 256 ∧ (H i).2.2.1 ≤ (H i).2.2.2 ∧ (H i).2.2.1 ≤ 140737488351232 ∧ Row w (H i).2.1 (H i).2.2.1 (ss.getD i noS).2) : SRow w (some ⟨g, 0, none⟩) n ss := by
  refine ⟨hl, .inr ⟨g, 0, rfl, fun i hi => ?_⟩⟩
  obtain ⟨h1, h2, h3, h4, h5⟩ := he i hi
  have hr := h.2 i hi
  rw [Nat.zero_add]
  exact ⟨by rw [h1]; exact h2, by rw [h1]; exact hr 0 _ rfl, (H i).2.1, (H i).2.2.1, (H i).2.2.2, hr 1 _ rfl, h3, h4, h5⟩
end Go.Proofs.YtnffmegicgbinabDoor
/- The contracts of code.canSpread and code.Spread. -/
namespace Go.Proofs.YtnffmegicgbinabDoor
open Go.RowKit
set_option linter.unusedVariables false
set_option linter.unusedSimpArgs false

theorem BRowsB.heads {w : World} {b o n : Nat} {ls : List (List UInt8)} (R : BRowsB w (some ⟨b, o, none⟩) n ls) : ∃ A : Nat → Option Addr × Nat × Nat, ∀ i, i < n → (A i).2.1 ≤ (A i).2.2 ∧ (A i).2.1 ≤ 140737488351232 ∧ w.cell? ⟨b, o + i, none⟩ = some (.slice (A i).1 (A i).2.1 (A i).2.2) ∧ Row w (A i).1 (A i).2.1 (ls.getD i []) := by
  have h : ∀ i, ∃ t : Option Addr × Nat × Nat, i < n → t.2.1 ≤ t.2.2 ∧ t.2.1 ≤ 140737488351232 ∧ w.cell? ⟨b, o + i, none⟩ = some (.slice t.1 t.2.1 t.2.2) ∧ Row w t.1 t.2.1 (ls.getD i []) := by
    intro i
    by_cases hi : i < n
    · rcases R.1.2 with h0 | ⟨b', o', e, hc⟩
      · omega
      · cases e
        obtain ⟨ai, ni, ci, c1, h4, hR⟩ := hc i hi
        have := R.2 i hi
        rw [hR.1] at this
        exact ⟨(ai, ni, ci), fun _ => ⟨h4, this, c1, hR⟩⟩
    · exact ⟨(none, 0, 0), fun q => absurd q hi⟩
  obtain ⟨A, hA⟩ := Classical.axiomOfChoice h
  exact ⟨A, hA⟩
end Go.Proofs.YtnffmegicgbinabDoor
/- The contracts of code.canGather and code.Gather. -/
namespace Go.Proofs.YtnffmegicgbinabDoor
open Go.RowKit
set_option linter.unusedVariables false
set_option linter.unusedSimpArgs false

set_option maxRecDepth 100000 in
set_option maxHeartbeats 2000000 in
theorem wcangather_any (a : Option Addr) (n c : Nat) (k : Int) (ss : List Shr) (q : Int) (w : World) (R : SRow w a n ss) (hc : n ≤ c) (hn : n ≤ 140737488351232) (k1 : -9223372036854775808 ≤ k) (k2 : k ≤ 9223372036854775807) (hf : gatherE ss k = q) :
    Calls Tryd.prog 10 #[.slice a n c, .int .i64 k] w fun r w' => r = .returned (errV q) ∧ Below w.heap.size w w' := by
  have HL : Hid (ss.length = n) := R.1
  have HF : Hid (gatherE ss k = q) := hf
  clear hf
  go_enter Tryd.func10, Tryd.ntmps10
  by_cases c1 : k < 1
  · have HE : Hid (q = 2) := by rw [← HF.out]; exact if_pos (.inl c1)
    go_wp2_with fail
    go_ret
    exact ⟨by rw [HE.out]; rfl, Below.refl _ _⟩
  by_cases c2 : 20 < k
  · have HE : Hid (q = 2) := by rw [← HF.out]; exact if_pos (.inr c2)
    go_wp2_with fail
    go_ret
    exact ⟨by rw [HE.out]; rfl, Below.refl _ _⟩
  have HF1 : Hid ((if (ss.length : Int) < k then 3 else sfault 0 19 (ss.take k.toNat)) = q) := by rw [← HF.out]; exact (if_neg (by omega)).symm
  rw [HL.out] at HF1
  by_cases c3 : (n : Int) < k
  · have HE : Hid (q = 3) := by rw [← HF1.out]; exact if_pos c3
    go_wp2_with fail
    go_ret
    exact ⟨by rw [HE.out]; rfl, Below.refl _ _⟩
  have HF2 : Hid (sfault 0 19 (ss.take k.toNat) = q) := by rw [← HF1.out]; exact (if_neg c3).symm
  obtain ⟨m, hm⟩ := Int.eq_ofNat_of_zero_le (show 0 ≤ k by omega)
  have hm' : k = (m : Int) := hm
  subst hm'
  rw [Int.toNat_natCast] at HF2
  have hmn : m ≤ n := by omega
  have m0 : (0 : Int) ≤ (m : Int) := by omega
  have m1 : (m : Int) ≤ (c : Int) := by omega
  have HCL : Hid (Calls Tryd.prog 16 #[.slice a m c, .int .u8 0, .int .u8 19] w fun e w' => e = .returned (errV q) ∧ Below w.heap.size w w') := wcheck_any a m c (ss.take m) q 0 19 w (R.takeR hmn) (by omega) (by omega) (by omega) (by omega) (by omega) HF2.out
  obtain ⟨ev, hev⟩ : ∃ ev, errV q = ev := ⟨_, rfl⟩
  rw [hev] at HCL
  simp only [hev]
  clear HF HF1 HF2 R hm hev
  go_wp2_with fail
  refine HCL.out.mono ?_
  rintro e w4 ⟨rfl, hb4⟩
  go_wp2_with fail
  go_ret
  exact ⟨rfl, hb4⟩

set_option maxRecDepth 100000 in
set_option maxHeartbeats 2000000 in
theorem wgather_out (a : Option Addr) (n c : Nat) (k : Int) (ss : List Shr) (q : Int) (w : World) (R : SRow w a n ss) (hc : n ≤ c) (hn : n ≤ 140737488351232) (k1 : -9223372036854775808 ≤ k) (k2 : k ≤ 9223372036854775807) (hf : gatherE ss k = q) (hq : q ≠ 0) :
    Calls Tryd.prog 6 #[.slice a n c, .int .i64 k] w fun r w' => (∃ a' c', r = .returned (.tuple #[.slice a' 0 c', .iface 23 (.int .i64 q)])) ∧ Below w.heap.size w w' := by
  have hcall := wcangather_any a n c k ss q w R hc hn k1 k2 hf
  have e : errV q = .iface 23 (.int .i64 q) := if_neg hq
  rw [e] at hcall
  have HCL : Hid (Calls Tryd.prog 10 #[.slice a n c, .int .i64 k] w fun r w' => r = .returned (.iface 23 (.int .i64 q)) ∧ Below w.heap.size w w') := hcall
  clear hcall e R hf hq
  go_enter Tryd.func6, Tryd.ntmps6
  go_wp2_with fail
  refine HCL.out.mono ?_
  rintro e w1 ⟨rfl, hb1⟩
  go_wp2_with fail
  go_ret2
  exact ⟨⟨none, 0, rfl⟩, hb1⟩

set_option maxRecDepth 100000 in
set_option maxHeartbeats 2000000 in
theorem wgather_in (a : Option Addr) (n c k : Nat) (ss : List Shr) (w : World) (R : SRow w a n ss) (hc : n ≤ c) (hn : n ≤ 140737488351232) (hf : gatherE ss (k : Int) = 0) :
    Calls Tryd.prog 6 #[.slice a n c, .int .i64 (k : Int)] w fun r w' => (∃ a' c' rows, r = .returned (.tuple #[.slice a' k c', .nilIface]) ∧ k ≤ c' ∧ BRowsB w' a' k rows ∧ gatherP ss k rows) ∧ Below w.heap.size w w' := by
  obtain ⟨h1, h2, h3, h4⟩ := gatherE_ok hf
  have hl := R.1
  rw [hl] at h3
  rw [Int.toNat_natCast] at h4
  obtain ⟨hall, hnd⟩ := sfault_ok h4
  have HCL : Hid (Calls Tryd.prog 10 #[.slice a n c, .int .i64 (k : Int)] w fun r w' => r = .returned .nilIface ∧ Below w.heap.size w w') := wcangather_any a n c k ss 0 w R hc hn (by omega) (by omega) hf
  have hk0 : 0 < k := by omega
  have hk20 : k ≤ 20 := by omega
  have hkn : k ≤ n := by omega
  have hps : ∀ s ∈ ss.take k, s.1 < 256 := (R.takeR hkn).place
  have hlt : (ss.take k).length = k := (R.takeR hkn).1
  have HFC : Hid (∀ wx, Below w.heap.size w wx → Calls Tryd.prog 11 #[.slice a k c, .int .i64 (k : Int)] wx fun r w' => (∃ a' c', r = .returned (.slice a' k c') ∧ k ≤ c' ∧ BRowsB w' a' k ((List.range k).map fun j => mixL (ss.take k) j ((ss.take k).getD 0 noS).2.length k 0)) ∧ Below wx.heap.size wx w') := fun wx hx =>
    wfirst_any a k c (ss.take k) k wx ((R.takeR hkn).below hx) hk0 hk20 hk20 hnd (fun s hs => (hall s hs).2.2)
  have HSP : Hid (gatherP ss k ((List.range k).map fun j => mixL (ss.take k) j ((ss.take k).getD 0 noS).2.length k 0)) := by
    refine ⟨by simp, fun j hj => ?_⟩
    rw [List.getD_eq_getElem?_getD, List.getElem?_map, List.getElem?_range hj]
    have := mixL_joined (ss := ss.take k) (x := j) (by omega) hps hnd
    rw [hlt] at this
    exact this
  generalize (List.range k).map (fun j => mixL (ss.take k) j ((ss.take k).getD 0 noS).2.length k 0) = rows at *
  have m0 : (0 : Int) ≤ (k : Int) := by omega
  have m1 : (k : Int) ≤ (c : Int) := by omega
  clear hf R h1 h2 h3 h4 hall hnd hps hlt hl
  go_enter Tryd.func6, Tryd.ntmps6
  go_wp2_with fail
  refine HCL.out.mono ?_
  rintro e w1 ⟨rfl, hb1⟩
  have HF1 : Hid (Calls Tryd.prog 11 #[.slice a k c, .int .i64 (k : Int)] w1 fun r w' => (∃ a' c', r = .returned (.slice a' k c') ∧ k ≤ c' ∧ BRowsB w' a' k rows) ∧ Below w1.heap.size w1 w') := HFC.out w1 hb1
  have HB1 : Hid (Below w.heap.size w w1) := hb1
  clear hb1 HFC HCL
  go_wp2_with fail
  refine HF1.out.mono ?_
  rintro e w6 ⟨⟨a6, c6, rfl, hc6, hR6⟩, hb6⟩
  have HB6 : Hid (Below w.heap.size w w6) := HB1.out.trans (hb6.mono HB1.out.size)
  have HR6 : Hid (BRowsB w6 a6 k rows) := hR6
  have HC6 : Hid (k ≤ c6) := hc6
  clear hc6 hR6 hb6 HF1
  go_wp2_with fail
  go_ret2
  exact ⟨⟨_, _, rows, rfl, HC6.out, HR6.out, HSP.out⟩, HB6.out⟩
end Go.Proofs.YtnffmegicgbinabDoor
/- The contracts of package code, as landed at 5f1e105. -/
namespace Go.Proofs.YtnffmegicgbinabDoor
open Go.RowKit
set_option linter.unusedVariables false
theorem wcode_gather (a : Option Addr) (n c k : Nat) (ss : List Shr) (w : World) (G : Env w) (R : SRow w a n ss) (hc : n ≤ c) (hn : n ≤ 140737488351232) (hf : gatherE ss (k : Int) = 0) :
    Calls Tryd.prog 6 #[.slice a n c, .int .i64 (k : Int)] w fun r w' => (∃ a' c' rows, r = .returned (.tuple #[.slice a' k c', .nilIface]) ∧ k ≤ c' ∧ BRowsB w' a' k rows ∧ gatherP ss k rows) ∧ Below w.heap.size w w' :=
  wgather_in a n c k ss w R hc hn hf
theorem wcode_gatherout (a : Option Addr) (n c : Nat) (k : Int) (ss : List Shr) (q : Int) (w : World) (G : Env w) (R : SRow w a n ss) (hc : n ≤ c) (hn : n ≤ 140737488351232) (k1 : -9223372036854775808 ≤ k) (k2 : k ≤ 9223372036854775807) (hf : gatherE ss k = q) (hq : q ≠ 0) :
    Calls Tryd.prog 6 #[.slice a n c, .int .i64 k] w fun r w' => (∃ a' c', r = .returned (.tuple #[.slice a' 0 c', .iface 23 (.int .i64 q)])) ∧ Below w.heap.size w w' :=
  wgather_out a n c k ss q w R hc hn k1 k2 hf hq
end Go.Proofs.YtnffmegicgbinabDoor
