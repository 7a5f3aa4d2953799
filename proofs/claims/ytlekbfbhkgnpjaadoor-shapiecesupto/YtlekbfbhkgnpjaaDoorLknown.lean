/- The contract of the law's known(): the digest that the document tells. -/
import Derived.Test.YtlekbfbhkgnpjaaDoorWsum
import Derived.Lib.SlBytesConst
namespace Go.Proofs.YtlekbfbhkgnpjaaDoor
open Go.RowKit
set_option linter.unusedVariables false
set_option linter.unusedSimpArgs false

theorem DAt.rowL {w : World} {b o : Nat} {l : List UInt8} (h : DAt w b o l) : Row w (some ⟨b, o, none⟩) l.length l := ⟨rfl, .inr ⟨b, o, rfl, fun i hi => h.cell i hi⟩⟩
theorem Row.lit (w : World) (cs : Array Value) (t : TypeId) (fr : Nat × Nat) (l : List UInt8) (h : cs.toList = cellsB l) : Row (w.alloc (.cells cs t fr)) (some ⟨w.heap.size, 0, none⟩) l.length l := by
  refine DAt.rowL ?_
  unfold DAt
  rw [← h]
  intro j v hj
  have hb : (w.alloc (.cells cs t fr)).heap[w.heap.size]? = some (.cells cs t fr) := by
    show (w.heap.push _)[w.heap.size]? = _
    simp
  unfold World.cell?
  rw [hb]
  simpa using hj
theorem known_bytes (D : List UInt8) (h : D.take 2 = [186, 120] ∧ D.getD 31 0 = 173) : nth D 0 = 186 ∧ nth D 1 = 120 ∧ nth D 31 = 173 := by
  obtain ⟨h1, h2⟩ := h
  match D, h1 with
  | a :: b :: r, h1 =>
    simp at h1
    obtain ⟨rfl, rfl⟩ := h1
    refine ⟨rfl, rfl, ?_⟩
    unfold nth
    rw [h2]
    rfl

set_option maxRecDepth 100000 in
set_option maxHeartbeats 1000000 in
theorem lknown_any (w : World) (G : Tab w) :
    Calls Tryd.prog 8 #[] w fun e w' => e = .returned (.bool true) ∧ Below w.heap.size w w' := by
  have HG : Hid (Tab w) := G
  clear G
  have hlen := shaL_length [97, 98, 99]
  have hK := known_bytes _ sha_abc
  generalize hD : shaL [97, 98, 99] = D at *
  have HD : Hid (shaL [97, 98, 99] = D) := hD
  clear hD
  obtain ⟨k0, k1, k31⟩ := hK
  have hcv := Lib.run_convert_bytes_const (P := Tryd.prog) w 22 5 #[.int .u8 97, .int .u8 98, .int .u8 99] 3 3 Tryd.underlying22 Tryd.underlying5
  go_enter Tryd.func8, Tryd.ntmps8
  go_wp2_with fail
  refine (wsum_any _ 3 3 [97, 98, 99] _ (HG.out.below ((Below.refl _ _).alloc (Nat.le_refl _) _)) (Row.lit w #[.int .u8 97, .int .u8 98, .int .u8 99] _ _ [97, 98, 99] rfl) (by omega) (by omega)).mono ?_
  rintro e w1 ⟨rfl, hb1⟩
  rw [HD.out]
  have HB1 : Hid (Below w.heap.size w w1) := below_trans ((Below.refl _ _).alloc (Nat.le_refl _) _) hb1
  clear hb1
  obtain ⟨w2, hw2⟩ : ∃ w2, w1.alloc (.cells (cellsB z32).toArray 25) = w2 := ⟨_, rfl⟩
  have ht2 : Hid (w2.there w1.heap.size 0 32) := by rw [← hw2]; exact alloc_thereAt _ _ _ 32 _ rfl z32_size.symm
  have HB2 : Hid (Below w.heap.size w w2) := by rw [← hw2]; exact Below.alloc HB1.out HB1.out.size _
  have HR3 : Hid (DAt (w2.setCells w1.heap.size 0 (cellsB D)) w1.heap.size 0 D) := dat_stored ht2.out hlen
  have HB3 : Hid (Below w.heap.size w (w2.setCells w1.heap.size 0 (cellsB D))) := below_setCells _ HB1.out.size _ _ _ HB2.out
  have d0 := DAt.cell HR3.out 0 (by omega)
  have d1 := DAt.cell HR3.out 1 (by omega)
  have d31 := DAt.cell HR3.out 31 (by omega)
  rw [Nat.zero_add, k0] at d0
  rw [Nat.zero_add, k1] at d1
  rw [Nat.zero_add, k31] at d31
  go_wp2_with (first
    | (refine wpList_allocE (by rfl) 25 (by rfl) (cellsB z32).toArray Tryd.zeroDigest w1.heap.size rfl w2 hw2 ?_)
    | (refine wpList_store_mid (by rfl) 25 (.tmp 1) (.tmp 4) (by rfl) w1.heap.size 0 (cellsB D).toArray (by rfl) (by rfl) (by rw [cellsB_size, hlen]; exact ht2.out) (by rw [cellsB_size, hlen]; exact Tryd.sizeDigest) (all_oneCell_toArray (cellsB_one _)) ?_))
  go_ret
  exact ⟨rfl, HB3.out⟩
end Go.Proofs.YtlekbfbhkgnpjaaDoor
