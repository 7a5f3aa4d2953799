/- Texts of this claim, joined: Wnew, Wsumh, Open, OpenR. -/
import Derived.Test.YtbpkhpkllokbhaaDoorJ05
import Derived.Test.YtbpkhpkllokbhaaDoorJ01
import Derived.ProofKit
import Derived.OpenShut
import Derived.ShutString
import Derived.ChangeOld
import Derived.SizedLaws
import Derived.Deep.Slices
/- The contract of sha.New: a Hasher that has taken nothing. -/
namespace Go.Proofs.YtbpkhpkllokbhaaDoor
open Go.RowKit
set_option linter.unusedVariables false
set_option linter.unusedSimpArgs false

/-- What a new Hasher holds. -/
def newCells : List Value := cellsW hW ++ cellsB (List.replicate 64 0) ++ [.int .i64 0]
theorem hasher_new (w : World) (t : TypeId) : Hasher (w.alloc (.cells newCells.toArray t)) w.heap.size [] := by
  have hr := box_range w newCells t
  have hlw : (cellsW hW).length = 8 := rfl
  have hlb : (cellsB (List.replicate 64 0)).length = 64 := by rw [cellsB_length]; simp
  refine ⟨hW, List.replicate 64 0, ⟨?_, ?_, ?_, ?_, rfl, by simp⟩, took_new⟩
  · intro j v hj
    refine hr j v ?_
    have := (List.getElem?_eq_some_iff.1 hj).1
    unfold newCells
    rw [List.append_assoc, List.getElem?_append_left this]
    exact hj
  · intro j v hj
    have := (List.getElem?_eq_some_iff.1 hj).1
    have h2 := hr (8 + j) v (by
      unfold newCells
      rw [List.append_assoc, List.getElem?_append_right (by omega), hlw, Nat.add_sub_cancel_left, List.getElem?_append_left this]
      exact hj)
    rwa [Nat.zero_add] at h2
  · have h2 := hr 72 (.int .i64 0) (by
      unfold newCells
      rw [List.getElem?_append_right (by rw [List.length_append, hlw, hlb]; exact Nat.le_refl _), List.length_append, hlw, hlb]
      rfl)
    rwa [Nat.zero_add] at h2
  · refine alloc_there w _ t 73 ?_
    show 73 ≤ newCells.length
    unfold newCells
    rw [List.length_append, List.length_append, hlw, hlb]
    exact Nat.le_refl _

set_option maxRecDepth 100000 in
set_option maxHeartbeats 400000 in
theorem wnew_any (w : World) :
    Calls Tryd.prog 33 #[] w fun e w' => e = .returned (.pointer (some ⟨w.heap.size, 0, none⟩)) ∧ Hasher w' w.heap.size [] ∧ Below w.heap.size w w' := by
  go_enter Tryd.func33, Tryd.ntmps33
  go_wp2_with (first
    | (refine wpList_buildC (by rfl) 82 _ (by rfl) (cellsW hW).toArray (by kernel_rfl) ?_)
    | (refine wpList_buildC (by rfl) 85 _ (by rfl) newCells.toArray (by kernel_rfl) ?_))
  go_ret
  exact ⟨rfl, hasher_new w _, (Below.refl _ _).alloc (Nat.le_refl _) _⟩
end Go.Proofs.YtbpkhpkllokbhaaDoor
/- The contract of Hasher.Sum: the digest of all that was taken. -/
namespace Go.Proofs.YtbpkhpkllokbhaaDoor
open Go.RowKit
set_option linter.unusedVariables false
set_option linter.unusedSimpArgs false

/-- A Hasher's cells. -/
def hcells (h : List Nat) (blk : List UInt8) (n : Nat) : List Value := cellsW h ++ cellsB blk ++ [.int .i64 (n : Int)]
theorem hcells_length {h : List Nat} {blk : List UInt8} (n : Nat) (h8 : h.length = 8) (h64 : blk.length = 64) : (hcells h blk n).length = 73 := by
  unfold hcells
  rw [List.length_append, List.length_append, cellsW_length, cellsB_length, h8, h64]
  rfl
theorem hcells_one (h : List Nat) (blk : List UInt8) (n : Nat) : ∀ v ∈ hcells h blk n, v.oneCell' = true := by
  intro v hv
  unfold hcells at hv
  rcases List.mem_append.1 hv with h1 | h1
  · rcases List.mem_append.1 h1 with h1 | h1
    · exact cellsW_one _ _ h1
    · exact cellsB_one _ _ h1
  · rw [List.mem_singleton.1 h1]; rfl
theorem HAt.range {w : World} {g n : Nat} {h : List Nat} {blk : List UInt8} (H : HAt w g h blk n) : w.rangeAt g 0 (hcells h blk n) := by
  obtain ⟨h1, h2, h3, h4, h5, h6⟩ := H
  intro j v hj
  unfold hcells at hj
  rw [Nat.zero_add]
  have lw := cellsW_length h
  have lb := cellsB_length blk
  by_cases c1 : j < 8
  · rw [List.append_assoc, List.getElem?_append_left (by omega)] at hj
    have := h1 j v hj
    rwa [Nat.zero_add] at this
  · by_cases c2 : j < 72
    · rw [List.append_assoc, List.getElem?_append_right (by omega), List.getElem?_append_left (by omega)] at hj
      have := h2 (j - (cellsW h).length) v hj
      rwa [show 8 + (j - (cellsW h).length) = j by omega] at this
    · rw [List.getElem?_append_right (by rw [List.length_append]; omega)] at hj
      have hlt := (List.getElem?_eq_some_iff.1 hj).1
      rw [List.length_append, lw, lb] at hlt hj
      simp only [List.length_singleton] at hlt
      have hj2 : j = 72 := by omega
      subst hj2
      rw [h5, h6] at hj
      have : Value.int .i64 (n : Int) = v := Option.some.inj hj
      rw [← this]
      exact h3
theorem hat_of_range {w : World} {g n : Nat} {h : List Nat} {blk : List UInt8} (h8 : h.length = 8) (h64 : blk.length = 64) (hr : w.rangeAt g 0 (hcells h blk n)) (ht : w.there g 0 73) : HAt w g h blk n := by
  have lw := cellsW_length h
  have lb := cellsB_length blk
  refine ⟨?_, ?_, ?_, ht, h8, h64⟩
  · intro j v hj
    refine hr j v ?_
    have := (List.getElem?_eq_some_iff.1 hj).1
    unfold hcells
    rw [List.append_assoc, List.getElem?_append_left this]
    exact hj
  · intro j v hj
    have := (List.getElem?_eq_some_iff.1 hj).1
    have h2 := hr (8 + j) v (by
      unfold hcells
      rw [List.append_assoc, List.getElem?_append_right (by omega), lw, h8, Nat.add_sub_cancel_left, List.getElem?_append_left this]
      exact hj)
    rwa [Nat.zero_add] at h2
  · have h2 := hr 72 (.int .i64 (n : Int)) (by
      unfold hcells
      rw [List.getElem?_append_right (by rw [List.length_append]; omega), List.length_append, lw, lb, h8, h64]
      rfl)
    rwa [Nat.zero_add] at h2
/-- A new variable for a Hasher. -/
def zH : List Value := cellsW (List.replicate 8 0) ++ cellsB (List.replicate 64 0) ++ [.int .i64 0]
theorem zH_length : zH.toArray.size = 73 := by
  show zH.length = 73
  unfold zH
  rw [List.length_append, List.length_append, cellsW_length, cellsB_length, List.length_replicate, List.length_replicate]
  rfl
theorem Tryd.zeroHasher : (Tryd.prog.info? 85).map (·.zero) = some (some (.agg zH.toArray)) := by kernel_rfl
theorem Tryd.sizeHasher : (Tryd.prog.info? 85).map (·.size) = some 73 := by kernel_rfl
/-- A new variable for a digest. -/
def z32 : List UInt8 := List.replicate 32 0
theorem z32_size : (cellsB z32).toArray.size = 32 := by rw [cellsB_size]; rfl
theorem Tryd.zeroDigest : (Tryd.prog.info? 24).map (·.zero) = some (some (.agg (cellsB z32).toArray)) := by kernel_rfl
theorem Tryd.sizeDigest : (Tryd.prog.info? 24).map (·.size) = some 32 := by kernel_rfl
theorem padL_mod (l : List UInt8) : (padL l).length % 64 = 0 := by
  rw [padL_end, List.length_append, endL_length]
  omega

set_option maxRecDepth 100000 in
set_option maxHeartbeats 1000000 in
theorem wsumh_any (g : Nat) (l : List UInt8) (w : World) (G : Tab w) (H : Hasher w g l) (hn : l.length ≤ 1000000000000000000) :
    Calls Tryd.prog 35 #[.pointer (some ⟨g, 0, none⟩)] w fun e w' => e = .returned (digestV (shaL l)) ∧ Below w.heap.size w w' := by
  have hgl := H.block
  have h0 : 1 < w.heap.size := cell_block (G 0 (by omega))
  obtain ⟨h, blk, HA, HK⟩ := H
  have hlw := HA.2.2.2.2.1
  have hlb := HA.2.2.2.2.2
  have HRN : Hid (w.rangeAt g 0 (hcells h blk l.length)) := HA.range
  have hlen := hcells_length l.length hlw hlb
  have hone := hcells_one h blk l.length
  have HHK : Hid (Took h blk l) := HK
  have HG : Hid (Tab w) := G
  clear HA HK G
  generalize hC : hcells h blk l.length = C at *
  have HC : Hid (hcells h blk l.length = C) := hC
  clear hC
  obtain ⟨w1, hw1⟩ : ∃ w1, w.alloc (.cells (cellsB z32).toArray 24) = w1 := ⟨_, rfl⟩
  obtain ⟨w2, hw2⟩ : ∃ w2, w1.alloc (.cells zH.toArray 85) = w2 := ⟨_, rfl⟩
  have hs1 : w1.heap.size = w.heap.size + 1 := by rw [← hw1]; simp
  have hr1 : Hid (w1.rangeAt g 0 C) := by rw [← hw1]; exact World.rangeAt_alloc HRN.out _
  have hb1 : Below w.heap.size w w1 := by rw [← hw1]; exact (Below.refl _ _).alloc (Nat.le_refl _) _
  have ht1 : w1.there w.heap.size 0 32 := by rw [← hw1]; exact alloc_thereAt _ _ _ 32 _ rfl z32_size.symm
  have hb2 : Below w1.heap.size w1 w2 := by rw [← hw2]; exact (Below.refl _ _).alloc (Nat.le_refl _) _
  have ht2 : Hid (w2.there (w.heap.size + 1) 0 73) := by rw [← hw2]; exact alloc_thereAt _ _ _ 73 _ hs1 zH_length.symm
  have HB2 : Hid (Below w.heap.size w w2 ∧ w2.there w.heap.size 0 32 ∧ w2.heap.size = w.heap.size + 1 + 1) := ⟨below_trans hb1 hb2, there_below ht1 hb2 (by omega), by rw [← hw2]; simp [hs1]⟩
  clear hb1 ht1 hb2
  have HC1 : Hid (w2.there (w.heap.size + 1) 0 C.toArray.size) := by
    have : C.toArray.size = 73 := hlen
    unfold Hid
    rw [this]
    exact ht2.out
  have HC2 : Hid ((Tryd.prog.info? 85).map (·.size) = some C.toArray.size) := by
    have : C.toArray.size = 73 := hlen
    unfold Hid
    rw [this]
    exact Tryd.sizeHasher
  have HC3 : Hid (C.toArray.all (·.oneCell') = true) := all_oneCell_toArray hone
  clear hone
  go_enter Tryd.func35, Tryd.ntmps35
  go_wp2_with (first
    | (refine wpList_allocE (by rfl) 24 (by rfl) (cellsB z32).toArray Tryd.zeroDigest w.heap.size rfl w1 hw1 ?_)
    | (refine wpList_load_mid (by rfl) 85 (.tmp 5) (by rfl) g 0 (by rfl) C _ hr1.out Tryd.underlying85 (by rfl) (by rw [hlen]; exact Tryd.sizeHasher) ?_)
    | (refine wpList_allocE (by rfl) 85 (by rfl) zH.toArray Tryd.zeroHasher (w.heap.size + 1) hs1 w2 hw2 ?_)
    | (refine wpList_store_mid (by rfl) 85 (.tmp 3) (.tmp 6) (by rfl) (w.heap.size + 1) 0 C.toArray (by rfl) (by rfl) HC1.out HC2.out HC3.out ?_))
  have H3 : Hid (Hasher (w2.setCells (w.heap.size + 1) 0 C) (w.heap.size + 1) l) := by
    refine ⟨h, blk, hat_of_range hlw hlb ?_ (World.there_setCells ht2.out _ _ _), HHK.out⟩
    rw [HC.out]
    exact World.rangeAt_setCells_same _ _ _ _ (by rw [hlen]; exact ht2.out)
  have HB3 : Hid (Below w.heap.size w (w2.setCells (w.heap.size + 1) 0 C) ∧ (w2.setCells (w.heap.size + 1) 0 C).there w.heap.size 0 32 ∧ w.heap.size + 1 < (w2.setCells (w.heap.size + 1) 0 C).heap.size) :=
    ⟨below_setCells _ (by omega) _ _ _ HB2.out.1, World.there_setCells HB2.out.2.1 _ _ _, by have := (gr_setCells (w.heap.size + 1) C 0 w2).size; have := HB2.out.2.2; omega⟩
  clear hr1 ht2 HB2 HC1 HC2 HC3 HRN hw1 hw2 hs1 HHK HC hlen
  generalize w2.setCells (w.heap.size + 1) 0 C = w3 at *
  refine (wfinish_any (w.heap.size + 1) l w3 (HG.out.below HB3.out.1) H3.out (by omega) hn).mono ?_
  rintro e w4 ⟨rfl, H4, hg4⟩
  have HB4 : Hid (Below w.heap.size w w4) := below_gr HB3.out.1 hg4 (by have := HB3.out.2.2; omega) (by omega)
  have HT4 : Hid (w4.there w.heap.size 0 32) := by
    have hk := hg4.block w.heap.size (by have := HB3.out.2.2; omega) (by intro e; have := Option.some.inj e; omega)
    intro j hj
    rw [World.cell?_of_block (w := w3) (a := ⟨w.heap.size, 0 + j, none⟩) hk, World.frozen?_of_block (w := w3) (a := ⟨w.heap.size, 0 + j, none⟩) hk]
    exact HB3.out.2.1 j hj
  have hs4 : w.heap.size < w4.heap.size := by have := hg4.size; have := HB3.out.2.2; omega
  obtain ⟨h', blk', HA', HK'⟩ := H4
  obtain ⟨h8', hf'⟩ := HK'.words
  have HE : Hid (shaL l = outL h') := by
    unfold Hid shaL
    rw [HK'.1]
  have HR4 : Hid (w4.rangeAt (w.heap.size + 1) 0 (cellsW h')) := HA'.1
  have HF : Hid (Fit h') := hf'
  clear HA' HK' H3 HB3 hg4 hf'
  go_wp2_with (refine wpList_load_mid (by rfl) 82 (.tmp 8) (by rfl) (w.heap.size + 1) 0 (by rfl) (cellsW h') _ HR4.out Tryd.underlying82 (by rfl) (by rw [cellsW_length, h8']; exact Tryd.sizeState) ?_)
  refine (wdigest_any h' w4 h8' HF.out).mono ?_
  rintro e w5 ⟨rfl, hb5⟩
  have HB5 : Hid (Below w.heap.size w w5) := below_trans HB4.out hb5
  have HT5 : Hid (w5.there w.heap.size 0 32) := there_below HT4.out hb5 hs4
  have hlen := outL_length h'
  rw [← HE.out] at hlen ⊢
  clear hb5 HB4 HT4 HR4 HF HE
  generalize hD : shaL l = D at *
  have HD : Hid (shaL l = D) := hD
  clear hD
  go_wp2_with (refine wpList_store_mid (by rfl) 24 (.tmp 2) (.tmp 10) (by rfl) w.heap.size 0 (cellsB D).toArray (by rfl) (by rfl) (by rw [cellsB_size, hlen]; exact HT5.out) (by rw [cellsB_size, hlen]; exact Tryd.sizeDigest) (all_oneCell_toArray (cellsB_one _)) ?_)
  refine bodyPost_ret (v := digestV D) (run_results_row Tryd.results35 _ _ w.heap.size 0 (by rfl) (cellsB D) (World.rangeAt_setCells_same _ _ _ _ (by rw [cellsB_length, hlen]; exact HT5.out)) _ Tryd.underlying24 (by rfl) (by rw [cellsB_length, hlen]; exact Tryd.sizeDigest)) rfl ⟨by rw [HD.out], ?_⟩
  exact below_setCells _ (Nat.le_refl _) _ _ _ HB5.out
end Go.Proofs.YtbpkhpkllokbhaaDoor
/- How an argument that is a slice of bytes is opened: it reads as a list of bytes. -/
namespace Go.Proofs.YtbpkhpkllokbhaaDoor
open Go.ChangeShapes Go.WideShapes Go.ChangeAt Go.RowKit
open Go.ChangeMaps (open_string shut_string)
set_option linter.unusedVariables false
set_option linter.unusedSimpArgs false

theorem wf_u8 {n : Int} (h : (Lit.int .u8 n).wf = true) : 0 ≤ n ∧ n ≤ 255 := by
  have hmin : IntKind.u8.min = 0 := rfl
  have hmax : IntKind.u8.max = 255 := rfl
  simp only [Lit.wf, Bool.and_eq_true, decide_eq_true_eq] at h
  omega
theorem wf_i64 {n : Int} (h : (Lit.int .i64 n).wf = true) : -9223372036854775808 ≤ n ∧ n ≤ 9223372036854775807 := by
  have hmin : IntKind.i64.min = -9223372036854775808 := rfl
  have hmax : IntKind.i64.max = 9223372036854775807 := rfl
  simp only [Lit.wf, Bool.and_eq_true, decide_eq_true_eq] at h
  omega

theorem open_bytes {H : Type} {enc : TypeId × Value → H} {P : Program} {w : World} {base : Nat} {held : Bool} {t e : TypeId} {fuel : Nat} {a : Option Addr} {len cap : Nat} {d : DataW H} {p : List MemPlace}
    (ht : P.underlying t = some (.slice e)) (he : P.underlying e = some (.int .u8)) (hc : P.cellsOf e = 1)
    (h : DataW.trod enc P w base (fun _ => true) held fuel t [.slice a len cap] = some (d, p)) :
    ∃ l, Row w a len l ∧ (len = 0 ∨ ∃ elems spare, d = .slice elems spare ∧ elems.length = len) := by
  rcases open_ints ht he hc h with ⟨hcs, _⟩ | ⟨x, l, c, zs, hcs, _, hl, hm, hz, hx, hcell, hwz⟩
  · simp at hcs
    obtain ⟨rfl, rfl, rfl⟩ := hcs
    exact ⟨[], Row.nil w, .inl rfl⟩
  · simp at hcs
    obtain ⟨rfl, rfl, rfl⟩ := hcs
    simp only [Prod.mk.injEq] at hx
    simp at hz
    refine ⟨(zs.take len).map fun z => UInt8.ofNat z.toNat, ⟨by simp; omega, ?_⟩, .inr ⟨_, _, hx.1, by simp [lits]; omega⟩⟩
    by_cases h0 : len = 0
    · exact .inl h0
    · obtain ⟨b, off, spot⟩ := x
      have hspot : spot = none := by simpa [Addr.add] using World.cell?_spot (hcell 0 (by omega))
      subst hspot
      refine .inr ⟨b, off, rfl, fun i hi => ?_⟩
      rw [← add_plain, hcell i (by omega)]
      have hb := wf_u8 (hwz (zs.getD i 0) (by
        have : zs.getD i 0 = zs[i]'(by omega) := by simp [List.getD_eq_getElem?_getD, List.getElem?_eq_getElem (show i < zs.length by omega)]
        rw [this]
        exact List.getElem_mem _))
      have e : nth ((zs.take len).map fun z => UInt8.ofNat z.toNat) i = zs.getD i 0 := by
        unfold nth
        have h1 : i < zs.length := by omega
        simp only [List.getD_eq_getElem?_getD, List.getElem?_map, List.getElem?_take, if_pos hi, List.getElem?_eq_getElem h1, Option.map_some, Option.getD_some] at hb ⊢
        rw [UInt8.toNat_ofNat']
        omega
      rw [e]
end Go.Proofs.YtbpkhpkllokbhaaDoor
/- How an argument that is a slice of slices of bytes is opened, and how its bulk bounds it. -/
namespace Go.Proofs.YtbpkhpkllokbhaaDoor
open Go.ChangeShapes Go.WideShapes Go.ChangeAt Go.RowKit
set_option linter.unusedVariables false
set_option linter.unusedSimpArgs false

theorem bulk_ge {H : Type} (l : List (DataW H)) : l.length ≤ Rows.uptoBulkAll l := by
  induction l with
  | nil => exact Nat.zero_le _
  | cons d r ih =>
    have : 1 ≤ Rows.uptoBulk d := by cases d with
      | lit x => cases x <;> simp [Rows.uptoBulk]
      | _ => simp [Rows.uptoBulk]
    simp only [Rows.uptoBulkAll, List.length_cons]
    omega
theorem open_cap {H : Type} {enc : TypeId × Value → H} {P : Program} {w : World} {base : Nat} {held : Bool} {t e : TypeId} {fuel : Nat} {a : Option Addr} {len cap : Nat} {x : DataW H × List MemPlace}
    (ht : P.underlying t = some (.slice e)) (h : DataW.trod enc P w base (fun _ => true) held fuel t [.slice a len cap] = some x) : len ≤ cap := by
  rcases Go.Deep.open_slice ht h with ⟨hcs, _⟩ | ⟨y, l, c, m, n, D, Pl, hcs, _, hlc, _⟩
  · simp at hcs
    omega
  · simp at hcs
    omega
theorem open_bytes_any {H : Type} {enc : TypeId × Value → H} {P : Program} {w : World} {base : Nat} {held : Bool} {t e : TypeId} {fuel : Nat} {cs : List Value} {d : DataW H} {p : List MemPlace}
    (ht : P.underlying t = some (.slice e)) (he : P.underlying e = some (.int .u8)) (hc : P.cellsOf e = 1)
    (h : DataW.trod enc P w base (fun _ => true) held fuel t cs = some (d, p)) :
    ∃ a len cap l, cs = [.slice a len cap] ∧ Row w a len l ∧ len ≤ cap ∧ len ≤ Rows.uptoBulk d := by
  have key : ∃ a len cap, cs = [.slice a len cap] := by
    rcases open_ints ht he hc h with ⟨hcs, _⟩ | ⟨x, l, c, zs, hcs, _⟩
    · exact ⟨_, _, _, hcs⟩
    · exact ⟨_, _, _, hcs⟩
  obtain ⟨a, len, cap, rfl⟩ := key
  obtain ⟨l, hl, hd⟩ := open_bytes ht he hc h
  refine ⟨a, len, cap, l, rfl, hl, open_cap ht h, ?_⟩
  rcases hd with h0 | ⟨es, sp, rfl, h1⟩
  · omega
  · have := bulk_ge es
    simp only [Rows.uptoBulk]
    omega

/-- A slice of n slices of bytes at a reads as the list ls. -/
def BRows (w : World) (a : Option Addr) (n : Nat) (ls : List (List UInt8)) : Prop :=
  ls.length = n ∧ (n = 0 ∨ ∃ b o, a = some ⟨b, o, none⟩ ∧ ∀ i, i < n → ∃ (ai : Option Addr) (ni ci : Nat), w.cell? ⟨b, o + i, none⟩ = some (.slice ai ni ci) ∧ ni ≤ ci ∧ Row w ai ni (ls.getD i []))
theorem BRows.nil (w : World) : BRows w none 0 [] := ⟨rfl, .inl rfl⟩
theorem BRows.below {w w' : World} {a : Option Addr} {n : Nat} {ls : List (List UInt8)} (h : BRows w a n ls) (hb : Below w.heap.size w w') : BRows w' a n ls := by
  obtain ⟨h1, h3⟩ := h
  refine ⟨h1, ?_⟩
  rcases h3 with h3 | ⟨b, o, ha, hc⟩
  · exact .inl h3
  · refine .inr ⟨b, o, ha, fun i hi => ?_⟩
    obtain ⟨ai, ni, ci, e1, e3, e2⟩ := hc i hi
    exact ⟨ai, ni, ci, (hb.cell (p := ⟨b, o + i, none⟩) (cell_block e1)).trans e1, e3, e2.below hb⟩

theorem bulk_map {H : Type} (D : Nat → DataW H) (f : Nat → List UInt8) : ∀ n, (∀ i, i < n → (f i).length ≤ Rows.uptoBulk (D i)) → (((List.range n).map f).flatten).length ≤ Rows.uptoBulkAll ((List.range n).map D)
  | 0, _ => by simp
  | n + 1, h => by
    have ih := bulk_map D f n (fun i hi => h i (by omega))
    have hn := h n (by omega)
    have app : ∀ (x y : List (DataW H)), Rows.uptoBulkAll (x ++ y) = Rows.uptoBulkAll x + Rows.uptoBulkAll y := by
      intro x y
      induction x with
      | nil => simp [Rows.uptoBulkAll]
      | cons a r ih => simp only [List.cons_append, Rows.uptoBulkAll, ih]; omega
    rw [List.range_succ, List.map_append, List.map_append, List.flatten_append, List.length_append, app]
    simp only [List.map_cons, List.map_nil, List.flatten_cons, List.flatten_nil, List.append_nil, Rows.uptoBulkAll]
    omega
theorem open_rows {H : Type} {enc : TypeId × Value → H} {P : Program} {w : World} {base : Nat} {held : Bool} {t e f : TypeId} {fuel : Nat} {a : Option Addr} {len cap : Nat} {d : DataW H} {p : List MemPlace}
    (ht : P.underlying t = some (.slice e)) (he : P.underlying e = some (.slice f)) (hf : P.underlying f = some (.int .u8)) (hcf : P.cellsOf f = 1) (hce : P.cellsOf e = 1)
    (h : DataW.trod enc P w base (fun _ => true) held fuel t [.slice a len cap] = some (d, p)) :
    ∃ ls, BRows w a len ls ∧ ls.flatten.length + len ≤ 2 * Rows.uptoBulk d := by
  rcases Go.Deep.open_slice ht h with ⟨hcs, _⟩ | ⟨x, l, c, m, n, D, Pl, hcs, _, hlc, hm, hmm, hx, hel⟩
  · simp at hcs
    obtain ⟨rfl, rfl, rfl⟩ := hcs
    exact ⟨[], BRows.nil w, by simp⟩
  · simp at hcs
    obtain ⟨rfl, rfl, rfl⟩ := hcs
    simp only [if_true] at hmm
    subst hmm
    simp only [Prod.mk.injEq] at hx
    have each : ∀ i, i < len → ∃ q : List UInt8, q.length ≤ Rows.uptoBulk (D i) ∧ ∃ (ai : Option Addr) (ni ci : Nat), w.cell? (x.add i) = some (.slice ai ni ci) ∧ ni ≤ ci ∧ Row w ai ni q := by
      intro i hi
      obtain ⟨cs', hc, htr⟩ := hel i (by omega)
      obtain ⟨ai, ni, ci, q, rfl, hR, hcc, hb⟩ := open_bytes_any he hf hcf htr
      refine ⟨q, by rw [hR.1]; exact hb, ai, ni, ci, ?_, hcc, hR⟩
      rw [hce, Nat.mul_one] at hc
      have hs := World.cells?_some hc
      have := hs.2.2 0 (by omega)
      simpa [Addr.add] using this
    let g : Nat → List UInt8 := fun i => if h : i < len then (each i h).choose else []
    have hg : ∀ i (hi : i < len), g i = (each i hi).choose := fun i hi => by simp [g, hi]
    refine ⟨(List.range len).map g, ⟨by simp, ?_⟩, ?_⟩
    · by_cases h0 : len = 0
      · exact .inl h0
      · obtain ⟨b, off, spot⟩ := x
        have hspot : spot = none := by
          obtain ⟨q, _, ai, ni, ci, hc, _, _⟩ := each 0 (by omega)
          simpa [Addr.add] using World.cell?_spot hc
        subst hspot
        refine .inr ⟨b, off, rfl, fun i hi => ?_⟩
        obtain ⟨_, ai, ni, ci, hc, hcc, hR⟩ := (each i hi).choose_spec
        refine ⟨ai, ni, ci, ?_, hcc, ?_⟩
        · rw [← add_plain]; exact hc
        · have : ((List.range len).map g).getD i [] = (each i hi).choose := by
            rw [← hg i hi]; simp [List.getD_eq_getElem?_getD, hi]
          rw [this]; exact hR
    · have h1 := bulk_map D g len (fun i hi => by rw [hg i hi]; exact (each i hi).choose_spec.1)
      have h2 := bulk_ge ((List.range len).map D)
      simp only [List.length_map, List.length_range] at h2
      rw [hx.1]
      simp only [Rows.uptoBulk]
      omega
end Go.Proofs.YtbpkhpkllokbhaaDoor
