/- Texts of this claim, joined: Rmac, Open, OpenD, Rof. -/
import Derived.Test.YtdplajhebapkgaaDoorJ05
import Derived.Test.YtdplajhebapkgaaDoorJ03
import Derived.Deep.DeepCutAuto
import Derived.Test.YtdplajhebapkgaaDoorJ01
import Derived.ProofKit
import Derived.OpenShut
import Derived.ShutString
import Derived.ChangeOld
import Derived.SizedLaws
import Derived.Test.YtdplajhebapkgaaDoorJ02
import Derived.Deep.Slices
/- The contract of oathbookref1.Mac. -/
namespace Go.Proofs.YtdplajhebapkgaaDoor
open Go.RowKit
set_option linter.unusedVariables false
set_option linter.unusedSimpArgs false

set_option maxRecDepth 100000 in
set_option maxHeartbeats 1000000 in
theorem rmac_any (a1 a2 : Option Addr) (n1 n2 c1 c2 : Nat) (key b : List UInt8) (w : World) (R1 : Row w a1 n1 key) (R2 : Row w a2 n2 b) (h1 : n1 ≤ 140737488353000) (h2 : n2 ≤ 140737488353000) :
    Calls Tryd.prog 35 #[.slice a1 n1 c1, .slice a2 n2 c2] w fun e w' => e = .returned (digestV (macL key b)) ∧ Below w.heap.size w w' := by
  obtain ⟨i0, hi, hz0, hz1, hz2⟩ := info_parts Tryd.infoU8
  have HK1 : Hid (key.length = n1) := R1.1
  go_enter Tryd.func35, Tryd.ntmps35
  go_upto_if 13 with fail
  go_cut [0, 5] (fun kv dv wq => ∃ (ak : Option Addr) (nk ck : Nat), kv = .slice ak nk ck ∧ nk ≤ 64 ∧ Row wq ak nk (keyL key) ∧ Row wq a2 n2 b ∧ Below (w.heap.size + 1) (w.alloc (.cells zeros32 23)) wq)
  case first =>
    by_cases h64 : 64 < n1
    · have HKL : Hid (keyL key = shaL key) := by unfold Hid keyL; rw [if_pos (by rw [HK1.out]; exact h64)]
      go_wp2_with fail
      refine (rsum_any _ _ _ _ _ (R1.below ((Below.refl _ _).alloc (Nat.le_refl _) _)) (by omega)).mono ?_
      rintro e w1 ⟨rfl, hb1⟩
      go_wp2_with (refine wpList_store_mid (by rfl) 23 (.tmp 5) (.tmp 15) (by rfl) w1.heap.size 0 (cellsB (shaL key)).toArray (by rfl) (by rfl) (by rw [cells32 (shaL_length _)]; exact there_new w1 _) (by rw [cells32 (shaL_length _)]; kernel_rfl) (all_oneCell_toArray (cellsB_one _)) ?_)
      go_meet
      case rel =>
        have hs1 : w.heap.size + 1 ≤ w1.heap.size := by have := hb1.size; simpa using this
        have hb2 := new_stored w1 (.cells zeros32 23) (cellsB (shaL key))
        have hb1' : Below (w.heap.size + 1) (w.alloc (.cells zeros32 23)) w1 := hb1.mono (by simp)
        refine ⟨_, 32, 32, rfl, by omega, ?_, ?_, hb1'.trans (hb2.mono hs1)⟩
        · rw [HKL.out]
          exact (dat_stored (there_new w1 23) (shaL_length key)).row (shaL_length key)
        · exact R2.below (((Below.refl _ _).alloc (Nat.le_refl _) _).trans ((hb1'.trans (hb2.mono hs1)).mono (Nat.le_succ _)))
    · have HKL : Hid (keyL key = key) := by unfold Hid keyL; rw [if_neg (by rw [HK1.out]; exact h64)]
      go_wp2_with fail
      go_meet
      case rel => exact ⟨_, _, _, rfl, by omega, by rw [HKL.out]; exact R1.below ((Below.refl _ _).alloc (Nat.le_refl _) _), R2.below ((Below.refl _ _).alloc (Nat.le_refl _) _), Below.refl _ _⟩
  case rest =>
    obtain ⟨ak, nk, ck, rfl, hnk, Rk, R2q, BQ⟩ := hcut
    have HKK : Hid ((keyL key).length = nk) := Rk.1
    have hsq : w.heap.size + 1 ≤ wc.heap.size := by have := BQ.size; simpa using this
    have HG : Hid (macL key b = shaL (padX (keyL key) 92 64 ++ shaL (padX (keyL key) 54 64 ++ b))) := rfl
    generalize keyL key = kk at *
    clear R1 R2 h1
    go_wp2_with fail
    go_loopw [6, 7, 8] (fun ov iv i wr => ∃ k : Nat, k ≤ 64 ∧ i = .int .i64 (k : Int) ∧ OwnL wr wc.heap.size ov (padX kk 92 k) ∧ OwnL wr wc.heap.size iv (padX kk 54 k) ∧ Sep ov iv ∧ Below wc.heap.size wc wr) (fun _ _ i _ => 64 - (intOf i).toNat)
    case atStart => exact ⟨0, Nat.zero_le _, rfl, OwnL.nil _ _, OwnL.nil _ _, .inl rfl, Below.refl _ _⟩
    case round =>
      obtain ⟨k, hk, rfl, hO, hI, hS, hB⟩ := hrel
      by_cases hlt : k < 64
      · have E1 : bits .xor .u8 (nth kk k) 92 = (((xorB kk k 92).toNat : Nat) : Int) := xor_byte kk k 92
        have E2 : bits .xor .u8 (nth kk k) 54 = (((xorB kk k 54).toNat : Nat) : Int) := xor_byte kk k 54
        have HO : Hid (OwnL wr wc.heap.size u6 (padX kk 92 k)) := hO
        have HI : Hid (OwnL wr wc.heap.size u7 (padX kk 54 k)) := hI
        have HP : Hid (∀ x, (padX kk x k).length = k) := fun x => padX_length kk x k
        clear hO hI
        by_cases hkn : k < nk
        · obtain ⟨_, h0 | ⟨bk, ok, rfl, hkc⟩⟩ := Rk
          · omega
          have hcell := (hB.cell (p := ⟨bk, ok + k, none⟩) (cell_block (hkc k hkn))).trans (hkc k hkn)
          have hk0 : (0 : Int) ≤ (k : Int) := by omega
          have hk1 : (k : Int) < (nk : Int) := by omega
          clear hkc
          go_wp2_with (first
            | (at_builtin; refine wpList_append_bytes_at rfl (.tmp 29) (.tmp 32) 57 rfl wc.heap.size i0 Tryd.underlying57 hi hz0 hz1 hz2 u6 (padX kk 92 k) rfl (World.ownsRow.alloc HO.out _) _ 1 1 [xorB kk k 92] rfl (Row.lit1 wr (xorB kk k 92) 5) (by rw [HP.out]; omega) (by have := hB.size; simp; omega) ?_; intro v6 w6 ho6 hg6 ha6)
            | (at_builtin; refine wpList_append_bytes_at rfl (.tmp 34) (.tmp 37) 57 rfl wc.heap.size i0 Tryd.underlying57 hi hz0 hz1 hz2 u7 (padX kk 54 k) rfl (World.ownsRow.alloc (OwnL.other (World.ownsRow.alloc HI.out _) hg6 hS) _) _ 1 1 [xorB kk k 54] rfl (Row.lit1 w6 (xorB kk k 54) 5) (by rw [HP.out]; omega) (by have := hB.size; have := hg6.size; simp at this; simp; omega) ?_; intro v7 w7 ho7 hg7 ha7))
          have s6 : Sep v6 u7 := Sep.next hS ha6 (World.ownsRow.alloc HI.out _)
          have B6 := OwnL.grown (World.ownsRow.alloc HO.out _) (hB.alloc hB.size _) hg6 (Nat.le_refl _) (by have := hB.size; simp; omega)
          have o6 : OwnL w6 wc.heap.size u7 (padX kk 54 k) := OwnL.other (World.ownsRow.alloc HI.out _) hg6 hS
          have B7 := OwnL.grown (World.ownsRow.alloc o6 _) (B6.alloc B6.size _) hg7 (Nat.le_refl _) (by have := B6.size; simp; omega)
          have q6 : OwnL w7 wc.heap.size v6 (padX kk 92 (k + 1)) := by rw [← padX_succ]; exact OwnL.other (World.ownsRow.alloc ho6 _) hg7 s6.symm
          have q7 : OwnL w7 wc.heap.size v7 (padX kk 54 (k + 1)) := by rw [← padX_succ]; exact ho7
          have s7 : Sep v6 v7 := (Sep.next s6.symm ha7 (World.ownsRow.alloc ho6 _)).symm
          clear ho6 hg6 ha6 ho7 hg7 ha7 s6 B6 o6 HO HI hS hB
          go_wp2
          go_roundw
          case rel => exact ⟨k + 1, by omega, by go_num, q6, q7, s7, B7⟩
          case measure => simp [intOf]; omega
        · have hn0 := nth_out kk k (by have := HKK.out; omega)
          rw [hn0] at E1 E2
          clear hn0
          go_wp2_with (first
            | (at_builtin; refine wpList_append_bytes_at rfl (.tmp 29) (.tmp 32) 57 rfl wc.heap.size i0 Tryd.underlying57 hi hz0 hz1 hz2 u6 (padX kk 92 k) rfl (World.ownsRow.alloc HO.out _) _ 1 1 [xorB kk k 92] rfl (Row.lit1 wr (xorB kk k 92) 5) (by rw [HP.out]; omega) (by have := hB.size; simp; omega) ?_; intro v6 w6 ho6 hg6 ha6)
            | (at_builtin; refine wpList_append_bytes_at rfl (.tmp 34) (.tmp 37) 57 rfl wc.heap.size i0 Tryd.underlying57 hi hz0 hz1 hz2 u7 (padX kk 54 k) rfl (World.ownsRow.alloc (OwnL.other (World.ownsRow.alloc HI.out _) hg6 hS) _) _ 1 1 [xorB kk k 54] rfl (Row.lit1 w6 (xorB kk k 54) 5) (by rw [HP.out]; omega) (by have := hB.size; have := hg6.size; simp at this; simp; omega) ?_; intro v7 w7 ho7 hg7 ha7))
          have s6 : Sep v6 u7 := Sep.next hS ha6 (World.ownsRow.alloc HI.out _)
          have B6 := OwnL.grown (World.ownsRow.alloc HO.out _) (hB.alloc hB.size _) hg6 (Nat.le_refl _) (by have := hB.size; simp; omega)
          have o6 : OwnL w6 wc.heap.size u7 (padX kk 54 k) := OwnL.other (World.ownsRow.alloc HI.out _) hg6 hS
          have B7 := OwnL.grown (World.ownsRow.alloc o6 _) (B6.alloc B6.size _) hg7 (Nat.le_refl _) (by have := B6.size; simp; omega)
          have q6 : OwnL w7 wc.heap.size v6 (padX kk 92 (k + 1)) := by rw [← padX_succ]; exact OwnL.other (World.ownsRow.alloc ho6 _) hg7 s6.symm
          have q7 : OwnL w7 wc.heap.size v7 (padX kk 54 (k + 1)) := by rw [← padX_succ]; exact ho7
          have s7 : Sep v6 v7 := (Sep.next s6.symm ha7 (World.ownsRow.alloc ho6 _)).symm
          clear ho6 hg6 ha6 ho7 hg7 ha7 s6 B6 o6 HO HI hS hB
          go_wp2
          go_roundw
          case rel => exact ⟨k + 1, by omega, by go_num, q6, q7, s7, B7⟩
          case measure => simp [intOf]; omega
      · obtain rfl : k = 64 := by omega
        have R2w := R2q.below hB
        have HO : Hid (OwnL wr wc.heap.size u6 (padX kk 92 64)) := hO
        have HI : Hid (OwnL wr wc.heap.size u7 (padX kk 54 64)) := hI
        have HP : Hid (∀ x, (padX kk x 64).length = 64) := fun x => padX_length kk x 64
        have hlb := R2q.1
        have hsw := hB.size
        have HE6 : Hid ((padX kk 54 64 ++ b).length = 64 + n2) := by unfold Hid; rw [List.length_append, HP.out, hlb]
        clear hO hI hlb
        go_wp2_with (at_builtin; refine wpList_append_bytes_at rfl (.tmp 39) (.tmp 40) 57 rfl wc.heap.size i0 Tryd.underlying57 hi hz0 hz1 hz2 u7 (padX kk 54 64) rfl HI.out a2 n2 c2 b rfl R2w (by rw [HP.out]; omega) hsw ?_; intro v6 w6 ho6 hg6 ha6; obtain ⟨g6, c6, rfl, r6, _⟩ := OwnL.formSome ho6 (by rw [List.length_append, HP.out]; omega); rw [HE6.out] at r6; rw [HE6.out])
        have q6 : OwnL w6 wc.heap.size u6 (padX kk 92 64) := OwnL.other HO.out hg6 hS.symm
        have B6 := OwnL.grown HI.out hB hg6 (Nat.le_refl _) hsw
        clear ho6 hg6 ha6 HO HI hS hB
        refine (rsum_any _ _ _ _ _ r6 (by omega)).mono ?_
        rintro e w7 ⟨rfl, hb7⟩
        have q7 := OwnL.below q6 hb7
        have B7 := below_trans B6 hb7
        have HD : Hid ((shaL (padX kk 54 64 ++ b)).length = 32) := shaL_length _
        generalize shaL (padX kk 54 64 ++ b) = d at *
        have hs7 := B7.size
        have HE8 : Hid ((padX kk 92 64 ++ d).length = 96) := by unfold Hid; rw [List.length_append, HP.out, HD.out]
        clear q6 B6 r6 hb7
        go_wp2_with (first
          | (refine wpList_store_mid (by rfl) 23 (.tmp 10) (.tmp 42) (by rfl) w7.heap.size 0 (cellsB d).toArray (by rfl) (by rfl) (by rw [cells32 HD.out]; exact there_new w7 _) (by rw [cells32 HD.out]; kernel_rfl) (all_oneCell_toArray (cellsB_one _)) ?_)
          | (at_builtin; refine wpList_append_bytes_at rfl (.tmp 43) (.tmp 44) 57 rfl wc.heap.size i0 Tryd.underlying57 hi hz0 hz1 hz2 u6 (padX kk 92 64) rfl (OwnL.below q7 (new_stored _ _ _)) (some ⟨w7.heap.size, 0, none⟩) 32 32 d rfl ((dat_stored (there_new w7 _) HD.out).row HD.out) (by rw [HP.out]; omega) (Nat.le_trans hs7 (new_stored _ _ _).size) ?_; intro v8 w8 ho8 hg8 ha8; obtain ⟨g8, c8, rfl, r8, _⟩ := OwnL.formSome ho8 (by rw [List.length_append, HP.out]; omega); rw [HE8.out] at r8; rw [HE8.out]))
        have B8 := OwnL.grown (OwnL.below q7 (new_stored _ _ _)) (B7.trans ((new_stored w7 _ _).mono hs7)) hg8 (Nat.le_refl _) (Nat.le_trans hs7 (new_stored _ _ _).size)
        clear ho8 hg8 ha8 q7 B7
        refine (rsum_any _ _ _ _ _ r8 (by omega)).mono ?_
        rintro e w9 ⟨rfl, hb9⟩
        have B9 := below_trans B8 hb9
        rw [← HG.out]
        have BT := BQ.trans (B9.mono hsq)
        clear B8 hb9 B9 r8
        go_wp2_with (refine wpList_store_mid (by rfl) 23 (.tmp 4) (.tmp 46) (by rfl) w.heap.size 0 (cellsB (macL key b)).toArray (by rfl) (by rfl) (by rw [cells32 (macL_length _ _)]; exact there_digest BT) (by rw [cells32 (macL_length _ _)]; kernel_rfl) (all_oneCell_toArray (cellsB_one _)) ?_)
        refine bodyPost_ret (v := digestV (macL key b)) (run_results_digest Tryd.results35 _ _ w.heap.size 0 (by rfl) (macL key b) (dat_stored (there_digest BT) (macL_length _ _)) _ Tryd.underlying23 (by rfl) (by rw [macL_length]; kernel_rfl)) rfl ⟨rfl, ?_⟩
        exact below_setCells _ (Nat.le_refl _) _ _ _ (((Below.refl _ _).alloc (Nat.le_refl _) _).trans (BT.mono (Nat.le_succ _)))
end Go.Proofs.YtdplajhebapkgaaDoor
/- How an argument that is a slice of bytes is opened: it reads as a list of bytes. -/
namespace Go.Proofs.YtdplajhebapkgaaDoor
open Go.ChangeShapes Go.WideShapes Go.ChangeAt Go.RowKit
open Go.ChangeMaps (open_string shut_string)
set_option linter.unusedVariables false
set_option linter.unusedSimpArgs false

theorem wf_u8 {n : Int} (h : (Lit.int .u8 n).wf = true) : 0 ≤ n ∧ n ≤ 255 := by
  have hmin : IntKind.u8.min = 0 := rfl
  have hmax : IntKind.u8.max = 255 := rfl
  simp only [Lit.wf, Bool.and_eq_true, decide_eq_true_eq] at h
  omega
theorem wf_i64 {n : Int} (h : (Lit.int .i64 n).wf = true) : -9223372036854775808 ≤ n ∧ n ≤ 9223372036854775807 := by
  have hmin : IntKind.i64.min = -9223372036854775808 := rfl
  have hmax : IntKind.i64.max = 9223372036854775807 := rfl
  simp only [Lit.wf, Bool.and_eq_true, decide_eq_true_eq] at h
  omega

theorem open_bytes {H : Type} {enc : TypeId × Value → H} {P : Program} {w : World} {base : Nat} {held : Bool} {t e : TypeId} {fuel : Nat} {a : Option Addr} {len cap : Nat} {d : DataW H} {p : List MemPlace}
    (ht : P.underlying t = some (.slice e)) (he : P.underlying e = some (.int .u8)) (hc : P.cellsOf e = 1)
    (h : DataW.trod enc P w base (fun _ => true) held fuel t [.slice a len cap] = some (d, p)) :
    ∃ l, Row w a len l ∧ (len = 0 ∨ ∃ elems spare, d = .slice elems spare ∧ elems.length = len) := by
  rcases open_ints ht he hc h with ⟨hcs, _⟩ | ⟨x, l, c, zs, hcs, _, hl, hm, hz, hx, hcell, hwz⟩
  · simp at hcs
    obtain ⟨rfl, rfl, rfl⟩ := hcs
    exact ⟨[], Row.nil w, .inl rfl⟩
  · simp at hcs
    obtain ⟨rfl, rfl, rfl⟩ := hcs
    simp only [Prod.mk.injEq] at hx
    simp at hz
    refine ⟨(zs.take len).map fun z => UInt8.ofNat z.toNat, ⟨by simp; omega, ?_⟩, .inr ⟨_, _, hx.1, by simp [lits]; omega⟩⟩
    by_cases h0 : len = 0
    · exact .inl h0
    · obtain ⟨b, off, spot⟩ := x
      have hspot : spot = none := by simpa [Addr.add] using World.cell?_spot (hcell 0 (by omega))
      subst hspot
      refine .inr ⟨b, off, rfl, fun i hi => ?_⟩
      rw [← add_plain, hcell i (by omega)]
      have hb := wf_u8 (hwz (zs.getD i 0) (by
        have : zs.getD i 0 = zs[i]'(by omega) := by simp [List.getD_eq_getElem?_getD, List.getElem?_eq_getElem (show i < zs.length by omega)]
        rw [this]
        exact List.getElem_mem _))
      have e : nth ((zs.take len).map fun z => UInt8.ofNat z.toNat) i = zs.getD i 0 := by
        unfold nth
        have h1 : i < zs.length := by omega
        simp only [List.getD_eq_getElem?_getD, List.getElem?_map, List.getElem?_take, if_pos hi, List.getElem?_eq_getElem h1, Option.map_some, Option.getD_some] at hb ⊢
        rw [UInt8.toNat_ofNat']
        omega
      rw [e]
end Go.Proofs.YtdplajhebapkgaaDoor
/- How an argument that is a digest, or a slice of digests, is opened. -/
namespace Go.Proofs.YtdplajhebapkgaaDoor
open Go.ChangeShapes Go.WideShapes Go.ChangeAt Go.RowKit
set_option linter.unusedVariables false
set_option linter.unusedSimpArgs false

/-- The byte that a value holds. -/
def byteOf : Value → UInt8
  | .int _ n => UInt8.ofNat n.toNat
  | _ => 0

section
variable {H : Type} {enc : TypeId × Value → H} {P : Program} {w : World} {base : Nat} {spare : Nat → Bool} {held : Bool} {t e : TypeId} {fuel : Nat}
theorem bytes_of_trod {cs : List Value} {x : DataW H × List MemPlace} (ht : P.underlying t = some (.array 32 e)) (he : P.underlying e = some (.int .u8)) (hce : P.cellsOf e = 1) (hct : P.cellsOf t = 32)
    (h : DataW.trod enc P w base spare held fuel t cs = some x) : ∃ l : List UInt8, l.length = 32 ∧ cs = cellsB l := by
  obtain ⟨xs, m, _, _, hl, hxs, hi⟩ := DataW.trod_array ht h
  rw [hct] at hl
  refine ⟨cs.map byteOf, by simp [hl], ?_⟩
  apply List.ext_getElem
  · simp [cellsB]
  · intro i h1 h2
    have hi' := hi i (by omega)
    rw [hce, Nat.mul_one, List.getElem?_eq_getElem (by omega)] at hi'
    obtain ⟨n, hn, _, hwf⟩ := DataW.trod_int he hi'
    have hb := wf_u8 hwf
    have hc : cs[i] = .int .u8 n := by
      have := congrArg List.head? hn
      simpa [List.head?_take, List.getElem?_eq_getElem h1] using this
    simp only [cellsB, List.getElem_map, hc, byteOf, UInt8.toNat_ofNat']
    congr 1
    omega
theorem open_digest {r : Reach} {b0 : Nat} {v : Value} {d : DataW H} {p : List MemPlace} (ht : P.underlying t = some (.array 32 e)) (he : P.underlying e = some (.int .u8)) (hce : P.cellsOf e = 1) (hct : P.cellsOf t = 32)
    (hv : Value.okWide P w r b0 t v) (h : DataW.Trod enc P w base spare held t v d p) : ∃ l : List UInt8, l.length = 32 ∧ v = digestV l := by
  obtain ⟨cs, rfl⟩ : ∃ cs, v = .agg cs := by
    simp only [Value.okWide, ht] at hv
    obtain ⟨cs, h1, _⟩ := hv
    exact ⟨cs, h1⟩
  obtain ⟨fuel, hf⟩ := h
  obtain ⟨l, hl, hc⟩ := bytes_of_trod ht he hce hct hf
  refine ⟨l, hl, ?_⟩
  have : cs.toList = cellsB l := hc
  show Value.agg cs = Value.agg (cellsB l).toArray
  rw [← this]
end

/-- A slice of n digests at a reads as the list ls. -/
def DRow (w : World) (a : Option Addr) (n : Nat) (ls : List (List UInt8)) : Prop :=
  ls.length = n ∧ (∀ l ∈ ls, l.length = 32) ∧ (n = 0 ∨ ∃ b o, a = some ⟨b, o, none⟩ ∧ ∀ i, i < n → DAt w b (o + 32 * i) (ls.getD i []))
theorem DRow.nil (w : World) : DRow w none 0 [] := ⟨rfl, (fun l hl => by cases hl), .inl rfl⟩
theorem DRow.len {w : World} {a : Option Addr} {n : Nat} {ls : List (List UInt8)} (h : DRow w a n ls) (i : Nat) (hi : i < n) : (ls.getD i []).length = 32 := by
  rw [List.getD_eq_getElem?_getD, List.getElem?_eq_getElem (by rw [h.1]; exact hi)]
  exact h.2.1 _ (List.getElem_mem _)
theorem DRow.below {w w' : World} {a : Option Addr} {n : Nat} {ls : List (List UInt8)} (h : DRow w a n ls) (hb : Below w.heap.size w w') : DRow w' a n ls := by
  have hlen := h.len
  obtain ⟨h1, h2, h3⟩ := h
  refine ⟨h1, h2, ?_⟩
  rcases h3 with h3 | ⟨b, o, ha, hc⟩
  · exact .inl h3
  · exact .inr ⟨b, o, ha, fun i hi => (hc i hi).below hb (cell_block ((hc i hi).cell 0 (by rw [hlen i hi]; omega)))⟩

theorem open_digests {H : Type} {enc : TypeId × Value → H} {P : Program} {w : World} {base : Nat} {held : Bool} {t e f : TypeId} {fuel : Nat} {a : Option Addr} {len cap : Nat} {d : DataW H} {p : List MemPlace}
    (ht : P.underlying t = some (.slice e)) (he : P.underlying e = some (.array 32 f)) (hf : P.underlying f = some (.int .u8)) (hcf : P.cellsOf f = 1) (hce : P.cellsOf e = 32)
    (h : DataW.trod enc P w base (fun _ => true) held fuel t [.slice a len cap] = some (d, p)) :
    ∃ ls, DRow w a len ls ∧ (len = 0 ∨ ∃ elems spare, d = .slice elems spare ∧ elems.length = len) := by
  rcases Go.Deep.open_slice ht h with ⟨hcs, _⟩ | ⟨x, l, c, m, n, D, Pl, hcs, _, hlc, hm, hmm, hx, hel⟩
  · simp at hcs
    obtain ⟨rfl, rfl, rfl⟩ := hcs
    exact ⟨[], DRow.nil w, .inl rfl⟩
  · simp at hcs
    obtain ⟨rfl, rfl, rfl⟩ := hcs
    simp only [if_true] at hmm
    subst hmm
    simp only [Prod.mk.injEq] at hx
    have each : ∀ i, i < len → ∃ q : List UInt8, q.length = 32 ∧ ∀ j, j < 32 → w.cell? ((x.add (i * 32)).add j) = some (.int .u8 (nth q j)) := by
      intro i hi
      obtain ⟨cs', hc, htr⟩ := hel i (by omega)
      obtain ⟨q, hq, rfl⟩ := bytes_of_trod he hf hcf hce htr
      refine ⟨q, hq, fun j hj => ?_⟩
      rw [hce] at hc
      have hs := World.cells?_some hc
      rw [hs.2.2 j hj, ← cellsB_at q j (by omega)]
    let ls := (List.range len).map fun i => if h : i < len then (each i h).choose else []
    have hls : ∀ i, i < len → ∃ h : i < len, ls.getD i [] = (each i h).choose := fun i hi => ⟨hi, by simp [ls, List.getD_eq_getElem?_getD, hi]⟩
    refine ⟨ls, ⟨by simp [ls], ?_, ?_⟩, .inr ⟨_, _, hx.1, by simp⟩⟩
    · intro l hl
      obtain ⟨i, hi, rfl⟩ := List.mem_map.1 hl
      have hi' := List.mem_range.1 hi
      rw [dif_pos hi']
      exact (each i hi').choose_spec.1
    · by_cases h0 : len = 0
      · exact .inl h0
      · obtain ⟨b, off, spot⟩ := x
        have hspot : spot = none := by
          obtain ⟨q, hq, hc⟩ := each 0 (by omega)
          simpa [Addr.add] using World.cell?_spot (hc 0 (by omega))
        subst hspot
        refine .inr ⟨b, off, rfl, fun i hi => ?_⟩
        obtain ⟨hi', e1⟩ := hls i hi
        rw [e1]
        have sp := (each i hi').choose_spec
        refine DAt.mk fun j hj => ?_
        have := sp.2 j (by omega)
        refine Eq.trans (congrArg w.cell? ?_) this
        rw [add_plain, add_plain, show off + 32 * i + j = off + i * 32 + j from by omega]
end Go.Proofs.YtdplajhebapkgaaDoor
/- The contract of oathbookref1.Of: the digest of a byte and digests. -/
namespace Go.Proofs.YtdplajhebapkgaaDoor
open Go.RowKit
set_option linter.unusedVariables false
set_option linter.unusedSimpArgs false
theorem OwnL.lit1 (w : World) (B : Nat) (x : UInt8) (hB : B ≤ w.heap.size) : OwnL (w.alloc (.cells #[.int .u8 (x.toNat : Int)] 5)) B (.slice (some ⟨w.heap.size, 0, none⟩) 1 1) [x] :=
  World.ownsRow_lit w #[.int .u8 (x.toNat : Int)] 1 hB (by unfold maxLen; omega) rfl
theorem OwnL.lit1' (w : World) (B s : Nat) (x : UInt8) (hs : w.heap.size = s) (hB : B ≤ s) : OwnL (w.alloc (.cells #[.int .u8 (x.toNat : Int)] 5)) B (.slice (some ⟨s, 0, none⟩) 1 1) [x] := by
  subst hs
  exact OwnL.lit1 w B x hB
theorem take_flatten (ls : List (List UInt8)) (k : Nat) (h : k < ls.length) : (ls.take k).flatten ++ ls.getD k [] = (ls.take (k + 1)).flatten := by
  rw [List.take_succ_eq_append_getElem h, List.flatten_append]
  simp [List.getD_eq_getElem?_getD, List.getElem?_eq_getElem h]
theorem flatten_length {ls : List (List UInt8)} (h : ∀ l ∈ ls, l.length = 32) : ls.flatten.length = 32 * ls.length := by
  induction ls with
  | nil => rfl
  | cons a r ih =>
    rw [List.flatten_cons, List.length_append, h a (List.mem_cons_self ..), ih (fun l hl => h l (List.mem_cons_of_mem _ hl)), List.length_cons]
    omega
theorem take_len {ls : List (List UInt8)} (h : ∀ l ∈ ls, l.length = 32) (k : Nat) (hk : k ≤ ls.length) : (ls.take k).flatten.length = 32 * k := by
  rw [flatten_length (fun l hl => h l (List.mem_of_mem_take hl)), List.length_take, Nat.min_eq_left hk]

set_option maxRecDepth 100000 in
set_option maxHeartbeats 1000000 in
theorem rof_any (x : UInt8) (a : Option Addr) (n c : Nat) (ls : List (List UInt8)) (w : World) (R : DRow w a n ls) (hn : 32 * n ≤ 140737488351232) :
    Calls Tryd.prog 19 #[.int .u8 (x.toNat : Int), .slice a n c] w fun e w' => e = .returned (digestV (shaL (x :: ls.flatten))) ∧ Below w.heap.size w w' := by
  obtain ⟨i0, hi, hz0, hz1, hz2⟩ := info_parts Tryd.infoU8
  have HLS : Hid (ls.length = n ∧ ∀ l ∈ ls, l.length = 32) := ⟨R.1, R.2.1⟩
  have HLD : Hid (∀ i, i < n → (ls.getD i []).length = 32) := R.len
  have HD : Hid (n = 0 ∨ ∃ b o, a = some ⟨b, o, none⟩ ∧ ∀ i, i < n → DAt w b (o + 32 * i) (ls.getD i [])) := R.2.2
  clear R
  go_enter Tryd.func19, Tryd.ntmps19
  go_wp2
  go_loopw [5, 6] (fun v i wr => ∃ k : Nat, k ≤ n ∧ i = .int .i64 (k : Int) ∧ OwnL wr (w.heap.size + 1) v (x :: (ls.take k).flatten) ∧ Below (w.heap.size + 1) (w.alloc _) wr) (fun _ i _ => n - (intOf i).toNat)
  case atStart => exact ⟨0, Nat.zero_le _, rfl, OwnL.lit1' _ _ _ x (by simp) (Nat.le_refl _), (Below.refl _ _).alloc (by simp) _⟩
  case round =>
    obtain ⟨k, hk, rfl, hO, hB⟩ := hrel
    have hsz : w.heap.size + 1 ≤ wr.heap.size := by have := hB.size; simpa using this
    by_cases hlt : k < n
    · rcases HD.out with h0 | ⟨b, o, rfl, hc⟩
      · omega
      have BW : Below w.heap.size w wr := ((Below.refl _ _).alloc (Nat.le_refl _) _).trans (hB.mono (Nat.le_succ _))
      have hd := hc k hlt
      have hl := HLD.out k hlt
      have hd := hd.below BW (cell_block (hd.cell 0 (by omega)))
      have hk' := take_flatten ls k (by have := HLS.out.1; omega)
      generalize ls.getD k [] = d at *
      have HDk : Hid (DAt wr b (o + k * 32) d) := by rw [Nat.mul_comm k 32]; exact hd
      have HL : Hid (d.length = 32 ∧ (ls.take k).flatten ++ d = (ls.take (k + 1)).flatten) := ⟨hl, hk'⟩
      have HO : Hid (OwnL wr (w.heap.size + 1) u5 (x :: (ls.take k).flatten)) := hO
      have el : (x :: (ls.take k).flatten).length = 1 + 32 * k := by rw [List.length_cons, take_len HLS.out.2 k (by have := HLS.out.1; omega)]; omega
      have HEL : Hid ((x :: (ls.take k).flatten).length = 1 + 32 * k) := el
      clear hd hl hk' hc hO BW el
      go_wp2_with (first
        | (refine wpList_load_mid (by rfl) 23 (.tmp 18) (by rfl) b (o + k * 32) (by rfl) (cellsB d) _ HDk.out Tryd.underlying23 (by rfl) (by rw [cellsB_length, HL.out.1]; kernel_rfl) ?_)
        | (refine wpList_store_mid (by rfl) 23 (.tmp 7) (.tmp 19) (by rfl) wr.heap.size 0 (cellsB d).toArray (by rfl) (by rfl) (by rw [cells32 HL.out.1]; exact there_new wr _) (by rw [cells32 HL.out.1]; kernel_rfl) (all_oneCell_toArray (cellsB_one _)) ?_)
        | (at_builtin; refine wpList_append_bytes rfl (.tmp 20) (.tmp 21) 57 rfl (w.heap.size + 1) i0 Tryd.underlying57 hi hz0 hz1 hz2 u5 (x :: (ls.take k).flatten) rfl (OwnL.below HO.out (new_stored _ _ _)) (some ⟨wr.heap.size, 0, none⟩) 32 32 d rfl ((dat_stored (there_new wr _) HL.out.1).row HL.out.1) (by rw [HEL.out]; omega) (Nat.le_trans hsz (new_stored _ _ _).size) ?_; intro v5 w5 ho5 hg5))
      have B5 := OwnL.grown (OwnL.below HO.out (new_stored _ _ _)) (hB.trans ((new_stored wr _ _).mono hsz)) hg5 (Nat.le_refl _) (Nat.le_trans hsz (new_stored _ _ _).size)
      have ho5 : OwnL w5 (w.heap.size + 1) v5 (x :: (ls.take (k + 1)).flatten) := by rw [← HL.out.2]; exact ho5
      clear hg5 HO hB
      go_wp2
      go_roundw
      case rel => exact ⟨k + 1, by omega, by go_num, ho5, B5⟩
      case measure => simp [intOf]; omega
    · obtain rfl : k = n := by omega
      obtain ⟨g, c5, rfl, R5, _⟩ := hO.formSome (by simp)
      have el : (x :: (ls.take k).flatten).length = 1 + 32 * k := by rw [List.length_cons, take_len HLS.out.2 k (by have := HLS.out.1; omega)]; omega
      rw [el] at R5
      rw [el]
      have et : (ls.take k).flatten = ls.flatten := by rw [List.take_of_length_le (by have := HLS.out.1; omega)]
      rw [et] at R5
      have HT : Hid (wr.there w.heap.size 0 32) := there_digest hB
      clear hO el et
      go_wp2_with fail
      refine (rsum_any _ _ _ _ _ R5 (by omega)).mono ?_
      rintro e w6 ⟨rfl, hb6⟩
      go_wp2_with (refine wpList_store_mid (by rfl) 23 (.tmp 4) (.tmp 24) (by rfl) w.heap.size 0 (cellsB (shaL (x :: ls.flatten))).toArray (by rfl) (by rfl) (by rw [cells32 (shaL_length _)]; exact there_digest (hB.trans (hb6.mono hsz))) (by rw [cells32 (shaL_length _)]; kernel_rfl) (all_oneCell_toArray (cellsB_one _)) ?_)
      refine bodyPost_ret (v := digestV (shaL (x :: ls.flatten))) (run_results_digest Tryd.results19 _ _ w.heap.size 0 (by rfl) (shaL (x :: ls.flatten)) (dat_stored (there_digest (hB.trans (hb6.mono hsz))) (shaL_length _)) _ Tryd.underlying23 (by rfl) (by rw [shaL_length]; kernel_rfl)) rfl ⟨rfl, ?_⟩
      exact below_setCells _ (Nat.le_refl _) _ _ _ (((Below.refl _ _).alloc (Nat.le_refl _) _).trans ((hB.mono (Nat.le_succ _)).trans (hb6.mono (by omega))))
end Go.Proofs.YtdplajhebapkgaaDoor
