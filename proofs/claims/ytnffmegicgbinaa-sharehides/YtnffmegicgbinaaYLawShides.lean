/- The law ShareHides: fewer shares tell nothing. -/
import Derived.Test.YtnffmegicgbinaaJ14
import Derived.Test.YtnffmegicgbinaaJ15
import Derived.Test.YtnffmegicgbinaaJ12
import Derived.Test.YtnffmegicgbinaaJ09
import Derived.OwnWalk
import Derived.Deep.RegionHeld3
import Derived.Deep.DeepCutAuto
namespace Go.Proofs.Ytnffmegicgbinaa
open Go.RowKit
set_option linter.unusedVariables false
set_option linter.unusedSimpArgs false

theorem Try.infoRw : (Try.prog.info? 22).map (fun i => (i.zero, i.size, i.bytes)) = some (some (.slice none 0 0), 1, 24) := by kernel_rfl
theorem wp_appendLat {w : World} {o : Oper} {a : Act} {K : Act → World → Prop} {Q : Exit → Act → World → Prop} (s x : Operand)
    (ho : o.op = .call { callee := .builtin .append, args := #[s, x], argTypes := #[22, 22] })
    (base : Nat) (v : Value) (l : List UInt8) (hs : a.eval s = v) (hown : OwnL w base v l)
    (b off : Nat) (n c : Nat) (r : List UInt8) (hx : a.eval x = .slice (some ⟨b, off, none⟩) n c) (hr : Row w (some ⟨b, off, none⟩) n r) (hn : 0 < n) (h47 : l.length + n ≤ 140737488355328) (hbase : base ≤ w.heap.size)
    (h : ∀ v' w', OwnL w' base v' (l ++ r) → w.grownBy w' v.ownBlock → (v'.ownBlock = v.ownBlock ∨ v'.ownBlock = some w.heap.size) → K (a.put o.dst v') w') : o.wp Try.prog a w K Q := by
  obtain ⟨i0, hi, hz0, hz1, hz2⟩ := info_parts Try.infoSh8
  obtain ⟨hl, hr⟩ := hr
  have hnews : ∀ j u, (cellsB r)[j]? = some u → w.cell? ((⟨b, off, none⟩ : Addr).add j) = some u := by
    intro j u hj
    have hj' : j < r.length := by have := (List.getElem?_eq_some_iff.1 hj).1; rwa [cellsB_length] at this
    rcases hr with h0 | ⟨b', off', h1, hc⟩
    · omega
    · cases h1
      rw [Go.WideShapes.add_plain, hc j (by omega), ← cellsB_at r j hj', hj]
  obtain ⟨v', w', hrun, h2, h3, h4, h5⟩ := run_append_own_at (P := Try.prog) w base 22 o.type 5 i0 (.int .u8 0) 1 1 Try.underlying22 hi hz0 hz1 hz2 rfl (by decide) v l.length (cellsB l) hown ⟨b, off, none⟩ n c (cellsB r) (by rw [cellsB_length, hl, Nat.mul_one]) hnews (cellsB_one _) (by unfold maxLen; omega) (by omega) hbase
  unfold Oper.wp execOp
  simp only [ho, resolve, invoke, builtin, Sem.run_bind, Sem.run_pure, Result.andThen_ok, List.map_toArray, List.map_cons, List.map_nil, hs, hx, hrun]
  refine h v' w' ?_ h3 h5
  unfold OwnL
  rw [List.length_append, cellsB_append, hl]
  exact h2
set_option maxRecDepth 100000 in
set_option maxHeartbeats 4000000 in
theorem shides_walk (a1 : Option Addr) (m c1 : Nat) (secret : List UInt8) (a : Option Addr) (n c : Nat) (ss : List Shr) (w : World) (G : Env w)
    (R1 : Row w a1 m secret) (h1 : m ≤ c1) (hm : m ≤ 140737488351232) (R : SRow w a n ss) (hc : n ≤ c) (hn : 32 * n ≤ 140737488351232) :
    Calls Try.prog 4 #[.slice a1 m c1, .slice a n c] w fun r w' => r = .returned (.bool true) ∧ Below w.heap.size w w' := by
  obtain ⟨iB, hiB, hz0, hz1, hz2⟩ := info_parts Try.infoSh8
  obtain ⟨iR, hiR, hr0, hr1, hr2⟩ := info_parts Try.infoRw
  have HALL : Hid (∀ wx, Below w.heap.size w wx → Env wx ∧ Row wx a1 m secret ∧ SRow wx a n ss) := fun wx hx => ⟨G.below hx, R1.below hx, R.below hx⟩
  have HB0 : Hid (Below w.heap.size w w) := Below.refl _ _
  have HLS : Hid (secret.length = m ∧ ss.length = n) := ⟨R1.1, R.1⟩
  clear G R1 R
  go_enter Try.func4, Try.ntmps4
  go_wp2_with fail
  refine (lsplit_any w (HALL.out _ HB0.out).1).mono ?_
  rintro r w1 ⟨rfl, hb1⟩
  have HB1 : Hid (Below w.heap.size w w1) := hb1
  clear hb1 HB0
  by_cases d1 : (n : Int) < 1
  · go_wp2_with fail
    go_ret
    exact ⟨rfl, HB1.out⟩
  by_cases d2 : (6 : Int) < (n : Int)
  · go_wp2_with fail
    go_ret
    exact ⟨rfl, HB1.out⟩
  have hn1 : 1 ≤ n := by omega
  have hn6 : n ≤ 6 := by omega
  go_wp2_with fail
  clear d1 d2
  refine (rsfault_any a n c ss 1 20 w1 (HALL.out _ HB1.out).2.2 hc (by omega) (by omega) (by omega)).mono ?_
  rintro r w2 ⟨rfl, hb2⟩
  have HB2 : Hid (Below w.heap.size w w2) := HB1.out.trans (hb2.mono HB1.out.size)
  clear hb2 HB1
  obtain ⟨b, o, ha⟩ := (HALL.out _ HB2.out).2.2.addr (by omega)
  subst ha
  obtain ⟨E, hE⟩ : ∃ E, sfault 1 20 ss = E := ⟨_, rfl⟩
  have HE : Hid (sfault 1 20 ss = E) := hE
  rw [hE]
  clear hE
  by_cases d3 : E = 0
  rotate_left
  · have e3 : (E != 0) = true := by simp [d3]
    go_wp2_with fail
    go_ret
    exact ⟨rfl, HB2.out⟩
  subst d3
  have hok := sfault_ok HE.out
  obtain ⟨f1, F, f2, _, _, _, HF0⟩ := (HALL.out _ HB2.out).2.2.head 0 (by omega)
  have q0 : w2.cell? ⟨b, o + 1, none⟩ = some (.slice f1 F f2) := by have := (HF0 w2 (Below.refl _ _)).2.1; simpa using this
  have HFL : Hid ((ss.getD 0 noS).2.length = F) := (HF0 w2 (Below.refl _ _)).2.2.1
  clear HF0
  by_cases d4 : F = m
  rotate_left
  · have e4 : ((F : Int) != (m : Int)) = true := by simp; omega
    have e5 : ¬ (F : Int) = (m : Int) := by omega
    have n0 : (0 : Int) < (n : Int) := by omega
    go_wp2_with fail
    go_ret
    exact ⟨rfl, HB2.out⟩
  subst d4
  have e4 : ((F : Int) != (F : Int)) = false := by simp
  have n0 : (0 : Int) < (n : Int) := by omega
  by_cases d5 : (100 : Int) < (F : Int)
  · go_wp2_with fail
    go_ret
    exact ⟨rfl, HB2.out⟩
  have hm100 : F ≤ 100 := by omega
  have HSP : Hid (∀ s ∈ ss, (1 ≤ s.1 ∧ s.1 ≤ 20) ∧ s.2.length = secret.length) := fun s hs => ⟨⟨(hok.1 s hs).1, (hok.1 s hs).2.1⟩, by rw [(hok.1 s hs).2.2, HFL.out, HLS.out.1]⟩
  have HSP2 : Hid (∀ s ∈ ss, 1 ≤ s.1 ∧ s.1 < 256) := fun s hs => ⟨(hok.1 s hs).1, by have := (hok.1 s hs).2.1; omega⟩
  have HND : Hid ((ss.map (·.1)).Nodup) := hok.2
  clear hok
  go_wp2_with (first
    | (at_make; (refine wpList_make_full _ rfl _ _ 23 rfl w2.heap.size 22 iR (.slice none 0 0) 1 Try.underlying23 hiR hr0 hr1 _ _ _ _ n rfl rfl rfl rfl (by rw [hr2]; omega) (by unfold maxLen; omega) (Nat.le_refl _) ?_); intro w5 hown hgrow))
  generalize F = m at *
  have HM5 : Hid (MRow w5 w2.heap.size n w2.heap.size (fun _ => [])) := MRow.made hown
  obtain ⟨gm, hgm⟩ : ∃ gm, w2.heap.size = gm := ⟨_, rfl⟩
  have HGM : Hid (w2.heap.size = gm) := hgm
  have HB5 : Hid (Below gm w2 w5) := by rw [← hgm]; exact (Below.refl _ _).grown hgrow (Nat.le_refl _) (fun _ h => by cases h)
  rw [hgm] at HM5
  simp only [hgm]
  clear hown hgrow hgm q0 d5 e4 iR hiR hr0 hr1 hr2
  generalize w2 = w4 at *
  have HBW : Hid (∀ wx, Below gm w4 wx → Below w.heap.size w wx) := fun wx hx => HB2.out.trans (hx.mono (by rw [← HGM.out]; exact HB2.out.size))
  have HSC : Hid (∀ i, i < n → ∃ (xa : Option Addr) (xn xc : Nat), xn = m ∧ xn ≤ xc ∧ (ss.getD i noS).1 < 256 ∧ ∀ wx, Below w.heap.size w wx → wx.cell? ⟨b, o + i * 2, none⟩ = some (.int .u8 ((ss.getD i noS).1 : Int)) ∧ wx.cell? ⟨b, o + i * 2 + 1, none⟩ = some (.slice xa xn xc) ∧ Row wx xa xn (ss.getD i noS).2) := fun i hi => by
    obtain ⟨ai, ni, ci, hni, hp8, hnc, HC⟩ := (HALL.out _ (Below.refl _ _)).2.2.head i hi
    have hmem : ss.getD i noS ∈ ss := by
      rw [List.getD_eq_getElem?_getD, List.getElem?_eq_getElem (by rw [HLS.out.2]; exact hi)]
      exact List.getElem_mem _
    have hnm : ni = m := by rw [← (HC w (Below.refl _ _)).2.2.1, (HSP.out _ hmem).2, HLS.out.1]
    exact ⟨ai, ni, ci, hnm, hnc, hp8, HC⟩
  go_loopw [7] (fun kv wr => ∃ k : Nat, kv = .int .i64 (k : Int) ∧ k ≤ m ∧ Hid (MRow wr gm n gm (fun i => hidR secret ss i k)) ∧ Hid (Below gm w4 wr)) (fun kv _ => m - (intOf kv).toNat)
  case atStart => exact ⟨0, rfl, Nat.zero_le _, HM5.out, HB5.out⟩
  case round =>
    clear HM5 HB5
    obtain ⟨k, rfl, hk, HM, HB⟩ := hrel
    by_cases hlk : k < m
    · have HKM : Hid (k < m) := hlk
      have k0 : (0 : Int) ≤ (k : Int) := by omega
      have k1 : (k : Int) < (m : Int) := by omega
      obtain ⟨sb, so, ha1, HSB⟩ : ∃ sb so, a1 = some ⟨sb, so, none⟩ ∧ Hid (∀ wx, Below w.heap.size w wx → wx.cell? ⟨sb, so + k, none⟩ = some (.int .u8 ((secret.getD k 0).toNat : Int))) := by
        rcases (HALL.out _ (Below.refl _ _)).2.1.2 with h0 | ⟨b', o', e, hc'⟩
        · omega
        · refine ⟨b', o', e, fun wx hx => ?_⟩
          rw [← nth_toNat]
          exact (hx.cell (p := ⟨b', o' + k, none⟩) (cell_block (hc' k hlk))).trans (hc' k hlk)
      subst ha1
      obtain ⟨y0, hy0⟩ : ∃ y0, secret.getD k 0 = y0 := ⟨_, rfl⟩
      have HY0 : Hid (secret.getD k 0 = y0) := hy0
      rw [hy0] at HSB
      have q1 : (wr.alloc (.cells #[.int .u8 0] 5)).cell? ⟨sb, so + k, none⟩ = some (.int .u8 (y0.toNat : Int)) := HSB.out _ ((HBW.out _ HB.out).alloc (HBW.out _ HB.out).size _)
      clear hy0
      clear hlk hk
      generalize wr = w1 at *
      clear wr
      go_wp2_with fail
      clear q1
      obtain ⟨wz, hwz⟩ : ∃ wz, (w1.alloc (.cells #[.int .u8 0] 5)).alloc (.cells #[.int .u8 (y0.toNat : Int)] 5) = wz := ⟨_, rfl⟩
      have hsz1 : (w1.alloc (.cells #[.int .u8 0] 5)).heap.size = w1.heap.size + 1 := by simp
      have HAz : Hid (OwnL wz w1.heap.size (.slice (some ⟨w1.heap.size, 0, none⟩) 1 1) ((hidP ss).take (0 + 1))) := by
        rw [← hwz]
        exact World.ownsRow.alloc (OwnL.lit1w w1 w1.heap.size 0 0 rfl (Nat.le_refl _)) _
      have HVz : Hid (OwnL wz w1.heap.size (.slice (some ⟨w1.heap.size + 1, 0, none⟩) 1 1) ((hidV secret ss k).take (0 + 1))) := by
        have e : (hidV secret ss k).take (0 + 1) = [y0] := by show secret.getD k 0 :: _ = _; rw [HY0.out]; rfl
        rw [← hwz, ← hsz1, e]
        exact OwnL.lit1w (w1.alloc (.cells #[.int .u8 0] 5)) w1.heap.size y0 _ rfl (by simp)
      have HSz : Hid (Sep (.slice (some ⟨w1.heap.size, 0, none⟩) 1 1) (.slice (some ⟨w1.heap.size + 1, 0, none⟩) 1 1)) := .inr (.inr (by simp [Value.ownBlock]))
      have HBz : Hid (Below w1.heap.size w1 wz) := by rw [← hwz]; exact ((Below.refl _ _).alloc (Nat.le_refl _) _).alloc (by simp) _
      try rw [hwz]
      clear hwz hsz1
      go_loopw [8, 9, 10] (fun av vv iv wr => ∃ i : Nat, iv = .int .i64 (i : Int) ∧ i ≤ n ∧ OwnL wr w1.heap.size av ((hidP ss).take (i + 1)) ∧ OwnL wr w1.heap.size vv ((hidV secret ss k).take (i + 1)) ∧ Sep av vv ∧ Hid (Below w1.heap.size w1 wr)) (fun _ _ iv _ => n - (intOf iv).toNat)
      case atStart => exact ⟨0, rfl, Nat.zero_le _, HAz.out, HVz.out, HSz.out, HBz.out⟩
      case round =>
        clear HAz HVz HSz HBz
        obtain ⟨i, rfl, hi, hA, hV, hS, HBr⟩ := hrel
        have HBx : Hid (Below gm w4 wr) := HB.out.trans (HBr.out.mono (Nat.le_of_lt (HM.out.lt (by omega))))
        by_cases hli : i < n
        · have HIN : Hid (i < n) := hli
          have i0 : (0 : Int) ≤ (i : Int) := by omega
          have i1 : (i : Int) < (n : Int) := by omega
          obtain ⟨xa, xn, xc, hxn, hxc, hp8, HCI⟩ := HSC.out i hli
          subst hxn
          obtain ⟨xb, xo, hxa⟩ : ∃ xb xo, xa = some ⟨xb, xo, none⟩ := by
            rcases (HCI _ (HBW.out _ HBx.out)).2.2.2 with h0 | ⟨b', o', e, _⟩
            · have := HKM.out; omega
            · exact ⟨b', o', e⟩
          subst hxa
          have HCJ : Hid (∀ wx, Below w1.heap.size w1 wx → wx.cell? ⟨b, o + i * 2, none⟩ = some (.int .u8 ((ss.getD i noS).1 : Int)) ∧ wx.cell? ⟨b, o + i * 2 + 1, none⟩ = some (.slice (some ⟨xb, xo, none⟩) xn xc) ∧ wx.cell? ⟨xb, xo + k, none⟩ = some (.int .u8 (((ss.getD i noS).2.getD k 0).toNat : Int))) := fun wx hx => by
            have bb : Below gm w4 wx := HB.out.trans (hx.mono (Nat.le_of_lt (HM.out.lt (by omega))))
            have q := HCI wx (HBW.out _ bb)
            refine ⟨q.1, q.2.1, ?_⟩
            rcases q.2.2.2 with h0 | ⟨b', o', e, hc'⟩
            · have := HKM.out; omega
            · cases e
              rw [← nth_toNat]
              exact hc' k HKM.out
          have HTP : Hid ((hidP ss).take (i + 1) ++ [UInt8.ofNat (ss.getD i noS).1] = (hidP ss).take (i + 1 + 1)) := hidP_take (by rw [HLS.out.2]; exact hli)
          have HTC : Hid ((hidV secret ss k).take (i + 1) ++ [(ss.getD i noS).2.getD k 0] = (hidV secret ss k).take (i + 1 + 1)) := hidV_take (by rw [HLS.out.2]; exact hli)
          have HPA : Hid (((hidP ss).take (i + 1)).length ≤ 1000 ∧ ((hidV secret ss k).take (i + 1)).length ≤ 1000) := ⟨by rw [List.length_take]; omega, by rw [List.length_take]; omega⟩
          clear HCI hli hi
          generalize (ss.getD i noS).1 = p at *
          generalize (ss.getD i noS).2.getD k 0 = y at *
          generalize (hidP ss).take (i + 1) = A at *
          generalize (hidV secret ss k).take (i + 1) = V at *
          have HA : Hid (OwnL wr w1.heap.size u8 A) := hA
          have HV : Hid (OwnL wr w1.heap.size u9 V) := hV
          have HBC : Hid ((p : Int) = (((UInt8.ofNat p).toNat : Nat) : Int)) := byte_cast hp8
          have r0 := (HCJ.out wr HBr.out).1
          clear hA hV
          go_upto_region 16 with (at_builtin; refine wpList_append_bytes_at rfl (.tmp 69) (.tmp 75) 22 rfl w1.heap.size iB Try.underlying22 hiB hz0 hz1 hz2 u8 (A) rfl (World.ownsRow.alloc HA.out _) _ 1 1 [UInt8.ofNat p] rfl (Row.lit1v wr (UInt8.ofNat p) 5 _ HBC.out) (by have := HPA.out.1; omega) (by have := HBr.out.size; simp; omega) ?_; intro v6 w6 ho6 hg6 ha6)
          try simp only [Act.put, List.setIfInBounds_toArray, List.set_cons_zero, List.set_cons_succ]
          have s6 : Sep v6 u9 := Sep.next hS ha6 (World.ownsRow.alloc HV.out _)
          have HB6 : Hid (Below w1.heap.size w1 w6) := OwnL.grown (World.ownsRow.alloc HA.out _) (HBr.out.alloc HBr.out.size _) hg6 (Nat.le_refl _) (by have := HBr.out.size; simp; omega)
          have HV6 : Hid (OwnL w6 w1.heap.size u9 V) := OwnL.other (World.ownsRow.alloc HV.out _) hg6 hS
          have HA6 : Hid (OwnL w6 w1.heap.size v6 (A ++ [UInt8.ofNat p])) := ho6
          have r1 := (HCJ.out w6 HB6.out).2.1
          have r2 := (HCJ.out w6 HB6.out).2.2
          clear ho6 hg6 ha6 hS HA HV r0 HBC
          go_wp2_with (at_builtin; refine wpList_append_bytes_at rfl (.tmp 77) (.tmp 86) 22 rfl w1.heap.size iB Try.underlying22 hiB hz0 hz1 hz2 u9 (V) rfl (World.ownsRow.alloc HV6.out _) _ 1 1 [y] rfl (Row.lit1v w6 y 5 _ rfl) (by have := HPA.out.2; omega) (by have := HB6.out.size; simp; omega) ?_; intro v7 w7 ho7 hg7 ha7)
          have q7 : OwnL w7 w1.heap.size v6 ((hidP ss).take (i + 1 + 1)) := by rw [← HTP.out]; exact OwnL.other (World.ownsRow.alloc HA6.out _) hg7 s6.symm
          have q8 : OwnL w7 w1.heap.size v7 ((hidV secret ss k).take (i + 1 + 1)) := by rw [← HTC.out]; exact ho7
          have B7 := OwnL.grown (World.ownsRow.alloc HV6.out _) (HB6.out.alloc HB6.out.size _) hg7 (Nat.le_refl _) (by have := HB6.out.size; simp; omega)
          have s7 : Sep v6 v7 := (Sep.next s6.symm ha7 (World.ownsRow.alloc HA6.out _)).symm
          go_roundw
          case rel => exact ⟨i + 1, by go_num, HIN.out, q7, q8, s7, B7⟩
          case measure => have := HIN.out; simp [intOf]; omega
        · have hin : n = i := by omega
          subst hin
          have g3 : ¬ (n : Int) < (n : Int) := by omega
          obtain ⟨n1, hn1'⟩ : ∃ n1, n + 1 = n1 := ⟨_, rfl⟩
          have HN1 : Hid (n + 1 = n1) := hn1'
          have lP : (hidP ss).length = n1 := by rw [hidP_length, HLS.out.2]; exact hn1'
          have lV : (hidV secret ss k).length = n1 := by rw [hidV_length, HLS.out.2]; exact hn1'
          have hA' : OwnL wr w1.heap.size u8 (hidP ss) := by rwa [List.take_of_length_le (by omega)] at hA
          have hV' : OwnL wr w1.heap.size u9 (hidV secret ss k) := by rwa [List.take_of_length_le (by omega)] at hV
          obtain ⟨aa, ca, rfl, RA, hca⟩ := hA'.form
          obtain ⟨av, cv, rfl, RV, hcv⟩ := hV'.form
          rw [lP] at RA hca
          rw [lV] at RV hcv
          have HRA : Hid (Row wr aa n1 (hidP ss)) := RA
          have HRV : Hid (Row wr av n1 (hidV secret ss k)) := RV
          rw [lP, lV]
          clear hA hV hA' hV' hS RA RV hli lP lV
          go_wp2_with fail
          refine (rcoeff_any aa ca (hidP ss) av cv (hidV secret ss k) n1 wr HRA.out HRV.out hca hcv (by omega) (by omega) (hidP_nodup HSP2.out HND.out)).mono ?_
          rintro r w8 ⟨⟨gc, rfl, hgc, rc⟩, hb8⟩
          have HCC0 : Hid (∀ q, q < n1 → w8.cell? ⟨gc, q, none⟩ = some (.int .u8 (((hidC secret ss k).getD q 0 : Nat) : Int))) := fun q hq => by
            rcases rc.2 with h | ⟨b', o', e, hc'⟩
            · omega
            · cases e
              have := hc' q hq
              rw [Nat.zero_add] at this
              have e2 : hidC secret ss k = lagr (fun i => (nb (hidP ss)).getD i 0) (fun i => (nb (hidV secret ss k)).getD i 0) n1 n1 := by unfold hidC; rw [HLS.out.2, HN1.out]
              rw [e2]
              exact this
          have HM8 : Hid (MRow w8 gm n gc (fun j => if j < 0 then hidR secret ss j (k + 1) else hidR secret ss j k)) := by
            have q := ((HM.out.below HBr.out).apart hgc).below hb8
            refine q.congr fun j hj => ?_
            rw [if_neg (by omega)]
          have HB8 : Hid (Below gm w4 w8) := HBx.out.trans (hb8.mono (Nat.le_of_lt ((HM.out.below HBr.out).lt (by omega))))
          have HGMC : Hid (gc ≠ gm) := by have := (HM.out.below HBr.out).lt (by omega); intro e; omega
          have HBYC : Hid (bys (hidC secret ss k)) := (hidC_ok HSP2.out HND.out).1
          clear hb8 rc hgc HRA HRV HM HBr HBx HB hn1'
          go_wp2_with fail
          go_loopw [12] (fun iv wr => ∃ i : Nat, iv = .int .i64 (i : Int) ∧ i ≤ n ∧ Hid (MRow wr gm n gc (fun j => if j < i then hidR secret ss j (k + 1) else hidR secret ss j k)) ∧ Hid (∀ q, q < n1 → wr.cell? ⟨gc, q, none⟩ = some (.int .u8 (((hidC secret ss k).getD q 0 : Nat) : Int))) ∧ Hid (Below gm w4 wr)) (fun iv _ => n - (intOf iv).toNat)
          case atStart => exact ⟨0, rfl, Nat.zero_le _, HM8.out, HCC0.out, HB8.out⟩
          case round =>
            clear HM8 HCC0 HB8
            obtain ⟨i, rfl, hi, HMi, HCC, HBg⟩ := hrel
            by_cases hli : i < n
            · have HIN : Hid (i < n) := hli
              obtain ⟨i1, hi1⟩ : ∃ i1, i + 1 = i1 := ⟨_, rfl⟩
              have z0 : (0 : Int) ≤ (i : Int) := by omega
              have z1 : (i : Int) < (n : Int) := by omega
              have z2 : (0 : Int) ≤ (i1 : Int) := by omega
              have z3 : (i1 : Int) < (n1 : Int) := by have := HN1.out; omega
              have e3 : (i : Int) + 1 = (i1 : Int) := by omega
              have y1 : IntKind.i64.wrap (i1 : Int) = (i1 : Int) := by rw [IntKind.wrap_i64]; omega
              have HI1 : Hid (i1 < n1) := by have := HN1.out; unfold Hid; omega
              obtain ⟨cy, hcy⟩ : ∃ cy, (hidC secret ss k).getD i1 0 = cy := ⟨_, rfl⟩
              have hcy8 : cy < 256 := by rw [← hcy]; exact getD_bys HBYC.out i1
              have HTB : Hid ((cy : Int) = (((UInt8.ofNat cy).toNat : Nat) : Int)) := byte_cast hcy8
              have HRS : Hid (hidR secret ss i k ++ [UInt8.ofNat cy] = hidR secret ss i (k + 1)) := by rw [← hcy, ← hi1]; exact hidR_succ secret ss i k
              have HRL : Hid ((hidR secret ss i k).length = k) := hidR_length _ _ _ _
              generalize wr = wa at *
              clear wr
              obtain ⟨v, hv⟩ : ∃ v, wa.cell? ⟨gm, i, none⟩ = some v := by
                obtain ⟨vs, q1, _⟩ := HMi.out
                exact ⟨_, (q1 i hli).1⟩
              have HCQ : Hid (∀ wx, Below wa.heap.size wa wx → wx.cell? ⟨gm, i, none⟩ = some v ∧ wx.cell? ⟨gc, i1, none⟩ = some (.int .u8 (cy : Int))) := fun wx hx => by
                have q2 := HCC.out i1 HI1.out
                rw [hcy] at q2
                exact ⟨(hx.cell (p := ⟨gm, i, none⟩) (cell_block hv)).trans hv, (hx.cell (p := ⟨gc, i1, none⟩) (cell_block q2)).trans q2⟩
              clear hcy hi1 hv hli hi
              go_upto_region 21 with fail
              try simp only [Act.put, List.setIfInBounds_toArray, List.set_cons_zero, List.set_cons_succ]
              refine wp_region_noPanic ?_
              refine wp_region_till (S := fun wx => wx.cell? ⟨gm, i, none⟩ = some v ∧ wx.cell? ⟨gc, i1, none⟩ = some (.int .u8 (cy : Int))) 14 (by kernel_rfl) (HCQ.out _ (below_drewN wa 1)) (fun hHeld => ?_)
              try simp only [Act.put, List.setIfInBounds_toArray, List.set_cons_zero, List.set_cons_succ]
              have HBd : Hid (Below wa.heap.size wa wa.drew) := below_drewN wa 1
              generalize wa.drew = wb at *
              refine wpAnyT_take (i := 0) (v := .slice (some ⟨gm, 0, none⟩) n n) (by simp only [List.getElem?_toArray, List.getElem?_cons_zero, List.getElem?_cons_succ]; rfl) (by kernel_rfl) (by kernel_rfl) (by kernel_rfl) (by kernel_rfl) (fun _ _ _ h => h) (Or.inl ⟨by rfl, ?_⟩) hHeld ?_
              · intro w hSw
                obtain ⟨hSw0, hSw1⟩ := hSw
                go_simp
              try simp only [Act.put, List.setIfInBounds_toArray, List.set_cons_zero, List.set_cons_succ]
              refine wpAnyT_take (i := 1) (v := .int .i64 (i : Int)) (by simp only [List.getElem?_toArray, List.getElem?_cons_zero, List.getElem?_cons_succ]; rfl) (by kernel_rfl) (by kernel_rfl) (by kernel_rfl) (by kernel_rfl) (fun _ _ _ h => h) (Or.inl ⟨by rfl, ?_⟩) hHeld ?_
              · intro w hSw
                obtain ⟨hSw0, hSw1⟩ := hSw
                go_simp
              try simp only [Act.put, List.setIfInBounds_toArray, List.set_cons_zero, List.set_cons_succ]
              refine wpAnyT_take (i := 2) (v := .slice (some ⟨gm, 0, none⟩) n n) (by simp only [List.getElem?_toArray, List.getElem?_cons_zero, List.getElem?_cons_succ]; rfl) (by kernel_rfl) (by kernel_rfl) (by kernel_rfl) (by kernel_rfl) (fun _ _ _ h => h) (Or.inl ⟨by rfl, ?_⟩) hHeld ?_
              · intro w hSw
                obtain ⟨hSw0, hSw1⟩ := hSw
                go_simp
              try simp only [Act.put, List.setIfInBounds_toArray, List.set_cons_zero, List.set_cons_succ]
              refine wpAnyT_take (i := 3) (v := .int .i64 (i : Int)) (by simp only [List.getElem?_toArray, List.getElem?_cons_zero, List.getElem?_cons_succ]; rfl) (by kernel_rfl) (by kernel_rfl) (by kernel_rfl) (by kernel_rfl) (fun _ _ _ h => h) (Or.inl ⟨by rfl, ?_⟩) hHeld ?_
              · intro w hSw
                obtain ⟨hSw0, hSw1⟩ := hSw
                go_simp
              try simp only [Act.put, List.setIfInBounds_toArray, List.set_cons_zero, List.set_cons_succ]
              refine wpAnyT_take (i := 4) (v := .pointer (some ⟨gm, i, none⟩)) (by simp only [List.getElem?_toArray, List.getElem?_cons_zero, List.getElem?_cons_succ]; rfl) (by kernel_rfl) (by kernel_rfl) (by kernel_rfl) (by kernel_rfl) (fun _ _ _ h => h) (Or.inl ⟨by rfl, ?_⟩) hHeld ?_
              · intro w hSw
                obtain ⟨hSw0, hSw1⟩ := hSw
                go_simp
              try simp only [Act.put, List.setIfInBounds_toArray, List.set_cons_zero, List.set_cons_succ]
              refine wpAnyT_take (i := 5) (v := v) (by simp only [List.getElem?_toArray, List.getElem?_cons_zero, List.getElem?_cons_succ]; rfl) (by kernel_rfl) (by kernel_rfl) (by kernel_rfl) (by kernel_rfl) (fun _ _ _ h => h) (Or.inl ⟨by rfl, ?_⟩) hHeld ?_
              · intro w hSw
                obtain ⟨hSw0, hSw1⟩ := hSw
                go_simp
              try simp only [Act.put, List.setIfInBounds_toArray, List.set_cons_zero, List.set_cons_succ]
              refine wpAnyT_take (i := 6) (v := .slice (some ⟨gc, 0, none⟩) n1 n1) (by simp only [List.getElem?_toArray, List.getElem?_cons_zero, List.getElem?_cons_succ]; rfl) (by kernel_rfl) (by kernel_rfl) (by kernel_rfl) (by kernel_rfl) (fun _ _ _ h => h) (Or.inl ⟨by rfl, ?_⟩) hHeld ?_
              · intro w hSw
                obtain ⟨hSw0, hSw1⟩ := hSw
                go_simp
              try simp only [Act.put, List.setIfInBounds_toArray, List.set_cons_zero, List.set_cons_succ]
              refine wpAnyT_take (i := 7) (v := .int .i64 (i : Int)) (by simp only [List.getElem?_toArray, List.getElem?_cons_zero, List.getElem?_cons_succ]; rfl) (by kernel_rfl) (by kernel_rfl) (by kernel_rfl) (by kernel_rfl) (fun _ _ _ h => h) (Or.inl ⟨by rfl, ?_⟩) hHeld ?_
              · intro w hSw
                obtain ⟨hSw0, hSw1⟩ := hSw
                go_simp
              try simp only [Act.put, List.setIfInBounds_toArray, List.set_cons_zero, List.set_cons_succ]
              refine wpAnyT_take (i := 8) (v := .int .i64 (i1 : Int)) (by simp only [List.getElem?_toArray, List.getElem?_cons_zero, List.getElem?_cons_succ]; rfl) (by kernel_rfl) (by kernel_rfl) (by kernel_rfl) (by kernel_rfl) (fun _ _ _ h => h) (Or.inl ⟨by rfl, ?_⟩) hHeld ?_
              · intro w hSw
                obtain ⟨hSw0, hSw1⟩ := hSw
                go_simp
              try simp only [Act.put, List.setIfInBounds_toArray, List.set_cons_zero, List.set_cons_succ]
              refine wpAnyT_take (i := 9) (v := .pointer (some ⟨gc, i1, none⟩)) (by simp only [List.getElem?_toArray, List.getElem?_cons_zero, List.getElem?_cons_succ]; rfl) (by kernel_rfl) (by kernel_rfl) (by kernel_rfl) (by kernel_rfl) (fun _ _ _ h => h) (Or.inl ⟨by rfl, ?_⟩) hHeld ?_
              · intro w hSw
                obtain ⟨hSw0, hSw1⟩ := hSw
                go_simp
              try simp only [Act.put, List.setIfInBounds_toArray, List.set_cons_zero, List.set_cons_succ]
              refine wpAnyT_take (i := 10) (v := .int .u8 (cy : Int)) (by simp only [List.getElem?_toArray, List.getElem?_cons_zero, List.getElem?_cons_succ]; rfl) (by kernel_rfl) (by kernel_rfl) (by kernel_rfl) (by kernel_rfl) (fun _ _ _ h => h) (Or.inl ⟨by rfl, ?_⟩) hHeld ?_
              · intro w hSw
                obtain ⟨hSw0, hSw1⟩ := hSw
                go_simp
              try simp only [Act.put, List.setIfInBounds_toArray, List.set_cons_zero, List.set_cons_succ]
              refine wpAnyT_ready (rs := [11]) (by kernel_rfl) (by simp) ?_
              refine AllReadyT.cons (by simp only [List.getElem?_toArray, List.getElem?_cons_zero, List.getElem?_cons_succ]; rfl) (fun K hK => ?_) AllReadyT.nil
              rw [if_pos (by rfl)]
              go_simp
              have HBl : Hid (Below wa.heap.size wa (wb.alloc (.cells #[.int .u8 (cy : Int)] 5))) := HBd.out.alloc HBd.out.size _
              have HRl : Hid (Row (wb.alloc (.cells #[.int .u8 (cy : Int)] 5)) (some ⟨wb.heap.size, 0, none⟩) 1 [UInt8.ofNat cy]) := Row.lit1v wb (UInt8.ofNat cy) 5 _ HTB.out
              have HSL : Hid (wb.heap.size < (wb.alloc (.cells #[.int .u8 (cy : Int)] 5)).heap.size) := by unfold Hid; simp
              refine hK.out _ _ (HCQ.out _ HBl.out) (fun hHeld => ?_)
              generalize wb.alloc (.cells #[.int .u8 (cy : Int)] 5) = wl at *
              generalize wb.heap.size = sl at *
              clear hK K
              try simp only [Act.put, List.setIfInBounds_toArray, List.set_cons_zero, List.set_cons_succ]
              refine wpAnyT_ready (rs := [12]) (by kernel_rfl) (by simp) ?_
              refine AllReadyT.cons (by simp only [List.getElem?_toArray, List.getElem?_cons_zero, List.getElem?_cons_succ]; rfl) (fun K hK => ?_) AllReadyT.nil
              rw [if_pos (by rfl)]
              have HMl : Hid (MRow wl gm n gc (fun j => if j < i then hidR secret ss j (k + 1) else hidR secret ss j k)) := HMi.out.below HBl.out
              have HOl : Hid (OwnL wl (gm + 1) v (hidR secret ss i k)) := by
                obtain ⟨vs, q1, _, _⟩ := HMl.out
                have a := (q1 i HIN.out).1
                have b := (q1 i HIN.out).2.1
                rw [(HCQ.out _ HBl.out).1] at a
                rw [Option.some.inj a]
                simp only [Nat.lt_irrefl, if_false] at b
                exact b
              refine wp_appendLat (.tmp 102) (.tmp 108) rfl (gm + 1) v (hidR secret ss i k) rfl HOl.out sl 0 1 1 [UInt8.ofNat cy] rfl HRl.out (by omega) (by rw [HRL.out]; have := HKM.out; omega) (by have := HMl.out.lt (by have := HIN.out; omega); omega) ?_
              intro v7 w7 ho7 hg7 hat7
              obtain ⟨a7, n7, c7, hv7⟩ : ∃ a n c, v7 = .slice a n c := by
                obtain ⟨a, c, e, _⟩ := ho7.form
                exact ⟨_, _, _, e⟩
              subst hv7
              have HO7 : Hid (OwnL w7 (gm + 1) (.slice a7 n7 c7) (hidR secret ss i k ++ [UInt8.ofNat cy])) := ho7
              have HG7 : Hid (wl.grownBy w7 v.ownBlock) := hg7
              have HAT7 : Hid ((Value.slice a7 n7 c7).ownBlock = v.ownBlock ∨ (Value.slice a7 n7 c7).ownBlock = some wl.heap.size) := hat7
              have HGMV : Hid (v.ownBlock ≠ some gm ∧ v.ownBlock ≠ some gc) := by
                obtain ⟨vs, q1, _, _⟩ := HMl.out
                have a := (q1 i HIN.out).1
                rw [(HCQ.out _ HBl.out).1] at a
                have e := Option.some.inj a
                refine ⟨fun q => ?_, by rw [e]; exact (q1 i HIN.out).2.2⟩
                have := (World.ownsRow.lt HOl.out gm q).1
                omega
              have HCW : Hid (∀ z, z = gm ∨ z = gc → ∀ j, w7.cell? ⟨z, j, none⟩ = wl.cell? ⟨z, j, none⟩ ∧ w7.frozen? ⟨z, j, none⟩ = wl.frozen? ⟨z, j, none⟩) := fun z hz j => by
                have hlt : z < wl.heap.size := by
                  rcases hz with rfl | rfl
                  · exact HMl.out.lt (by have := HIN.out; omega)
                  · exact cell_block (HCQ.out _ HBl.out).2
                have hne : some z ≠ v.ownBlock := by
                  rcases hz with rfl | rfl
                  · exact fun q => HGMV.out.1 q.symm
                  · exact fun q => HGMV.out.2 q.symm
                have hb := HG7.out.block z hlt hne
                exact ⟨World.cell?_of_block (w := wl) (a := ⟨z, j, none⟩) hb, World.frozen?_of_block (w := wl) (a := ⟨z, j, none⟩) hb⟩
              refine hK.out _ _ ⟨by rw [(HCW.out gm (.inl rfl) i).1]; exact (HCQ.out _ HBl.out).1, by rw [(HCW.out gc (.inr rfl) i1).1]; exact (HCQ.out _ HBl.out).2⟩ (fun hHeld => ?_)
              clear hK K
              try simp only [Act.put, List.setIfInBounds_toArray, List.set_cons_zero, List.set_cons_succ]
              refine wpAnyT_take (i := 13) (v := .pointer (some ⟨gm, i, none⟩)) (by simp only [List.getElem?_toArray, List.getElem?_cons_zero, List.getElem?_cons_succ]; rfl) (by kernel_rfl) (by kernel_rfl) (by kernel_rfl) (by kernel_rfl) (fun _ _ _ h => h) (Or.inl ⟨by rfl, ?_⟩) hHeld ?_
              · intro w hSw
                obtain ⟨hSw0, hSw1⟩ := hSw
                go_simp
              try simp only [Act.put, List.setIfInBounds_toArray, List.set_cons_zero, List.set_cons_succ]
              refine wpAnyT_ready (rs := [14]) (by kernel_rfl) (by simp) ?_
              refine AllReadyT.lastly (by simp only [List.getElem?_toArray, List.getElem?_cons_zero, List.getElem?_cons_succ]; rfl) rfl (fun K hK => ?_) AllReadyT.nil
              rw [if_pos (by rfl)]
              have c9 : w7.cell? ⟨gm, i, none⟩ = some v := by rw [(HCW.out gm (.inl rfl) i).1]; exact (HCQ.out _ HBl.out).1
              have f9 : w7.frozen? ⟨gm, i, none⟩ = false := by
                rw [(HCW.out gm (.inl rfl) i).2]
                obtain ⟨vs, _, _, q3⟩ := HMl.out
                have := (q3 i HIN.out).2
                rwa [Nat.zero_add] at this
              go_simp
              refine hK.out _ _ ?_
              clear hK K
              try simp only [Act.put, List.setIfInBounds_toArray, List.set_cons_zero, List.set_cons_succ]
              refine wpAnyT_done (by kernel_rfl) (NoPanic.normal ?_) _
              clear hHeld c9 f9
              have HM8 : Hid (MRow (w7.setCell ⟨gm, i, none⟩ (.slice a7 n7 c7)) gm n gc (fun j => if j < i + 1 then hidR secret ss j (k + 1) else hidR secret ss j k)) := by
                refine MRow.put (y := UInt8.ofNat cy) HMl.out HIN.out (HCQ.out _ HBl.out).1 ?_ HG7.out HAT7.out (cell_block (HCQ.out _ HBl.out).2) fun j => ?_
                · simp only [Nat.lt_irrefl, if_false]
                  exact HO7.out
                · simp only [Nat.lt_irrefl, if_false]
                  by_cases h1 : j = i
                  · subst h1
                    rw [if_pos (by omega), if_pos rfl, HRS.out]
                  · rw [if_neg h1]
                    by_cases h2 : j < i
                    · rw [if_pos h2, if_pos (by omega)]
                    · rw [if_neg h2, if_neg (by omega)]
              have HC8 : Hid (∀ q, q < n1 → (w7.setCell ⟨gm, i, none⟩ (.slice a7 n7 c7)).cell? ⟨gc, q, none⟩ = some (.int .u8 (((hidC secret ss k).getD q 0 : Nat) : Int))) := fun q hq => by
                have e := World.cell?_setCell_other w7 ⟨gm, i, none⟩ ⟨gc, q, none⟩ (.slice a7 n7 c7) (by intro e; have := congrArg Addr.block e; exact HGMC.out this.symm)
                rw [e, (HCW.out gc (.inr rfl) q).1]
                have c := HCC.out q hq
                exact (HBl.out.cell (p := ⟨gc, q, none⟩) (cell_block c)).trans c
              have HB8 : Hid (Below gm w4 (w7.setCell ⟨gm, i, none⟩ (.slice a7 n7 c7))) := ((HBg.out.trans (HBl.out.mono (Nat.le_of_lt (HMi.out.lt (by have := HIN.out; omega))))).grown HG7.out (by have := HMl.out.lt (by have := HIN.out; omega); omega) (fun q hq => by have := (World.ownsRow.lt HOl.out q hq).1; omega)).setCell (Nat.le_refl _) _
              generalize w7.setCell ⟨gm, i, none⟩ (.slice a7 n7 c7) = w8 at *
              go_wp2_with fail
              go_roundw
              case rel => exact ⟨i + 1, by go_num, HIN.out, HM8.out, HC8.out, HB8.out⟩
              case measure => have := HIN.out; simp [intOf]; omega
            · have hin : n = i := by omega
              subst hin
              have g6 : ¬ (n : Int) < (n : Int) := by omega
              have HMn : Hid (MRow wr gm n gm (fun j => hidR secret ss j (k + 1))) := HMi.out.self.congr fun j hj => if_pos hj
              have hk5 := HKM.out
              clear HMi HCC hli hi
              go_wp2_with fail
              go_roundw
              case rel => exact ⟨k + 1, by go_num, HKM.out, HMn.out, HBg.out⟩
              case measure => simp [intOf]; omega
    · have hkm : m = k := by omega
      subst hkm
      have g3 : ¬ (m : Int) < (m : Int) := by omega
      have HRB : Hid (BRowsB wr (some ⟨gm, 0, none⟩) n (hidM secret ss m)) := HM.out.rows (by rw [hidM_length]; exact HLS.out.2) (fun i hi => hidM_at secret ss m i (by rw [HLS.out.2]; exact hi)) (fun i hi => by rw [hidR_length]; omega)
      have HBx : Hid (Below w.heap.size w wr) := HBW.out wr HB.out
      have HSE : Hid (splitE m (20 : Nat) (hidM secret ss m) = 0) := by have := hid_splitE (secret := secret) (ss := ss) (by rw [HLS.out.2]; exact hn6) (by rw [HLS.out.1]; exact hm100); rw [HLS.out.1] at this; exact this
      have HHI : Hid (∀ i, i < n → dataS secret (hidM secret ss m) (ss.getD i noS).1 secret.length = (ss.getD i noS).2) := fun i hi => by have := hides HSP.out HND.out i (by rw [HLS.out.2]; exact hi); rw [HLS.out.1] at this ⊢; exact this
      clear HM HB hlk hk
      go_wp2_with fail
      refine (wshare_split a1 m c1 secret 20 (some ⟨gm, 0, none⟩) n n (hidM secret ss m) wr (HALL.out _ HBx.out).1 (HALL.out _ HBx.out).2.1 h1 HRB.out (Nat.le_refl _) HSE.out).mono ?_
      rintro r w8 ⟨⟨a8, ac, rfl, hac, r8⟩, hb8⟩
      have HB8 : Hid (Below w.heap.size w w8) := HBx.out.trans (hb8.mono HBx.out.size)
      have HS8 : Hid (SRow w8 a8 20 (splitL secret (hidM secret ss m) 20)) := r8
      obtain ⟨ab, ao, ha8⟩ := r8.addr (by omega)
      subst ha8
      clear hb8 HRB HSE HBx r8
      have H88 : Hid (Below w8.heap.size w8 w8) := Below.refl _ _
      go_wp2_with fail
      go_loopw [15] (fun iv wr => ∃ i : Nat, iv = .int .i64 (i : Int) ∧ i ≤ n ∧ Hid (Below w8.heap.size w8 wr)) (fun iv _ => n - (intOf iv).toNat)
      case atStart => exact ⟨0, rfl, Nat.zero_le _, H88.out⟩
      case round =>
        clear H88
        obtain ⟨i, rfl, hi, HB9⟩ := hrel
        have HBy : Hid (Below w.heap.size w wr) := HB8.out.trans (HB9.out.mono HB8.out.size)
        by_cases hli : i < n
        · have HIN : Hid (i < n) := hli
          have z0 : (0 : Int) ≤ (i : Int) := by omega
          have z1 : (i : Int) < (n : Int) := by omega
          obtain ⟨xa, xn, xc, hxn, hxc, hp8, HCI⟩ := HSC.out i hli
          have hxn' : m = xn := hxn.symm
          subst hxn'
          have hmem : ss.getD i noS ∈ ss := by
            rw [List.getD_eq_getElem?_getD, List.getElem?_eq_getElem (by rw [HLS.out.2]; exact hli)]
            exact List.getElem_mem _
          have hpr := (HSP.out _ hmem).1
          have HHD := HHI.out i hli
          obtain ⟨p, hp⟩ : ∃ p, (ss.getD i noS).1 = p := ⟨_, rfl⟩
          rw [hp] at hpr HHD hp8
          obtain ⟨p1, hp1⟩ : ∃ p1, p = p1 + 1 := ⟨p - 1, by omega⟩
          obtain ⟨ya, yn, yc, hyn', hq8, hyc, HCY⟩ := HS8.out.head p1 (by omega)
          rw [splitL_at secret _ 20 p1 (by omega), ← hp1] at HCY
          obtain ⟨D, hD⟩ : ∃ D, (ss.getD i noS).2 = D := ⟨_, rfl⟩
          rw [hD] at HHD
          have HCR : Hid (∀ wx, Below wr.heap.size wr wx → (wx.cell? ⟨b, o + i * 2, none⟩ = some (.int .u8 (p : Int)) ∧ wx.cell? ⟨b, o + i * 2 + 1, none⟩ = some (.slice xa m xc) ∧ wx.cell? ⟨ab, ao + p1 * 2 + 1, none⟩ = some (.slice ya yn yc)) ∧ Row wx ya yn D ∧ Row wx xa m D) := fun wx hx => by
            have b9 : Below w8.heap.size w8 wx := HB9.out.trans (hx.mono HB9.out.size)
            have q := HCI wx (HBy.out.trans (hx.mono HBy.out.size))
            have q' := HCY wx b9
            rw [hp, hD] at q
            refine ⟨⟨q.1, q.2.1, q'.2.1⟩, ?_, q.2.2⟩
            have e := q'.2.2
            have e2 : (p, dataS secret (hidM secret ss m) p secret.length).2 = D := HHD
            rw [e2] at e
            exact e
          have hyn : yn ≤ 281474976710656 := by omega
          have e3 : (p : Int) - 1 = (p1 : Int) := by omega
          have y1 : IntKind.i64.wrap (p1 : Int) = (p1 : Int) := by rw [IntKind.wrap_i64]; omega
          have y2 : IntKind.i64.wrap (p : Int) = (p : Int) := by rw [IntKind.wrap_i64]; omega
          have z4 : (0 : Int) ≤ (p1 : Int) := by omega
          have z5 : (p1 : Int) < (20 : Int) := by omega
          clear HCI HCY HHD hp1 hp hD hmem hli hi
          go_upto_region 28 with fail
          try simp only [Act.put, List.setIfInBounds_toArray, List.set_cons_zero, List.set_cons_succ]
          refine wp_region_noPanic ?_
          refine wp_region_held_drew (S := fun wx => wx.cell? ⟨b, o + i * 2, none⟩ = some (.int .u8 (p : Int)) ∧ wx.cell? ⟨b, o + i * 2 + 1, none⟩ = some (.slice xa m xc) ∧ wx.cell? ⟨ab, ao + p1 * 2 + 1, none⟩ = some (.slice ya yn yc)) (by kernel_rfl) (HCR.out _ (below_drewN wr 1)).1 (fun hHeld => ?_)
          try simp only [Act.put, List.setIfInBounds_toArray, List.set_cons_zero, List.set_cons_succ]
          have HBd : Hid (Below wr.heap.size wr wr.drew) := below_drewN wr 1
          generalize wr.drew = wd at *
          refine wpAnyH_take (i := 0) (v := .slice (some ⟨ab, ao, none⟩) 20 ac) (by simp only [List.getElem?_toArray, List.getElem?_cons_zero, List.getElem?_cons_succ]; rfl) (by kernel_rfl) (by kernel_rfl) (by kernel_rfl) (fun _ _ _ h => h) (Or.inl ⟨by rfl, ?_⟩) hHeld ?_
          · intro w hSw
            obtain ⟨hSw0, hSw1, hSw2⟩ := hSw
            go_simp
          try simp only [Act.put, List.setIfInBounds_toArray, List.set_cons_zero, List.set_cons_succ]
          refine wpAnyH_take (i := 1) (v := .slice (some ⟨b, o, none⟩) n c) (by simp only [List.getElem?_toArray, List.getElem?_cons_zero, List.getElem?_cons_succ]; rfl) (by kernel_rfl) (by kernel_rfl) (by kernel_rfl) (fun _ _ _ h => h) (Or.inl ⟨by rfl, ?_⟩) hHeld ?_
          · intro w hSw
            obtain ⟨hSw0, hSw1, hSw2⟩ := hSw
            go_simp
          try simp only [Act.put, List.setIfInBounds_toArray, List.set_cons_zero, List.set_cons_succ]
          refine wpAnyH_take (i := 2) (v := .int .i64 (i : Int)) (by simp only [List.getElem?_toArray, List.getElem?_cons_zero, List.getElem?_cons_succ]; rfl) (by kernel_rfl) (by kernel_rfl) (by kernel_rfl) (fun _ _ _ h => h) (Or.inl ⟨by rfl, ?_⟩) hHeld ?_
          · intro w hSw
            obtain ⟨hSw0, hSw1, hSw2⟩ := hSw
            go_simp
          try simp only [Act.put, List.setIfInBounds_toArray, List.set_cons_zero, List.set_cons_succ]
          refine wpAnyH_take (i := 3) (v := .pointer (some ⟨b, o + i * 2, none⟩)) (by simp only [List.getElem?_toArray, List.getElem?_cons_zero, List.getElem?_cons_succ]; rfl) (by kernel_rfl) (by kernel_rfl) (by kernel_rfl) (fun _ _ _ h => h) (Or.inl ⟨by rfl, ?_⟩) hHeld ?_
          · intro w hSw
            obtain ⟨hSw0, hSw1, hSw2⟩ := hSw
            go_simp
          try simp only [Act.put, List.setIfInBounds_toArray, List.set_cons_zero, List.set_cons_succ]
          refine wpAnyH_take (i := 4) (v := .pointer (some ⟨b, o + i * 2, none⟩)) (by simp only [List.getElem?_toArray, List.getElem?_cons_zero, List.getElem?_cons_succ]; rfl) (by kernel_rfl) (by kernel_rfl) (by kernel_rfl) (fun _ _ _ h => h) (Or.inl ⟨by rfl, ?_⟩) hHeld ?_
          · intro w hSw
            obtain ⟨hSw0, hSw1, hSw2⟩ := hSw
            go_simp
          try simp only [Act.put, List.setIfInBounds_toArray, List.set_cons_zero, List.set_cons_succ]
          refine wpAnyH_take (i := 5) (v := .int .u8 (p : Int)) (by simp only [List.getElem?_toArray, List.getElem?_cons_zero, List.getElem?_cons_succ]; rfl) (by kernel_rfl) (by kernel_rfl) (by kernel_rfl) (fun _ _ _ h => h) (Or.inl ⟨by rfl, ?_⟩) hHeld ?_
          · intro w hSw
            obtain ⟨hSw0, hSw1, hSw2⟩ := hSw
            go_simp
          try simp only [Act.put, List.setIfInBounds_toArray, List.set_cons_zero, List.set_cons_succ]
          refine wpAnyH_take (i := 6) (v := .int .i64 (p : Int)) (by simp only [List.getElem?_toArray, List.getElem?_cons_zero, List.getElem?_cons_succ]; rfl) (by kernel_rfl) (by kernel_rfl) (by kernel_rfl) (fun _ _ _ h => h) (Or.inl ⟨by rfl, ?_⟩) hHeld ?_
          · intro w hSw
            obtain ⟨hSw0, hSw1, hSw2⟩ := hSw
            go_simp
          try simp only [Act.put, List.setIfInBounds_toArray, List.set_cons_zero, List.set_cons_succ]
          refine wpAnyH_take (i := 7) (v := .int .i64 (p1 : Int)) (by simp only [List.getElem?_toArray, List.getElem?_cons_zero, List.getElem?_cons_succ]; rfl) (by kernel_rfl) (by kernel_rfl) (by kernel_rfl) (fun _ _ _ h => h) (Or.inl ⟨by rfl, ?_⟩) hHeld ?_
          · intro w hSw
            obtain ⟨hSw0, hSw1, hSw2⟩ := hSw
            go_simp
          try simp only [Act.put, List.setIfInBounds_toArray, List.set_cons_zero, List.set_cons_succ]
          refine wpAnyH_take (i := 8) (v := .pointer (some ⟨ab, ao + p1 * 2, none⟩)) (by simp only [List.getElem?_toArray, List.getElem?_cons_zero, List.getElem?_cons_succ]; rfl) (by kernel_rfl) (by kernel_rfl) (by kernel_rfl) (fun _ _ _ h => h) (Or.inl ⟨by rfl, ?_⟩) hHeld ?_
          · intro w hSw
            obtain ⟨hSw0, hSw1, hSw2⟩ := hSw
            go_simp
          try simp only [Act.put, List.setIfInBounds_toArray, List.set_cons_zero, List.set_cons_succ]
          refine wpAnyH_take (i := 9) (v := .pointer (some ⟨ab, ao + p1 * 2 + 1, none⟩)) (by simp only [List.getElem?_toArray, List.getElem?_cons_zero, List.getElem?_cons_succ]; rfl) (by kernel_rfl) (by kernel_rfl) (by kernel_rfl) (fun _ _ _ h => h) (Or.inl ⟨by rfl, ?_⟩) hHeld ?_
          · intro w hSw
            obtain ⟨hSw0, hSw1, hSw2⟩ := hSw
            go_simp
          try simp only [Act.put, List.setIfInBounds_toArray, List.set_cons_zero, List.set_cons_succ]
          refine wpAnyH_take (i := 10) (v := .slice ya yn yc) (by simp only [List.getElem?_toArray, List.getElem?_cons_zero, List.getElem?_cons_succ]; rfl) (by kernel_rfl) (by kernel_rfl) (by kernel_rfl) (fun _ _ _ h => h) (Or.inl ⟨by rfl, ?_⟩) hHeld ?_
          · intro w hSw
            obtain ⟨hSw0, hSw1, hSw2⟩ := hSw
            go_simp
          try simp only [Act.put, List.setIfInBounds_toArray, List.set_cons_zero, List.set_cons_succ]
          refine wpAnyH_take (i := 11) (v := .slice (some ⟨b, o, none⟩) n c) (by simp only [List.getElem?_toArray, List.getElem?_cons_zero, List.getElem?_cons_succ]; rfl) (by kernel_rfl) (by kernel_rfl) (by kernel_rfl) (fun _ _ _ h => h) (Or.inl ⟨by rfl, ?_⟩) hHeld ?_
          · intro w hSw
            obtain ⟨hSw0, hSw1, hSw2⟩ := hSw
            go_simp
          try simp only [Act.put, List.setIfInBounds_toArray, List.set_cons_zero, List.set_cons_succ]
          refine wpAnyH_take (i := 12) (v := .int .i64 (i : Int)) (by simp only [List.getElem?_toArray, List.getElem?_cons_zero, List.getElem?_cons_succ]; rfl) (by kernel_rfl) (by kernel_rfl) (by kernel_rfl) (fun _ _ _ h => h) (Or.inl ⟨by rfl, ?_⟩) hHeld ?_
          · intro w hSw
            obtain ⟨hSw0, hSw1, hSw2⟩ := hSw
            go_simp
          try simp only [Act.put, List.setIfInBounds_toArray, List.set_cons_zero, List.set_cons_succ]
          refine wpAnyH_take (i := 13) (v := .pointer (some ⟨b, o + i * 2, none⟩)) (by simp only [List.getElem?_toArray, List.getElem?_cons_zero, List.getElem?_cons_succ]; rfl) (by kernel_rfl) (by kernel_rfl) (by kernel_rfl) (fun _ _ _ h => h) (Or.inl ⟨by rfl, ?_⟩) hHeld ?_
          · intro w hSw
            obtain ⟨hSw0, hSw1, hSw2⟩ := hSw
            go_simp
          try simp only [Act.put, List.setIfInBounds_toArray, List.set_cons_zero, List.set_cons_succ]
          refine wpAnyH_take (i := 14) (v := .pointer (some ⟨b, o + i * 2 + 1, none⟩)) (by simp only [List.getElem?_toArray, List.getElem?_cons_zero, List.getElem?_cons_succ]; rfl) (by kernel_rfl) (by kernel_rfl) (by kernel_rfl) (fun _ _ _ h => h) (Or.inl ⟨by rfl, ?_⟩) hHeld ?_
          · intro w hSw
            obtain ⟨hSw0, hSw1, hSw2⟩ := hSw
            go_simp
          try simp only [Act.put, List.setIfInBounds_toArray, List.set_cons_zero, List.set_cons_succ]
          refine wpAnyH_take (i := 15) (v := .slice xa m xc) (by simp only [List.getElem?_toArray, List.getElem?_cons_zero, List.getElem?_cons_succ]; rfl) (by kernel_rfl) (by kernel_rfl) (by kernel_rfl) (fun _ _ _ h => h) (Or.inl ⟨by rfl, ?_⟩) hHeld ?_
          · intro w hSw
            obtain ⟨hSw0, hSw1, hSw2⟩ := hSw
            go_simp
          try simp only [Act.put, List.setIfInBounds_toArray, List.set_cons_zero, List.set_cons_succ]
          refine wpAnyH_ready (rs := [16]) (by kernel_rfl) (by simp) ?_
          refine AllReadyH.cons (by simp only [List.getElem?_toArray, List.getElem?_cons_zero, List.getElem?_cons_succ]; rfl) (fun K hK => ?_) AllReadyH.nil
          rw [if_pos (by rfl)]
          go_simp
          refine (bytes_any ya xa yn m yc xc D D wd (HCR.out _ HBd.out).2.1 (HCR.out _ HBd.out).2.2 hyn).mono ?_
          rintro e wq ⟨rfl, q, hq⟩
          rw [show decide (D = D) = true from decide_eq_true rfl]
          have HBq : Hid (Below wr.heap.size wr wq) := by rw [hq]; exact HBd.out.trans ((below_drewN wd q).mono HBd.out.size)
          clear hq
          go_wp2_with fail
          refine hK.out _ _ (HCR.out _ HBq.out).1 (fun hHeld => ?_)
          clear hK K
          try simp only [Act.put, List.setIfInBounds_toArray, List.set_cons_zero, List.set_cons_succ]
          refine wpAnyH_take (i := 17) (v := .bool true) (by simp only [List.getElem?_toArray, List.getElem?_cons_zero, List.getElem?_cons_succ]; rfl) (by kernel_rfl) (by kernel_rfl) (by kernel_rfl) (fun _ _ _ h => h) (Or.inl ⟨by rfl, ?_⟩) hHeld ?_
          · intro w hSw
            obtain ⟨hSw0, hSw1, hSw2⟩ := hSw
            go_simp
          try simp only [Act.put, List.setIfInBounds_toArray, List.set_cons_zero, List.set_cons_succ]
          refine wpAnyH_done (by kernel_rfl) (NoPanic.normal ?_) _
          clear hHeld
          go_wp2_with fail
          go_roundw
          case rel => exact ⟨i + 1, by go_num, HIN.out, HB9.out.trans (HBq.out.mono HB9.out.size)⟩
          case measure => have := HIN.out; simp [intOf]; omega
        · have hin : n = i := by omega
          subst hin
          have g6 : ¬ (n : Int) < (n : Int) := by omega
          clear hli
          go_wp2_with fail
          go_ret
          exact ⟨rfl, HBy.out⟩
end Go.Proofs.Ytnffmegicgbinaa
