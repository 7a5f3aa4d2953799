/- The law ShareSums: the sum of shares is a share of the sum. -/
import Derived.Test.YtnffmegicgbinaaJ14
import Derived.Test.YtnffmegicgbinaaJ10
import Derived.Test.YtnffmegicgbinaaJ03
import Derived.Test.YtnffmegicgbinaaJ09
import Derived.Deep.RegionHeld3
import Derived.Deep.DeepCutAuto
namespace Go.Proofs.Ytnffmegicgbinaa
open Go.RowKit
set_option linter.unusedVariables false
set_option linter.unusedSimpArgs false

theorem row_cells {w : World} {a : Option Addr} {n : Nat} {l : List UInt8} (R : Row w a n l) (k : Nat) (hk : k < n) : ∃ b o, a = some ⟨b, o, none⟩ ∧ ∀ wx, Below w.heap.size w wx → wx.cell? ⟨b, o + k, none⟩ = some (.int .u8 ((l.getD k 0).toNat : Int)) := by
  rcases R.2 with h | ⟨b, o, e, hc⟩
  · omega
  · refine ⟨b, o, e, fun wx hx => ?_⟩
    rw [← nth_toNat]
    exact (hx.cell (p := ⟨b, o + k, none⟩) (cell_block (hc k hk))).trans (hc k hk)
theorem wsplit_all (a1 : Option Addr) (m c1 : Nat) (secret : List UInt8) (n : Int) (a2 : Option Addr) (n2 c2 : Nat) (ls : List (List UInt8)) (w : World) (G : Env w) (R1 : Row w a1 m secret) (h1 : m ≤ c1) (hm : m ≤ 140737488351232) (k1 : -9223372036854775808 ≤ n) (k2 : n ≤ 9223372036854775807) (R2 : BRowsB w a2 n2 ls) (h2 : n2 ≤ c2) (hn2 : n2 ≤ 140737488351232) :
    Calls Try.prog 7 #[.slice a1 m c1, .int .i64 n, .slice a2 n2 c2] w fun r w' => ((splitE m n ls = 0 ∧ ∃ (N : Nat) (a' : Option Addr) (c' : Nat), n = (N : Int) ∧ r = .returned (.tuple #[.slice a' N c', .nilIface]) ∧ N ≤ c' ∧ SRow w' a' N (splitL secret ls N)) ∨ (∃ a' c' q, r = .returned (.tuple #[.slice a' 0 c', .iface 37 (.int .i64 q)]))) ∧ Below w.heap.size w w' := by
  by_cases he : splitE m n ls = 0
  · obtain ⟨N, hN⟩ : ∃ N : Nat, n = (N : Int) := ⟨n.toNat, by have := (splitE_ok he).1; omega⟩
    subst hN
    refine (wshare_split a1 m c1 secret N a2 n2 c2 ls w G R1 h1 R2 h2 he).mono fun r w' h => ?_
    obtain ⟨⟨a', c', e, hc, R⟩, hb⟩ := h
    exact ⟨.inl ⟨he, N, a', c', rfl, e, hc, R⟩, hb⟩
  · refine (wshare_splitout a1 m c1 secret n a2 n2 c2 ls _ w G R1 h1 hm k1 k2 R2 h2 hn2 rfl he).mono fun r w' h => ?_
    obtain ⟨⟨a', c', e⟩, hb⟩ := h
    exact ⟨.inr ⟨a', c', _, e⟩, hb⟩
set_option maxRecDepth 100000 in
set_option maxHeartbeats 2000000 in
theorem ssums_walk (a1 : Option Addr) (m c1 : Nat) (A : List UInt8) (a2 : Option Addr) (m2 c2 : Nat) (Bb : List UInt8) (n : Int) (a3 : Option Addr) (p3 c3 : Nat) (ps : List (List UInt8)) (a4 : Option Addr) (q4 c4 : Nat) (qs : List (List UInt8)) (w : World) (G : Env w)
    (R1 : Row w a1 m A) (h1 : m ≤ c1) (hm : m ≤ 140737488351232) (R2 : Row w a2 m2 Bb) (h2 : m2 ≤ c2) (hm2 : m2 ≤ 140737488351232) (k1 : -9223372036854775808 ≤ n) (k2 : n ≤ 9223372036854775807) (R3 : BRowsB w a3 p3 ps) (h3 : p3 ≤ c3) (hp3 : 24 * p3 ≤ 140737488351232) (R4 : BRowsB w a4 q4 qs) (h4 : q4 ≤ c4) (hq4 : 24 * q4 ≤ 140737488351232) :
    Calls Try.prog 5 #[.slice a1 m c1, .slice a2 m2 c2, .int .i64 n, .slice a3 p3 c3, .slice a4 q4 c4] w fun r w' => r = .returned (.bool true) ∧ Below w.heap.size w w' := by
  obtain ⟨iB, hiB, hz0, hz1, hz2⟩ := info_parts Try.infoSh8
  have HALL : Hid (∀ wx, Below w.heap.size w wx → Env wx ∧ Row wx a1 m A ∧ Row wx a2 m2 Bb ∧ BRowsB wx a3 p3 ps ∧ BRowsB wx a4 q4 qs) := fun wx hx => ⟨G.below hx, R1.below hx, R2.below hx, R3.below hx, R4.below hx⟩
  have HB0 : Hid (Below w.heap.size w w) := Below.refl _ _
  have HLS : Hid (A.length = m ∧ Bb.length = m2 ∧ ps.length = p3 ∧ qs.length = q4) := ⟨R1.1, R2.1, R3.1.1, R4.1.1⟩
  clear G R1 R2 R3 R4
  go_enter Try.func5, Try.ntmps5
  go_wp2_with fail
  refine (lsplit_any w (HALL.out _ HB0.out).1).mono ?_
  rintro r w1 ⟨rfl, hb1⟩
  have HB1 : Hid (Below w.heap.size w w1) := hb1
  clear hb1 HB0
  go_wp2_with fail
  refine (wsplit_all a1 m c1 A n a3 p3 c3 ps w1 (HALL.out _ HB1.out).1 (HALL.out _ HB1.out).2.1 h1 hm k1 k2 (HALL.out _ HB1.out).2.2.2.1 h3 (by omega)).mono ?_
  rintro r w5 ⟨hr5, hb5⟩
  have HB5 : Hid (Below w.heap.size w w5) := HB1.out.trans (hb5.mono HB1.out.size)
  clear hb5 HB1
  rcases hr5 with ⟨he5, N, a5, c5, hN, rfl, hc5, r5⟩ | ⟨a5, c5, q5, rfl⟩
  rotate_left
  · go_wp2_with fail
    refine (wsplit_all a2 m2 c2 Bb n a4 q4 c4 qs w5 (HALL.out _ HB5.out).1 (HALL.out _ HB5.out).2.2.1 h2 hm2 k1 k2 (HALL.out _ HB5.out).2.2.2.2 h4 (by omega)).mono ?_
    rintro r w6 ⟨hr6, hb6⟩
    have HB6 : Hid (Below w.heap.size w w6) := HB5.out.trans (hb6.mono HB5.out.size)
    clear hb6 HB5
    rcases hr6 with ⟨_, N, a6, c6, _, rfl, _, _⟩ | ⟨a6, c6, q6, rfl⟩
    · go_wp2_with fail
      go_ret
      exact ⟨rfl, HB6.out⟩
    · go_wp2_with fail
      go_ret
      exact ⟨rfl, HB6.out⟩
  subst hN
  have hok := splitE_ok he5
  have hN1 : 1 ≤ N := by omega
  have hN20 : N ≤ 20 := by omega
  have HX5 : Hid (SRow w5 a5 N (splitL A ps N)) := r5
  clear r5 he5
  go_wp2_with fail
  refine (wsplit_all a2 m2 c2 Bb (N : Int) a4 q4 c4 qs w5 (HALL.out _ HB5.out).1 (HALL.out _ HB5.out).2.2.1 h2 hm2 (by omega) (by omega) (HALL.out _ HB5.out).2.2.2.2 h4 (by omega)).mono ?_
  rintro r w6 ⟨hr6, hb6⟩
  have HB6 : Hid (Below w.heap.size w w6) := HB5.out.trans (hb6.mono HB5.out.size)
  have HX : Hid (SRow w6 a5 N (splitL A ps N)) := HX5.out.below hb6
  clear hb6 HB5 HX5
  rcases hr6 with ⟨_, N6, a6, c6, hN6, rfl, hc6, r6⟩ | ⟨a6, c6, q6, rfl⟩
  rotate_left
  · go_wp2_with fail
    go_ret
    exact ⟨rfl, HB6.out⟩
  obtain rfl : N6 = N := by omega
  have HY : Hid (SRow w6 a6 N6 (splitL Bb qs N6)) := r6
  clear r6 hN6
  generalize N6 = N at *
  by_cases d1 : m = m2
  rotate_left
  · have e1 : ((m : Int) != (m2 : Int)) = true := by simp; omega
    have e2 : ¬ (m : Int) = (m2 : Int) := by omega
    go_wp2_with fail
    go_ret
    exact ⟨rfl, HB6.out⟩
  subst d1
  by_cases d2 : p3 = q4
  rotate_left
  · have e1 : ((m : Int) != (m : Int)) = false := by simp
    have e2 : ((p3 : Int) != (q4 : Int)) = true := by simp; omega
    have e3 : ¬ (p3 : Int) = (q4 : Int) := by omega
    go_wp2_with fail
    go_ret
    exact ⟨rfl, HB6.out⟩
  subst d2
  by_cases d3 : (N : Int) ≤ (p3 : Int)
  · have e1 : ((m : Int) != (m : Int)) = false := by simp
    have e2 : ((p3 : Int) != (p3 : Int)) = false := by simp
    go_wp2_with fail
    go_ret
    exact ⟨rfl, HB6.out⟩
  have e1 : ((m : Int) != (m : Int)) = false := by simp
  have e2 : ((p3 : Int) != (p3 : Int)) = false := by simp
  have hpn : p3 + 1 ≤ N := by omega
  have hm100 : m ≤ 100 := hok.2.2.1
  clear hok
  go_wp2_with fail
  clear d3 e2
  obtain ⟨b5, o5, ha5⟩ := HX.out.addr (by omega)
  subst ha5
  obtain ⟨b6, o6, ha6⟩ := HY.out.addr (by omega)
  subst ha6
  obtain ⟨B0, hB0⟩ : ∃ B0, w6.heap.size = B0 := ⟨_, rfl⟩
  have HBB : Hid (w6.heap.size = B0) := hB0
  have H66 : Hid (Below B0 w6 w6) := Below.refl _ _
  clear hB0
  have HBW : Hid (∀ wx, Below B0 w6 wx → Below w.heap.size w wx ∧ B0 ≤ wx.heap.size) := fun wx hx => ⟨HB6.out.trans (hx.mono (by have := HB6.out.size; have := HBB.out; omega)), by have := hx.size; have := HBB.out; omega⟩
  have key : ∀ (b o : Nat) (S : List UInt8) (ls : List (List UInt8)), SRow w6 (some ⟨b, o, none⟩) N (splitL S ls N) → S.length = m → ∀ i, i < N → (∀ wx, Below B0 w6 wx → wx.cell? ⟨b, o + i * 2, none⟩ = some (.int .u8 ((i + 1 : Nat) : Int))) ∧ ∀ k, k < m → ∃ xb xo cx, m ≤ cx ∧ ∀ wx, Below B0 w6 wx → wx.cell? ⟨b, o + i * 2 + 1, none⟩ = some (.slice (some ⟨xb, xo, none⟩) m cx) ∧ wx.cell? ⟨xb, xo + k, none⟩ = some (.int .u8 (shareN S ls (i + 1) k : Int)) := by
    intro b o S ls R hS i hi
    obtain ⟨ai, ni, ci, hni, _, hnc, HC⟩ := R.head i hi
    rw [splitL_at S ls N i hi] at HC
    have hb : ∀ wx, Below B0 w6 wx → Below w6.heap.size w6 wx := fun wx hx => by rw [HBB.out]; exact hx
    refine ⟨fun wx hx => (HC wx (hb wx hx)).1, fun k hk => ?_⟩
    have R6 := (HC w6 (Below.refl _ _)).2.2
    have hnm : ni = m := by rw [← R6.1]; show (dataS S ls (i + 1) S.length).length = m; rw [dataS_length, hS]
    subst hnm
    rcases R6.2 with h0 | ⟨xb, xo, e, hcell⟩
    · omega
    · subst e
      refine ⟨xb, xo, ci, hnc, fun wx hx => ⟨(HC wx (hb wx hx)).2.1, ?_⟩⟩
      rcases (HC wx (hb wx hx)).2.2.2 with h0 | ⟨xb', xo', e', hcell'⟩
      · omega
      · cases e'
        rw [hcell' k hk, nth_toNat]
        have := dataS_at S ls (i + 1) S.length k (by omega)
        show some (Value.int .u8 (((dataS S ls (i + 1) S.length).getD k 0).toNat : Int)) = _
        rw [this]
  have HKX : Hid _ := key b5 o5 A ps HX.out HLS.out.1
  have HKY : Hid _ := key b6 o6 Bb qs HY.out HLS.out.2.1
  clear key HX HY
  go_loopw [16, 17] (fun v iv wr => ∃ i : Nat, iv = .int .i64 (i : Int) ∧ i ≤ N ∧ Hid (OwnS wr B0 v (sumsL A ps Bb qs i)) ∧ Hid (Below B0 w6 wr)) (fun _ iv _ => N - (intOf iv).toNat)
  case atStart => exact ⟨0, rfl, Nat.zero_le _, OwnS.nil _ _, H66.out⟩
  case round =>
    clear H66
    obtain ⟨i, rfl, hi, HO, HB⟩ := hrel
    by_cases hlt : i < N
    · have HIN : Hid (i < N) := hlt
      have i0 : (0 : Int) ≤ (i : Int) := by omega
      have i1 : (i : Int) < (N : Int) := by omega
      obtain ⟨Kn, hK⟩ : ∃ Kn, i + 1 = Kn := ⟨_, rfl⟩
      have HK : Hid (i + 1 = Kn) := hK
      have k0 : wr.cell? ⟨b5, o5 + i * 2, none⟩ = some (.int .u8 (Kn : Int)) := by rw [← hK]; exact (HKX.out i hlt).1 wr HB.out
      have hK20 : Kn ≤ 20 := by omega
      clear hK hlt hi
      generalize wr = w1 at *
      clear wr
      obtain ⟨g, hg⟩ : ∃ g, w1.heap.size = g := ⟨_, rfl⟩
      obtain ⟨w2, hw2⟩ : ∃ w2, w1.alloc (.cells (hdC noH).toArray 32) = w2 := ⟨_, rfl⟩
      obtain ⟨w3, hw3⟩ : ∃ w3, w2.setCells g 0 (hdC (Kn, none, 0, 0)) = w3 := ⟨_, rfl⟩
      have q3 := SVar.new hg hw2 hw3
      have HT2 : Hid (w2.there g 0 2) := q3.1
      have HV3 : Hid (SVar w3 g Kn (.slice none 0 0)) := q3.2.1
      have HB3 : Hid (Below g w1 w3) := q3.2.2
      have HG : Hid (w1.heap.size = g) := hg
      have HBU : Hid (Try.prog.built 32 [(0, .int .u8 (Kn : Int))] = some (hdC (Kn, none, 0, 0)).toArray) := by rfl
      clear q3
      go_wp2_with (first
        | (refine wpList_allocSh (by rfl) (by rfl) g hg w2 hw2 ?_)
        | (refine wpList_buildC (by rfl) 32 _ (by rfl) (hdC (Kn, none, 0, 0)).toArray (by simp only [List.map_toArray, List.map_cons, List.map_nil, Act.eval]; exact HBU.out) ?_)
        | (refine wpList_storeSh (by rfl) (.tmp 18) (.tmp 76) (by rfl) g (Kn, none, 0, 0) (by rfl) (by rfl) HT2.out w3 hw3 ?_))
      clear hg hw2 hw3 HT2 HBU k0
      go_loopw [19] (fun kv wr => ∃ (k : Nat) (v : Value), kv = .int .i64 (k : Int) ∧ k ≤ m ∧ Hid (SVar wr g Kn v) ∧ Hid (OwnL wr (g + 1) v (sumD A ps Bb qs Kn k)) ∧ Hid (Below g w1 wr)) (fun kv _ => m - (intOf kv).toNat)
      case atStart => exact ⟨0, .slice none 0 0, rfl, Nat.zero_le _, HV3.out, OwnL.nil _ _, HB3.out⟩
      case round =>
        clear HV3 HB3
        obtain ⟨k, v, rfl, hk, HV, HD, HB1⟩ := hrel
        have HBx : Hid (Below B0 w6 wr) := HB.out.trans (HB1.out.mono (by have := (HBW.out _ HB.out).2; have := HG.out; omega))
        by_cases hlk : k < m
        · have HKM : Hid (k < m) := hlk
          have j0 : (0 : Int) ≤ (k : Int) := by omega
          have j1 : (k : Int) < (m : Int) := by omega
          obtain ⟨xb, xo, cx, hcx, HX⟩ := (HKX.out i HIN.out).2 k hlk
          obtain ⟨yb, yo, cy, hcy, HY⟩ := (HKY.out i HIN.out).2 k hlk
          have hsx := shareN_lt A ps (i + 1) k
          have hsy := shareN_lt Bb qs (i + 1) k
          have HSX : Hid (shareN A ps (i + 1) k ^^^ shareN Bb qs (i + 1) k = sumN A ps Bb qs Kn k) := by rw [← HK.out]; rfl
          have hT8 := sumN_lt A ps Bb qs Kn k
          have HDS : Hid (sumD A ps Bb qs Kn k ++ [UInt8.ofNat (sumN A ps Bb qs Kn k)] = sumD A ps Bb qs Kn (k + 1)) := sumD_succ _ _ _ _ _ _
          have HDL : Hid ((sumD A ps Bb qs Kn k).length = k) := sumD_length _ _ _ _ _ _
          have HXY : Hid (∀ wx, Below wr.heap.size wr wx → wx.cell? ⟨b5, o5 + i * 2 + 1, none⟩ = some (.slice (some ⟨xb, xo, none⟩) m cx) ∧ wx.cell? ⟨xb, xo + k, none⟩ = some (.int .u8 (shareN A ps (i + 1) k : Int)) ∧ wx.cell? ⟨b6, o6 + i * 2 + 1, none⟩ = some (.slice (some ⟨yb, yo, none⟩) m cy) ∧ wx.cell? ⟨yb, yo + k, none⟩ = some (.int .u8 (shareN Bb qs (i + 1) k : Int)) ∧ Env wx) := fun wx hx => by
            have b : Below B0 w6 wx := HBx.out.trans (hx.mono (HBW.out _ HBx.out).2)
            exact ⟨(HX wx b).1, (HX wx b).2, (HY wx b).1, (HY wx b).2, (HALL.out _ (HBW.out _ b).1).1⟩
          have HEV : Hid (∀ wx, Below wr.heap.size wr wx → Env wx) := fun wx hx => (HXY.out wx hx).2.2.2.2
          have HXG : Hid (∀ wx, Below (g + 1) wr wx → wx.cell? ⟨b5, o5 + i * 2 + 1, none⟩ = some (.slice (some ⟨xb, xo, none⟩) m cx) ∧ wx.cell? ⟨xb, xo + k, none⟩ = some (.int .u8 (shareN A ps (i + 1) k : Int)) ∧ wx.cell? ⟨b6, o6 + i * 2 + 1, none⟩ = some (.slice (some ⟨yb, yo, none⟩) m cy) ∧ wx.cell? ⟨yb, yo + k, none⟩ = some (.int .u8 (shareN Bb qs (i + 1) k : Int))) := fun wx hx => by
            have b : Below B0 w6 wx := HBx.out.trans (hx.mono (by have := (HBW.out _ HB.out).2; have := HG.out; omega))
            exact ⟨(HX wx b).1, (HX wx b).2, (HY wx b).1, (HY wx b).2⟩
          clear HX HY hlk hk
          generalize shareN A ps (i + 1) k = sx at *
          generalize shareN Bb qs (i + 1) k = sy at *
          generalize sumN A ps Bb qs Kn k = T at *
          generalize sumD A ps Bb qs Kn k = DT at *
          generalize wr = w4 at *
          clear wr
          have HTB : Hid ((T : Int) = (((UInt8.ofNat T).toNat : Nat) : Int)) := byte_cast hT8
          have HGS : Hid (g + 1 ≤ w4.heap.size) := HV.out.lt
          have HS17 : Hid (∀ wx, Below (g + 1) w4 wx → wx.cell? ⟨g, 1, none⟩ = some v ∧ wx.cell? ⟨b5, o5 + i * 2 + 1, none⟩ = some (.slice (some ⟨xb, xo, none⟩) m cx) ∧ wx.cell? ⟨xb, xo + k, none⟩ = some (.int .u8 (sx : Int)) ∧ wx.cell? ⟨b6, o6 + i * 2 + 1, none⟩ = some (.slice (some ⟨yb, yo, none⟩) m cy) ∧ wx.cell? ⟨yb, yo + k, none⟩ = some (.int .u8 (sy : Int))) := fun wx hx => ⟨(HV.out.below hx (by omega)).2.1, HXG.out wx hx⟩
          have HS16 : Hid (∀ wx, Below w4.heap.size w4 wx → wx.cell? ⟨g, 1, none⟩ = some v ∧ wx.cell? ⟨b5, o5 + i * 2 + 1, none⟩ = some (.slice (some ⟨xb, xo, none⟩) m cx) ∧ wx.cell? ⟨xb, xo + k, none⟩ = some (.int .u8 (sx : Int)) ∧ wx.cell? ⟨b6, o6 + i * 2 + 1, none⟩ = some (.slice (some ⟨yb, yo, none⟩) m cy) ∧ wx.cell? ⟨yb, yo + k, none⟩ = some (.int .u8 (sy : Int))) := fun wx hx => HS17.out wx (hx.mono HGS.out)
          clear HXY HXG HBx
          go_upto_region 16 with fail
          try simp only [Act.put, List.setIfInBounds_toArray, List.set_cons_zero, List.set_cons_succ]
          refine wp_region_noPanic ?_
          refine wp_region_till (S := fun wx => wx.cell? ⟨g, 1, none⟩ = some v ∧ wx.cell? ⟨b5, o5 + i * 2 + 1, none⟩ = some (.slice (some ⟨xb, xo, none⟩) m cx) ∧ wx.cell? ⟨xb, xo + k, none⟩ = some (.int .u8 (sx : Int)) ∧ wx.cell? ⟨b6, o6 + i * 2 + 1, none⟩ = some (.slice (some ⟨yb, yo, none⟩) m cy) ∧ wx.cell? ⟨yb, yo + k, none⟩ = some (.int .u8 (sy : Int))) 22 (by kernel_rfl) (HS16.out _ (below_drewN w4 1)) (fun hHeld => ?_)
          try simp only [Act.put, List.setIfInBounds_toArray, List.set_cons_zero, List.set_cons_succ]
          have HBd : Hid (Below w4.heap.size w4 w4.drew) := below_drewN w4 1
          generalize w4.drew = wd at *
          refine wpAnyT_take (i := 0) (v := .pointer (some ⟨g, 1, none⟩)) (by simp only [List.getElem?_toArray, List.getElem?_cons_zero, List.getElem?_cons_succ]; rfl) (by kernel_rfl) (by kernel_rfl) (by kernel_rfl) (by kernel_rfl) (fun _ _ _ h => h) (Or.inl ⟨by rfl, ?_⟩) hHeld ?_
          · intro w hSw
            obtain ⟨hSw0, hSw1, hSw2, hSw3, hSw4⟩ := hSw
            go_simp
          try simp only [Act.put, List.setIfInBounds_toArray, List.set_cons_zero, List.set_cons_succ]
          refine wpAnyT_take (i := 1) (v := v) (by simp only [List.getElem?_toArray, List.getElem?_cons_zero, List.getElem?_cons_succ]; rfl) (by kernel_rfl) (by kernel_rfl) (by kernel_rfl) (by kernel_rfl) (fun _ _ _ h => h) (Or.inl ⟨by rfl, ?_⟩) hHeld ?_
          · intro w hSw
            obtain ⟨hSw0, hSw1, hSw2, hSw3, hSw4⟩ := hSw
            go_simp
          try simp only [Act.put, List.setIfInBounds_toArray, List.set_cons_zero, List.set_cons_succ]
          refine wpAnyT_take (i := 2) (v := .slice (some ⟨b5, o5, none⟩) N c5) (by simp only [List.getElem?_toArray, List.getElem?_cons_zero, List.getElem?_cons_succ]; rfl) (by kernel_rfl) (by kernel_rfl) (by kernel_rfl) (by kernel_rfl) (fun _ _ _ h => h) (Or.inl ⟨by rfl, ?_⟩) hHeld ?_
          · intro w hSw
            obtain ⟨hSw0, hSw1, hSw2, hSw3, hSw4⟩ := hSw
            go_simp
          try simp only [Act.put, List.setIfInBounds_toArray, List.set_cons_zero, List.set_cons_succ]
          refine wpAnyT_take (i := 3) (v := .int .i64 (i : Int)) (by simp only [List.getElem?_toArray, List.getElem?_cons_zero, List.getElem?_cons_succ]; rfl) (by kernel_rfl) (by kernel_rfl) (by kernel_rfl) (by kernel_rfl) (fun _ _ _ h => h) (Or.inl ⟨by rfl, ?_⟩) hHeld ?_
          · intro w hSw
            obtain ⟨hSw0, hSw1, hSw2, hSw3, hSw4⟩ := hSw
            go_simp
          try simp only [Act.put, List.setIfInBounds_toArray, List.set_cons_zero, List.set_cons_succ]
          refine wpAnyT_take (i := 4) (v := .pointer (some ⟨b5, o5 + i * 2, none⟩)) (by simp only [List.getElem?_toArray, List.getElem?_cons_zero, List.getElem?_cons_succ]; rfl) (by kernel_rfl) (by kernel_rfl) (by kernel_rfl) (by kernel_rfl) (fun _ _ _ h => h) (Or.inl ⟨by rfl, ?_⟩) hHeld ?_
          · intro w hSw
            obtain ⟨hSw0, hSw1, hSw2, hSw3, hSw4⟩ := hSw
            go_simp
          try simp only [Act.put, List.setIfInBounds_toArray, List.set_cons_zero, List.set_cons_succ]
          refine wpAnyT_take (i := 5) (v := .pointer (some ⟨b5, o5 + i * 2 + 1, none⟩)) (by simp only [List.getElem?_toArray, List.getElem?_cons_zero, List.getElem?_cons_succ]; rfl) (by kernel_rfl) (by kernel_rfl) (by kernel_rfl) (by kernel_rfl) (fun _ _ _ h => h) (Or.inl ⟨by rfl, ?_⟩) hHeld ?_
          · intro w hSw
            obtain ⟨hSw0, hSw1, hSw2, hSw3, hSw4⟩ := hSw
            go_simp
          try simp only [Act.put, List.setIfInBounds_toArray, List.set_cons_zero, List.set_cons_succ]
          refine wpAnyT_take (i := 6) (v := .slice (some ⟨xb, xo, none⟩) m cx) (by simp only [List.getElem?_toArray, List.getElem?_cons_zero, List.getElem?_cons_succ]; rfl) (by kernel_rfl) (by kernel_rfl) (by kernel_rfl) (by kernel_rfl) (fun _ _ _ h => h) (Or.inl ⟨by rfl, ?_⟩) hHeld ?_
          · intro w hSw
            obtain ⟨hSw0, hSw1, hSw2, hSw3, hSw4⟩ := hSw
            go_simp
          try simp only [Act.put, List.setIfInBounds_toArray, List.set_cons_zero, List.set_cons_succ]
          refine wpAnyT_take (i := 7) (v := .int .i64 (k : Int)) (by simp only [List.getElem?_toArray, List.getElem?_cons_zero, List.getElem?_cons_succ]; rfl) (by kernel_rfl) (by kernel_rfl) (by kernel_rfl) (by kernel_rfl) (fun _ _ _ h => h) (Or.inl ⟨by rfl, ?_⟩) hHeld ?_
          · intro w hSw
            obtain ⟨hSw0, hSw1, hSw2, hSw3, hSw4⟩ := hSw
            go_simp
          try simp only [Act.put, List.setIfInBounds_toArray, List.set_cons_zero, List.set_cons_succ]
          refine wpAnyT_take (i := 8) (v := .pointer (some ⟨xb, xo + k, none⟩)) (by simp only [List.getElem?_toArray, List.getElem?_cons_zero, List.getElem?_cons_succ]; rfl) (by kernel_rfl) (by kernel_rfl) (by kernel_rfl) (by kernel_rfl) (fun _ _ _ h => h) (Or.inl ⟨by rfl, ?_⟩) hHeld ?_
          · intro w hSw
            obtain ⟨hSw0, hSw1, hSw2, hSw3, hSw4⟩ := hSw
            go_simp
          try simp only [Act.put, List.setIfInBounds_toArray, List.set_cons_zero, List.set_cons_succ]
          refine wpAnyT_take (i := 9) (v := .int .u8 (sx : Int)) (by simp only [List.getElem?_toArray, List.getElem?_cons_zero, List.getElem?_cons_succ]; rfl) (by kernel_rfl) (by kernel_rfl) (by kernel_rfl) (by kernel_rfl) (fun _ _ _ h => h) (Or.inl ⟨by rfl, ?_⟩) hHeld ?_
          · intro w hSw
            obtain ⟨hSw0, hSw1, hSw2, hSw3, hSw4⟩ := hSw
            go_simp
          try simp only [Act.put, List.setIfInBounds_toArray, List.set_cons_zero, List.set_cons_succ]
          refine wpAnyT_take (i := 10) (v := .slice (some ⟨b6, o6, none⟩) N c6) (by simp only [List.getElem?_toArray, List.getElem?_cons_zero, List.getElem?_cons_succ]; rfl) (by kernel_rfl) (by kernel_rfl) (by kernel_rfl) (by kernel_rfl) (fun _ _ _ h => h) (Or.inl ⟨by rfl, ?_⟩) hHeld ?_
          · intro w hSw
            obtain ⟨hSw0, hSw1, hSw2, hSw3, hSw4⟩ := hSw
            go_simp
          try simp only [Act.put, List.setIfInBounds_toArray, List.set_cons_zero, List.set_cons_succ]
          refine wpAnyT_take (i := 11) (v := .int .i64 (i : Int)) (by simp only [List.getElem?_toArray, List.getElem?_cons_zero, List.getElem?_cons_succ]; rfl) (by kernel_rfl) (by kernel_rfl) (by kernel_rfl) (by kernel_rfl) (fun _ _ _ h => h) (Or.inl ⟨by rfl, ?_⟩) hHeld ?_
          · intro w hSw
            obtain ⟨hSw0, hSw1, hSw2, hSw3, hSw4⟩ := hSw
            go_simp
          try simp only [Act.put, List.setIfInBounds_toArray, List.set_cons_zero, List.set_cons_succ]
          refine wpAnyT_take (i := 12) (v := .pointer (some ⟨b6, o6 + i * 2, none⟩)) (by simp only [List.getElem?_toArray, List.getElem?_cons_zero, List.getElem?_cons_succ]; rfl) (by kernel_rfl) (by kernel_rfl) (by kernel_rfl) (by kernel_rfl) (fun _ _ _ h => h) (Or.inl ⟨by rfl, ?_⟩) hHeld ?_
          · intro w hSw
            obtain ⟨hSw0, hSw1, hSw2, hSw3, hSw4⟩ := hSw
            go_simp
          try simp only [Act.put, List.setIfInBounds_toArray, List.set_cons_zero, List.set_cons_succ]
          refine wpAnyT_take (i := 13) (v := .pointer (some ⟨b6, o6 + i * 2 + 1, none⟩)) (by simp only [List.getElem?_toArray, List.getElem?_cons_zero, List.getElem?_cons_succ]; rfl) (by kernel_rfl) (by kernel_rfl) (by kernel_rfl) (by kernel_rfl) (fun _ _ _ h => h) (Or.inl ⟨by rfl, ?_⟩) hHeld ?_
          · intro w hSw
            obtain ⟨hSw0, hSw1, hSw2, hSw3, hSw4⟩ := hSw
            go_simp
          try simp only [Act.put, List.setIfInBounds_toArray, List.set_cons_zero, List.set_cons_succ]
          refine wpAnyT_take (i := 14) (v := .slice (some ⟨yb, yo, none⟩) m cy) (by simp only [List.getElem?_toArray, List.getElem?_cons_zero, List.getElem?_cons_succ]; rfl) (by kernel_rfl) (by kernel_rfl) (by kernel_rfl) (by kernel_rfl) (fun _ _ _ h => h) (Or.inl ⟨by rfl, ?_⟩) hHeld ?_
          · intro w hSw
            obtain ⟨hSw0, hSw1, hSw2, hSw3, hSw4⟩ := hSw
            go_simp
          try simp only [Act.put, List.setIfInBounds_toArray, List.set_cons_zero, List.set_cons_succ]
          refine wpAnyT_take (i := 15) (v := .int .i64 (k : Int)) (by simp only [List.getElem?_toArray, List.getElem?_cons_zero, List.getElem?_cons_succ]; rfl) (by kernel_rfl) (by kernel_rfl) (by kernel_rfl) (by kernel_rfl) (fun _ _ _ h => h) (Or.inl ⟨by rfl, ?_⟩) hHeld ?_
          · intro w hSw
            obtain ⟨hSw0, hSw1, hSw2, hSw3, hSw4⟩ := hSw
            go_simp
          try simp only [Act.put, List.setIfInBounds_toArray, List.set_cons_zero, List.set_cons_succ]
          refine wpAnyT_take (i := 16) (v := .pointer (some ⟨yb, yo + k, none⟩)) (by simp only [List.getElem?_toArray, List.getElem?_cons_zero, List.getElem?_cons_succ]; rfl) (by kernel_rfl) (by kernel_rfl) (by kernel_rfl) (by kernel_rfl) (fun _ _ _ h => h) (Or.inl ⟨by rfl, ?_⟩) hHeld ?_
          · intro w hSw
            obtain ⟨hSw0, hSw1, hSw2, hSw3, hSw4⟩ := hSw
            go_simp
          try simp only [Act.put, List.setIfInBounds_toArray, List.set_cons_zero, List.set_cons_succ]
          refine wpAnyT_take (i := 17) (v := .int .u8 (sy : Int)) (by simp only [List.getElem?_toArray, List.getElem?_cons_zero, List.getElem?_cons_succ]; rfl) (by kernel_rfl) (by kernel_rfl) (by kernel_rfl) (by kernel_rfl) (fun _ _ _ h => h) (Or.inl ⟨by rfl, ?_⟩) hHeld ?_
          · intro w hSw
            obtain ⟨hSw0, hSw1, hSw2, hSw3, hSw4⟩ := hSw
            go_simp
          try simp only [Act.put, List.setIfInBounds_toArray, List.set_cons_zero, List.set_cons_succ]
          refine wpAnyT_ready (rs := [18]) (by kernel_rfl) (by simp) ?_
          refine AllReadyT.cons (by simp only [List.getElem?_toArray, List.getElem?_cons_zero, List.getElem?_cons_succ]; rfl) (fun K hK => ?_) AllReadyT.nil
          rw [if_pos (by rfl)]
          go_simp
          refine (wfield_add sx sy wd (HEV.out _ HBd.out) hsx hsy).mono ?_
          rintro e we ⟨rfl, hbe⟩
          rw [HSX.out]
          have HBe : Hid (Below w4.heap.size w4 we) := HBd.out.trans (hbe.mono HBd.out.size)
          clear hbe
          go_wp2_with fail
          refine hK.out _ _ (HS16.out _ HBe.out) (fun hHeld => ?_)
          clear hK K
          try simp only [Act.put, List.setIfInBounds_toArray, List.set_cons_zero, List.set_cons_succ]
          refine wpAnyT_ready (rs := [19]) (by kernel_rfl) (by simp) ?_
          refine AllReadyT.cons (by simp only [List.getElem?_toArray, List.getElem?_cons_zero, List.getElem?_cons_succ]; rfl) (fun K hK => ?_) AllReadyT.nil
          rw [if_pos (by rfl)]
          go_simp
          have HBl : Hid (Below w4.heap.size w4 (we.alloc (.cells #[.int .u8 (T : Int)] 5))) := HBe.out.alloc HBe.out.size _
          have HRl : Hid (Row (we.alloc (.cells #[.int .u8 (T : Int)] 5)) (some ⟨we.heap.size, 0, none⟩) 1 [UInt8.ofNat T]) := Row.lit1v we (UInt8.ofNat T) 5 _ HTB.out
          refine hK.out _ _ (HS16.out _ HBl.out) (fun hHeld => ?_)
          generalize we.alloc (.cells #[.int .u8 (T : Int)] 5) = wl at *
          generalize we.heap.size = sl at *
          clear hK K
          try simp only [Act.put, List.setIfInBounds_toArray, List.set_cons_zero, List.set_cons_succ]
          refine wpAnyT_ready (rs := [20]) (by kernel_rfl) (by simp) ?_
          refine AllReadyT.cons (by simp only [List.getElem?_toArray, List.getElem?_cons_zero, List.getElem?_cons_succ]; rfl) (fun K hK => ?_) AllReadyT.nil
          rw [if_pos (by rfl)]
          have HDl : Hid (OwnL wl (g + 1) v DT) := HD.out.below HBl.out
          refine wp_appendL (.tmp 84) (.tmp 102) rfl (g + 1) v DT rfl HDl.out sl 0 1 1 [UInt8.ofNat T] rfl HRl.out (by omega) (by rw [HDL.out]; have := HKM.out; omega) (by have := HBl.out.size; have := HGS.out; omega) ?_
          intro v7 w7 ho7 hg7
          obtain ⟨a7, n7, c7, hv7⟩ : ∃ a n c, v7 = .slice a n c := by
            obtain ⟨a, c, e, _⟩ := ho7.form
            exact ⟨_, _, _, e⟩
          subst hv7
          have HB7g : Hid (Below (g + 1) w4 w7) := (HBl.out.mono HGS.out).grown hg7 (by have := HBl.out.size; have := HGS.out; omega) (fun q hq => (World.ownsRow.lt HDl.out q hq).1)
          have HV7 : Hid (SVar w7 g Kn v) := HV.out.below HB7g.out (by omega)
          have HD7 : Hid (OwnL w7 (g + 1) (.slice a7 n7 c7) (DT ++ [UInt8.ofNat T])) := ho7
          refine hK.out _ _ (HS17.out _ HB7g.out) (fun hHeld => ?_)
          clear hK K
          try simp only [Act.put, List.setIfInBounds_toArray, List.set_cons_zero, List.set_cons_succ]
          refine wpAnyT_take (i := 21) (v := .pointer (some ⟨g, 1, none⟩)) (by simp only [List.getElem?_toArray, List.getElem?_cons_zero, List.getElem?_cons_succ]; rfl) (by kernel_rfl) (by kernel_rfl) (by kernel_rfl) (by kernel_rfl) (fun _ _ _ h => h) (Or.inl ⟨by rfl, ?_⟩) hHeld ?_
          · intro w hSw
            obtain ⟨hSw0, hSw1, hSw2, hSw3, hSw4⟩ := hSw
            go_simp
          try simp only [Act.put, List.setIfInBounds_toArray, List.set_cons_zero, List.set_cons_succ]
          refine wpAnyT_ready (rs := [22]) (by kernel_rfl) (by simp) ?_
          refine AllReadyT.lastly (by simp only [List.getElem?_toArray, List.getElem?_cons_zero, List.getElem?_cons_succ]; rfl) rfl (fun K hK => ?_) AllReadyT.nil
          rw [if_pos (by rfl)]
          have c9 : w7.cell? ⟨g, 1, none⟩ = some v := HV7.out.2.1
          have f9 : w7.frozen? ⟨g, 1, none⟩ = false := (HV7.out.2.2 1 (by omega)).2
          go_simp
          refine hK.out _ _ ?_
          clear hK K
          try simp only [Act.put, List.setIfInBounds_toArray, List.set_cons_zero, List.set_cons_succ]
          refine wpAnyT_done (by kernel_rfl) (NoPanic.normal ?_) _
          clear hHeld c9 f9
          have HV8 : Hid (SVar (w7.setCell ⟨g, 1, none⟩ (.slice a7 n7 c7)) g Kn (.slice a7 n7 c7)) := HV7.out.put _
          have HD8 : Hid (OwnL (w7.setCell ⟨g, 1, none⟩ (.slice a7 n7 c7)) (g + 1) (.slice a7 n7 c7) (sumD A ps Bb qs Kn (k + 1))) := by rw [← HDS.out]; exact HD7.out.aside g 1 _ (by omega)
          have HB8 : Hid (Below g w1 (w7.setCell ⟨g, 1, none⟩ (.slice a7 n7 c7))) := (HB1.out.trans (HB7g.out.mono (by omega))).setCell (Nat.le_refl _) _
          generalize w7.setCell ⟨g, 1, none⟩ (.slice a7 n7 c7) = w8 at *
          go_wp2_with fail
          go_roundw
          case rel => exact ⟨k + 1, _, by go_num, HKM.out, HV8.out, HD8.out, HB8.out⟩
          case measure => have := HKM.out; simp [intOf]; omega
        · have hkm : k = m := by omega
          subst hkm
          have g2 : ¬ (k : Int) < (k : Int) := by omega
          obtain ⟨ad, cd, hde, RD, hcd⟩ := HD.out.form
          rw [sumD_length] at hde RD hcd
          subst hde
          have HRD : Hid (wr.rangeAt g 0 (hdC (Kn, ad, k, cd))) := HV.out.range
          have HDH : Hid (DatH wr (Kn, ad, k, cd) (Kn, sumD A ps Bb qs Kn k)) := ⟨rfl, by show Kn < 256; omega, hcd, by show k ≤ 140737488351232; omega, RD⟩
          have HOW : Hid (OwnS wr B0 u16 (sumsL A ps Bb qs i)) := HO.out.below (by rw [HG.out]; exact HB1.out)
          have HAP : Hid (ApartH (Kn, ad, k, cd) u16.ownBlock) := by
            refine .inr fun p e e2 => ?_
            have e' : ad = some p := e
            have q1 := HO.out.lt _ e2
            subst e'
            have q2 := World.ownsRow.lt HD.out p.block rfl
            have := HG.out
            omega
          have HSS : Hid (sumsL A ps Bb qs i ++ [(Kn, sumD A ps Bb qs Kn k)] = sumsL A ps Bb qs (i + 1)) := by
            unfold Hid
            rw [← sumsL_succ, HLS.out.1, HK.out]
          have HSL : Hid ((sumsL A ps Bb qs i).length = i) := sumsL_length _ _ _ _ _
          generalize sumD A ps Bb qs Kn k = DT at *
          generalize sumsL A ps Bb qs i = SL at *
          clear RD HV HD HB1 HO hlk HB
          go_wp2_with (first
            | (refine wpList_loadSh (by rfl) (.tmp 18) (by rfl) g 0 (Kn, ad, k, cd) (by rfl) HRD.out ?_)
            | (refine wpList_buildSh (by rfl) (.tmp 106) (by rfl) (Kn, ad, k, cd) (by rfl) ?_)
            | (at_builtin; refine wpList_append_share (by rfl) (.tmp 105) (.tmp 107) (by rfl) B0 u16 SL (by rfl) (OwnS.alloc HOW.out _) wr.heap.size 0 1 (Kn, ad, k, cd) (Kn, DT) (by rfl) (lit_cells wr (Kn, ad, k, cd) _) (HDH.out.below ((Below.refl _ _).alloc (Nat.le_refl _) _)) HAP.out (by rw [HSL.out]; have := HIN.out; omega) (by have := (HBW.out _ HBx.out).2; simp; omega) ?_; intro v6 w7 ho6 hg6 ha6))
          have q6 : OwnS w7 B0 v6 (sumsL A ps Bb qs (i + 1)) := by rw [← HSS.out]; exact ho6
          have B6 := OwnS.grown (OwnS.alloc HOW.out _) (HBx.out.alloc (HBW.out _ HBx.out).2 _) hg6 (Nat.le_refl _) (by have := (HBW.out _ HBx.out).2; simp; omega)
          have hk5 := HIN.out
          go_roundw
          case rel => exact ⟨i + 1, by go_num, by omega, q6, B6⟩
          case measure => simp [intOf]; omega
    · have hin : i = N := by omega
      subst hin
      have g3 : ¬ (i : Int) < (i : Int) := by omega
      obtain ⟨a7, c7, hu, r7, hc7⟩ := HO.out.form
      rw [sumsL_length] at hu r7 hc7
      subst hu
      have HR7 : Hid (SRow wr a7 i (sumsL A ps Bb qs i)) := r7
      have HJE : Hid (joinE (sumsL A ps Bb qs i) = 0) := sumsL_join A ps Bb qs i hN1 hN20
      have HEN : Hid (∀ l, joinedP (sumsL A ps Bb qs i) 0 l → l.length = A.length ∧ ∀ k, k < A.length → (l.getD k 0).toNat = (A.getD k 0).toNat ^^^ (Bb.getD k 0).toNat) := fun l hl => sums_all hN20 (by rw [HLS.out.2.2.1]; exact hpn) (by rw [HLS.out.2.2.1, HLS.out.2.2.2]) hl
      have HBx : Hid (Below w.heap.size w wr) := (HBW.out wr HB.out).1
      clear r7 HO HB hlt
      go_wp2_with fail
      refine (wshare_join a7 i c7 (sumsL A ps Bb qs i) wr (HALL.out _ HBx.out).1 HR7.out hc7 HJE.out).mono ?_
      rintro r w8 ⟨⟨a8, c8, l8, rfl, hc8, r8, j8⟩, hb8⟩
      obtain ⟨hl8, hsum⟩ := HEN.out l8 j8
      rw [HLS.out.1] at hl8 hsum
      rw [hl8] at r8 hc8
      rw [hl8]
      have HB8 : Hid (Below w.heap.size w w8) := HBx.out.trans (hb8.mono HBx.out.size)
      have HR8 : Hid (Row w8 a8 m l8) := r8
      have HSUMS : Hid (∀ k, k < m → (l8.getD k 0).toNat = (A.getD k 0).toNat ^^^ (Bb.getD k 0).toNat) := hsum
      clear hb8 HR7 HJE HEN HBx r8 j8 hl8 hsum
      have H88 : Hid (Below w8.heap.size w8 w8) := Below.refl _ _
      go_wp2_with fail
      go_loopw [22] (fun kv wr => ∃ k : Nat, kv = .int .i64 (k : Int) ∧ k ≤ m ∧ Hid (Below w8.heap.size w8 wr)) (fun kv _ => m - (intOf kv).toNat)
      case atStart => exact ⟨0, rfl, Nat.zero_le _, H88.out⟩
      case round =>
        clear H88
        obtain ⟨k, rfl, hk, HB9⟩ := hrel
        have HBy : Hid (Below w.heap.size w wr) := HB8.out.trans (HB9.out.mono HB8.out.size)
        by_cases hlk : k < m
        · have HKM : Hid (k < m) := hlk
          have j0 : (0 : Int) ≤ (k : Int) := by omega
          have j1 : (k : Int) < (m : Int) := by omega
          obtain ⟨gb, go, ha8, hg8⟩ := row_cells (HR8.out.below HB9.out) k hlk
          obtain ⟨ab, ao, ha1, hg1⟩ := row_cells (HALL.out _ HBy.out).2.1 k hlk
          obtain ⟨bb, bo, ha2, hg2⟩ := row_cells (HALL.out _ HBy.out).2.2.1 k hlk
          subst ha8
          subst ha1
          subst ha2
          have HC3 : Hid (∀ wx, Below wr.heap.size wr wx → (wx.cell? ⟨gb, go + k, none⟩ = some (.int .u8 ((l8.getD k 0).toNat : Int)) ∧ wx.cell? ⟨ab, ao + k, none⟩ = some (.int .u8 ((A.getD k 0).toNat : Int)) ∧ wx.cell? ⟨bb, bo + k, none⟩ = some (.int .u8 ((Bb.getD k 0).toNat : Int))) ∧ Env wx ∧ True) := fun wx hx => ⟨⟨hg8 wx hx, hg1 wx hx, hg2 wx hx⟩, (HALL.out _ (HBy.out.trans (hx.mono HBy.out.size))).1, True.intro⟩
          have HSUM : Hid ((A.getD k 0).toNat ^^^ (Bb.getD k 0).toNat = (l8.getD k 0).toNat) := (HSUMS.out k hlk).symm
          have hv2 : (A.getD k 0).toNat < 256 := UInt8.toNat_lt _
          have hv3 : (Bb.getD k 0).toNat < 256 := UInt8.toNat_lt _
          generalize (l8.getD k 0).toNat = v1 at *
          generalize (A.getD k 0).toNat = v2 at *
          generalize (Bb.getD k 0).toNat = v3 at *
          clear hg8 hg1 hg2 hlk hk
          go_upto_region 24 with fail
          try simp only [Act.put, List.setIfInBounds_toArray, List.set_cons_zero, List.set_cons_succ]
          refine wp_region_noPanic ?_
          refine wp_region_held_drew (S := fun wx => wx.cell? ⟨gb, go + k, none⟩ = some (.int .u8 (v1 : Int)) ∧ wx.cell? ⟨ab, ao + k, none⟩ = some (.int .u8 (v2 : Int)) ∧ wx.cell? ⟨bb, bo + k, none⟩ = some (.int .u8 (v3 : Int))) (by kernel_rfl) (HC3.out _ (below_drewN wr 1)).1 (fun hHeld => ?_)
          try simp only [Act.put, List.setIfInBounds_toArray, List.set_cons_zero, List.set_cons_succ]
          have HBd : Hid (Below wr.heap.size wr wr.drew) := below_drewN wr 1
          generalize wr.drew = wd at *
          refine wpAnyH_take (i := 0) (v := .slice (some ⟨gb, go, none⟩) m c8) (by simp only [List.getElem?_toArray, List.getElem?_cons_zero, List.getElem?_cons_succ]; rfl) (by kernel_rfl) (by kernel_rfl) (by kernel_rfl) (fun _ _ _ h => h) (Or.inl ⟨by rfl, ?_⟩) hHeld ?_
          · intro w hSw
            obtain ⟨hSw0, hSw1, hSw2⟩ := hSw
            go_simp
          try simp only [Act.put, List.setIfInBounds_toArray, List.set_cons_zero, List.set_cons_succ]
          refine wpAnyH_take (i := 1) (v := .int .i64 (k : Int)) (by simp only [List.getElem?_toArray, List.getElem?_cons_zero, List.getElem?_cons_succ]; rfl) (by kernel_rfl) (by kernel_rfl) (by kernel_rfl) (fun _ _ _ h => h) (Or.inl ⟨by rfl, ?_⟩) hHeld ?_
          · intro w hSw
            obtain ⟨hSw0, hSw1, hSw2⟩ := hSw
            go_simp
          try simp only [Act.put, List.setIfInBounds_toArray, List.set_cons_zero, List.set_cons_succ]
          refine wpAnyH_take (i := 2) (v := .pointer (some ⟨gb, go + k, none⟩)) (by simp only [List.getElem?_toArray, List.getElem?_cons_zero, List.getElem?_cons_succ]; rfl) (by kernel_rfl) (by kernel_rfl) (by kernel_rfl) (fun _ _ _ h => h) (Or.inl ⟨by rfl, ?_⟩) hHeld ?_
          · intro w hSw
            obtain ⟨hSw0, hSw1, hSw2⟩ := hSw
            go_simp
          try simp only [Act.put, List.setIfInBounds_toArray, List.set_cons_zero, List.set_cons_succ]
          refine wpAnyH_take (i := 3) (v := .int .u8 (v1 : Int)) (by simp only [List.getElem?_toArray, List.getElem?_cons_zero, List.getElem?_cons_succ]; rfl) (by kernel_rfl) (by kernel_rfl) (by kernel_rfl) (fun _ _ _ h => h) (Or.inl ⟨by rfl, ?_⟩) hHeld ?_
          · intro w hSw
            obtain ⟨hSw0, hSw1, hSw2⟩ := hSw
            go_simp
          try simp only [Act.put, List.setIfInBounds_toArray, List.set_cons_zero, List.set_cons_succ]
          refine wpAnyH_take (i := 4) (v := .slice (some ⟨ab, ao, none⟩) m c1) (by simp only [List.getElem?_toArray, List.getElem?_cons_zero, List.getElem?_cons_succ]; rfl) (by kernel_rfl) (by kernel_rfl) (by kernel_rfl) (fun _ _ _ h => h) (Or.inl ⟨by rfl, ?_⟩) hHeld ?_
          · intro w hSw
            obtain ⟨hSw0, hSw1, hSw2⟩ := hSw
            go_simp
          try simp only [Act.put, List.setIfInBounds_toArray, List.set_cons_zero, List.set_cons_succ]
          refine wpAnyH_take (i := 5) (v := .int .i64 (k : Int)) (by simp only [List.getElem?_toArray, List.getElem?_cons_zero, List.getElem?_cons_succ]; rfl) (by kernel_rfl) (by kernel_rfl) (by kernel_rfl) (fun _ _ _ h => h) (Or.inl ⟨by rfl, ?_⟩) hHeld ?_
          · intro w hSw
            obtain ⟨hSw0, hSw1, hSw2⟩ := hSw
            go_simp
          try simp only [Act.put, List.setIfInBounds_toArray, List.set_cons_zero, List.set_cons_succ]
          refine wpAnyH_take (i := 6) (v := .pointer (some ⟨ab, ao + k, none⟩)) (by simp only [List.getElem?_toArray, List.getElem?_cons_zero, List.getElem?_cons_succ]; rfl) (by kernel_rfl) (by kernel_rfl) (by kernel_rfl) (fun _ _ _ h => h) (Or.inl ⟨by rfl, ?_⟩) hHeld ?_
          · intro w hSw
            obtain ⟨hSw0, hSw1, hSw2⟩ := hSw
            go_simp
          try simp only [Act.put, List.setIfInBounds_toArray, List.set_cons_zero, List.set_cons_succ]
          refine wpAnyH_take (i := 7) (v := .int .u8 (v2 : Int)) (by simp only [List.getElem?_toArray, List.getElem?_cons_zero, List.getElem?_cons_succ]; rfl) (by kernel_rfl) (by kernel_rfl) (by kernel_rfl) (fun _ _ _ h => h) (Or.inl ⟨by rfl, ?_⟩) hHeld ?_
          · intro w hSw
            obtain ⟨hSw0, hSw1, hSw2⟩ := hSw
            go_simp
          try simp only [Act.put, List.setIfInBounds_toArray, List.set_cons_zero, List.set_cons_succ]
          refine wpAnyH_take (i := 8) (v := .slice (some ⟨bb, bo, none⟩) m c2) (by simp only [List.getElem?_toArray, List.getElem?_cons_zero, List.getElem?_cons_succ]; rfl) (by kernel_rfl) (by kernel_rfl) (by kernel_rfl) (fun _ _ _ h => h) (Or.inl ⟨by rfl, ?_⟩) hHeld ?_
          · intro w hSw
            obtain ⟨hSw0, hSw1, hSw2⟩ := hSw
            go_simp
          try simp only [Act.put, List.setIfInBounds_toArray, List.set_cons_zero, List.set_cons_succ]
          refine wpAnyH_take (i := 9) (v := .int .i64 (k : Int)) (by simp only [List.getElem?_toArray, List.getElem?_cons_zero, List.getElem?_cons_succ]; rfl) (by kernel_rfl) (by kernel_rfl) (by kernel_rfl) (fun _ _ _ h => h) (Or.inl ⟨by rfl, ?_⟩) hHeld ?_
          · intro w hSw
            obtain ⟨hSw0, hSw1, hSw2⟩ := hSw
            go_simp
          try simp only [Act.put, List.setIfInBounds_toArray, List.set_cons_zero, List.set_cons_succ]
          refine wpAnyH_take (i := 10) (v := .pointer (some ⟨bb, bo + k, none⟩)) (by simp only [List.getElem?_toArray, List.getElem?_cons_zero, List.getElem?_cons_succ]; rfl) (by kernel_rfl) (by kernel_rfl) (by kernel_rfl) (fun _ _ _ h => h) (Or.inl ⟨by rfl, ?_⟩) hHeld ?_
          · intro w hSw
            obtain ⟨hSw0, hSw1, hSw2⟩ := hSw
            go_simp
          try simp only [Act.put, List.setIfInBounds_toArray, List.set_cons_zero, List.set_cons_succ]
          refine wpAnyH_take (i := 11) (v := .int .u8 (v3 : Int)) (by simp only [List.getElem?_toArray, List.getElem?_cons_zero, List.getElem?_cons_succ]; rfl) (by kernel_rfl) (by kernel_rfl) (by kernel_rfl) (fun _ _ _ h => h) (Or.inl ⟨by rfl, ?_⟩) hHeld ?_
          · intro w hSw
            obtain ⟨hSw0, hSw1, hSw2⟩ := hSw
            go_simp
          try simp only [Act.put, List.setIfInBounds_toArray, List.set_cons_zero, List.set_cons_succ]
          refine wpAnyH_ready (rs := [12]) (by kernel_rfl) (by simp) ?_
          refine AllReadyH.cons (by simp only [List.getElem?_toArray, List.getElem?_cons_zero, List.getElem?_cons_succ]; rfl) (fun K hK => ?_) AllReadyH.nil
          rw [if_pos (by rfl)]
          go_simp
          refine (wfield_add v2 v3 wd (HC3.out _ HBd.out).2.1 hv2 hv3).mono ?_
          rintro e we ⟨rfl, hbe⟩
          rw [HSUM.out]
          have HBe : Hid (Below wr.heap.size wr we) := HBd.out.trans (hbe.mono HBd.out.size)
          clear hbe
          go_wp2_with fail
          refine hK.out _ _ (HC3.out _ HBe.out).1 (fun hHeld => ?_)
          clear hK K
          try simp only [Act.put, List.setIfInBounds_toArray, List.set_cons_zero, List.set_cons_succ]
          refine wpAnyH_take (i := 13) (v := .bool false) (by simp only [List.getElem?_toArray, List.getElem?_cons_zero, List.getElem?_cons_succ]; rfl) (by kernel_rfl) (by kernel_rfl) (by kernel_rfl) (fun _ _ _ h => h) (Or.inl ⟨by rfl, ?_⟩) hHeld ?_
          · intro w hSw
            obtain ⟨hSw0, hSw1, hSw2⟩ := hSw
            go_simp
          try simp only [Act.put, List.setIfInBounds_toArray, List.set_cons_zero, List.set_cons_succ]
          refine wpAnyH_done (by kernel_rfl) (NoPanic.normal ?_) _
          clear hHeld
          go_wp2_with fail
          go_roundw
          case rel => exact ⟨k + 1, by go_num, HKM.out, HB9.out.trans (HBe.out.mono HB9.out.size)⟩
          case measure => have := HKM.out; simp [intOf]; omega
        · have hkm : k = m := by omega
          subst hkm
          have g4 : ¬ (k : Int) < (k : Int) := by omega
          clear hlk
          go_wp2_with fail
          go_ret
          exact ⟨rfl, HBy.out⟩
end Go.Proofs.Ytnffmegicgbinaa
