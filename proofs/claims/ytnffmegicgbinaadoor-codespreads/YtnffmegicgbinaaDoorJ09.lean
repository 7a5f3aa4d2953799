/- Texts of this claim, joined: Rsplitf, Rvalue, Rsplit, Shw. -/
import Derived.Test.YtnffmegicgbinaaDoorJ08
import Derived.Test.YtnffmegicgbinaaDoorJ06
import Derived.Deep.DeepCutAuto
import Derived.WalkKit
import Derived.Test.YtnffmegicgbinaaDoorJ02
import Derived.Test.YtnffmegicgbinaaDoorJ04
import Derived.Laws.BitsAllLaws
import Derived.Test.YtnffmegicgbinaaDoorJ05
import Derived.Deep.RegionHeld3
import Derived.Laws.IdiomCopy
import Derived.OwnWalk
/- The contract of oathbookref2.SplitFault. -/
namespace Go.Proofs.YtnffmegicgbinaaDoor
open Go.RowKit
set_option linter.unusedVariables false
set_option linter.unusedSimpArgs false

theorem BRowsB.head {w : World} {b o n : Nat} {ls : List (List UInt8)} (R : BRowsB w (some ⟨b, o, none⟩) n ls) (i : Nat) (hi : i < n) : ∃ (ai : Option Addr) (ni ci : Nat), ni ≤ ci ∧ ni = (ls.getD i []).length ∧ (∀ k, k < ni → ∃ bi oi, ai = some ⟨bi, oi, none⟩) ∧ ∀ wx, Below w.heap.size w wx → wx.cell? ⟨b, o + i, none⟩ = some (.slice ai ni ci) ∧
    ∀ bi oi, ai = some ⟨bi, oi, none⟩ → ∀ k, k < ni → wx.cell? ⟨bi, oi + k, none⟩ = some (.int .u8 (nth (ls.getD i []) k)) := by
  rcases R.1.2 with h0 | ⟨b', o', e, hc⟩
  · omega
  · cases e
    obtain ⟨ai, ni, ci, c1, h4, hR⟩ := hc i hi
    refine ⟨ai, ni, ci, h4, hR.1.symm, fun k hk => ?_, fun wx hb => ⟨(hb.cell (p := ⟨b, o + i, none⟩) (cell_block c1)).trans c1, fun bi oi e k hk => ?_⟩⟩
    · rcases hR.2 with h0 | ⟨bi, oi, e, _⟩
      · omega
      · exact ⟨bi, oi, e⟩
    · rcases hR.2 with h0 | ⟨bi', oi', e', hcell⟩
      · omega
      · rw [e] at e'
        cases e'
        have ck := hcell k hk
        exact (hb.cell (p := ⟨bi, oi + k, none⟩) (cell_block ck)).trans ck
theorem BRowsB.addr {w : World} {a : Option Addr} {n : Nat} {ls : List (List UInt8)} (R : BRowsB w a n ls) (hn : 0 < n) : ∃ b o, a = some ⟨b, o, none⟩ := by
  rcases R.1.2 with h0 | ⟨b, o, e, _⟩
  · omega
  · exact ⟨b, o, e⟩
set_option maxRecDepth 100000 in
set_option maxHeartbeats 2000000 in
theorem rsplitfault_any (a1 : Option Addr) (n1 c1 : Nat) (n : Int) (a2 : Option Addr) (n2 c2 : Nat) (ls : List (List UInt8)) (w : World) (R2 : BRowsB w a2 n2 ls) (h1 : n1 ≤ 140737488351232) (h2 : n2 ≤ 140737488351232) (k1 : -9223372036854775808 ≤ n) (k2 : n ≤ 9223372036854775807) :
    Calls Tryd.prog 8 #[.slice a1 n1 c1, .int .i64 n, .slice a2 n2 c2] w fun e w' => e = .returned (.int .i64 (splitE n1 n ls)) ∧ w' = w := by
  have HL : Hid (ls.length = n2) := R2.1.1
  go_enter Tryd.func8, Tryd.ntmps8
  by_cases c1' : n < 1
  · have HE : Hid (splitE n1 n ls = 2) := if_pos (.inl c1')
    go_wp2_with fail
    go_ret
    exact ⟨by rw [HE.out]; rfl, rfl⟩
  by_cases c2' : 20 < n
  · have HE : Hid (splitE n1 n ls = 2) := if_pos (.inr c2')
    go_wp2_with fail
    go_ret
    exact ⟨by rw [HE.out]; rfl, rfl⟩
  have HE1 : Hid (splitE n1 n ls = if 100 < n1 ∨ 20 < ls.length then 4 else if ∀ l ∈ ls, l.length = n1 then 0 else 3) := if_neg (by omega)
  by_cases c3 : 100 < n1
  · have HE : Hid (splitE n1 n ls = 4) := by rw [HE1.out]; exact if_pos (.inl c3)
    have g3 : (100 : Int) < (n1 : Int) := by omega
    clear HE1
    go_wp2_with fail
    go_ret
    exact ⟨by rw [HE.out]; rfl, rfl⟩
  have g3 : ¬ (100 : Int) < (n1 : Int) := by omega
  by_cases c4 : 20 < n2
  · have HE : Hid (splitE n1 n ls = 4) := by rw [HE1.out]; exact if_pos (.inr (by rw [HL.out]; exact c4))
    have g4 : (20 : Int) < (n2 : Int) := by omega
    clear HE1
    go_wp2_with fail
    go_ret
    exact ⟨by rw [HE.out]; rfl, rfl⟩
  have g4 : ¬ (20 : Int) < (n2 : Int) := by omega
  have HE2 : Hid (splitE n1 n ls = if ∀ l ∈ ls, l.length = n1 then 0 else 3) := by rw [HE1.out]; exact if_neg (by rw [HL.out]; omega)
  clear HE1
  go_wp2_with fail
  have HR2 : Hid (BRowsB w a2 n2 ls) := R2
  clear R2
  go_loopw [7] (fun iv wr => ∃ i : Nat, iv = .int .i64 (i : Int) ∧ i ≤ n2 ∧ Hid (∀ j, j < i → (ls.getD j []).length = n1) ∧ Hid (wr = w)) (fun iv _ => n2 - (intOf iv).toNat)
  case atStart => exact ⟨0, rfl, Nat.zero_le _, (fun j h => by omega), rfl⟩
  case round =>
    obtain ⟨i, rfl, hi, HJ, HW⟩ := hrel
    have hw := HW.out
    subst hw
    by_cases hlt : i < n2
    · obtain ⟨b, o, ha⟩ := HR2.out.addr (by omega)
      subst ha
      obtain ⟨ai, ni, ci, hci, hni, _, HC⟩ := HR2.out.head i hlt
      have k0 := (HC _ (Below.refl _ _)).1
      have hbd := HR2.out.2 i hlt
      rw [← hni] at hbd
      have i0 : (0 : Int) ≤ (i : Int) := by omega
      have i1 : (i : Int) < (n2 : Int) := by omega
      have HNI : Hid (ni = (ls.getD i []).length) := hni
      clear HC hni
      by_cases ce : ni = n1
      · have g5 : (ni : Int) = (n1 : Int) := by omega
        subst ce
        go_wp2_with fail
        go_roundw
        case rel => exact ⟨i + 1, by go_num, by omega, (fun j h => by
          by_cases e : j = i
          · rw [e]; exact HNI.out.symm
          · exact HJ.out j (by omega)), by first | exact True.intro | exact rfl⟩
        case measure => simp [intOf]; omega
      · have g5 : ¬ (ni : Int) = (n1 : Int) := by omega
        have g6 : ((ni : Int) == (n1 : Int)) = false := beq_eq_false_iff_ne.2 g5
        have HE : Hid (splitE n1 n ls = 3) := by
          rw [HE2.out]
          refine if_neg fun q => ce ?_
          rw [HNI.out]
          refine q _ ?_
          rw [List.getD_eq_getElem?_getD, List.getElem?_eq_getElem (by rw [HL.out]; exact hlt)]
          exact List.getElem_mem _
        clear ce
        go_wp2_with fail
        go_ret
        exact ⟨by rw [HE.out]; rfl, rfl⟩
    · have hin : i = n2 := by omega
      subst hin
      have HE : Hid (splitE n1 n ls = 0) := by
        rw [HE2.out]
        refine if_pos fun l hl => ?_
        obtain ⟨j, hj, rfl⟩ := List.mem_iff_getElem.1 hl
        have := HJ.out j (by rw [← HL.out]; exact hj)
        rw [List.getD_eq_getElem?_getD, List.getElem?_eq_getElem hj] at this
        exact this
      have g2 : ¬ (i : Int) < (i : Int) := by omega
      clear hlt
      go_wp2_with fail
      go_ret
      exact ⟨by rw [HE.out]; rfl, rfl⟩
end Go.Proofs.YtnffmegicgbinaaDoor
/- The contract of oathbookref2.Value. -/
namespace Go.Proofs.YtnffmegicgbinaaDoor
open Go.RowKit
set_option linter.unusedVariables false
set_option linter.unusedSimpArgs false

set_option maxRecDepth 100000 in
set_option maxHeartbeats 1000000 in
theorem rvalue_any (a : Option Addr) (n c : Nat) (l : List UInt8) (x : Nat) (w : World) (R : Row w a n l) (hn : n ≤ 140737488351232) (hx : x < 256) :
    Calls Tryd.prog 7 #[.slice a n c, .int .u8 (x : Int)] w fun e w' => e = .returned (.int .u8 ((polyv (nb l) x : Nat) : Int)) ∧ w' = w := by
  have HR : Hid (Row w a n l) := R
  clear R
  go_enter Tryd.func7, Tryd.ntmps7
  go_wp2_with fail
  go_loopw [5, 6, 7] (fun vv av iv wr => ∃ v t i : Nat, vv = .int .u8 (v : Int) ∧ av = .int .u8 (t : Int) ∧ iv = .int .i64 (i : Int) ∧ v < 256 ∧ t < 256 ∧ i ≤ n ∧ Hid (v ^^^ gm t (polyv ((nb l).drop i) x) = polyv (nb l) x) ∧ Hid (wr = w)) (fun _ _ iv _ => n - (intOf iv).toNat)
  case atStart => exact ⟨0, 1, 0, rfl, rfl, rfl, by omega, by omega, Nat.zero_le _, by show 0 ^^^ gm 1 (polyv ((nb l).drop 0) x) = _; rw [List.drop_zero, one_gm (polyv_lt (nb_bys l) x), Nat.zero_xor], rfl⟩
  case round =>
    obtain ⟨v, t, i, rfl, rfl, rfl, hv, ht, hi, HE, HW⟩ := hrel
    have hw := HW.out
    subst hw
    by_cases hlt : i < n
    · obtain ⟨b, o, ha, hc⟩ := HR.out.2.resolve_left (by omega)
      subst ha
      have k0 := hc i hlt
      rw [nth_nb] at k0
      have hy := getD_bys (nb_bys l) i
      have HST := value_step (nb_bys l) (i := i) (at' := t) (v := v) (x := x) (by rw [nb_len, HR.out.1]; exact hlt) ht hx
      rw [HE.out] at HST
      have HS : Hid (polyv (nb l) x = (v ^^^ gm ((nb l).getD i 0) t) ^^^ gm (gm t x) (polyv ((nb l).drop (i + 1)) x)) := HST
      clear hc HST HE
      generalize (nb l).getD i 0 = y at *
      have HM1 : Hid (∀ wx, Calls Tryd.prog 23 #[.int .u8 (y : Int), .int .u8 (t : Int)] wx fun e w' => e = .returned (.int .u8 ((gm y t : Nat) : Int)) ∧ w' = wx) := fun wx => rmul_any y t wx hy ht
      have HM2 : Hid (∀ wx, Calls Tryd.prog 23 #[.int .u8 (t : Int), .int .u8 (x : Int)] wx fun e w' => e = .returned (.int .u8 ((gm t x : Nat) : Int)) ∧ w' = wx) := fun wx => rmul_any t x wx ht hx
      have l1 := gm_lt y t
      have l2 := gm_lt t x
      generalize gm t x = m2 at *
      generalize gm y t = m1 at *
      have hx1 : bits .xor .u8 (v : Int) (m1 : Int) = ((v ^^^ m1 : Nat) : Int) := u8_xor_nat v m1 hv l1
      have l3 := xor_lt256 hv l1
      generalize v ^^^ m1 = v2 at *
      have i0 : (0 : Int) ≤ (i : Int) := by omega
      have i1 : (i : Int) < (n : Int) := by omega
      have HI : Hid (i + 1 ≤ n) := hlt
      go_wp2_with fail
      refine (HM1.out wr).mono ?_
      rintro e wx ⟨rfl, hq⟩
      have hq' : wr = wx := hq.symm
      subst hq'
      go_wp2_with fail
      refine (HM2.out wr).mono ?_
      rintro e wx ⟨rfl, hq⟩
      have hq' : wr = wx := hq.symm
      subst hq'
      go_wp2_with fail
      go_roundw
      case rel => exact ⟨v2, m2, i + 1, by first | rfl | (rw [hx1]), rfl, by go_num, l3, l2, HI.out, HS.out.symm, by trivial⟩
      case measure => have := HI.out; simp [intOf]; omega
    · obtain rfl : i = n := by omega
      have g1 : ¬ (i : Int) < (i : Int) := by omega
      have HV : Hid (polyv (nb l) x = v) := by
        have h := HE.out
        rw [List.drop_of_length_le (by rw [nb_len, HR.out.1]; exact Nat.le_refl _)] at h
        rw [← h]
        show v ^^^ gm t 0 = v
        rw [gm_zero, Nat.xor_zero]
      clear HE
      go_wp2_with fail
      go_ret
      rw [HV.out]
      exact ⟨rfl, by trivial⟩
end Go.Proofs.YtnffmegicgbinaaDoor
/- The contract of oathbookref2.SplitOf. -/
namespace Go.Proofs.YtnffmegicgbinaaDoor
open Go.RowKit
set_option linter.unusedVariables false
set_option linter.unusedSimpArgs false

theorem OwnL.lit1w (w : World) (B : Nat) (x : UInt8) (v : Int) (hv : v = (x.toNat : Int)) (hB : B ≤ w.heap.size) : OwnL (w.alloc (.cells #[.int .u8 v] 5)) B (.slice (some ⟨w.heap.size, 0, none⟩) 1 1) [x] := by
  subst hv
  exact World.ownsRow_lit w #[.int .u8 (x.toNat : Int)] 1 hB (by unfold maxLen; omega) rfl
theorem u8_wrap {n : Nat} (h : n < 256) : IntKind.u8.wrap (n : Int) = n := by
  simp only [IntKind.wrap, IntKind.bits, IntKind.signed, Bool.false_and]
  simp
  omega
theorem gro_cell (w : World) (g j : Nat) (v : Value) : w.grownBy (w.setCell ⟨g, j, none⟩ v) (some g) :=
  ⟨rfl, rfl, rfl, by simp [World.setCell], fun i _ hi => by
    rw [Go.RowKit.Below.heap_setCell _ _ _ _ (fun e => hi (by rw [e]))]⟩
theorem OwnL.aside {w : World} {B : Nat} {v : Value} {l : List UInt8} (h : OwnL w B v l) (g j : Nat) (u : Value) (hg : g < B) : OwnL (w.setCell ⟨g, j, none⟩ u) B v l := by
  refine World.ownsRow.kept h (gro_cell w g j u) ?_
  by_cases hv : v.ownBlock = none
  · exact .inl hv
  · refine .inr fun e => ?_
    have := (World.ownsRow.lt h g e).1
    omega
theorem wp_appendL {w : World} {o : Oper} {a : Act} {K : Act → World → Prop} {Q : Exit → Act → World → Prop} (s x : Operand)
    (ho : o.op = .call { callee := .builtin .append, args := #[s, x], argTypes := #[22, 22] })
    (base : Nat) (v : Value) (l : List UInt8) (hs : a.eval s = v) (hown : OwnL w base v l)
    (b off : Nat) (n c : Nat) (r : List UInt8) (hx : a.eval x = .slice (some ⟨b, off, none⟩) n c) (hr : Row w (some ⟨b, off, none⟩) n r) (hn : 0 < n) (h47 : l.length + n ≤ 140737488355328) (hbase : base ≤ w.heap.size)
    (h : ∀ v' w', OwnL w' base v' (l ++ r) → w.grownBy w' v.ownBlock → K (a.put o.dst v') w') : o.wp Tryd.prog a w K Q := by
  obtain ⟨i0, hi, hz0, hz1, hz2⟩ := info_parts Tryd.infoSh8
  obtain ⟨hl, hr⟩ := hr
  have hnews : ∀ j u, (cellsB r)[j]? = some u → w.cell? ((⟨b, off, none⟩ : Addr).add j) = some u := by
    intro j u hj
    have hj' : j < r.length := by have := (List.getElem?_eq_some_iff.1 hj).1; rwa [cellsB_length] at this
    rcases hr with h0 | ⟨b', off', h1, hc⟩
    · omega
    · cases h1
      rw [Go.WideShapes.add_plain, hc j (by omega), ← cellsB_at r j hj', hj]
  obtain ⟨v', w', hrun, h2, h3, h4, h5⟩ := run_append_own_at (P := Tryd.prog) w base 22 o.type 5 i0 (.int .u8 0) 1 1 Tryd.underlying22 hi hz0 hz1 hz2 rfl (by decide) v l.length (cellsB l) hown ⟨b, off, none⟩ n c (cellsB r) (by rw [cellsB_length, hl, Nat.mul_one]) hnews (cellsB_one _) (by unfold maxLen; omega) (by omega) hbase
  unfold Oper.wp execOp
  simp only [ho, resolve, invoke, builtin, Sem.run_bind, Sem.run_pure, Result.andThen_ok, List.map_toArray, List.map_cons, List.map_nil, hs, hx, hrun]
  refine h v' w' ?_ h3
  unfold OwnL
  rw [List.length_append, cellsB_append, hl]
  exact h2
set_option maxRecDepth 100000 in
set_option maxHeartbeats 2000000 in
theorem rsplitof_any (a1 : Option Addr) (m c1 : Nat) (secret : List UInt8) (n : Nat) (a2 : Option Addr) (n2 c2 : Nat) (ls : List (List UInt8)) (w : World) (R1 : Row w a1 m secret) (R2 : BRowsB w a2 n2 ls) (h1 : m ≤ 100) (h2 : n2 ≤ 20) (hn : n ≤ 20) (hall : ∀ l ∈ ls, l.length = m) :
    Calls Tryd.prog 9 #[.slice a1 m c1, .int .i64 (n : Int), .slice a2 n2 c2] w fun e w' => (∃ a' c', e = .returned (.slice a' n c') ∧ n ≤ c' ∧ SRow w' a' n (splitL secret ls n)) ∧ Below w.heap.size w w' := by
  obtain ⟨iB, hiB, hz0, hz1, hz2⟩ := info_parts Tryd.infoSh8
  have HL : Hid (ls.length = n2) := R2.1.1
  have HLS : Hid (secret.length = m) := R1.1
  have HR2 : Hid (BRowsB w a2 n2 ls) := R2
  have HS1 : Hid (∀ i, i < m → ∃ b o, a1 = some ⟨b, o, none⟩ ∧ ∀ wx, Below w.heap.size w wx → wx.cell? ⟨b, o + i, none⟩ = some (.int .u8 ((secret.getD i 0).toNat : Int))) := by
    intro i hi
    rcases R1.2 with h0 | ⟨b, o, ha, hc⟩
    · omega
    · refine ⟨b, o, ha, fun wx hb => ?_⟩
      rw [← nth_toNat]
      exact (hb.cell (p := ⟨b, o + i, none⟩) (cell_block (hc i hi))).trans (hc i hi)
  have HRW : Hid (∀ j, j < n2 → ∀ i, i < m → ∃ (b o bi oi ci : Nat), a2 = some ⟨b, o, none⟩ ∧ m ≤ ci ∧ ∀ wx, Below w.heap.size w wx → wx.cell? ⟨b, o + j, none⟩ = some (.slice (some ⟨bi, oi, none⟩) m ci) ∧ wx.cell? ⟨bi, oi + i, none⟩ = some (.int .u8 (((ls.getD j []).getD i 0).toNat : Int))) := by
    intro j hj i hi
    obtain ⟨b, o, ha⟩ := R2.addr (by omega)
    subst ha
    obtain ⟨ai, ni, ci, hci, hni, had, HC⟩ := R2.head j hj
    have : ni = m := by
      rw [hni]
      refine hall _ ?_
      rw [List.getD_eq_getElem?_getD, List.getElem?_eq_getElem (by rw [HL.out]; exact hj)]
      exact List.getElem_mem _
    subst this
    obtain ⟨bi, oi, rfl⟩ := had i hi
    refine ⟨b, o, bi, oi, ci, rfl, hci, fun wx hb => ⟨(HC wx hb).1, ?_⟩⟩
    rw [(HC wx hb).2 bi oi rfl i hi, nth_toNat]
  clear R1 R2 hall
  go_enter Tryd.func9, Tryd.ntmps9
  go_wp2_with fail
  go_loopw [7, 8] (fun ov kv wr => ∃ k : Nat, kv = .int .i64 ((k + 1 : Nat) : Int) ∧ k ≤ n ∧ Hid (OwnS wr w.heap.size ov (splitL secret ls k)) ∧ Hid (Below w.heap.size w wr)) (fun _ kv _ => n + 1 - (intOf kv).toNat)
  case atStart => exact ⟨0, rfl, Nat.zero_le _, OwnS.nil _ _, Below.refl _ _⟩
  case round =>
    obtain ⟨k, rfl, hk, HO, HB⟩ := hrel
    by_cases hlt : k < n
    · have HKN : Hid (k < n) := hlt
      obtain ⟨Kn, hK⟩ : ∃ Kn, k + 1 = Kn := ⟨_, rfl⟩
      have HK : Hid (k + 1 = Kn) := hK
      have K1 : (1 : Int) ≤ (Kn : Int) := by omega
      have K2 : (Kn : Int) ≤ 20 := by omega
      have K3 : (Kn : Int) ≤ (n : Int) := by omega
      rw [hK]
      clear hK hlt hk
      generalize wr = w1 at *
      clear wr
      obtain ⟨g, hg⟩ : ∃ g, w1.heap.size = g := ⟨_, rfl⟩
      obtain ⟨w2, hw2⟩ : ∃ w2, w1.alloc (.cells (hdC noH).toArray 42) = w2 := ⟨_, rfl⟩
      obtain ⟨w3, hw3⟩ : ∃ w3, w2.setCells g 0 (hdC (Kn, none, 0, 0)) = w3 := ⟨_, rfl⟩
      have q3 := SVar.new hg hw2 hw3
      have HT2 : Hid (w2.there g 0 2) := q3.1
      have HV3 : Hid (SVar w3 g Kn (.slice none 0 0)) := q3.2.1
      have HB3 : Hid (Below g w1 w3) := q3.2.2
      have HG : Hid (w1.heap.size = g) := hg
      have HBU : Hid (Tryd.prog.built 42 [(0, .int .u8 (Kn : Int))] = some (hdC (Kn, none, 0, 0)).toArray) := by rfl
      clear q3
      go_wp2_with (first
        | (refine wpList_allocSh (by rfl) (by rfl) g hg w2 hw2 ?_)
        | (refine wpList_buildC (by rfl) 42 _ (by rfl) (hdC (Kn, none, 0, 0)).toArray (by simp only [List.map_toArray, List.map_cons, List.map_nil, Act.eval]; exact HBU.out) ?_)
        | (refine wpList_storeSh (by rfl) (.tmp 9) (.tmp 20) (by rfl) g (Kn, none, 0, 0) (by rfl) (by rfl) HT2.out w3 hw3 ?_))
      clear hg hw2 hw3 HT2 HBU
      go_loopw [10] (fun iv wr => ∃ (i : Nat) (v : Value), iv = .int .i64 (i : Int) ∧ i ≤ m ∧ Hid (SVar wr g Kn v) ∧ Hid (OwnL wr (g + 1) v (dataS secret ls Kn i)) ∧ Hid (Below g w1 wr)) (fun iv _ => m - (intOf iv).toNat)
      case atStart => exact ⟨0, .slice none 0 0, rfl, Nat.zero_le _, HV3.out, OwnL.nil _ _, HB3.out⟩
      case round =>
        clear HV3 HB3
        obtain ⟨i, v, rfl, hi, HV, HD, HB1⟩ := hrel
        by_cases hlt : i < m
        · obtain ⟨b1, o1, ha1, HC1⟩ := HS1.out i hlt
          subst ha1
          have HBW : Hid (Below w.heap.size w wr) := HB.out.trans (HB1.out.mono (by have := HB.out.size; have := HG.out; omega))
          have k0 := HC1 wr HBW.out
          have HIM : Hid (i < m) := hlt
          have i0 : (0 : Int) ≤ (i : Int) := by omega
          have i1 : (i : Int) < (m : Int) := by omega
          clear HC1 hlt hi
          go_wp2_with fail
          generalize wr = w4 at *
          clear wr k0
          have HW4 : Hid (OwnL (w4.alloc (.cells #[.int .u8 ((secret.getD i 0).toNat : Int)] 5)) w4.heap.size (.slice (some ⟨w4.heap.size, 0, none⟩) 1 1) (polyT secret ls i 0)) := by
            unfold Hid
            rw [polyT_zero]
            exact OwnL.lit1w w4 _ _ _ rfl (Nat.le_refl _)
          go_loopw [11, 12] (fun cv jv wr => ∃ j : Nat, jv = .int .i64 (j : Int) ∧ j ≤ n2 ∧ Hid (OwnL wr w4.heap.size cv (polyT secret ls i j)) ∧ Hid (Below w4.heap.size w4 wr)) (fun _ jv _ => n2 - (intOf jv).toNat)
          case atStart => exact ⟨0, rfl, Nat.zero_le _, HW4.out, (Below.refl _ _).alloc (Nat.le_refl _) _⟩
          case round =>
            clear HW4
            obtain ⟨j, rfl, hj, HC, HB4⟩ := hrel
            by_cases hlj : j < n2
            · obtain ⟨b, o, bi, oi, ci, ha2, hci, HCJ⟩ := HRW.out j hlj i HIM.out
              subst ha2
              have HBx : Hid (Below w.heap.size w wr) := HBW.out.trans (HB4.out.mono HBW.out.size)
              have r1 := (HCJ wr HBx.out).1
              have r2 := (HCJ wr HBx.out).2
              have HPS : Hid (polyT secret ls i j ++ [(ls.getD j []).getD i 0] = polyT secret ls i (j + 1)) := polyT_succ (by rw [HL.out]; exact hlj)
              have HPL : Hid ((polyT secret ls i j).length = j + 1) := polyT_length (by rw [HL.out]; omega)
              have j0 : (0 : Int) ≤ (j : Int) := by omega
              have j1 : (j : Int) < (n2 : Int) := by omega
              generalize (ls.getD j []).getD i 0 = y at *
              generalize polyT secret ls i j = C at *
              clear HCJ
              go_wp2_with (at_builtin; refine wpList_append_bytes rfl (.tmp 38) (.tmp 46) 22 rfl w4.heap.size iB Tryd.underlying22 hiB hz0 hz1 hz2 u11 (C) rfl (World.ownsRow.alloc HC.out _) _ 1 1 [y] rfl (Row.lit1v wr y 5 _ rfl) (by rw [HPL.out]; omega) (by have := HB4.out.size; simp; omega) ?_; intro v5 w5 ho5 hg5)
              have q5 : OwnL w5 w4.heap.size v5 (polyT secret ls i (j + 1)) := by rw [← HPS.out]; exact ho5
              have B5 := OwnL.grown (World.ownsRow.alloc HC.out _) (HB4.out.alloc HB4.out.size _) hg5 (Nat.le_refl _) (by have := HB4.out.size; simp; omega)
              go_roundw
              case rel => exact ⟨j + 1, by go_num, by omega, q5, B5⟩
              case measure => simp [intOf]; omega
            · have hjn : j = n2 := by omega
              subst hjn
              have g2 : ¬ (j : Int) < (j : Int) := by omega
              obtain ⟨ac, cc, hce, RC, hcc⟩ := HC.out.form
              have hpl : (polyT secret ls i j).length = j + 1 := polyT_length (by rw [HL.out]; exact Nat.le_refl _)
              rw [hpl] at hce RC hcc
              subst hce
              have HPA : Hid (polyT secret ls i j = polyC secret ls i) := by have := polyT_all secret ls i; rw [HL.out] at this; exact this
              have HRC : Hid (Row wr ac (j + 1) (polyC secret ls i)) := by rw [← HPA.out]; exact RC
              have HV5 : Hid (SVar wr g Kn v) := HV.out.below HB4.out HV.out.lt
              have HD5 : Hid (OwnL wr (g + 1) v (dataS secret ls Kn i)) := HD.out.below HB4.out
              have HB5 : Hid (Below g w1 wr) := HB1.out.trans (HB4.out.mono (by have := HV.out.lt; omega))
              clear RC hpl HC HPA hlj HV HD HB1 HB4 HBW
              generalize wr = w5 at *
              clear wr
              have hnc : j + 1 ≤ 140737488351232 := by omega
              have hK8 : Kn < 256 := by omega
              have HSN : Hid (polyv (nb (polyC secret ls i)) Kn = shareN secret ls Kn i) := rfl
              have HDS : Hid (dataS secret ls Kn i ++ [UInt8.ofNat (shareN secret ls Kn i)] = dataS secret ls Kn (i + 1)) := dataS_succ secret ls Kn i
              have HDL : Hid ((dataS secret ls Kn i).length = i) := dataS_length secret ls Kn i
              have hT8 := shareN_lt secret ls Kn i
              generalize shareN secret ls Kn i = T at *
              generalize dataS secret ls Kn i = DT at *
              have HTB : Hid ((T : Int) = (((UInt8.ofNat T).toNat : Nat) : Int)) := byte_cast hT8
              have HGS : Hid (g + 1 ≤ w5.heap.size) := HV5.out.lt
              go_upto_region 14 with fail
              try simp only [Act.put, List.setIfInBounds_toArray, List.set_cons_zero, List.set_cons_succ]
              refine wp_region_noPanic ?_
              refine wp_region_till (S := fun wx => wx.cell? ⟨g, 1, none⟩ = some v) 9 (by kernel_rfl) (HV5.out.below (below_drewN w5 1) HV5.out.lt).2.1 (fun hHeld => ?_)
              try simp only [Act.put, List.setIfInBounds_toArray, List.set_cons_zero, List.set_cons_succ]
              have HBd : Hid (Below w5.heap.size w5 w5.drew) := below_drewN w5 1
              generalize w5.drew = wd at *
              refine wpAnyT_take (i := 0) (v := .pointer (some ⟨g, 1, none⟩)) (by simp only [List.getElem?_toArray, List.getElem?_cons_zero, List.getElem?_cons_succ]; rfl) (by kernel_rfl) (by kernel_rfl) (by kernel_rfl) (by kernel_rfl) (fun _ _ _ h => h) (Or.inl ⟨by rfl, ?_⟩) hHeld ?_
              · intro w hSw
                go_simp
              try simp only [Act.put, List.setIfInBounds_toArray, List.set_cons_zero, List.set_cons_succ]
              refine wpAnyT_take (i := 1) (v := v) (by simp only [List.getElem?_toArray, List.getElem?_cons_zero, List.getElem?_cons_succ]; rfl) (by kernel_rfl) (by kernel_rfl) (by kernel_rfl) (by kernel_rfl) (fun _ _ _ h => h) (Or.inl ⟨by rfl, ?_⟩) hHeld ?_
              · intro w hSw
                go_simp
              try simp only [Act.put, List.setIfInBounds_toArray, List.set_cons_zero, List.set_cons_succ]
              refine wpAnyT_take (i := 2) (v := .slice ac (j + 1) cc) (by simp only [List.getElem?_toArray, List.getElem?_cons_zero, List.getElem?_cons_succ]; rfl) (by kernel_rfl) (by kernel_rfl) (by kernel_rfl) (by kernel_rfl) (fun _ _ _ h => h) (Or.inl ⟨by rfl, ?_⟩) hHeld ?_
              · intro w hSw
                go_simp
              try simp only [Act.put, List.setIfInBounds_toArray, List.set_cons_zero, List.set_cons_succ]
              refine wpAnyT_take (i := 3) (v := .int .i64 (Kn : Int)) (by simp only [List.getElem?_toArray, List.getElem?_cons_zero, List.getElem?_cons_succ]; rfl) (by kernel_rfl) (by kernel_rfl) (by kernel_rfl) (by kernel_rfl) (fun _ _ _ h => h) (Or.inl ⟨by rfl, ?_⟩) hHeld ?_
              · intro w hSw
                go_simp
              try simp only [Act.put, List.setIfInBounds_toArray, List.set_cons_zero, List.set_cons_succ]
              refine wpAnyT_take (i := 4) (v := .int .u8 (Kn : Int)) (by simp only [List.getElem?_toArray, List.getElem?_cons_zero, List.getElem?_cons_succ]; rfl) (by kernel_rfl) (by kernel_rfl) (by kernel_rfl) (by kernel_rfl) (fun _ _ _ h => h) (Or.inl ⟨by rfl, ?_⟩) hHeld ?_
              · intro w hSw
                go_simp
                exact u8_wrap hK8
              try simp only [Act.put, List.setIfInBounds_toArray, List.set_cons_zero, List.set_cons_succ]
              refine wpAnyT_ready (rs := [5]) (by kernel_rfl) (by simp) ?_
              refine AllReadyT.cons (by simp only [List.getElem?_toArray, List.getElem?_cons_zero, List.getElem?_cons_succ]; rfl) (fun K hK => ?_) AllReadyT.nil
              rw [if_pos (by rfl)]
              go_simp
              have HVd : Hid (SVar wd g Kn v) := HV5.out.below HBd.out HV5.out.lt
              refine (rvalue_any ac (j + 1) cc (polyC secret ls i) Kn wd (HRC.out.below HBd.out) hnc hK8).mono ?_
              rintro e wq ⟨rfl, hq⟩
              have hq' : wd = wq := hq.symm
              subst hq'
              rw [HSN.out]
              go_wp2_with fail
              refine hK.out _ _ HVd.out.2.1 (fun hHeld => ?_)
              clear hK K
              try simp only [Act.put, List.setIfInBounds_toArray, List.set_cons_zero, List.set_cons_succ]
              refine wpAnyT_ready (rs := [6]) (by kernel_rfl) (by simp) ?_
              refine AllReadyT.cons (by simp only [List.getElem?_toArray, List.getElem?_cons_zero, List.getElem?_cons_succ]; rfl) (fun K hK => ?_) AllReadyT.nil
              rw [if_pos (by rfl)]
              go_simp
              have HBl : Hid (Below w5.heap.size w5 (wd.alloc (.cells #[.int .u8 (T : Int)] 5))) := HBd.out.alloc HBd.out.size _
              have HRl : Hid (Row (wd.alloc (.cells #[.int .u8 (T : Int)] 5)) (some ⟨wd.heap.size, 0, none⟩) 1 [UInt8.ofNat T]) := Row.lit1v wd (UInt8.ofNat T) 5 _ HTB.out
              refine hK.out _ _ (HV5.out.below HBl.out HV5.out.lt).2.1 (fun hHeld => ?_)
              generalize wd.alloc (.cells #[.int .u8 (T : Int)] 5) = wl at *
              generalize wd.heap.size = sl at *
              clear hK K
              try simp only [Act.put, List.setIfInBounds_toArray, List.set_cons_zero, List.set_cons_succ]
              refine wpAnyT_ready (rs := [7]) (by kernel_rfl) (by simp) ?_
              refine AllReadyT.cons (by simp only [List.getElem?_toArray, List.getElem?_cons_zero, List.getElem?_cons_succ]; rfl) (fun K hK => ?_) AllReadyT.nil
              rw [if_pos (by rfl)]
              have HDl : Hid (OwnL wl (g + 1) v DT) := HD5.out.below HBl.out
              refine wp_appendL (.tmp 49) (.tmp 54) rfl (g + 1) v DT rfl HDl.out sl 0 1 1 [UInt8.ofNat T] rfl HRl.out (by omega) (by rw [HDL.out]; have := HIM.out; omega) (by have := HBl.out.size; have := HGS.out; omega) ?_
              intro v7 w7 ho7 hg7
              obtain ⟨a7, n7, c7, hv7⟩ : ∃ a n c, v7 = .slice a n c := by
                obtain ⟨a, c, e, _⟩ := ho7.form
                exact ⟨_, _, _, e⟩
              subst hv7
              have HB7g : Hid (Below (g + 1) w5 w7) := (HBl.out.mono HGS.out).grown hg7 (by have := HBl.out.size; have := HGS.out; omega) (fun q hq => (World.ownsRow.lt HDl.out q hq).1)
              have HV7 : Hid (SVar w7 g Kn v) := HV5.out.below HB7g.out (by omega)
              have HD7 : Hid (OwnL w7 (g + 1) (.slice a7 n7 c7) (DT ++ [UInt8.ofNat T])) := ho7
              refine hK.out _ _ HV7.out.2.1 (fun hHeld => ?_)
              clear hK K
              try simp only [Act.put, List.setIfInBounds_toArray, List.set_cons_zero, List.set_cons_succ]
              refine wpAnyT_take (i := 8) (v := .pointer (some ⟨g, 1, none⟩)) (by simp only [List.getElem?_toArray, List.getElem?_cons_zero, List.getElem?_cons_succ]; rfl) (by kernel_rfl) (by kernel_rfl) (by kernel_rfl) (by kernel_rfl) (fun _ _ _ h => h) (Or.inl ⟨by rfl, ?_⟩) hHeld ?_
              · intro w hSw
                go_simp
              try simp only [Act.put, List.setIfInBounds_toArray, List.set_cons_zero, List.set_cons_succ]
              refine wpAnyT_ready (rs := [9]) (by kernel_rfl) (by simp) ?_
              refine AllReadyT.lastly (by simp only [List.getElem?_toArray, List.getElem?_cons_zero, List.getElem?_cons_succ]; rfl) rfl (fun K hK => ?_) AllReadyT.nil
              rw [if_pos (by rfl)]
              have c9 : w7.cell? ⟨g, 1, none⟩ = some v := HV7.out.2.1
              have f9 : w7.frozen? ⟨g, 1, none⟩ = false := (HV7.out.2.2 1 (by omega)).2
              go_simp
              refine hK.out _ _ ?_
              clear hK K
              try simp only [Act.put, List.setIfInBounds_toArray, List.set_cons_zero, List.set_cons_succ]
              refine wpAnyT_done (by kernel_rfl) (NoPanic.normal ?_) _
              clear hHeld c9 f9
              have HV8 : Hid (SVar (w7.setCell ⟨g, 1, none⟩ (.slice a7 n7 c7)) g Kn (.slice a7 n7 c7)) := HV7.out.put _
              have HD8 : Hid (OwnL (w7.setCell ⟨g, 1, none⟩ (.slice a7 n7 c7)) (g + 1) (.slice a7 n7 c7) (dataS secret ls Kn (i + 1))) := by rw [← HDS.out]; exact HD7.out.aside g 1 _ (by omega)
              have HB8 : Hid (Below g w1 (w7.setCell ⟨g, 1, none⟩ (.slice a7 n7 c7))) := (HB5.out.trans (HB7g.out.mono (by omega))).setCell (Nat.le_refl _) _
              generalize w7.setCell ⟨g, 1, none⟩ (.slice a7 n7 c7) = w8 at *
              go_wp2_with fail
              go_roundw
              case rel => exact ⟨i + 1, _, by go_num, HIM.out, HV8.out, HD8.out, HB8.out⟩
              case measure => have := HIM.out; simp [intOf]; omega
        · have him : i = m := by omega
          subst him
          have g2 : ¬ (i : Int) < (i : Int) := by omega
          obtain ⟨ad, cd, hde, RD, hcd⟩ := HD.out.form
          rw [dataS_length] at hde RD hcd
          subst hde
          have HRD : Hid (wr.rangeAt g 0 (hdC (Kn, ad, i, cd))) := HV.out.range
          have HDH : Hid (DatH wr (Kn, ad, i, cd) (Kn, dataS secret ls Kn i)) := ⟨rfl, by show Kn < 256; omega, hcd, by show i ≤ 140737488351232; omega, RD⟩
          have HOW : Hid (OwnS wr w.heap.size u7 (splitL secret ls k)) := HO.out.below (by rw [HG.out]; exact HB1.out)
          have HAP : Hid (ApartH (Kn, ad, i, cd) u7.ownBlock) := by
            refine .inr fun p e e2 => ?_
            have e' : ad = some p := e
            have q1 := HO.out.lt _ e2
            subst e'
            have q2 := World.ownsRow.lt HD.out p.block rfl
            have := HG.out
            omega
          have HBW : Hid (Below w.heap.size w wr) := HB.out.trans (HB1.out.mono (by have := HB.out.size; have := HG.out; omega))
          have HSS : Hid (splitL secret ls k ++ [(Kn, dataS secret ls Kn i)] = splitL secret ls (k + 1)) := by
            unfold Hid
            rw [← splitL_succ, HLS.out, HK.out]
          have HSL : Hid ((splitL secret ls k).length = k) := splitL_length secret ls k
          have HLC : Hid (∀ x, (wr.alloc (.cells (hdC (Kn, ad, i, cd)).toArray 42)).cell? x = (wr.alloc (.cells (hdC (Kn, ad, i, cd)).toArray 42)).cell? x) := fun x => rfl
          generalize dataS secret ls Kn i = DT at *
          generalize splitL secret ls k = SL at *
          clear RD HV HD HB1 HO hlt HB
          go_wp2_with (first
            | (refine wpList_loadSh (by rfl) (.tmp 9) (by rfl) g 0 (Kn, ad, i, cd) (by rfl) HRD.out ?_)
            | (refine wpList_buildSh (by rfl) (.tmp 58) (by rfl) (Kn, ad, i, cd) (by rfl) ?_)
            | (at_builtin; refine wpList_append_share (by rfl) (.tmp 57) (.tmp 59) (by rfl) w.heap.size u7 SL (by rfl) (OwnS.alloc HOW.out _) wr.heap.size 0 1 (Kn, ad, i, cd) (Kn, DT) (by rfl) (lit_cells wr (Kn, ad, i, cd) _) (HDH.out.below ((Below.refl _ _).alloc (Nat.le_refl _) _)) HAP.out (by rw [HSL.out]; have := HKN.out; omega) (by have := HBW.out.size; simp; omega) ?_; intro v6 w6 ho6 hg6 ha6))
          have q6 : OwnS w6 w.heap.size v6 (splitL secret ls (k + 1)) := by rw [← HSS.out]; exact ho6
          have B6 := OwnS.grown (OwnS.alloc HOW.out _) (HBW.out.alloc HBW.out.size _) hg6 (Nat.le_refl _) (by have := HBW.out.size; simp; omega)
          have hk4 := HK.out
          have hk5 := HKN.out
          go_roundw
          case rel => exact ⟨k + 1, by rw [← HK.out]; go_num, by omega, q6, B6⟩
          case measure => have := HK.out; simp [intOf]; omega
    · have hkn : k = n := by omega
      subst hkn
      have g2 : ¬ ((k + 1 : Nat) : Int) ≤ (k : Int) := by omega
      obtain ⟨a3, c3, e3, R3, h3⟩ := HO.out.form
      rw [splitL_length] at e3 R3 h3
      have HE : Hid (u7 = .slice a3 k c3) := e3
      have HR3 : Hid (SRow wr a3 k (splitL secret ls k)) := R3
      clear e3 R3 hlt
      go_wp2_with fail
      go_ret
      exact ⟨⟨a3, c3, by rw [HE.out]; rfl, h3, HR3.out⟩, HB.out⟩
end Go.Proofs.YtnffmegicgbinaaDoor
/- Rows that share makes: bytes by place, slices of bytes by place, shares by place. -/
namespace Go.Proofs.YtnffmegicgbinaaDoor
open Go.RowKit
set_option linter.unusedVariables false
set_option linter.unusedSimpArgs false

theorem gr_setCellsS (g : Nat) : ∀ (vs : List Value) (o : Nat) (w : World), w.grownBy (w.setCells g o vs) (some g)
  | [], _, w => World.grownBy.refl w _
  | v :: r, o, w => by
    rw [World.setCells]
    have h := gro_cell w g o v
    have k := gr_setCellsS g r (o + 1) (w.setCell ⟨g, o, none⟩ v)
    exact ⟨k.os.trans h.os, k.tape.trans h.tape, k.output.trans h.output, Nat.le_trans h.size k.size, fun i hi hne => (k.block i (Nat.lt_of_lt_of_le hi h.size) hne).trans (h.block i hi hne)⟩
theorem own_thereS {w : World} {B g n cap size : Nat} {e : TypeId} {xs : List Value} (h : w.ownsRow B e size (.slice (some ⟨g, 0, none⟩) n cap) n xs) : w.there g 0 (n * size) := by
  intro j hj
  have hl := h.1
  rw [Nat.zero_add, World.ownsRow.cellAt h j hj, World.ownsRow.frozenAt h j, List.getElem?_eq_getElem (by omega)]
  exact ⟨rfl, rfl⟩
theorem there_belowB {w w' : World} {B g o n : Nat} (h : w.there g o n) (hb : Below B w w') (hg : g < B) : w'.there g o n := fun j hj => by
  have := h j hj
  rwa [← hb.cell (p := ⟨g, o + j, none⟩) hg, ← hb.frozen (p := ⟨g, o + j, none⟩) hg] at this
theorem Row.belowB {w w' : World} {B n : Nat} {ad : Option Addr} {l : List UInt8} (h : Row w ad n l) (hb : Below B w w') (hlt : ∀ x, ad = some x → x.block < B) : Row w' ad n l := by
  refine ⟨h.1, ?_⟩
  rcases h.2 with h0 | ⟨b, o, e, hc⟩
  · exact .inl h0
  · exact .inr ⟨b, o, e, fun i hi => (hb.cell (p := ⟨b, o + i, none⟩) (by show b < B; exact hlt _ e)).trans (hc i hi)⟩
/-- m bytes in a block, by place. -/
def BCells (w : World) (g m : Nat) (f : Nat → Nat) : Prop := w.there g 0 m ∧ ∀ j, j < m → w.cell? ⟨g, j, none⟩ = some (.int .u8 ((f j : Nat) : Int))
theorem BCells.made {w1 : World} {B g m : Nat} (h : w1.ownsRow B 5 1 (.slice (some ⟨g, 0, none⟩) m m) m (madeCells (Value.int .u8 0).cells (m * 1)).toList) : BCells w1 g m (fun _ => 0) := by
  have ht := own_thereS h
  rw [Nat.mul_one] at ht
  refine ⟨ht, fun j hj => ?_⟩
  have := World.ownsRow.cellAt h j (by omega)
  rw [this, show (Value.int .u8 0).cells = #[Value.int .u8 0] from rfl, toList_madeCells_one]
  simp [hj]
theorem BCells.below {w w' : World} {B g m : Nat} {f : Nat → Nat} (h : BCells w g m f) (hb : Below B w w') (hg : g < B) : BCells w' g m f :=
  ⟨there_belowB h.1 hb hg, fun j hj => (hb.cell (p := ⟨g, j, none⟩) hg).trans (h.2 j hj)⟩
theorem BCells.at {w : World} {g m i : Nat} {f : Nat → Nat} (h : BCells w g m f) (hi : i < m) : w.cell? ⟨g, i, none⟩ = some (.int .u8 ((f i : Nat) : Int)) ∧ w.frozen? ⟨g, i, none⟩ = false := by
  have := h.1 i hi
  rw [Nat.zero_add] at this
  exact ⟨h.2 i hi, this.2⟩
theorem BCells.set {w : World} {g m i v : Nat} {f f' : Nat → Nat} (h : BCells w g m f) (hi : i < m) (hf : ∀ j, j < m → f' j = if j = i then v else f j) : BCells (w.setCell ⟨g, i, none⟩ (.int .u8 (v : Int))) g m f' := by
  have e : w.setCell ⟨g, i, none⟩ (.int .u8 (v : Int)) = w.setCells g i [.int .u8 (v : Int)] := rfl
  refine ⟨by rw [e]; exact World.there_setCells h.1 _ _ _, fun j hj => ?_⟩
  rw [hf j hj]
  by_cases c : j = i
  · subst c
    rw [if_pos rfl]
    exact World.cell?_setCell_same' _ _ _ (by rw [h.2 j hj]; rfl)
  · rw [if_neg c]
    have q := World.cell?_setCell_other w ⟨g, i, none⟩ ⟨g, j, none⟩ (.int .u8 (v : Int)) (by intro q; have := congrArg Addr.off q; exact c this.symm)
    rw [q]
    exact h.2 j hj
theorem BCells.row {w : World} {g m : Nat} {f : Nat → Nat} {l : List UInt8} (h : BCells w g m f) (hl : l.length = m) (he : ∀ j, j < m → (l.getD j 0).toNat = f j) : Row w (some ⟨g, 0, none⟩) m l :=
  ⟨hl, .inr ⟨g, 0, rfl, fun i hi => by rw [Nat.zero_add, h.2 i hi, nth_toNat, he i hi]⟩⟩
/-- k slices of bytes in a block that has room for n. -/
def PCells (w : World) (g n k : Nat) (F : Nat → List UInt8) : Prop := w.there g 0 n ∧ ∀ i, i < k → ∃ (ad : Option Addr) (c : Nat), w.cell? ⟨g, i, none⟩ = some (.slice ad (F i).length c) ∧ (F i).length ≤ c ∧ Row w ad (F i).length (F i) ∧ ∀ x, ad = some x → x.block ≠ g ∧ x.block < w.heap.size
theorem PCells.made {w1 : World} {B g n : Nat} {xs : List Value} {F : Nat → List UInt8} (h : w1.ownsRow B 22 1 (.slice (some ⟨g, 0, none⟩) n n) n xs) : PCells w1 g n 0 F := by
  have ht := own_thereS h
  rw [Nat.mul_one] at ht
  exact ⟨ht, fun i hi => absurd hi (by omega)⟩
theorem PCells.below {w w' : World} {g n k : Nat} {F : Nat → List UInt8} (h : PCells w g n k F) (hb : Below w.heap.size w w') (hg : g < w.heap.size) : PCells w' g n k F := by
  refine ⟨there_belowB h.1 hb hg, fun i hi => ?_⟩
  obtain ⟨ad, c, h1, h2, h3, h4⟩ := h.2 i hi
  exact ⟨ad, c, (hb.cell (p := ⟨g, i, none⟩) hg).trans h1, h2, h3.below hb, fun x e => ⟨(h4 x e).1, Nat.lt_of_lt_of_le (h4 x e).2 hb.size⟩⟩
theorem PCells.put {w : World} {g n k c : Nat} {ad : Option Addr} {F : Nat → List UInt8} (h : PCells w g n k F) (hk : k < n) (hc : (F k).length ≤ c) (hR : Row w ad (F k).length (F k)) (hne : ∀ x, ad = some x → x.block ≠ g ∧ x.block < w.heap.size) : PCells (w.setCell ⟨g, k, none⟩ (.slice ad (F k).length c)) g n (k + 1) F := by
  have e : w.setCell ⟨g, k, none⟩ (.slice ad (F k).length c) = w.setCells g k [.slice ad (F k).length c] := rfl
  have hg := gro_cell w g k (.slice ad (F k).length c)
  have keep : ∀ (a : Option Addr) (m : Nat) (l : List UInt8), Row w a m l → (∀ x, a = some x → x.block ≠ g ∧ x.block < w.heap.size) → Row (w.setCell ⟨g, k, none⟩ (.slice ad (F k).length c)) a m l := fun a m l hr hn =>
    row_grown hr hg (.inr fun x e => by intro q; exact (hn x e).1 (Option.some.inj q).symm)
  have hs := hg.size
  refine ⟨by rw [e]; exact World.there_setCells h.1 _ _ _, fun i hi => ?_⟩
  by_cases c1 : i = k
  · subst c1
    refine ⟨ad, c, ?_, hc, keep _ _ _ hR hne, fun x e => ⟨(hne x e).1, Nat.lt_of_lt_of_le (hne x e).2 hs⟩⟩
    have := (h.1 i hk).1
    rw [Nat.zero_add] at this
    exact World.cell?_setCell_same' _ _ _ this
  · obtain ⟨a, c', h1, h2, h3, h4⟩ := h.2 i (by omega)
    refine ⟨a, c', ?_, h2, keep _ _ _ h3 h4, fun x e => ⟨(h4 x e).1, Nat.lt_of_lt_of_le (h4 x e).2 hs⟩⟩
    have q := World.cell?_setCell_other w ⟨g, k, none⟩ ⟨g, i, none⟩ (.slice ad (F k).length c) (by intro q; have := congrArg Addr.off q; exact c1 this.symm)
    rw [q]
    exact h1
theorem PCells.rows {w : World} {g n : Nat} {F : Nat → List UInt8} (h : PCells w g n n F) (hF : ∀ i, i < n → (F i).length ≤ 140737488351232) : BRowsB w (some ⟨g, 0, none⟩) n ((List.range n).map F) := by
  have e : ∀ i, i < n → ((List.range n).map F).getD i [] = F i := fun i hi => by rw [List.getD_eq_getElem?_getD, List.getElem?_map, List.getElem?_range hi]; rfl
  refine ⟨⟨by simp, .inr ⟨g, 0, rfl, fun i hi => ?_⟩⟩, fun i hi => by rw [e i hi]; exact hF i hi⟩
  obtain ⟨ad, c, h1, h2, h3, _⟩ := h.2 i hi
  exact ⟨ad, (F i).length, c, by rw [Nat.zero_add]; exact h1, h2, by rw [e i hi]; exact h3⟩
/-- k shares in a block that has room for n. -/
def SCells (w : World) (g n k : Nat) (S : Nat → Shr) : Prop := w.there g 0 (n * 2) ∧ ∀ i, i < k → (S i).1 < 256 ∧ (S i).2.length ≤ 140737488351232 ∧ ∃ (ad : Option Addr) (c : Nat), w.cell? ⟨g, i * 2, none⟩ = some (.int .u8 ((S i).1 : Int)) ∧ w.cell? ⟨g, i * 2 + 1, none⟩ = some (.slice ad (S i).2.length c) ∧ (S i).2.length ≤ c ∧ Row w ad (S i).2.length (S i).2 ∧ ∀ x, ad = some x → x.block ≠ g ∧ x.block < w.heap.size
theorem SCells.made {w1 : World} {B g n : Nat} {xs : List Value} {S : Nat → Shr} (h : w1.ownsRow B 42 2 (.slice (some ⟨g, 0, none⟩) n n) n xs) : SCells w1 g n 0 S :=
  ⟨own_thereS h, fun i hi => absurd hi (by omega)⟩
theorem SCells.below {w w' : World} {g n k : Nat} {S : Nat → Shr} (h : SCells w g n k S) (hb : Below w.heap.size w w') (hg : g < w.heap.size) : SCells w' g n k S := by
  refine ⟨there_belowB h.1 hb hg, fun i hi => ?_⟩
  obtain ⟨h0, h00, ad, c, h1, h2, h3, h4, h5⟩ := h.2 i hi
  exact ⟨h0, h00, ad, c, (hb.cell (p := ⟨g, i * 2, none⟩) hg).trans h1, (hb.cell (p := ⟨g, i * 2 + 1, none⟩) hg).trans h2, h3, h4.below hb, fun x e => ⟨(h5 x e).1, Nat.lt_of_lt_of_le (h5 x e).2 hb.size⟩⟩
theorem SCells.slot {w : World} {g n k : Nat} {S : Nat → Shr} (h : SCells w g n k S) {i : Nat} (hi : i < n) : w.there g (i * 2) 2 := fun j hj => by
  have := h.1 (i * 2 + j) (by omega)
  rwa [Nat.zero_add] at this
theorem SCells.put {w : World} {g n k c : Nat} {ad : Option Addr} {S : Nat → Shr} (h : SCells w g n k S) (hk : k < n) (h8 : (S k).1 < 256) (h47 : (S k).2.length ≤ 140737488351232) (hc : (S k).2.length ≤ c) (hR : Row w ad (S k).2.length (S k).2) (hne : ∀ x, ad = some x → x.block ≠ g ∧ x.block < w.heap.size) :
    SCells (w.setCells g (k * 2) (hdC ((S k).1, ad, (S k).2.length, c))) g n (k + 1) S := by
  have hg := gr_setCellsS g (hdC ((S k).1, ad, (S k).2.length, c)) (k * 2) w
  have keep : ∀ (a : Option Addr) (m : Nat) (l : List UInt8), Row w a m l → (∀ x, a = some x → x.block ≠ g ∧ x.block < w.heap.size) → Row (w.setCells g (k * 2) (hdC ((S k).1, ad, (S k).2.length, c))) a m l := fun a m l hr hn =>
    row_grown hr hg (.inr fun x e => by intro q; exact (hn x e).1 (Option.some.inj q).symm)
  have hs := hg.size
  refine ⟨World.there_setCells h.1 _ _ _, fun i hi => ?_⟩
  by_cases c1 : i = k
  · subst c1
    have hr : (w.setCells g (i * 2) (hdC ((S i).1, ad, (S i).2.length, c))).rangeAt g (i * 2) (hdC ((S i).1, ad, (S i).2.length, c)) := World.rangeAt_setCells_same _ _ _ _ (h.slot hk)
    exact ⟨h8, h47, ad, c, hr 0 _ rfl, hr 1 _ rfl, hc, keep _ _ _ hR hne, fun x e => ⟨(hne x e).1, Nat.lt_of_lt_of_le (hne x e).2 hs⟩⟩
  · obtain ⟨h0, h00, a, c', h1, h2, h3, h4, h5⟩ := h.2 i (by omega)
    have out : ∀ j, j < 2 → (w.setCells g (k * 2) (hdC ((S k).1, ad, (S k).2.length, c))).cell? ⟨g, i * 2 + j, none⟩ = w.cell? ⟨g, i * 2 + j, none⟩ := fun j hj =>
      World.cell?_setCells_out g _ _ _ ⟨g, i * 2 + j, none⟩ (fun _ _ => by
        show i * 2 + j < k * 2 ∨ k * 2 + (hdC ((S k).1, ad, (S k).2.length, c)).length ≤ i * 2 + j
        rw [hdC_length]
        omega)
    exact ⟨h0, h00, a, c', (out 0 (by omega)).trans h1, (out 1 (by omega)).trans h2, h3, keep _ _ _ h4 h5, fun x e => ⟨(h5 x e).1, Nat.lt_of_lt_of_le (h5 x e).2 hs⟩⟩
theorem SCells.rows {w : World} {g n : Nat} {S : Nat → Shr} {ss : List Shr} (h : SCells w g n n S) (hl : ss.length = n) (he : ∀ i, i < n → ss.getD i noS = S i) : SRow w (some ⟨g, 0, none⟩) n ss := by
  refine ⟨hl, .inr ⟨g, 0, rfl, fun i hi => ?_⟩⟩
  obtain ⟨h0, h00, ad, c, h1, h2, h3, h4, _⟩ := h.2 i hi
  rw [he i hi, Nat.zero_add]
  exact ⟨h0, h1, ad, (S i).2.length, c, h2, h3, h00, h4⟩
theorem wpList_storeShA {ops : Array Oper} {rest : List Oper} {o : Oper} {a : Act} {w : World} {Q : Exit → Act → World → Prop} (hg : o.guard = none) (x y : Operand) (ho : o.op = .store 42 x y)
    (b k : Nat) (hd : Hdr) (hx : a.eval x = .pointer (some ⟨b, k, none⟩)) (hy : a.eval y = hdV hd) (ht : w.there b k 2)
    (h : wpList Tryd.prog ops Q rest (a.put o.dst undef) (w.setCells b k (hdC hd))) : wpList Tryd.prog ops Q (o :: rest) a w :=
  wpList_store_mid hg 42 x y ho b k (hdC hd).toArray hx hy ht Tryd.sizeSh (all_oneCell_toArray (hdC_one hd)) h
theorem run_results_sh {fn : Func} {p : Tmp} (h : fn.results = #[.cell p 42]) (tmps : Array Value) (w : World) (b : Nat) (hp : tmps.getD p undef = .pointer (some ⟨b, 0, none⟩)) (hd : Hdr) (hc : w.rangeAt b 0 (hdC hd)) :
    (results fn tmps).run Tryd.prog w = .ok (hdV hd) w := by
  have hp' : tmps[p]?.getD undef = .pointer (some ⟨b, 0, none⟩) := by simpa using hp
  simp only [results, h]
  simp [Sem.run_bind, Result.andThen, hp', asAddr, run_loadVar_mid w b 0 42 (hdC hd) _ hc Tryd.underlying42 (by rfl) (by rw [hdC_length]; exact Tryd.sizeSh)]
  rfl
end Go.Proofs.YtnffmegicgbinaaDoor
