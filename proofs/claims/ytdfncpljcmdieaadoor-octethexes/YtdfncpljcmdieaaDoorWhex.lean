/- The contract of octet.Hex. -/
import Derived.Test.YtdfncpljcmdieaaDoorMath
import Derived.Laws.IdiomStrings
import Derived.BigRegion
import Derived.Deep.RegionLaw
namespace Go.Proofs.YtdfncpljcmdieaaDoor
open Go.RowKit
set_option linter.unusedVariables false
theorem Tryd.info5h : (Tryd.prog.info? 5).map (fun i => (i.zero, i.size, i.bytes)) = some (some (.int .u8 0), 1, 1) := by kernel_rfl

theorem step_append_fits {P : Program} {ops : Array Oper} {o : Oper} {a : Act} {w : World} {K : Act → World → Prop} {Q : Exit → Act → World → Prop} {E : Prop}
    (hg : o.guard = none) (s x : Operand) (t : TypeId) (hop : o.op = Op.call { callee := Callee.builtin Builtin.append, args := #[s, x], argTypes := #[t, t] })
    (base : Nat) (e : TypeId) (i : TypeInfo) (size : Nat) (h1 : P.underlying t = some (.slice e)) (h2 : P.info? e = some i) (h4 : i.size = size)
    (g k cap : Nat) (xs : List Value) (hs : a.eval s = .slice (some ⟨g, 0, none⟩) k cap) (hown : w.ownsRow base e size (.slice (some ⟨g, 0, none⟩) k cap) k xs) (ad : Addr) (m c : Nat) (news : List Value) (hx : a.eval x = .slice (some ad) m c) (hn : news.length = m * size)
    (hc : ∀ j u, news[j]? = some u → w.cell? (ad.add j) = some u) (h1c : ∀ u ∈ news, u.oneCell' = true) (b1 : k + m ≤ cap)
    (hK : ∀ w', w'.ownsRow base e size (.slice (some ⟨g, 0, none⟩) (k + m) cap) (k + m) (xs ++ news) → w.grownBy w' (some g) → K (a.put o.dst (.slice (some ⟨g, 0, none⟩) (k + m) cap)) w') :
    if Region.wanted o (yielded ops a.tmps) = true then Oper.wp P o a w K Q else E := by
  have hw : Region.wanted o (yielded ops a.tmps) = true := by simp [Region.wanted, hg]
  rw [if_pos hw]
  obtain ⟨w', hrun, r1, r2⟩ := run_append_fits (P := P) w base t o.type e i size h1 h2 h4 g k cap xs hown ad m c news hn hc h1c b1
  unfold Oper.wp
  simp [execOp, hop, resolve, invoke, builtin, hs, hx, hrun, Result.andThen]
  exact hK _ r1 r2

theorem hexlit (x : Int) (h0 : 0 ≤ x) (h1 : x < 16) : ∀ p, (((⟨#[48, 49, 50, 51, 52, 53, 54, 55, 56, 57, 97, 98, 99, 100, 101, 102]⟩ : ByteArray)[x.toNat]'p).toNat : Int) = hexd x := by
  obtain ⟨n, rfl⟩ := Int.eq_ofNat_of_zero_le h0
  intro p
  have hn : n = 0 ∨ n = 1 ∨ n = 2 ∨ n = 3 ∨ n = 4 ∨ n = 5 ∨ n = 6 ∨ n = 7 ∨ n = 8 ∨ n = 9 ∨ n = 10 ∨ n = 11 ∨ n = 12 ∨ n = 13 ∨ n = 14 ∨ n = 15 := by omega
  rcases hn with rfl | rfl | rfl | rfl | rfl | rfl | rfl | rfl | rfl | rfl | rfl | rfl | rfl | rfl | rfl | rfl <;> rfl
theorem two_news (w : World) (a b : Value) (t : TypeId) : ∀ j u, [a, b][j]? = some u → ((w.alloc (.cells #[a, b] t)).drew).cell? ((⟨w.heap.size, 0, none⟩ : Addr).add j) = some u := by
  intro j u hj
  have : ((w.alloc (.cells #[a, b] t)).drew).cell? ((⟨w.heap.size, 0, none⟩ : Addr).add j) = (w.alloc (.cells #[a, b] t)).cell? ⟨w.heap.size, j, none⟩ := by rw [add0]; rfl
  rw [this, World.cell?_alloc_mark]
  simpa using hj
theorem OwnB.more {w' : World} {B g n cap : Nat} {l : List UInt8} (hw : w'.ownsRow B 5 1 (.slice (some ⟨g, 0, none⟩) (2 * n + 2) cap) (2 * n + 2) (((List.range (2 * n)).map fun i => Value.int .u8 (hexB l i)) ++ [.int .u8 (hexd (nth l n / 16)), .int .u8 (hexd (nth l n % 16))])) :
    OwnB w' B g (2 * (n + 1)) cap (hexB l) := by
  unfold OwnB
  have e : 2 * (n + 1) = 2 * n + 2 := by omega
  have e2 : ((List.range (2 * (n + 1))).map fun i => Value.int .u8 (hexB l i)) = ((List.range (2 * n)).map fun i => Value.int .u8 (hexB l i)) ++ [.int .u8 (hexd (nth l n / 16)), .int .u8 (hexd (nth l n % 16))] := by
    rw [e, List.range_succ, List.range_succ]
    simp only [List.map_append, List.map_cons, List.map_nil, List.append_assoc, List.cons_append, List.nil_append]
    have b0 : hexB l (2 * n) = hexd (nth l n / 16) := by unfold hexB; rw [if_pos (by omega), show 2 * n / 2 = n from by omega]
    have b1 : hexB l (2 * n + 1) = hexd (nth l n % 16) := by unfold hexB; rw [if_neg (by omega), show (2 * n + 1) / 2 = n from by omega]
    rw [b0, b1]
  rw [e2, e]
  exact hw

set_option maxRecDepth 100000 in
set_option maxHeartbeats 400000 in
theorem hex_any (a : Option Addr) (n c : Nat) (l : List UInt8) (w : World) (hr : Row w a n l) (hm : n ≤ 140737488355328) :
    Calls Tryd.prog 5 #[.slice a n c] w fun e w' => (∃ s, e = .returned (.string s) ∧ bs s = hexL l) ∧ Below w.heap.size w w' := by
  obtain ⟨i0, hi, hz0, hz1, hz2⟩ := info_parts Tryd.info5h
  obtain ⟨hl, hr⟩ := hr
  have HL : Hid (l.length = n) := hl
  clear hl
  go_enter Tryd.func5, Tryd.ntmps5
  go_wp2_with (at_make; refine wpList_make_own _ rfl _ _ 22 rfl w.heap.size 5 i0 (.int .u8 0) 1 Tryd.underlying22 hi hz0 hz1 _ _ _ (2 * n) rfl rfl (by omega) (by rw [hz2]; omega) (by unfold maxLen; omega) (Nat.le_refl _) ?_; intro w1 hown hgrow)
  have hB : Below w.heap.size w w1 := (Below.refl _ _).grown hgrow (Nat.le_refl _) (fun _ h => by cases h)
  have hO : OwnB w1 w.heap.size w.heap.size 0 (2 * n) (hexB l) := hown
  clear hown hgrow
  go_loopw [3, 12] (fun v i wr => ∃ k : Nat, k ≤ n ∧ i = .int .i64 (k : Int) ∧ v = .slice (some ⟨w.heap.size, 0, none⟩) (2 * k) (2 * n) ∧ OwnB wr w.heap.size w.heap.size (2 * k) (2 * n) (hexB l) ∧ Below w.heap.size w wr) (fun _ i _ => n - (intOf i).toNat)
  case atStart => exact ⟨0, Nat.zero_le _, rfl, rfl, hO, hB⟩
  case round =>
    clear hO hB
    obtain ⟨k, hk, rfl, rfl, hO, hB⟩ := hrel
    by_cases hlt : k < n
    · rcases hr with hr | ⟨b, o, rfl, hc⟩
      · omega
      have hbl := Row.block hc (by omega)
      have g := (hB.cell (p := ⟨b, o + k, none⟩) hbl).trans (hc k hlt)
      have b1 := nth_bd l k
      have q1 : 0 ≤ nth l k / 16 ∧ nth l k / 16 < 16 := by omega
      have hu : bits .and .u8 (nth l k) 15 = nth l k % 16 := by
        rw [u8_and _ _ b1.1 (by omega) (by omega) (by omega), show (15 : Int).toNat = 15 from rfl, nat_mask4]
        omega
      have q2 : 0 ≤ nth l k % 16 ∧ nth l k % 16 < 16 := by omega
      have x1 := hexlit (nth l k / 16) q1.1 q1.2
      have x2 := hexlit (nth l k % 16) q2.1 q2.2
      clear hc hbl
      go_wp2_with fail
      go_region_law ((refine step_append_fits (by rfl) _ _ 22 (by rfl) w.heap.size 5 i0 1 Tryd.underlying22 hi hz1 w.heap.size (2 * k) (2 * n) ((List.range (2 * k)).map fun i => Value.int .u8 (hexB l i)) (by rfl) (World.ownsRow.drew (World.ownsRow.alloc hO _)) ⟨wr.heap.size, 0, none⟩ 2 2 [.int .u8 (hexd (nth l k / 16)), .int .u8 (hexd (nth l k % 16))] (by rfl) (by rfl) (by exact two_news _ _ _ _) (by simp [Value.oneCell']) (by omega) ?_; intro w2 hown2 hgrow2))
      all_goals
        have hO2 := OwnB.more hown2
        have hB2 : Below w.heap.size w w2 := ((hB.alloc (by have := hB.size; omega) _).drew).grown hgrow2 (by have := hB.size; simp; omega) (fun _ h => by cases h; exact Nat.le_refl _)
        clear hown2 hgrow2 hO hB x1 x2 q1 q2 hu g
        go_wp2
        go_roundw
        case rel => exact ⟨k + 1, by omega, by go_num, rfl, hO2, hB2⟩
        case measure => simp [intOf]; omega
    · obtain rfl : k = n := by omega
      have hcv : (convert 22 9 (.slice (some ⟨w.heap.size, 0, none⟩) (2 * k) (2 * k))).run Tryd.prog wr = .ok (.string ⟨(hexL l).toArray⟩) wr := by
        have hl2 : (hexL l).length = 2 * k := by rw [hexL_length, HL.out]
        have h := run_convert_bytes_back (P := Tryd.prog) wr 22 9 5 ⟨w.heap.size, 0, none⟩ (2 * k) (hexL l) Tryd.underlying22 Tryd.underlying5 Tryd.underlying9 (fun j hj => by
          have hc := hO.cell j (by omega)
          have e : ((hexL l)[j].toNat : Int) = hexB l j := by
            rw [← nth_hexL l j (by rw [hexL_length] at hj; exact hj)]
            unfold nth
            simp [List.getD_eq_getElem?_getD, List.getElem?_eq_getElem hj]
          rw [add0, e]; exact hc)
        rw [hl2] at h
        exact h
      go_wp2
      go_ret
      exact ⟨⟨_, rfl, bs_mk _⟩, hB⟩
end Go.Proofs.YtdfncpljcmdieaaDoor
