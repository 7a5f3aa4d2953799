/- Texts of this claim, joined: Wvalue, SRow, Open, OpenD. -/
import Derived.Test.YtghiniaijobonaaDoorJ01
import Derived.Test.YtghiniaijobonaaDoorJ05
import Derived.Test.YtghiniaijobonaaDoorJ06
import Derived.Test.YtghiniaijobonaaDoorJ04
import Derived.OwnWalk
import Derived.ProofKit
import Derived.OpenShut
import Derived.ShutString
import Derived.ChangeOld
import Derived.SizedLaws
import Derived.Test.YtghiniaijobonaaDoorJ03
import Derived.Deep.Slices
/- The contract of share.Value. -/
namespace Go.Proofs.YtghiniaijobonaaDoor
open Go.RowKit Go.Shelf
set_option linter.unusedVariables false
set_option linter.unusedSimpArgs false
attribute [local go_sem] Oper.semAt_some

/-- The value so far, whatever places came. -/
def hornN (l : List UInt8) (x : Nat) (pre : List Nat) : Nat := pre.foldl (fun v i => gm v x ^^^ (l.getD i 0).toNat) 0
theorem hornN_snoc (l : List UInt8) (x : Nat) (pre : List Nat) (i : Nat) : hornN l x (pre ++ [i]) = gm (hornN l x pre) x ^^^ (l.getD i 0).toNat := by simp [hornN]
theorem hornN_lt (l : List UInt8) (x : Nat) (pre : List Nat) : hornN l x pre < 256 := by
  unfold hornN
  have key : ∀ (pre : List Nat) (v : Nat), v < 256 → pre.foldl (fun v i => gm v x ^^^ (l.getD i 0).toNat) v < 256 := by
    intro pre
    induction pre with
    | nil => intro v hv; exact hv
    | cons i r ih => intro v hv; exact ih _ (xor_lt256 (gm_lt _ _) (UInt8.toNat_lt _))
  exact key pre 0 (by omega)
theorem hornN_backs (l : List UInt8) (x : Nat) : ∀ d m, m + d = l.length → hornN l x (backs l.length m) = polyv ((nb l).drop m) x
  | 0, m, h => by
    obtain rfl : m = l.length := by omega
    rw [backs_none]
    have := horner_end (nb l) x
    rw [nb_len] at this
    rw [this]
    rfl
  | d + 1, m, h => by
    rw [backs_succ (n := l.length) (m := m) (by omega), hornN_snoc, hornN_backs l x d (m + 1) (by omega), horner_step (i := m) (nb_bys l) (by rw [nb_len]; omega), nb_at]
theorem hornN_all (l : List UInt8) (x : Nat) : hornN l x (backs l.length 0) = polyv (nb l) x := by rw [hornN_backs l x l.length 0 (by omega), horner_start]
/-- Blocks: b the boxed x, b + 1 the value. -/
def ValI (w : World) (l : List UInt8) (x : Nat) (pre : List Nat) (W : World) : Prop :=
  W.cell? ⟨w.heap.size, 0, none⟩ = some (.int .u8 (x : Int)) ∧ W.cell? ⟨w.heap.size + 1, 0, none⟩ = some (.int .u8 ((hornN l x pre : Nat) : Int)) ∧ W.frozen? ⟨w.heap.size + 1, 0, none⟩ = false ∧ Below w.heap.size w W ∧ w.heap.size + 3 ≤ W.heap.size
theorem ValI.keep {w : World} {l : List UInt8} {x : Nat} {pre : List Nat} {W W' : World} (h : ValI w l x pre W) (hb : Below (w.heap.size + 3) W W') : ValI w l x pre W' := by
  obtain ⟨h1, h2, h3, h4, h5⟩ := h
  exact ⟨(hb.cell (p := ⟨w.heap.size, 0, none⟩) (by show w.heap.size < w.heap.size + 3; omega)).trans h1, (hb.cell (p := ⟨w.heap.size + 1, 0, none⟩) (by show w.heap.size + 1 < w.heap.size + 3; omega)).trans h2,
    (hb.frozen (p := ⟨w.heap.size + 1, 0, none⟩) (by show w.heap.size + 1 < w.heap.size + 3; omega)).trans h3, h4.trans (hb.mono (by omega)), Nat.le_trans h5 hb.size⟩
/-- What the law of a range over a function asks: what is no cells, at or beyond B, stays. -/
theorem keepsFrom_ofV {B : Nat} {W W' : World} (hs : W.heap.size ≤ W'.heap.size) (h : ∀ k, B ≤ k → k < W.heap.size → W'.heap[k]? = W.heap[k]?) : KeepsFrom B W W' :=
  ⟨hs, fun k o hk ho _ => (h k hk (Array.getElem?_eq_some_iff.1 ho).1).trans ho⟩
theorem ownFrom_keepV {β : Type} {B : Nat} {I : β → World → Prop} (hs : ∀ s W, I s W → B ≤ W.heap.size) (h : ∀ s W W', I s W → Below B W W' → I s W') : OwnFrom B I := fun s W W' row hi hg hr =>
  h s W W' hi ((Below.refl B W).grown hg (hs s W hi) fun k e => (hr k e).1)
set_option maxRecDepth 100000 in
set_option maxHeartbeats 2000000 in
theorem wvalue0 (a : Option Addr) (n c : Nat) (l : List UInt8) (x : Nat) (w : World) (R : Row w a n l) (hn : n ≤ 140737488351232) (hx : x < 256) :
    Calls Tryd.prog 25 #[.slice a n c, .int .u8 (x : Int)] w fun r w' => r = .returned (.int .u8 ((polyv (nb l) x : Nat) : Int)) ∧ Below w.heap.size w w' := by
  obtain ⟨w2, hw2⟩ : ∃ w2, (w.alloc (.cells #[.int .u8 (x : Int)] 5)).alloc (.cells #[.int .u8 0] 5) = w2 := ⟨_, rfl⟩
  have hs1 : (w.alloc (.cells #[.int .u8 (x : Int)] 5)).heap.size = w.heap.size + 1 := by simp
  have hs2 : w2.heap.size = w.heap.size + 2 := by rw [← hw2]; simp
  have hb2 : Below w.heap.size w w2 := by rw [← hw2]; exact ((Below.refl _ _).alloc (Nat.le_refl _) _).alloc (by simp) _
  have hx2 : w2.cell? ⟨w.heap.size, 0, none⟩ = some (.int .u8 (x : Int)) := by
    rw [← hw2]
    exact ((Boxed.new w 5 (.int .u8 (x : Int))).alloc _).cell
  have hv2 : Boxed w2 (w.heap.size + 1) 5 (.int .u8 0) := by
    rw [← hw2]
    have := Boxed.new (w.alloc (.cells #[.int .u8 (x : Int)] 5)) 5 (.int .u8 0)
    rwa [hs1] at this
  refine (callsIn_wide (n := 5)).1 ?_
  refine callsIn_of_wp_marks Tryd.func25 rfl trivial ?_ rfl
  simp only [Tryd.ntmps25, List.size_toArray, List.length_cons, List.length_nil, Nat.reduceAdd, Nat.reduceSub, Array.replicate_succ, Array.replicate_zero, List.push_toArray, List.append_toArray, List.nil_append, List.cons_append]
  refine wpIn_wide.2 ?_
  go_wp2_with fail
  try rw [hw2]
  refine (callsIn_wide.1 (wback_any a n c w2)).mono ?_
  rintro e w5 ⟨rfl, rfl⟩
  rw [hs2]
  go_wp2_with fail
  obtain ⟨W0, hW0⟩ : ∃ W0, w2.alloc (.cells #[.slice a n c] 33) = W0 := ⟨_, rfl⟩
  rw [hW0]
  have hsz : W0.heap.size = w.heap.size + 3 := by rw [← hW0]; simp [hs2]
  have hb0 : Below w2.heap.size w2 W0 := by rw [← hW0]; exact (Below.refl _ _).alloc (Nat.le_refl _) _
  have HD0 : Hid (W0.cell? ⟨w.heap.size + 2, 0, none⟩ = some (.slice a n c) ∧ Row W0 a n l) := by
    refine ⟨?_, R.below (hb2.trans (hb0.mono (by omega)))⟩
    have hb := (Boxed.new w2 33 (.slice a n c)).cell
    rw [hs2] at hb
    rw [← hW0]
    exact hb
  have HI0 : Hid (ValI w l x [] W0) :=
    ⟨(hb0.cell (p := ⟨w.heap.size, 0, none⟩) (by show w.heap.size < w2.heap.size; omega)).trans hx2, (hb0.cell (p := ⟨w.heap.size + 1, 0, none⟩) (by show w.heap.size + 1 < w2.heap.size; omega)).trans hv2.cell,
      (hb0.frozen (p := ⟨w.heap.size + 1, 0, none⟩) (by show w.heap.size + 1 < w2.heap.size; omega)).trans hv2.frozen, hb2.trans (hb0.mono (by omega)), by omega⟩
  have HLL : Hid (l.length = n) := R.1
  have HBR : Hid (∀ k, (∃ b o, a = some ⟨b, o, none⟩ ∧ k = b) → 0 < n → k < w.heap.size) := by
    rintro k ⟨b, o, rfl, rfl⟩ h0
    rcases R.2 with h | ⟨b', o', e, hc⟩
    · omega
    · cases e
      exact cell_block (hc 0 h0)
  clear hW0 hb0 hv2 hx2 hb2 hs2 hs1 hw2 R
  clear w2
  refine (wpIn_wide (n := 5)).1 ?_
  refine wpIn_rangeFunc_ownG (α := Nat) rfl (by omega) (gf := 55) (lb := #[.pointer (some ⟨w.heap.size + 2, 0, none⟩)]) rfl trivial (enters_of Tryd.func55 (by kernel_rfl) rfl)
    (wback_stops 4 (by omega) (w.heap.size + 2) a n c l hn W0 (by omega) HD0.out) (fun h1 h2 h => h2 (h1 h))
    (fun W L o o' hl ho h1 h2 hd => ?keep) (Below.refl _ _) (fun _ => rfl)
    (fun pre W => ValI w l x pre W) (fun _ _ _ => False)
    (ownFrom_keepV (fun s W h => by rw [hsz]; exact h.2.2.2.2) (fun s W W' h hb => h.keep (by rw [← hsz]; exact hb)))
    (fun _ _ _ _ _ hs _ _ => hs) HI0.out
    (fun i => { tmps := #[.slice a n c, .int .u8 (x : Int), undef, .pointer (some ⟨w.heap.size, 0, none⟩), .int .u8 0, .pointer (some ⟨w.heap.size + 1, 0, none⟩), undef, .int .u8 (nth l i), .slice a n c, .func (.func 55) #[] #[.pointer (some ⟨w.heap.size + 2, 0, none⟩)], .int .i64 (i : Int), .int .u8 (nth l i), undef, undef, undef, undef, undef, undef], defers := [] }) ?assign ?body ?done ?stop
  case keep =>
    have hbk := belowK_b (n₀ := w.heap.size + 3) (w := W0) (by omega) W L o o' hl ho h1 h2
    refine ⟨(hbk.cell (p := ⟨w.heap.size + 2, 0, none⟩) (by show w.heap.size + 2 < w.heap.size + 3; omega)).trans hd.1, hd.2.1, ?_⟩
    rcases hd.2.2 with h | ⟨b, o2, e, hc⟩
    · exact .inl h
    · refine .inr ⟨b, o2, e, fun i hi => ?_⟩
      have hlt := HBR.out b ⟨b, o2, e, rfl⟩ (by omega)
      exact (hbk.cell (p := ⟨b, o2 + i, none⟩) (by show b < w.heap.size + 3; omega)).trans (hc i hi)
  case assign =>
    intro L i W K hK
    gi_wp2
    exact hK
  case body =>
    rintro L pre i W hi hlen
    obtain ⟨h1, h2, h3, h4, h5⟩ := hi
    have HI : Hid (ValI w l x pre W) := ⟨h1, h2, h3, h4, h5⟩
    have HSN : Hid (hornN l x (pre ++ [i]) = gm (hornN l x pre) x ^^^ (l.getD i 0).toNat) := hornN_snoc l x pre i
    have hv := hornN_lt l x pre
    have hz := UInt8.toNat_lt (l.getD i 0)
    have ez : nth l i = ((l.getD i 0).toNat : Int) := by rw [nth_nb, nb_at]
    rw [ez]
    clear ez hlen HI0 HD0
    generalize (l.getD i 0).toNat = z at *
    obtain ⟨v, hve⟩ : ∃ v, hornN l x pre = v := ⟨_, rfl⟩
    rw [hve] at h2 hv HSN
    clear hve
    have hm := gm_lt v x
    have HM : Hid (∀ wx, Calls Tryd.prog 29 #[.int .u8 (v : Int), .int .u8 (x : Int)] wx fun e w' => e = .returned (.int .u8 ((gm v x : Nat) : Int)) ∧ w' = wx) := fun wx => wfield_mul0 v x wx hv hx
    obtain ⟨m, hme⟩ : ∃ m, gm v x = m := ⟨_, rfl⟩
    rw [hme] at hm HSN HM
    clear hme
    refine wpIn_block ?_
    refine wpIn_round_list L _ (by kernel_rfl) (fun h => by obtain ⟨a, w, h⟩ := h; exact h) ?_
    go_wp2_with fail
    refine (HM.out W).mono ?_
    rintro e w1 ⟨rfl, hw1⟩
    have hw1' : W = w1 := hw1.symm
    subst hw1'
    clear hw1
    go_wp2_with fail
    refine (wfield_add0 m z W hm hz).mono ?_
    rintro e w1 ⟨rfl, hw1⟩
    have hw1' : W = w1 := hw1.symm
    subst hw1'
    clear hw1
    rw [← HSN.out]
    go_wp2_with fail
    have hg6 := grownBy_setCell' W (w.heap.size + 1) (.int .u8 ((hornN l x (pre ++ [i]) : Nat) : Int))
    have same : ∀ k, k < W.heap.size → k ≠ w.heap.size + 1 → (W.setCell ⟨w.heap.size + 1, 0, none⟩ (.int .u8 ((hornN l x (pre ++ [i]) : Nat) : Int))).heap[k]? = W.heap[k]? := fun k hk h1 =>
      hg6.block k hk (fun e => h1 (Option.some.inj e))
    have hs6 := hg6.size
    show KeepsFrom _ _ _ ∧ BKp _ _ _ _ _ _ _ ∧ ValI _ _ _ _ _
    refine ⟨keepsFrom_ofV (by omega) (fun k hk hk2 => same k hk2 (by omega)), fun hd => ⟨?_, hd.2.1, ?_⟩, ?_⟩
    · exact (World.cell?_of_block (w := W) (a := ⟨w.heap.size + 2, 0, none⟩) (same (w.heap.size + 2) (by omega) (by omega))).trans hd.1
    · rcases hd.2.2 with h | ⟨b, o2, e, hc⟩
      · exact .inl h
      · refine .inr ⟨b, o2, e, fun j hj => ?_⟩
        have hlt := HBR.out b ⟨b, o2, e, rfl⟩ (by omega)
        exact (World.cell?_of_block (w := W) (a := ⟨b, o2 + j, none⟩) (same b (by omega) (by omega))).trans (hc j hj)
    · refine ⟨?_, ?_, ?_, ?_, by omega⟩
      · exact (World.cell?_of_block (w := W) (a := ⟨w.heap.size, 0, none⟩) (same w.heap.size (by omega) (by omega))).trans h1
      · exact World.cell?_setCell_same' _ _ _ (by rw [h2]; rfl)
      · rw [World.frozen?_setCell]
        exact h3
      · exact h4.setCell (p := ⟨w.heap.size + 1, 0, none⟩) (by show w.heap.size ≤ w.heap.size + 1; omega) _
  case done =>
    rintro D ys W hD rfl hi hK
    obtain ⟨h1, h2, h3, h4, h5⟩ := hi
    have HE : Hid (hornN l x (backs n 0) = polyv (nb l) x) := by
      have := hornN_all l x
      rw [HLL.out] at this
      exact this
    go_wp2
    refine ⟨by simp, .inl ⟨_, _, rfl, run_takeDeferred hK, ?_⟩⟩
    have hbl := belowK_b (n₀ := W0.heap.size) (w := W0) (Nat.le_refl _) W D _ (.deferred none) hD hK rfl rfl
    refine ⟨_, results_tmp rfl _ _ _, by rw [HE.out]; rfl, h4.trans (hbl.mono (by omega))⟩
  case stop =>
    rintro D c pre W _ _ h _
    exact h.elim
theorem wshare_value (a : Option Addr) (n c : Nat) (l : List UInt8) (x : Nat) (w : World) (G : Env w) (R : Row w a n l) (hc : n ≤ c) (hn : n ≤ 140737488351232) (hx : x < 256) :
    Calls Tryd.prog 25 #[.slice a n c, .int .u8 (x : Int)] w fun r w' => r = .returned (.int .u8 ((polyv (nb l) x : Nat) : Int)) ∧ Below w.heap.size w w' :=
  wvalue0 a n c l x w R hn hx
end Go.Proofs.YtghiniaijobonaaDoor
/- Shares in memory: each a place and a slice of bytes. -/
namespace Go.Proofs.YtghiniaijobonaaDoor
open Go.RowKit
set_option linter.unusedVariables false
set_option linter.unusedSimpArgs false

/-- A share: its place, its bytes. -/
abbrev Shr := Nat × List UInt8
def noS : Shr := (0, [])
/-- One share at a place of a block. -/
def SAt (w : World) (b o : Nat) (s : Shr) : Prop := s.1 < 256 ∧ w.cell? ⟨b, o, none⟩ = some (.int .u8 (s.1 : Int)) ∧ ∃ (a : Option Addr) (n c : Nat), w.cell? ⟨b, o + 1, none⟩ = some (.slice a n c) ∧ n ≤ c ∧ n ≤ 140737488351232 ∧ Row w a n s.2
theorem SAt.below {w w' : World} {b o : Nat} {s : Shr} (h : SAt w b o s) (hb : Below w.heap.size w w') : SAt w' b o s := by
  obtain ⟨h1, h2, a, n, c, h3, h4, h5, h6⟩ := h
  have hlt := cell_block h2
  exact ⟨h1, (hb.cell (p := ⟨b, o, none⟩) hlt).trans h2, a, n, c, (hb.cell (p := ⟨b, o + 1, none⟩) hlt).trans h3, h4, h5, h6.below hb⟩
/-- A slice of n shares at a reads as ss. -/
def SRow (w : World) (a : Option Addr) (n : Nat) (ss : List Shr) : Prop :=
  ss.length = n ∧ (n = 0 ∨ ∃ b o, a = some ⟨b, o, none⟩ ∧ ∀ i, i < n → SAt w b (o + i * 2) (ss.getD i noS))
theorem SRow.nil (w : World) (a : Option Addr) : SRow w a 0 [] := ⟨rfl, .inl rfl⟩
theorem SRow.below {w w' : World} {a : Option Addr} {n : Nat} {ss : List Shr} (h : SRow w a n ss) (hb : Below w.heap.size w w') : SRow w' a n ss := by
  refine ⟨h.1, ?_⟩
  rcases h.2 with h2 | ⟨b, o, ha, hc⟩
  · exact .inl h2
  · exact .inr ⟨b, o, ha, fun i hi => (hc i hi).below hb⟩
theorem SRow.addr {w : World} {a : Option Addr} {n : Nat} {ss : List Shr} (h : SRow w a n ss) (hn : 0 < n) : ∃ b o, a = some ⟨b, o, none⟩ := by
  rcases h.2 with h2 | ⟨b, o, ha, _⟩
  · omega
  · exact ⟨b, o, ha⟩
theorem SRow.at {w : World} {b o n : Nat} {ss : List Shr} (h : SRow w (some ⟨b, o, none⟩) n ss) (i : Nat) (hi : i < n) : SAt w b (o + i * 2) (ss.getD i noS) := by
  rcases h.2 with h2 | ⟨b', o', ha, hc⟩
  · omega
  · cases ha
    exact hc i hi
theorem SRow.place {w : World} {a : Option Addr} {n : Nat} {ss : List Shr} (h : SRow w a n ss) : ∀ s ∈ ss, s.1 < 256 := fun s hs => by
  obtain ⟨i, hi, rfl⟩ := List.mem_iff_getElem.1 hs
  have hn : i < n := by rw [← h.1]; exact hi
  obtain ⟨b, o, rfl⟩ := h.addr (by omega)
  have := (h.at i hn).1
  rw [List.getD_eq_getElem?_getD, List.getElem?_eq_getElem hi] at this
  exact this
/-- What is wrong with shares, one by one: those seen, and what comes. -/
def sfaultG (least most : Nat) (first : Nat) (seen : List Shr) : List Shr → Int
  | [] => 0
  | s :: r => if s.1 < least ∨ most < s.1 then 2 else if seen.any (fun x => x.1 == s.1) = true then 7 else if s.2.length ≠ first then 3 else sfaultG least most first (seen ++ [s]) r
def sfault (least most : Nat) (ss : List Shr) : Int := sfaultG least most (ss.getD 0 noS).2.length [] ss
theorem sfaultG_ok (least most first : Nat) : ∀ (r seen : List Shr), sfaultG least most first seen r = 0 → (∀ s ∈ r, least ≤ s.1 ∧ s.1 ≤ most ∧ s.2.length = first) ∧ ((seen.map (·.1)).Nodup → ((seen ++ r).map (·.1)).Nodup)
  | [], seen, _ => ⟨(fun s hs => by cases hs), fun h => by simpa using h⟩
  | s :: r, seen, h => by
    unfold sfaultG at h
    by_cases c1 : s.1 < least ∨ most < s.1
    · rw [if_pos c1] at h; omega
    · rw [if_neg c1] at h
      by_cases c2 : seen.any (fun x => x.1 == s.1) = true
      · rw [if_pos c2] at h; omega
      · rw [if_neg c2] at h
        by_cases c3 : s.2.length ≠ first
        · rw [if_pos c3] at h; omega
        · rw [if_neg c3] at h
          obtain ⟨h1, h2⟩ := sfaultG_ok least most first r (seen ++ [s]) h
          refine ⟨fun t ht => ?_, fun hn => ?_⟩
          · rcases List.mem_cons.1 ht with rfl | ht
            · exact ⟨by omega, by omega, by omega⟩
            · exact h1 t ht
          · rw [List.append_assoc] at h2
            refine h2 ?_
            rw [List.map_append, List.nodup_append]
            refine ⟨hn, by simp, fun x hx y hy => ?_⟩
            simp only [List.map_cons, List.map_nil, List.mem_singleton] at hy
            subst hy
            obtain ⟨z, hz, rfl⟩ := List.mem_map.1 hx
            intro e
            exact c2 (List.any_eq_true.2 ⟨z, hz, by simpa using e⟩)
theorem sfault_ok {least most : Nat} {ss : List Shr} (h : sfault least most ss = 0) : (∀ s ∈ ss, least ≤ s.1 ∧ s.1 ≤ most ∧ s.2.length = (ss.getD 0 noS).2.length) ∧ (ss.map (·.1)).Nodup := by
  obtain ⟨h1, h2⟩ := sfaultG_ok least most _ ss [] h
  exact ⟨h1, by simpa using h2 List.nodup_nil⟩
theorem sfault_step {least most first : Nat} {ss : List Shr} {i : Nat} (h : i < ss.length) : sfaultG least most first (ss.take i) (ss.drop i) = if (ss.getD i noS).1 < least ∨ most < (ss.getD i noS).1 then 2 else if (ss.take i).any (fun x => x.1 == (ss.getD i noS).1) = true then 7 else if (ss.getD i noS).2.length ≠ first then 3 else sfaultG least most first (ss.take (i + 1)) (ss.drop (i + 1)) := by
  have e : ss.getD i noS = ss[i] := by rw [List.getD_eq_getElem?_getD, List.getElem?_eq_getElem h]; rfl
  rw [e, List.drop_eq_getElem_cons h, sfaultG, List.take_succ_eq_append_getElem h]
end Go.Proofs.YtghiniaijobonaaDoor
/- How an argument that is a slice of bytes is opened: it reads as a list of bytes. -/
namespace Go.Proofs.YtghiniaijobonaaDoor
open Go.ChangeShapes Go.WideShapes Go.ChangeAt Go.RowKit
open Go.ChangeMaps (open_string shut_string)
set_option linter.unusedVariables false
set_option linter.unusedSimpArgs false

theorem wf_u8 {n : Int} (h : (Lit.int .u8 n).wf = true) : 0 ≤ n ∧ n ≤ 255 := by
  have hmin : IntKind.u8.min = 0 := rfl
  have hmax : IntKind.u8.max = 255 := rfl
  simp only [Lit.wf, Bool.and_eq_true, decide_eq_true_eq] at h
  omega
theorem wf_i64 {n : Int} (h : (Lit.int .i64 n).wf = true) : -9223372036854775808 ≤ n ∧ n ≤ 9223372036854775807 := by
  have hmin : IntKind.i64.min = -9223372036854775808 := rfl
  have hmax : IntKind.i64.max = 9223372036854775807 := rfl
  simp only [Lit.wf, Bool.and_eq_true, decide_eq_true_eq] at h
  omega

theorem open_bytes {H : Type} {enc : TypeId × Value → H} {P : Program} {w : World} {base : Nat} {held : Bool} {t e : TypeId} {fuel : Nat} {a : Option Addr} {len cap : Nat} {d : DataW H} {p : List MemPlace}
    (ht : P.underlying t = some (.slice e)) (he : P.underlying e = some (.int .u8)) (hc : P.cellsOf e = 1)
    (h : DataW.trod enc P w base (fun _ => true) held fuel t [.slice a len cap] = some (d, p)) :
    ∃ l, Row w a len l ∧ (len = 0 ∨ ∃ elems spare, d = .slice elems spare ∧ elems.length = len) := by
  rcases open_ints ht he hc h with ⟨hcs, _⟩ | ⟨x, l, c, zs, hcs, _, hl, hm, hz, hx, hcell, hwz⟩
  · simp at hcs
    obtain ⟨rfl, rfl, rfl⟩ := hcs
    exact ⟨[], Row.nil w, .inl rfl⟩
  · simp at hcs
    obtain ⟨rfl, rfl, rfl⟩ := hcs
    simp only [Prod.mk.injEq] at hx
    simp at hz
    refine ⟨(zs.take len).map fun z => UInt8.ofNat z.toNat, ⟨by simp; omega, ?_⟩, .inr ⟨_, _, hx.1, by simp [lits]; omega⟩⟩
    by_cases h0 : len = 0
    · exact .inl h0
    · obtain ⟨b, off, spot⟩ := x
      have hspot : spot = none := by simpa [Addr.add] using World.cell?_spot (hcell 0 (by omega))
      subst hspot
      refine .inr ⟨b, off, rfl, fun i hi => ?_⟩
      rw [← add_plain, hcell i (by omega)]
      have hb := wf_u8 (hwz (zs.getD i 0) (by
        have : zs.getD i 0 = zs[i]'(by omega) := by simp [List.getD_eq_getElem?_getD, List.getElem?_eq_getElem (show i < zs.length by omega)]
        rw [this]
        exact List.getElem_mem _))
      have e : nth ((zs.take len).map fun z => UInt8.ofNat z.toNat) i = zs.getD i 0 := by
        unfold nth
        have h1 : i < zs.length := by omega
        simp only [List.getD_eq_getElem?_getD, List.getElem?_map, List.getElem?_take, if_pos hi, List.getElem?_eq_getElem h1, Option.map_some, Option.getD_some] at hb ⊢
        rw [UInt8.toNat_ofNat']
        omega
      rw [e]
end Go.Proofs.YtghiniaijobonaaDoor
/- How an argument that is a digest, or a slice of digests, is opened. -/
namespace Go.Proofs.YtghiniaijobonaaDoor
open Go.ChangeShapes Go.WideShapes Go.ChangeAt Go.RowKit
set_option linter.unusedVariables false
set_option linter.unusedSimpArgs false

/-- The byte that a value holds. -/
def byteOf : Value → UInt8
  | .int _ n => UInt8.ofNat n.toNat
  | _ => 0

section
variable {H : Type} {enc : TypeId × Value → H} {P : Program} {w : World} {base : Nat} {spare : Nat → Bool} {held : Bool} {t e : TypeId} {fuel : Nat}
theorem bytes_of_trod {cs : List Value} {x : DataW H × List MemPlace} (ht : P.underlying t = some (.array 32 e)) (he : P.underlying e = some (.int .u8)) (hce : P.cellsOf e = 1) (hct : P.cellsOf t = 32)
    (h : DataW.trod enc P w base spare held fuel t cs = some x) : ∃ l : List UInt8, l.length = 32 ∧ cs = cellsB l := by
  obtain ⟨xs, m, _, _, hl, hxs, hi⟩ := DataW.trod_array ht h
  rw [hct] at hl
  refine ⟨cs.map byteOf, by simp [hl], ?_⟩
  apply List.ext_getElem
  · simp [cellsB]
  · intro i h1 h2
    have hi' := hi i (by omega)
    rw [hce, Nat.mul_one, List.getElem?_eq_getElem (by omega)] at hi'
    obtain ⟨n, hn, _, hwf⟩ := DataW.trod_int he hi'
    have hb := wf_u8 hwf
    have hc : cs[i] = .int .u8 n := by
      have := congrArg List.head? hn
      simpa [List.head?_take, List.getElem?_eq_getElem h1] using this
    simp only [cellsB, List.getElem_map, hc, byteOf, UInt8.toNat_ofNat']
    congr 1
    omega
theorem open_digest {r : Reach} {b0 : Nat} {v : Value} {d : DataW H} {p : List MemPlace} (ht : P.underlying t = some (.array 32 e)) (he : P.underlying e = some (.int .u8)) (hce : P.cellsOf e = 1) (hct : P.cellsOf t = 32)
    (hv : Value.okWide P w r b0 t v) (h : DataW.Trod enc P w base spare held t v d p) : ∃ l : List UInt8, l.length = 32 ∧ v = digestV l := by
  obtain ⟨cs, rfl⟩ : ∃ cs, v = .agg cs := by
    simp only [Value.okWide, ht] at hv
    obtain ⟨cs, h1, _⟩ := hv
    exact ⟨cs, h1⟩
  obtain ⟨fuel, hf⟩ := h
  obtain ⟨l, hl, hc⟩ := bytes_of_trod ht he hce hct hf
  refine ⟨l, hl, ?_⟩
  have : cs.toList = cellsB l := hc
  show Value.agg cs = Value.agg (cellsB l).toArray
  rw [← this]
end

/-- A slice of n digests at a reads as the list ls. -/
def DRow (w : World) (a : Option Addr) (n : Nat) (ls : List (List UInt8)) : Prop :=
  ls.length = n ∧ (∀ l ∈ ls, l.length = 32) ∧ (n = 0 ∨ ∃ b o, a = some ⟨b, o, none⟩ ∧ ∀ i, i < n → DAt w b (o + 32 * i) (ls.getD i []))
theorem DRow.nil (w : World) : DRow w none 0 [] := ⟨rfl, (fun l hl => by cases hl), .inl rfl⟩
theorem DRow.len {w : World} {a : Option Addr} {n : Nat} {ls : List (List UInt8)} (h : DRow w a n ls) (i : Nat) (hi : i < n) : (ls.getD i []).length = 32 := by
  rw [List.getD_eq_getElem?_getD, List.getElem?_eq_getElem (by rw [h.1]; exact hi)]
  exact h.2.1 _ (List.getElem_mem _)
theorem DRow.below {w w' : World} {a : Option Addr} {n : Nat} {ls : List (List UInt8)} (h : DRow w a n ls) (hb : Below w.heap.size w w') : DRow w' a n ls := by
  have hlen := h.len
  obtain ⟨h1, h2, h3⟩ := h
  refine ⟨h1, h2, ?_⟩
  rcases h3 with h3 | ⟨b, o, ha, hc⟩
  · exact .inl h3
  · exact .inr ⟨b, o, ha, fun i hi => (hc i hi).below hb (cell_block ((hc i hi).cell 0 (by rw [hlen i hi]; omega)))⟩

theorem open_digests {H : Type} {enc : TypeId × Value → H} {P : Program} {w : World} {base : Nat} {held : Bool} {t e f : TypeId} {fuel : Nat} {a : Option Addr} {len cap : Nat} {d : DataW H} {p : List MemPlace}
    (ht : P.underlying t = some (.slice e)) (he : P.underlying e = some (.array 32 f)) (hf : P.underlying f = some (.int .u8)) (hcf : P.cellsOf f = 1) (hce : P.cellsOf e = 32)
    (h : DataW.trod enc P w base (fun _ => true) held fuel t [.slice a len cap] = some (d, p)) :
    ∃ ls, DRow w a len ls ∧ (len = 0 ∨ ∃ elems spare, d = .slice elems spare ∧ elems.length = len) := by
  rcases Go.Deep.open_slice ht h with ⟨hcs, _⟩ | ⟨x, l, c, m, n, D, Pl, hcs, _, hlc, hm, hmm, hx, hel⟩
  · simp at hcs
    obtain ⟨rfl, rfl, rfl⟩ := hcs
    exact ⟨[], DRow.nil w, .inl rfl⟩
  · simp at hcs
    obtain ⟨rfl, rfl, rfl⟩ := hcs
    simp only [if_true] at hmm
    subst hmm
    simp only [Prod.mk.injEq] at hx
    have each : ∀ i, i < len → ∃ q : List UInt8, q.length = 32 ∧ ∀ j, j < 32 → w.cell? ((x.add (i * 32)).add j) = some (.int .u8 (nth q j)) := by
      intro i hi
      obtain ⟨cs', hc, htr⟩ := hel i (by omega)
      obtain ⟨q, hq, rfl⟩ := bytes_of_trod he hf hcf hce htr
      refine ⟨q, hq, fun j hj => ?_⟩
      rw [hce] at hc
      have hs := World.cells?_some hc
      rw [hs.2.2 j hj, ← cellsB_at q j (by omega)]
    let ls := (List.range len).map fun i => if h : i < len then (each i h).choose else []
    have hls : ∀ i, i < len → ∃ h : i < len, ls.getD i [] = (each i h).choose := fun i hi => ⟨hi, by simp [ls, List.getD_eq_getElem?_getD, hi]⟩
    refine ⟨ls, ⟨by simp [ls], ?_, ?_⟩, .inr ⟨_, _, hx.1, by simp⟩⟩
    · intro l hl
      obtain ⟨i, hi, rfl⟩ := List.mem_map.1 hl
      have hi' := List.mem_range.1 hi
      rw [dif_pos hi']
      exact (each i hi').choose_spec.1
    · by_cases h0 : len = 0
      · exact .inl h0
      · obtain ⟨b, off, spot⟩ := x
        have hspot : spot = none := by
          obtain ⟨q, hq, hc⟩ := each 0 (by omega)
          simpa [Addr.add] using World.cell?_spot (hc 0 (by omega))
        subst hspot
        refine .inr ⟨b, off, rfl, fun i hi => ?_⟩
        obtain ⟨hi', e1⟩ := hls i hi
        rw [e1]
        have sp := (each i hi').choose_spec
        refine DAt.mk fun j hj => ?_
        have := sp.2 j (by omega)
        refine Eq.trans (congrArg w.cell? ?_) this
        rw [add_plain, add_plain, show off + 32 * i + j = off + i * 32 + j from by omega]
end Go.Proofs.YtghiniaijobonaaDoor
