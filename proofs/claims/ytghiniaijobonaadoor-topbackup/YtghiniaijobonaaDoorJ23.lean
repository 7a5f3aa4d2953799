/- Texts of this claim, joined: Digs, Wdigs, Wlacks, Wwalk. -/
import Derived.Test.YtghiniaijobonaaDoorJ14
import Derived.Test.YtghiniaijobonaaDoorJ17
import Derived.Test.YtghiniaijobonaaDoorJ16
import Derived.Test.YtghiniaijobonaaDoorJ04
import Derived.Test.YtghiniaijobonaaDoorJ22
import Derived.StillTailTactics
/- Plain facts on the digits that a digest is signed by, as lists of numbers. -/
namespace Go.Proofs.YtghiniaijobonaaDoor
open Go.RowKit
set_option linter.unusedVariables false
set_option linter.unusedSimpArgs false

/-- The first n digits that a digest is signed by. -/
def digsL (m : List UInt8) (n : Nat) : List Int := (List.range n).map fun i => (digL m i : Int)
theorem digsL_len (m : List UInt8) (n : Nat) : (digsL m n).length = n := by simp [digsL]
theorem digsL_at (m : List UInt8) (n i : Nat) (h : i < n) : (digsL m n).getD i 0 = (digL m i : Int) := by
  simp [digsL, List.getD_eq_getElem?_getD, h]
def nibsL (m : List UInt8) (n : Nat) : List Int := (List.range n).map fun i => (nibL m i : Int)
theorem nibsL_len (m : List UInt8) (n : Nat) : (nibsL m n).length = n := by simp [nibsL]
theorem nibsL_succ (m : List UInt8) (n : Nat) : nibsL m n ++ [(nibL m n : Int)] = nibsL m (n + 1) := by
  unfold nibsL; rw [List.range_succ, List.map_append]; rfl
theorem digs_nibs (m : List UInt8) : nibsL m 64 ++ [((lackL m 64 / 256 : Nat) : Int), ((lackL m 64 / 16 % 16 : Nat) : Int), ((lackL m 64 % 16 : Nat) : Int)] = digsL m 67 := by
  have e : nibsL m 64 = digsL m 64 := by
    unfold nibsL digsL
    refine List.map_congr_left fun i hi => ?_
    have hi' : i < 64 := List.mem_range.1 hi
    unfold digL
    rw [if_pos hi']
  rw [e]
  unfold digsL
  rw [show (67 : Nat) = 64 + 1 + 1 + 1 from rfl, List.range_succ, List.range_succ, List.range_succ, List.map_append, List.map_append, List.map_append, List.append_assoc, List.append_assoc]
  rfl
end Go.Proofs.YtghiniaijobonaaDoor
/- The contracts of wots.digitsOf, wots.Digits and digits.lacks. -/
namespace Go.Proofs.YtghiniaijobonaaDoor
open Go.RowKit
set_option linter.unusedVariables false
set_option linter.unusedSimpArgs false

theorem Tryd.infoB8 : (Tryd.prog.info? 5).map (fun i => (i.zero, i.size, i.bytes)) = some (some (.int .u8 0), 1, 1) := by kernel_rfl
/-- A new variable for digits. -/
def zI : List Int := List.replicate 67 0
theorem cellsI_size (l : List Int) : (cellsI l).toArray.size = l.length := by
  show (cellsI l).length = _
  exact cellsI_length l
theorem zI_size : (cellsI zI).toArray.size = 67 := by rw [cellsI_size]; rfl
theorem Tryd.zeroDgt : (Tryd.prog.info? 79).map (·.zero) = some (some (.agg (cellsI zI).toArray)) := by kernel_rfl
theorem Tryd.sizeDgt : (Tryd.prog.info? 79).map (·.size) = some 67 := by kernel_rfl
theorem cellsI_range (l : List Int) (n : Nat) (h : l.length = n) : cellsI l = (List.range n).map fun i => Value.int .i64 (l.getD i 0) := by
  apply List.ext_getElem?
  intro i
  by_cases hi : i < n
  · rw [cellsI_at l i (by omega)]
    simp [hi]
  · rw [List.getElem?_eq_none (by rw [cellsI_length]; omega), List.getElem?_eq_none (by simp; omega)]
theorem OwnK.iat {t : TypeId} {w : World} {B g n cap : Nat} {f : Nat → Int} {l : List Int} (h : OwnK .i64 t w B g n cap f) (hl : l.length = n) (he : ∀ i, i < n → f i = l.getD i 0) : w.rangeAt g 0 (cellsI l) := by
  intro j v hj
  have hj' : j < l.length := by have := (List.getElem?_eq_some_iff.1 hj).1; rwa [cellsI_length] at this
  rw [Nat.zero_add, h.cell j (by omega), he j (by omega), ← cellsI_at l j hj', hj]
theorem thereI {w : World} {b o n : Nat} (h : w.there b o n) (g j : Nat) (v : Value) : (w.setCell ⟨g, j, none⟩ v).there b o n := World.there_setCells h g j [v]
theorem zI_at (i : Nat) : zI.getD i 0 = 0 := by
  unfold zI
  rw [List.getD_eq_getElem?_getD, List.getElem?_replicate]
  split <;> rfl
/-- The digits when t of the last three are laid. -/
def dgT (m : List UInt8) (t q : Nat) : Int := if q < 64 then (nibL m q : Int) else if 67 ≤ q + t then ((lackL m 64 / 16 ^ (66 - q) % 16 : Nat) : Int) else 0
theorem dgT_all (m : List UInt8) (q : Nat) (h : q < 67) : dgT m 3 q = (digL m q : Int) := by
  have hl := lackL_le m 64
  unfold dgT digL
  by_cases h1 : q < 64
  · rw [if_pos h1, if_pos h1]
  · rw [if_neg h1, if_neg h1, if_pos (by omega)]
    by_cases h2 : q = 64
    · subst h2
      rw [if_pos rfl]
      have : lackL m 64 / 16 ^ (66 - 64) % 16 = lackL m 64 / 256 := by
        rw [show (16 : Nat) ^ (66 - 64) = 256 from rfl]
        omega
      rw [this]
    · rw [if_neg h2]
      by_cases h3 : q = 65
      · subst h3
        rw [if_pos rfl]
      · rw [if_neg h3]
        obtain rfl : q = 66 := by omega
        rw [show (16 : Nat) ^ (66 - 66) = 1 from rfl, Nat.div_one]
theorem dgT_step (m : List UInt8) (t q : Nat) (ht : t < 3) (hq : q < 67) : dgT m (t + 1) q = if q = 66 - t then ((lackL m 64 / 16 ^ t % 16 : Nat) : Int) else dgT m t q := by
  unfold dgT
  by_cases h : q = 66 - t
  · rw [if_pos h, if_neg (by omega), if_pos (by omega), show 66 - q = t by omega]
  · rw [if_neg h]
    by_cases h1 : q < 64
    · rw [if_pos h1, if_pos h1]
    · rw [if_neg h1, if_neg h1]
      by_cases h2 : 67 ≤ q + t
      · rw [if_pos h2, if_pos (by omega)]
      · rw [if_neg h2, if_neg (by omega)]
def nbT (m : List UInt8) (t q : Nat) : Int := if q < 2 * t then (nibL m q : Int) else 0

set_option maxRecDepth 100000 in
set_option maxHeartbeats 1000000 in
theorem wwots_digitsOf (m : List UInt8) (w : World) (hm : m.length = 32) :
    Calls Tryd.prog 33 #[digestV m] w fun e w' => e = .returned (.agg (cellsI (digsL m 67)).toArray) ∧ Below w.heap.size w w' := by
  obtain ⟨i8, hi8, _, hs8, _⟩ := info_parts Tryd.infoB8
  obtain ⟨w2, hw2⟩ : ∃ w2, (w.alloc (.cells (cellsB m).toArray 23)).alloc (.cells (cellsI zI).toArray 79) = w2 := ⟨_, rfl⟩
  have hs1 : (w.alloc (.cells (cellsB m).toArray 23)).heap.size = w.heap.size + 1 := by simp
  have hs2 : w2.heap.size = w.heap.size + 1 + 1 := by rw [← hw2]; simp
  obtain ⟨w3, hw3⟩ : ∃ w3, w2.alloc (.cells (cellsI zI).toArray 79) = w3 := ⟨_, rfl⟩
  have HB3 : Hid (Below w.heap.size w w3) := by rw [← hw3, ← hw2]; exact (((Below.refl _ _).alloc (Nat.le_refl _) _).alloc (by simp) _).alloc (by simp; omega) _
  have HT3 : Hid (w3.there (w.heap.size + 1) 0 67) := by rw [← hw3, ← hw2]; exact World.there_alloc (alloc_thereAt _ _ _ 67 _ hs1 zI_size.symm) _
  have HO3 : Hid (OwnK .i64 79 w3 (w.heap.size + 1 + 1) (w.heap.size + 1 + 1) 67 67 (nbT m 0)) := by
    rw [← hw3]
    refine OwnK.congr (f := fun i => zI.getD i 0) (OwnK.newAt w2 _ 79 67 (by omega) _ _ hs2 (cellsI_range zI 67 rfl)) fun i hi => ?_
    rw [zI_at]
    unfold nbT
    rw [if_neg (by omega)]
  have HM3 : Hid (w3.rangeAt w.heap.size 0 (cellsB m)) := by rw [← hw3, ← hw2]; exact World.rangeAt_alloc (World.rangeAt_alloc (box_range w (cellsB m) _) _) _
  go_enter Tryd.func33, Tryd.ntmps33
  go_wp2_with (first
    | (refine wpList_allocE (by rfl) 79 (by rfl) (cellsI zI).toArray Tryd.zeroDgt (w.heap.size + 1) hs1 w2 hw2 ?_)
    | (refine wpList_allocE (by rfl) 79 (by rfl) (cellsI zI).toArray Tryd.zeroDgt (w.heap.size + 1 + 1) hs2 w3 hw3 ?_)
    | (refine wpList_load_mid (by rfl) 23 (.tmp 1) (by rfl) w.heap.size 0 (by rfl) (cellsB m) _ HM3.out Tryd.underlying23 (by rfl) (by rw [cellsB_length, hm]; exact Tryd.sizeDg) ?_))
  clear hw2 hs1 hs2 hw3 HM3
  go_loopw [11] (fun i wr => ∃ t : Nat, t ≤ 32 ∧ i = .int .i64 (t : Int) ∧ OwnK .i64 79 wr (w.heap.size + 1 + 1) (w.heap.size + 1 + 1) 67 67 (nbT m t) ∧ wr.there (w.heap.size + 1) 0 67 ∧ Below w.heap.size w wr) (fun i _ => 32 - (intOf i).toNat)
  case atStart => exact ⟨0, Nat.zero_le _, rfl, HO3.out, HT3.out, HB3.out⟩
  case round =>
    clear HO3 HT3 HB3
    obtain ⟨t, ht, rfl, hO, hT, hB⟩ := hrel
    have HB : Hid (Below w.heap.size w wr) := hB
    have HT : Hid (wr.there (w.heap.size + 1) 0 67) := hT
    have HO : Hid (OwnK .i64 79 wr (w.heap.size + 1 + 1) (w.heap.size + 1 + 1) 67 67 (nbT m t)) := hO
    clear hB hT
    by_cases hlt : t < 32
    · have c0 := hO.cell (2 * t) (by omega)
      have z0 := hO.frozen (2 * t)
      have c1 := hO.cell (2 * t + 1) (by omega)
      have z1 := hO.frozen (2 * t + 1)
      have hx : ∀ w : World, (Instr.index 23 (.agg (cellsB m).toArray) (.int .i64 (t : Int))).run Tryd.prog w = .ok (.int .u8 ((m.getD t 0).toNat : Int)) w := fun w => run_index_int w _ _ 32 .u8 i8 _ t _ hlt Tryd.underlying23 Tryd.underlying5 hi8 hs8 (by simpa [nth] using cellsB_at m t (by omega))
      have hx0 := (m.getD t 0).toNat_lt
      have n0 : Hid (nibL m (2 * t) = (m.getD t 0).toNat / 16) := by unfold Hid nibL; rw [if_neg (by omega), show 2 * t / 2 = t by omega]
      have n1 : Hid (nibL m (2 * t + 1) = (m.getD t 0).toNat % 16) := by unfold Hid nibL; rw [if_pos (by omega), show (2 * t + 1) / 2 = t by omega]
      clear hO
      generalize (m.getD t 0).toNat = x at *
      have d1 : (x : Int).tdiv 16 = ((x / 16 : Nat) : Int) := by rw [Int.tdiv_eq_ediv_of_nonneg (by omega)]; omega
      have d2 : (x : Int) / 16 = ((x / 16 : Nat) : Int) := by omega
      have d3 : (x : Int).tmod 16 = ((x % 16 : Nat) : Int) := by rw [Int.tmod_eq_emod_of_nonneg (by omega)]; omega
      have d4 : (x : Int) % 16 = ((x % 16 : Nat) : Int) := by omega
      generalize x / 16 = y at *
      generalize x % 16 = z at *
      have b0 : (0 : Int) ≤ 2 * (t : Int) := by omega
      have b1 : 2 * (t : Int) < 67 := by omega
      have b2 : (0 : Int) ≤ 2 * (t : Int) + 1 := by omega
      have b3 : 2 * (t : Int) + 1 < 67 := by omega
      go_wp2_with fail
      go_roundw
      case rel =>
        refine ⟨t + 1, by omega, by go_num, (OwnK.store (OwnK.store HO.out (2 * t) _) (2 * t + 1) _).congr fun q hq => ?_, thereI (thereI HT.out _ _ _) _ _ _, ?_⟩
        · show (if q = 2 * t + 1 then _ else if q = 2 * t then _ else nbT m t q) = nbT m (t + 1) q
          unfold nbT
          by_cases h1 : q = 2 * t + 1
          · rw [if_pos h1, if_pos (by omega), h1, n1.out]
          · rw [if_neg h1]
            by_cases h0 : q = 2 * t
            · rw [if_pos h0, if_pos (by omega), h0, n0.out]
            · rw [if_neg h0]
              by_cases h2 : q < 2 * t
              · rw [if_pos h2, if_pos (by omega)]
              · rw [if_neg h2, if_neg (by omega)]
        · exact Below.setCell (p := ⟨w.heap.size + 1 + 1, 2 * t + 1, none⟩) (Below.setCell (p := ⟨w.heap.size + 1 + 1, 2 * t, none⟩) HB.out (by show w.heap.size ≤ w.heap.size + 1 + 1; omega) _) (by show w.heap.size ≤ w.heap.size + 1 + 1; omega) _
      case measure => simp [intOf]; omega
    · obtain rfl : t = 32 := by omega
      have HO4 : Hid (OwnK .i64 79 wr (w.heap.size + 1 + 1) (w.heap.size + 1 + 1) 67 67 (dgT m 0)) := OwnK.congr HO.out fun q hq => by
        unfold nbT dgT
        by_cases h : q < 64
        · rw [if_pos (by omega), if_pos h]
        · rw [if_neg (by omega), if_neg h, if_neg (by omega)]
      clear hO HO
      go_wp2_with fail
      go_loopw [6, 31] (fun s i wr => ∃ k : Nat, k ≤ 64 ∧ i = .int .i64 (k : Int) ∧ s = .int .i64 (lackL m k : Nat) ∧ OwnK .i64 79 wr (w.heap.size + 1 + 1) (w.heap.size + 1 + 1) 67 67 (dgT m 0) ∧ wr.there (w.heap.size + 1) 0 67 ∧ Below w.heap.size w wr) (fun _ i _ => 64 - (intOf i).toNat)
      case atStart => exact ⟨0, Nat.zero_le _, rfl, rfl, HO4.out, HT.out, HB.out⟩
      case round =>
        clear HO4 HT HB
        obtain ⟨k, hk, rfl, rfl, hO, hT, hB⟩ := hrel
        have HB : Hid (Below w.heap.size w wr) := hB
        have HT : Hid (wr.there (w.heap.size + 1) 0 67) := hT
        have HO : Hid (OwnK .i64 79 wr (w.heap.size + 1 + 1) (w.heap.size + 1 + 1) 67 67 (dgT m 0)) := hO
        have hll := lackL_le m k
        clear hB hT
        by_cases hlt : k < 64
        · have c0 := hO.cell k (by omega)
          have hd : dgT m 0 k = (nibL m k : Int) := by unfold dgT; rw [if_pos hlt]
          rw [hd] at c0
          have hn := nibL_lt m k
          have HL : Hid (lackL m (k + 1) = lackL m k + (15 - nibL m k)) := rfl
          clear hO hd
          generalize hg : nibL m k = y at *
          have HG : Hid (nibL m k = y) := hg
          clear hg
          generalize hg : lackL m k = s at *
          have HS : Hid (lackL m k = s) := hg
          clear hg
          go_wp2_with fail
          go_roundw
          case rel => exact ⟨k + 1, by omega, by go_num, by rw [HL.out]; simp; omega, HO.out, HT.out, HB.out⟩
          case measure => simp [intOf]; omega
        · obtain rfl : k = 64 := by omega
          clear hO
          go_wp2_with fail
          go_loopw [6, 9] (fun s i wr => ∃ t : Nat, t ≤ 3 ∧ i = .int .i64 (66 - (t : Int)) ∧ s = .int .i64 ((lackL m 64 / 16 ^ t : Nat) : Int) ∧ OwnK .i64 79 wr (w.heap.size + 1 + 1) (w.heap.size + 1 + 1) 67 67 (dgT m t) ∧ wr.there (w.heap.size + 1) 0 67 ∧ Below w.heap.size w wr) (fun _ i _ => (intOf i - 63).toNat)
          case atStart => exact ⟨0, Nat.zero_le _, rfl, by simp, HO.out, HT.out, HB.out⟩
          case round =>
            clear HO HT HB
            obtain ⟨t, ht, rfl, rfl, hO, hT, hB⟩ := hrel
            have HB : Hid (Below w.heap.size w wr) := hB
            have HT : Hid (wr.there (w.heap.size + 1) 0 67) := hT
            have HO : Hid (OwnK .i64 79 wr (w.heap.size + 1 + 1) (w.heap.size + 1 + 1) 67 67 (dgT m t)) := hO
            clear hB hT
            by_cases hlt : t < 3
            · obtain ⟨q, hq⟩ : ∃ q : Nat, 66 - t = q := ⟨_, rfl⟩
              have eq1 : (66 : Int) - (t : Int) = (q : Int) := by omega
              rw [eq1]
              have c0 := hO.cell q (by omega)
              have z0 := hO.frozen q
              have HQ : Hid (66 - t = q) := hq
              have HST : Hid (∀ p, p < 67 → dgT m (t + 1) p = if p = 66 - t then ((lackL m 64 / 16 ^ t % 16 : Nat) : Int) else dgT m t p) := fun p hp => dgT_step m t p hlt hp
              have HE : Hid (lackL m 64 / 16 ^ (t + 1) = lackL m 64 / 16 ^ t / 16) := by unfold Hid; rw [Nat.pow_succ, Nat.div_div_eq_div_mul]
              have hx : lackL m 64 / 16 ^ t ≤ 960 := Nat.le_trans (Nat.div_le_self _ _) hll
              have q0 : 64 ≤ (q : Int) := by omega
              have q1 : (q : Int) < 67 := by omega
              clear hO eq1 hq hll
              generalize lackL m 64 / 16 ^ t = x at *
              have d1 : (x : Int).tdiv 16 = ((x / 16 : Nat) : Int) := by rw [Int.tdiv_eq_ediv_of_nonneg (by omega)]; omega
              have d2 : (x : Int) / 16 = ((x / 16 : Nat) : Int) := by omega
              have d3 : (x : Int).tmod 16 = ((x % 16 : Nat) : Int) := by rw [Int.tmod_eq_emod_of_nonneg (by omega)]; omega
              have d4 : (x : Int) % 16 = ((x % 16 : Nat) : Int) := by omega
              generalize x / 16 = y at *
              generalize x % 16 = z at *
              go_wp2_with fail
              go_roundw
              case rel =>
                refine ⟨t + 1, by omega, ?_, by rw [HE.out], (OwnK.store HO.out q _).congr fun p hp => ?_, thereI HT.out _ _ _, Below.setCell (p := ⟨w.heap.size + 1 + 1, q, none⟩) HB.out (by show w.heap.size ≤ w.heap.size + 1 + 1; omega) _⟩
                · have := HQ.out
                  go_num
                · rw [HST.out p hp, HQ.out]
              case measure =>
                have := HQ.out
                simp [intOf]
                omega
            · obtain rfl : t = 3 := by omega
              have h67 := digsL_len m 67
              have HR : Hid (wr.rangeAt (w.heap.size + 1 + 1) 0 (cellsI (digsL m 67))) := hO.iat h67 fun i hi => by rw [dgT_all m i hi, digsL_at m 67 i hi]
              clear hO HO hll
              generalize lackL m 64 / 16 ^ 3 = x at *
              generalize hD : digsL m 67 = D at *
              have HD : Hid (digsL m 67 = D) := hD
              clear hD
              go_wp2_with (first
                | (refine wpList_load_mid (by rfl) 79 (.tmp 3) (by rfl) (w.heap.size + 1 + 1) 0 (by rfl) (cellsI D) _ HR.out Tryd.underlying79 (by rfl) (by rw [cellsI_length, h67]; exact Tryd.sizeDgt) ?_)
                | (refine wpList_store_mid (by rfl) 79 (.tmp 2) (.tmp 50) (by rfl) (w.heap.size + 1) 0 (cellsI D).toArray (by rfl) (by rfl) (by rw [cellsI_size, h67]; exact HT.out) (by rw [cellsI_size, h67]; exact Tryd.sizeDgt) (all_oneCell_toArray (cellsI_one _)) ?_))
              refine bodyPost_ret (v := .agg (cellsI D).toArray) (run_results_row Tryd.results33 _ _ (w.heap.size + 1) 0 (by rfl) (cellsI D) (World.rangeAt_setCells_same _ _ _ _ (by rw [cellsI_length, h67]; exact HT.out)) _ Tryd.underlying79 (by rfl) (by rw [cellsI_length, h67]; exact Tryd.sizeDgt)) rfl ⟨by rw [HD.out], ?_⟩
              exact below_setCells _ (by omega) _ _ _ HB.out
end Go.Proofs.YtghiniaijobonaaDoor
/- The contract of digits.lacks. -/
namespace Go.Proofs.YtghiniaijobonaaDoor
open Go.RowKit
set_option linter.unusedVariables false
set_option linter.unusedSimpArgs false

/-- What each digit lacks of 15. -/
def lacksI (l : List Int) : List Int := l.map fun x => 15 - x
theorem lacksI_len (l : List Int) : (lacksI l).length = l.length := by simp [lacksI]
theorem lacksI_at (l : List Int) (i : Nat) (h : i < l.length) : (lacksI l).getD i 0 = 15 - l.getD i 0 := by
  simp [lacksI, List.getD_eq_getElem?_getD, h]

set_option maxRecDepth 100000 in
set_option maxHeartbeats 1000000 in
theorem wwots_lacks (l : List Int) (w : World) (hl : l.length = 67) (hb : ∀ i, i < 67 → 0 ≤ l.getD i 0 ∧ l.getD i 0 ≤ 15) :
    Calls Tryd.prog 36 #[.agg (cellsI l).toArray] w fun e w' => e = .returned (.agg (cellsI (lacksI l)).toArray) ∧ Below w.heap.size w w' := by
  obtain ⟨w2, hw2⟩ : ∃ w2, (w.alloc (.cells (cellsI l).toArray 79)).alloc (.cells (cellsI zI).toArray 79) = w2 := ⟨_, rfl⟩
  have hs1 : (w.alloc (.cells (cellsI l).toArray 79)).heap.size = w.heap.size + 1 := by simp
  have HO2 : Hid (OwnK .i64 79 w2 w.heap.size w.heap.size 67 67 (fun i => l.getD i 0)) := by
    rw [← hw2]
    exact World.ownsRow.alloc (OwnK.new w _ 79 67 (by omega) (fun i => l.getD i 0) (cellsI_range l 67 hl)) _
  have HB2 : Hid (Below w.heap.size w w2) := by
    rw [← hw2]
    exact ((Below.refl _ _).alloc (Nat.le_refl _) _).alloc (by simp) _
  have HT2 : Hid (w2.there (w.heap.size + 1) 0 67) := by rw [← hw2]; exact alloc_thereAt _ _ _ 67 _ hs1 zI_size.symm
  have HBD : Hid (∀ i, i < 67 → 0 ≤ l.getD i 0 ∧ l.getD i 0 ≤ 15) := hb
  clear hb
  go_enter Tryd.func36, Tryd.ntmps36
  go_wp2_with (refine wpList_allocE (by rfl) 79 (by rfl) (cellsI zI).toArray Tryd.zeroDgt (w.heap.size + 1) hs1 w2 hw2 ?_)
  clear hw2 hs1
  go_loopw [4] (fun i wr => ∃ t : Nat, t ≤ 67 ∧ i = .int .i64 (t : Int) ∧ OwnK .i64 79 wr w.heap.size w.heap.size 67 67 (fun q => if q < t then (lacksI l).getD q 0 else l.getD q 0) ∧ wr.there (w.heap.size + 1) 0 67 ∧ Below w.heap.size w wr) (fun i _ => 67 - (intOf i).toNat)
  case atStart =>
    refine ⟨0, Nat.zero_le _, rfl, ?_, HT2.out, HB2.out⟩
    exact OwnK.congr HO2.out (fun i hi => by rw [if_neg (by omega)])
  case round =>
    clear HO2 HB2 HT2
    obtain ⟨t, ht, rfl, hO, hT, hB⟩ := hrel
    by_cases hlt : t < 67
    · have c0 := hO.cell t hlt
      rw [if_neg (by omega)] at c0
      have z0 := hO.frozen t
      obtain ⟨x0, x1⟩ := HBD.out t hlt
      have HN : Hid ((lacksI l).getD t 0 = 15 - l.getD t 0) := lacksI_at l t (by omega)
      have HO : Hid (OwnK .i64 79 wr w.heap.size w.heap.size 67 67 (fun q => if q < t then (lacksI l).getD q 0 else l.getD q 0)) := hO
      have HT : Hid (wr.there (w.heap.size + 1) 0 67) := hT
      have HB : Hid (Below w.heap.size w wr) := hB
      clear hO hT hB
      generalize hx : l.getD t 0 = x at *
      have HX : Hid (l.getD t 0 = x) := hx
      clear hx
      go_wp2_with fail
      go_roundw
      case rel =>
        refine ⟨t + 1, by omega, by go_num, (OwnK.store HO.out t _).congr fun q hq => ?_, thereI HT.out _ _ _, Below.setCell (p := ⟨w.heap.size, t, none⟩) HB.out (Nat.le_refl _) _⟩
        by_cases h : q = t
        · rw [if_pos h, if_pos (by omega), h, HN.out]
        · rw [if_neg h]
          by_cases h2 : q < t
          · rw [if_pos h2, if_pos (by omega)]
          · rw [if_neg h2, if_neg (by omega)]
      case measure => simp [intOf]; omega
    · obtain rfl : t = 67 := by omega
      have h67 : (lacksI l).length = 67 := by rw [lacksI_len, hl]
      have HR : Hid (wr.rangeAt w.heap.size 0 (cellsI (lacksI l))) := hO.iat h67 fun i hi => by rw [if_pos hi]
      have HT : Hid (wr.there (w.heap.size + 1) 0 67) := hT
      have HB : Hid (Below w.heap.size w wr) := hB
      clear hO hT hB
      generalize hD : lacksI l = D at *
      have HD : Hid (lacksI l = D) := hD
      clear hD
      go_wp2_with (first
        | (refine wpList_load_mid (by rfl) 79 (.tmp 1) (by rfl) w.heap.size 0 (by rfl) (cellsI D) _ HR.out Tryd.underlying79 (by rfl) (by rw [cellsI_length, h67]; exact Tryd.sizeDgt) ?_)
        | (refine wpList_store_mid (by rfl) 79 (.tmp 2) (.tmp 14) (by rfl) (w.heap.size + 1) 0 (cellsI D).toArray (by rfl) (by rfl) (by rw [cellsI_size, h67]; exact HT.out) (by rw [cellsI_size, h67]; exact Tryd.sizeDgt) (all_oneCell_toArray (cellsI_one _)) ?_))
      refine bodyPost_ret (v := .agg (cellsI D).toArray) (run_results_row Tryd.results36 _ _ (w.heap.size + 1) 0 (by rfl) (cellsI D) (World.rangeAt_setCells_same _ _ _ _ (by rw [cellsI_length, h67]; exact HT.out)) _ Tryd.underlying79 (by rfl) (by rw [cellsI_length, h67]; exact Tryd.sizeDgt)) rfl ⟨by rw [HD.out], ?_⟩
      exact below_setCells _ (by omega) _ _ _ HB.out
end Go.Proofs.YtghiniaijobonaaDoor
/- The contracts of wots.secrets and shown with their closures, and of wots.walk. -/
namespace Go.Proofs.YtghiniaijobonaaDoor
open Go.RowKit
set_option linter.unusedVariables false
set_option linter.unusedSimpArgs false

theorem Row.litW (w : World) (cs : Array Value) (t : TypeId) (l : List UInt8) (h : cs.toList = cellsB l) (n : Nat) (hn : l.length = n) : Row (w.alloc (.cells cs t)) (some ⟨w.heap.size, 0, none⟩) n l := by
  have : DAt (w.alloc (.cells cs t)) w.heap.size 0 l := by
    unfold DAt
    rw [← h]
    exact alloc_range w cs t
  exact ⟨hn, .inr ⟨w.heap.size, 0, rfl, fun i hi => this.cell i (by omega)⟩⟩

/-- A closure tells where chains begin: at F. -/
def Source (fn : Nat) (p : Value) (F : Nat → List UInt8) (w : World) : Prop :=
  (∀ args wx, (callFunc fn args).run Tryd.prog wx = .ok (.enter fn args) wx) ∧ ∀ wx, Below w.heap.size w wx → ∀ i : Nat, i < 67 → Calls Tryd.prog fn #[.int .i64 (i : Int), p] wx fun e w' => e = .returned (digestV (F i)) ∧ Below wx.heap.size wx w'
theorem Source.below {fn : Nat} {p : Value} {F : Nat → List UInt8} {w w' : World} (h : Source fn p F w) (hb : Below w.heap.size w w') : Source fn p F w' := ⟨h.1, fun wx hx => h.2 wx (hb.trans (hx.mono hb.size))⟩

set_option maxRecDepth 100000 in
set_option maxHeartbeats 1000000 in
theorem wwots_secret1 (seed : List UInt8) (g i : Nat) (w : World) (G : Env w) (hs : seed.length = 32) (hg : DAt w g 0 seed) (hi : i < 256) :
    Calls Tryd.prog 49 #[.int .i64 (i : Int), .pointer (some ⟨g, 0, none⟩)] w fun e w' => e = .returned (digestV (wotsSecL seed i)) ∧ Below w.heap.size w w' := by
  have hgl : g < w.heap.size := cell_block (hg.cell 0 (by omega))
  obtain ⟨w2, hw2⟩ : ∃ w2, w.alloc (.cells (cellsB zD).toArray 23) = w2 := ⟨_, rfl⟩
  have HS2 : Hid (w2.heap.size = w.heap.size + 1) := by unfold Hid; rw [← hw2]; simp
  have HB2 : Hid (Below w.heap.size w w2) := by rw [← hw2]; exact (Below.refl _ _).alloc (Nat.le_refl _) _
  have HR2 : Hid (Row w2 (some ⟨g, 0, none⟩) 32 seed) := (DAt.row hg hs).below HB2.out
  have HT2 : Hid (w2.there w.heap.size 0 32) := by rw [← hw2]; exact alloc_thereAt _ _ _ 32 _ rfl zD_size.symm
  have HG : Hid (Env w2) := G.below HB2.out
  clear G hg
  have HR3 : Hid (Row (w2.alloc (.cells #[.int .u8 5, .int .u8 (i : Int)] 5)) (some ⟨w2.heap.size, 0, none⟩) 2 [5, UInt8.ofNat i]) := by
    refine Row.litW _ _ _ _ ?_ 2 rfl
    have e1 : (UInt8.ofNat i).toNat = i := by rw [UInt8.toNat_ofNat']; omega
    simp [cellsB, e1]
  have HBB : Hid (Below w2.heap.size w2 (w2.alloc (.cells #[.int .u8 5, .int .u8 (i : Int)] 5))) := (Below.refl _ _).alloc (Nat.le_refl _) _
  have i0 : (0 : Int) ≤ (i : Int) := by omega
  have i1 : (i : Int) < 256 := by omega
  go_enter Tryd.func49, Tryd.ntmps49
  go_wp2_with (refine wpList_allocE (by rfl) 23 (by rfl) (cellsB zD).toArray Tryd.zeroDg w.heap.size rfl w2 hw2 ?_)
  clear hw2
  refine (wmac_any _ 32 32 seed _ 2 2 _ _ (HG.out.below HBB.out) (HR2.out.below HBB.out) HR3.out (by omega) (by omega) (by omega) (by omega)).mono ?_
  rintro e w3 ⟨rfl, hb3⟩
  have hE : macL seed [5, UInt8.ofNat i] = wotsSecL seed i := rfl
  rw [hE]
  have HB3 : Hid (Below w2.heap.size w2 w3) := HBB.out.trans (hb3.mono HBB.out.size)
  have HT3 : Hid (w3.there w.heap.size 0 32) := there_below HT2.out HB3.out (by have := HS2.out; omega)
  have hlen := wotsSecL_length seed i
  clear hb3 HR3 HBB hE HT2 HR2
  generalize hD : wotsSecL seed i = D at *
  have HD : Hid (wotsSecL seed i = D) := hD
  clear hD
  go_wp2_with (refine wpList_store_mid (by rfl) 23 (.tmp 3) (.tmp 8) (by rfl) w.heap.size 0 (cellsB D).toArray (by rfl) (by rfl) (by rw [cellsB_size, hlen]; exact HT3.out) (by rw [cellsB_size, hlen]; exact Tryd.sizeDg) (all_oneCell_toArray (cellsB_one _)) ?_)
  refine bodyPost_ret (v := digestV D) (run_results_row Tryd.results49 _ _ w.heap.size 0 (by rfl) (cellsB D) (World.rangeAt_setCells_same _ _ _ _ (by rw [cellsB_length, hlen]; exact HT3.out)) _ Tryd.underlying23 (by rfl) (by rw [cellsB_length, hlen]; exact Tryd.sizeDg)) rfl ⟨by rw [HD.out], ?_⟩
  exact below_setCells _ (Nat.le_refl _) _ _ _ (HB2.out.trans (HB3.out.mono (by have := HS2.out; omega)))

set_option maxRecDepth 100000 in
set_option maxHeartbeats 1000000 in
theorem wwots_shown1 (sig : List (List UInt8)) (a : Option Addr) (c g i : Nat) (w : World) (R : DRow w a 67 sig) (hg : w.cell? ⟨g, 0, none⟩ = some (.slice a 67 c)) (hi : i < 67) :
    Calls Tryd.prog 52 #[.int .i64 (i : Int), .pointer (some ⟨g, 0, none⟩)] w fun e w' => e = .returned (digestV (sig.getD i [])) ∧ Below w.heap.size w w' := by
  obtain ⟨w2, hw2⟩ : ∃ w2, w.alloc (.cells (cellsB zD).toArray 23) = w2 := ⟨_, rfl⟩
  have HB2 : Hid (Below w.heap.size w w2) := by rw [← hw2]; exact (Below.refl _ _).alloc (Nat.le_refl _) _
  have HT2 : Hid (w2.there w.heap.size 0 32) := by rw [← hw2]; exact alloc_thereAt _ _ _ 32 _ rfl zD_size.symm
  have hc2 : w2.cell? ⟨g, 0, none⟩ = some (.slice a 67 c) := (HB2.out.cell (p := ⟨g, 0, none⟩) (cell_block hg)).trans hg
  have hlen := R.len i hi
  obtain ⟨ba, oa, rfl, hcs⟩ : ∃ ba oa, a = some ⟨ba, oa, none⟩ ∧ ∀ i, i < 67 → DAt w ba (oa + 32 * i) (sig.getD i []) := by
    rcases R.2.2 with h | h
    · omega
    · exact h
  have hd := hcs i hi
  have HD2 : Hid (DAt w2 ba (oa + i * 32) (sig.getD i [])) := by
    rw [show oa + i * 32 = oa + 32 * i by omega]
    exact hd.below HB2.out (cell_block (hd.cell 0 (by omega)))
  clear hg hd hcs R
  generalize sig.getD i [] = D at *
  have i0 : (0 : Int) ≤ (i : Int) := by omega
  have i1 : (i : Int) < 67 := by omega
  go_enter Tryd.func52, Tryd.ntmps52
  go_wp2_with (first
    | (refine wpList_allocE (by rfl) 23 (by rfl) (cellsB zD).toArray Tryd.zeroDg w.heap.size rfl w2 hw2 ?_)
    | (refine wpList_load_mid (by rfl) 23 (.tmp 6) (by rfl) ba (oa + i * 32) (by rfl) (cellsB D) _ HD2.out Tryd.underlying23 (by rfl) (by rw [cellsB_length, hlen]; exact Tryd.sizeDg) ?_)
    | (refine wpList_store_mid (by rfl) 23 (.tmp 3) (.tmp 7) (by rfl) w.heap.size 0 (cellsB D).toArray (by rfl) (by rfl) (by rw [cellsB_size, hlen]; exact HT2.out) (by rw [cellsB_size, hlen]; exact Tryd.sizeDg) (all_oneCell_toArray (cellsB_one _)) ?_))
  refine bodyPost_ret (v := digestV D) (run_results_row Tryd.results52 _ _ w.heap.size 0 (by rfl) (cellsB D) (World.rangeAt_setCells_same _ _ _ _ (by rw [cellsB_length, hlen]; exact HT2.out)) _ Tryd.underlying23 (by rfl) (by rw [cellsB_length, hlen]; exact Tryd.sizeDg)) rfl ⟨rfl, ?_⟩
  exact below_setCells _ (Nat.le_refl _) _ _ _ HB2.out

set_option maxRecDepth 100000 in
set_option maxHeartbeats 1000000 in
theorem wwots_secrets (seed : List UInt8) (w : World) (G : Env w) (hs : seed.length = 32) :
    Calls Tryd.prog 32 #[digestV seed] w fun e w' => (∃ p, e = .returned (.func (.func 49) #[] #[p]) ∧ Source 49 p (wotsSecL seed) w') ∧ Below w.heap.size w w' := by
  obtain ⟨w2, hw2⟩ : ∃ w2, w.alloc (.cells (cellsB seed).toArray 23) = w2 := ⟨_, rfl⟩
  have HB2 : Hid (Below w.heap.size w w2) := by rw [← hw2]; exact (Below.refl _ _).alloc (Nat.le_refl _) _
  have HS2 : Hid (w2.heap.size = w.heap.size + 1) := by unfold Hid; rw [← hw2]; simp
  have HM2 : Hid (DAt w2 w.heap.size 0 seed) := by rw [← hw2]; exact box_dat w seed _
  have HG : Hid (Env w2) := G.below HB2.out
  have hmf : ∀ (fn : Fn) (first cap : Array Value) (w : World), (Instr.makeFunc fn first cap).run Tryd.prog w = .ok (.func fn first cap) w := fun _ _ _ _ => rfl
  clear G
  go_enter Tryd.func32, Tryd.ntmps32
  go_wp2_with fail
  try rw [hw2]
  go_ret
  refine ⟨⟨_, rfl, fun args wx => by rfl, fun wx hx i hi => ?_⟩, HB2.out⟩
  exact wwots_secret1 seed w.heap.size i wx (HG.out.below hx) hs (HM2.out.below hx (by have := HS2.out; omega)) (by omega)

set_option maxRecDepth 100000 in
set_option maxHeartbeats 1000000 in
theorem wwots_shown (sig : List (List UInt8)) (a : Option Addr) (c : Nat) (w : World) (R : DRow w a 67 sig) :
    Calls Tryd.prog 35 #[.slice a 67 c] w fun e w' => (∃ p, e = .returned (.func (.func 52) #[] #[p]) ∧ Source 52 p (fun i => sig.getD i []) w') ∧ Below w.heap.size w w' := by
  have HRw : Hid (DRow w a 67 sig) := R
  have hmf : ∀ (fn : Fn) (first cap : Array Value) (w : World), (Instr.makeFunc fn first cap).run Tryd.prog w = .ok (.func fn first cap) w := fun _ _ _ _ => rfl
  clear R
  go_enter Tryd.func35, Tryd.ntmps35
  go_wp2_with fail
  go_ret
  have hb : Below w.heap.size w (w.alloc (.cells #[.slice a 67 c] 41)) := (Below.refl _ _).alloc (Nat.le_refl _) _
  refine ⟨⟨_, rfl, fun args wx => by rfl, fun wx hx i hi => ?_⟩, hb⟩
  refine wwots_shown1 sig a c w.heap.size i wx ((HRw.out.below hb).below hx) ?_ hi
  rw [hx.cell (p := ⟨w.heap.size, 0, none⟩) (by simp), World.cell?_alloc_mark]
  rfl
end Go.Proofs.YtghiniaijobonaaDoor
