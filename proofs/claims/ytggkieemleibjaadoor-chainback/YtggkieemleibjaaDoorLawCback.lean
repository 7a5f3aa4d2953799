/- The law ChainBack: a chain is told from its end back to its seed, with few kept. -/
import Derived.Test.YtggkieemleibjaaDoorWcnew
import Derived.Test.YtggkieemleibjaaDoorSameH
import Derived.Test.YtggkieemleibjaaDoorTold
import Derived.Deep.RegionHeld3
namespace Go.Proofs.YtggkieemleibjaaDoor
open Go.RowKit
set_option linter.unusedVariables false
set_option linter.unusedSimpArgs false

set_option maxRecDepth 100000 in
set_option maxHeartbeats 2000000 in
theorem cback_out (d : List UInt8) (m : Int) (w : World) (HH : Handle w) (hd : d.length = 32) (hm : m < 0 ∨ 10 < m) :
    Calls Tryd.prog 5 #[digestV d, .int .i64 m] w fun e w' => e = .returned (.bool true) ∧ Below w.heap.size w w' := by
  obtain ⟨w2, hw2⟩ : ∃ w2, w.alloc (.cells (cellsB d).toArray 23) = w2 := ⟨_, rfl⟩
  have HB2 : Hid (Below w.heap.size w w2) := by rw [← hw2]; exact (Below.refl _ _).alloc (Nat.le_refl _) _
  have HD2 : Hid (DAt w2 w.heap.size 0 d) := by rw [← hw2]; exact box_dat w d _
  have HM : Hid (m < 0 ∨ 10 < m) := hm
  have HHW : Hid (Handle w) := HH
  clear hm HH
  go_enter Tryd.func5, Tryd.ntmps5
  go_wp2_with (refine wpList_load_mid (by rfl) 23 (.tmp 2) (by rfl) w.heap.size 0 (by rfl) (cellsB d) _ HD2.out Tryd.underlying23 (by rfl) (by rw [cellsB_length, hd]; exact Tryd.sizeDg) ?_)
  clear hw2
  refine (wcnew_out d m w2 hd HM.out).mono ?_
  rintro e w3 ⟨rfl, hb3⟩
  have HB3 : Hid (Below w.heap.size w w3) := below_trans HB2.out hb3
  have HE : Hid (∀ wx, Below w.heap.size w wx → Handle wx) := fun wx hx => HHW.out.below hx
  clear hb3 HB2 HD2
  have hm := HM.out
  clear HM
  by_cases h1 : m < 0
  · clear hm
    go_wp2_with fail
    refine (error_errno 2 2 _ (HE.out _ HB3.out)).mono ?_
    rintro e w4 ⟨rfl, hb4⟩
    rw [show decide ((2 : Int) = 2) = true from rfl]
    go_wp2
    go_ret
    exact ⟨rfl, below_trans HB3.out hb4⟩
  · have h2 : 10 < m := by omega
    clear hm
    go_wp2_with fail
    refine (error_errno 2 2 _ (HE.out _ HB3.out)).mono ?_
    rintro e w4 ⟨rfl, hb4⟩
    rw [show decide ((2 : Int) = 2) = true from rfl]
    go_wp2
    go_ret
    exact ⟨rfl, below_trans HB3.out hb4⟩

def keptL (d : List UInt8) (k p : Nat) : List (List UInt8) := (keptP k 0 p).map (walkL d)
/-- What is kept while J are left to tell. -/
def leftL (d : List UInt8) (k : Nat) : Nat → List (List UInt8)
  | 0 => []
  | p + 1 => keptL d k p
def lastL (d : List UInt8) (r J : Nat) : List UInt8 := if J = r + 1 then zD else walkL d J
theorem lastL_length {d : List UInt8} (hd : d.length = 32) (r J : Nat) : (lastL d r J).length = 32 := by
  unfold lastL
  split
  · rfl
  · exact walkL_length hd _
theorem keptL_len (d : List UInt8) {k p : Nat} (hk : k ≤ 10) (hp : p < 2 ^ k) : 1 ≤ (keptL d k p).length ∧ (keptL d k p).length ≤ k + 1 := by
  unfold keptL
  rw [List.length_map]
  by_cases h0 : p = 0
  · subst h0
    rw [kept_zero k hk]
    simp
  · obtain ⟨A, q, e1, e2, e3, e4⟩ := kept_step hk (by omega) hp
    rw [e1]
    simp
    omega
theorem dat_gr {w w' : World} {b o g : Nat} {l : List UInt8} (h : DAt w b o l) (hg : w.grownBy w' (some g)) (hb : b < w.heap.size) (hne : b ≠ g) : DAt w' b o l := by
  have hk := hg.block b hb (by intro e; exact hne (Option.some.inj e))
  intro j v hj
  rw [World.cell?_of_block (w := w) (a := ⟨b, o + j, none⟩) hk]
  exact h j v hj
theorem there_gr {w w' : World} {b o n g : Nat} (h : w.there b o n) (hg : w.grownBy w' (some g)) (hb : b < w.heap.size) (hne : b ≠ g) : w'.there b o n := by
  have hk := hg.block b hb (by intro e; exact hne (Option.some.inj e))
  intro j hj
  rw [World.cell?_of_block (w := w) (a := ⟨b, o + j, none⟩) hk, World.frozen?_of_block (w := w) (a := ⟨b, o + j, none⟩) hk]
  exact h j hj
theorem wcnext_at (g k p : Nat) (d : List UInt8) (w : World) (G : Env w) (Z : Db w) (hgt : g ≠ 3) (hgz : g ≠ 2) (hk : k ≤ 10) (hp : p < 2 ^ k) (H : KC w g (keptL d k p) p) :
    Calls Tryd.prog 12 #[.pointer (some ⟨g, 0, none⟩)] w fun e w' => e = .returned (.tuple #[digestV (walkL d p), .nilIface]) ∧ KC w' g (leftL d k p) (p - 1) ∧ w.grownBy w' (some g) := by
  by_cases h0 : p = 0
  · subst h0
    have e : keptL d k 0 = [] ++ [walkL d 0] := by
      unfold keptL
      rw [kept_zero k hk]
      rfl
    rw [e] at H
    exact wcnext_last g [] (walkL d 0) w H
  · have h1024 : p < 1024 := Nat.lt_of_lt_of_le hp (Nat.le_trans (Nat.pow_le_pow_right (by omega) hk) (by decide))
    obtain ⟨A, q, e1, e2, e3, e4⟩ := kept_step hk (by omega) hp
    have e : keptL d k p = A.map (walkL d) ++ [walkL d q] ++ [walkL d p] := by
      unfold keptL
      rw [e1]
      simp
    rw [e] at H
    have hn := wcnext_more g p (A.map (walkL d)) (walkL d q) (walkL d p) w G Z hgt hgz H (by omega) h1024 (by rw [List.length_map]; omega)
    refine hn.mono ?_
    rintro e w' ⟨rfl, h2, h3⟩
    refine ⟨rfl, ?_, h3⟩
    have e5 : leftL d k p = A.map (walkL d) ++ [walkL d q] ++ fillL (walkL d q) (tzN 10 p) := by
      obtain ⟨p', rfl⟩ : ∃ p', p = p' + 1 := ⟨p - 1, by omega⟩
      show keptL d k p' = _
      unfold keptL
      rw [Nat.add_sub_cancel] at e2
      rw [e2, fillL_places]
      simp
    rw [e5]
    exact h2

set_option maxRecDepth 100000 in
set_option maxHeartbeats 2000000 in
theorem cback_in (d : List UInt8) (k : Nat) (w : World) (G : Env w) (Z : Db w) (HH : Handle w) (hd : d.length = 32) (hk : k ≤ 10) :
    Calls Tryd.prog 5 #[digestV d, .int .i64 (k : Int)] w fun e w' => e = .returned (.bool true) ∧ Below w.heap.size w w' := by
  obtain ⟨w2, hw2⟩ : ∃ w2, w.alloc (.cells (cellsB d).toArray 23) = w2 := ⟨_, rfl⟩
  have HB2 : Hid (Below w.heap.size w w2 ∧ w.heap.size < w2.heap.size) := by rw [← hw2]; exact ⟨(Below.refl _ _).alloc (Nat.le_refl _) _, by simp⟩
  have HD2 : Hid (DAt w2 w.heap.size 0 d) := by rw [← hw2]; exact box_dat w d _
  have HE : Hid (∀ wx, Below w.heap.size w wx → Env wx ∧ Db wx ∧ Handle wx) := fun wx hx => ⟨G.below hx, Z.below hx, HH.below hx⟩
  have htab : 3 < w.heap.size := cell_block (G 0 (by omega))
  have hzab : 2 < w.heap.size := cell_block (Z 0 (by omega))
  clear G Z HH
  go_enter Tryd.func5, Tryd.ntmps5
  go_wp2_with (refine wpList_load_mid (by rfl) 23 (.tmp 2) (by rfl) w.heap.size 0 (by rfl) (cellsB d) _ HD2.out Tryd.underlying23 (by rfl) (by rw [cellsB_length, hd]; exact Tryd.sizeDg) ?_)
  clear hw2
  refine (wcnew_any d k w2 (HE.out _ HB2.out.1).1 hd hk).mono ?_
  rintro e w3 ⟨g, rfl, hk3, hg3, hb3⟩
  have HK3 : Hid (KC w3 g (keptL d k (2 ^ k - 1)) (2 ^ k - 1)) := by
    have e : keptL d k (2 ^ k - 1) = d :: fillL d k := by
      unfold keptL
      rw [kept_first k hk, List.map_cons, ← fillL_places]
      rfl
    unfold Hid
    rw [e]
    exact hk3
  have hgs : w.heap.size < g := by have := HB2.out.2; omega
  have HB3 : Hid (Below w.heap.size w w3) := below_trans HB2.out.1 hb3
  have HD3 : Hid (DAt w3 w.heap.size 0 d) := HD2.out.below hb3 HB2.out.2
  clear hk3 hg3 hb3 HB2 HD2
  have h1 : ¬ (k : Int) < 0 := by omega
  have h2 : ¬ (10 : Int) < (k : Int) := by omega
  go_wp2_with fail
  go_loopw [8, 9] (fun nv i wr => ∃ j : Nat, j ≤ k ∧ i = .int .i64 (j : Int) ∧ nv = .int .i64 ((2 ^ j : Nat) : Int) ∧ Hid (wr = w3)) (fun _ i _ => k - (intOf i).toNat)
  case atStart => exact ⟨0, Nat.zero_le _, rfl, rfl, rfl⟩
  case round =>
    obtain ⟨j, hj, rfl, rfl, hw⟩ := hrel
    have HP : Hid (2 ^ (j + 1) = 2 * 2 ^ j) := by unfold Hid; rw [Nat.pow_succ]; omega
    by_cases hlt : j < k
    · have hP : 2 ^ j ≤ 512 := Nat.le_trans (Nat.pow_le_pow_right (by omega) (show j ≤ 9 by omega)) (by decide)
      have hlt' : (j : Int) < (k : Int) := by omega
      generalize 2 ^ j = P at *
      go_wp2
      go_roundw
      case rel => exact ⟨j + 1, by omega, by go_num, by rw [HP.out]; go_num, hw⟩
      case measure => simp [intOf]; omega
    · obtain rfl : j = k := by omega
      obtain rfl := hw.out
      clear HP hw
      obtain ⟨r, hr⟩ : ∃ r, 2 ^ j = r + 1 := ⟨2 ^ j - 1, by have := Nat.pow_pos (n := j) (show 0 < 2 by omega); omega⟩
      have hr10 : r ≤ 1023 := by
        have : 2 ^ j ≤ 2 ^ 10 := Nat.pow_le_pow_right (by omega) hk
        rw [hr] at this
        have e : 2 ^ 10 = 1024 := by decide
        omega
      have HR : Hid (2 ^ j = r + 1) := hr
      rw [hr] at HK3 ⊢
      rw [Nat.add_sub_cancel] at HK3
      clear hr
      obtain ⟨w4, hw4⟩ : ∃ w4, wr.alloc (.cells (cellsB zD).toArray 23) = w4 := ⟨_, rfl⟩
      have hb4 : Below wr.heap.size wr w4 := by rw [← hw4]; exact (Below.refl _ _).alloc (Nat.le_refl _) _
      have hsl : wr.heap.size < w4.heap.size := by rw [← hw4]; simp
      have HT4 : Hid (w4.there wr.heap.size 0 32) := by rw [← hw4]; exact alloc_thereAt _ _ _ 32 _ rfl zD_size.symm
      have HZ4 : Hid (DAt w4 wr.heap.size 0 zD) := by rw [← hw4]; exact box_dat _ _ _
      have hgl := HK3.out.block
      have HK4 : Hid (KC w4 g (keptL d j r) r) := HK3.out.below hb4 hgl
      have HD4 : Hid (DAt w4 w.heap.size 0 d) := HD3.out.below hb4 (by omega)
      have HB4 : Hid (Below w.heap.size w w4) := below_trans HB3.out hb4
      clear HK3 HD3 HB3 hb4
      go_wp2_with (first
        | (refine wpList_allocE (by rfl) 23 (by rfl) (cellsB zD).toArray Tryd.zeroDg wr.heap.size rfl w4 hw4 ?_))
      clear hw4
      have hr2 : r + 1 ≤ r + 1 := Nat.le_refl _
      have HINV : Hid (KC w4 g (leftL d j (r + 1)) r ∧ DAt w4 wr.heap.size 0 (lastL d r (r + 1)) ∧ w4.there wr.heap.size 0 32 ∧ DAt w4 w.heap.size 0 d ∧ Below w.heap.size w w4 ∧ wr.heap.size < w4.heap.size) := by
        refine ⟨HK4.out, ?_, HT4.out, HD4.out, HB4.out, hsl⟩
        unfold lastL
        rw [if_pos rfl]
        exact HZ4.out
      clear HK4 HT4 HD4 HB4 hsl HZ4
      generalize wr.heap.size = gl at *
      go_loopw [11] (fun i wq => ∃ J : Nat, J ≤ r + 1 ∧ i = .int .i64 ((J : Int) - 1) ∧ KC wq g (leftL d j J) (J - 1) ∧ DAt wq gl 0 (lastL d r J) ∧ wq.there gl 0 32 ∧ DAt wq w.heap.size 0 d ∧ Below w.heap.size w wq ∧ gl < wq.heap.size) (fun i _ => (intOf i + 1).toNat)
      case atStart => exact ⟨r + 1, hr2, by go_num, HINV.out⟩
      case round =>
        clear HINV hr2
        obtain ⟨J, hJ, rfl, hK, hL, hT, hD, hB, hs⟩ := hrel
        cases J with
        | zero =>
          have HK : Hid (KC wr g [] 0) := hK
          have HL : Hid (DAt wr gl 0 d) := by
            have e : lastL d r 0 = d := by unfold lastL; rw [if_neg (by omega)]; rfl
            rw [e] at hL
            exact hL
          have HD : Hid (DAt wr w.heap.size 0 d) := hD
          have HB : Hid (Below w.heap.size w wr) := hB
          clear hK hL hT hD hB
          go_wp2_with fail
          refine (wcnext_none g 0 wr HK.out).mono ?_
          rintro e w5 ⟨rfl, hk5, hb5⟩
          have HK5 : Hid (KC w5 g [] 0) := hk5
          have HL5 : Hid (DAt w5 gl 0 d ∧ gl < w5.heap.size) := ⟨HL.out.below hb5 hs, Nat.lt_of_lt_of_le hs hb5.size⟩
          have hsw := HB.out.size
          have HD5 : Hid (DAt w5 w.heap.size 0 d) := HD.out.below hb5 (by omega)
          have HB5 : Hid (Below w.heap.size w w5) := below_trans HB.out hb5
          clear hk5 hb5 HK HL HD HB hs hsw
          go_wp2_with fail
          refine (error_errno 6 6 _ (HE.out _ HB5.out).2.2).mono ?_
          rintro e w6 ⟨rfl, hb6⟩
          rw [show decide ((6 : Int) = 6) = true from rfl]
          have HK6 : Hid (KC w6 g [] 0) := HK5.out.below hb6 HK5.out.block
          have HL6 : Hid (DAt w6 gl 0 d) := HL5.out.1.below hb6 HL5.out.2
          have HD6 : Hid (DAt w6 w.heap.size 0 d) := HD5.out.below hb6 (by have := HL5.out.2; omega)
          have HB6 : Hid (Below w.heap.size w w6) := below_trans HB5.out hb6
          clear hb6 HK5 HL5 HD5 HB5
          go_wp2_with (first
            | (refine wpList_load_midG (by rfl) 23 (.tmp 10) (by rfl) gl 0 (by rfl) (cellsB d) _ HL6.out Tryd.underlying23 (by rfl) (by rw [cellsB_length, hd]; exact Tryd.sizeDg) ?_)
            | (refine wpList_load_midG (by rfl) 23 (.tmp 2) (by rfl) w.heap.size 0 (by rfl) (cellsB d) _ HD6.out Tryd.underlying23 (by rfl) (by rw [cellsB_length, hd]; exact Tryd.sizeDg) ?_)
            | (refine wpList_eqD (.tmp 126) (.tmp 127) (by rfl) (by rfl) d d hd hd (by rfl) (by rfl) true (decide_eq_true rfl) ?_))
          refine (wkept_any g 0 [] w6 HK6.out).mono ?_
          rintro e w7 ⟨rfl, rfl⟩
          rw [show ((([] : List (List UInt8)).length : Nat) : Int) = 0 from rfl]
          go_wp2
          go_ret
          exact ⟨rfl, HB6.out⟩
        | succ p =>
          have hp : p < 2 ^ j := by rw [HR.out]; omega
          have hN := keptL_len d hk hp
          have HK : Hid (KC wr g (keptL d j p) p) := hK
          have HL : Hid (DAt wr gl 0 (lastL d r (p + 1))) := hL
          have HT : Hid (wr.there gl 0 32) := hT
          have HD : Hid (DAt wr w.heap.size 0 d) := hD
          have HB : Hid (Below w.heap.size w wr) := hB
          have HP : Hid (p < 2 ^ j) := hp
          clear hK hL hT hD hB hp
          have ecast : ((p + 1 : Nat) : Int) - 1 = (p : Int) := by omega
          rw [ecast]
          clear ecast
          have hp0 : (0 : Int) ≤ (p : Int) := by omega
          go_wp2_with fail
          refine (wkept_any g p (keptL d j p) wr HK.out).mono ?_
          rintro e w5 ⟨rfl, rfl⟩
          generalize (keptL d j p).length = N at *
          go_wp2_with fail
          refine (wcnext_at g j p d w5 (HE.out _ HB.out).1 (HE.out _ HB.out).2.1 (by omega) (by omega) hk HP.out HK.out).mono ?_
          rintro e w6 ⟨rfl, hk6, hg6⟩
          have hx := walkL_length hd p
          generalize hXe : walkL d p = X at *
          have HX : Hid (walkL d p = X) := hXe
          clear hXe
          have hwl : w.heap.size < w5.heap.size := by omega
          obtain ⟨w7, hw7⟩ : ∃ w7, w6.alloc (.cells (cellsB zD).toArray 23) = w7 := ⟨_, rfl⟩
          have ht7 : Hid (w7.there w6.heap.size 0 32) := by rw [← hw7]; exact alloc_thereAt _ _ _ 32 _ rfl zD_size.symm
          have hb8 : Below w6.heap.size w6 (w7.setCells w6.heap.size 0 (cellsB X)) := by rw [← hw7]; exact new_stored _ _ _
          have hs6 := hg6.size
          have HX8 : Hid (DAt (w7.setCells w6.heap.size 0 (cellsB X)) w6.heap.size 0 X ∧ w6.heap.size < (w7.setCells w6.heap.size 0 (cellsB X)).heap.size) := ⟨dat_stored ht7.out hx, cell_block ((dat_stored ht7.out hx).cell 0 (by omega))⟩
          have HK8 : Hid (KC (w7.setCells w6.heap.size 0 (cellsB X)) g (leftL d j p) (p - 1)) := hk6.below hb8 hk6.block
          have HL8 : Hid (DAt (w7.setCells w6.heap.size 0 (cellsB X)) gl 0 (lastL d r (p + 1))) := (dat_gr HL.out hg6 hs (by omega)).below hb8 (by omega)
          have HT8 : Hid ((w7.setCells w6.heap.size 0 (cellsB X)).there gl 0 32) := there_below (there_gr HT.out hg6 hs (by omega)) hb8 (by omega)
          have HD8 : Hid (DAt (w7.setCells w6.heap.size 0 (cellsB X)) w.heap.size 0 d) := (dat_gr HD.out hg6 hwl (by omega)).below hb8 (by omega)
          have HB8 : Hid (Below w.heap.size w (w7.setCells w6.heap.size 0 (cellsB X))) := below_trans (below_gr HB.out hg6 HB.out.size (by omega)) hb8
          have hgd : gl < w6.heap.size := by omega
          clear hk6 hg6 hb8 hs6 HK HL HT HD HB hs hwl
          generalize hw8 : w7.setCells w6.heap.size 0 (cellsB X) = w8 at *
          have hN1 : ¬ (N : Int) < 1 := by omega
          have hN2 : ¬ (j : Int) + 1 < (N : Int) := by omega
          have hgk := HK8.out.block
          have HKEEP : Hid (∀ wx, Below w8.heap.size w8 wx → KC wx g (leftL d j p) (p - 1) ∧ DAt wx gl 0 (lastL d r (p + 1)) ∧ wx.there gl 0 32 ∧ DAt wx w.heap.size 0 d ∧ Below w.heap.size w wx ∧ DAt wx w6.heap.size 0 X ∧ Env wx) := fun wx hx => by
            have hb := below_trans HB8.out hx
            have h68 := HX8.out.2
            exact ⟨HK8.out.below hx hgk, HL8.out.below hx (by omega), there_below HT8.out hx (by omega), HD8.out.below hx (by omega), hb, HX8.out.1.below hx h68, (HE.out _ hb).1⟩
          have HSZ : Hid (gl < w8.heap.size ∧ w6.heap.size < w8.heap.size) := ⟨by have := HX8.out.2; omega, HX8.out.2⟩
          clear HK8 HL8 HT8 HX8 HB8 HD8 hgk
          by_cases hpr : p = r
          · subst hpr
            go_wp2_with (first
              | (refine wpList_allocE (by rfl) 23 (by rfl) (cellsB zD).toArray Tryd.zeroDg w6.heap.size rfl w7 hw7 ?_)
              | (refine wpList_store_mid (by rfl) 23 (.tmp 13) (.tmp 63) (by rfl) w6.heap.size 0 (cellsB X).toArray (by rfl) (by rfl) (by rw [cellsB_size, hx]; exact ht7.out) (by rw [cellsB_size, hx]; exact Tryd.sizeDg) (all_oneCell_toArray (cellsB_one _)) ?_; rw [show (cellsB X).toArray.toList = cellsB X from rfl, hw8])
              | (refine wpList_load_mid (by rfl) 23 (.tmp 2) (by rfl) w.heap.size 0 (by rfl) (cellsB d) _ (HKEEP.out _ (Below.refl _ _)).2.2.2.1 Tryd.underlying23 (by rfl) (by rw [cellsB_length, hd]; exact Tryd.sizeDg) ?_))
            clear hw7 hw8 ht7
            refine (wchain_walk d 0 w8 (HKEEP.out _ (Below.refl _ _)).2.2.2.2.2.2 hd (by omega)).mono ?_
            rintro e w9 ⟨rfl, hb9⟩
            have hy := walkL_length hd 0
            have HY : Hid (walkL d 0 = walkL d (p - p)) := by unfold Hid; rw [Nat.sub_self]
            generalize walkL d 0 = Y at *
            obtain ⟨wA, hwA⟩ : ∃ wA, w9.alloc (.cells (cellsB zD).toArray 23) = wA := ⟨_, rfl⟩
            have htA : Hid (wA.there w9.heap.size 0 32) := by rw [← hwA]; exact alloc_thereAt _ _ _ 32 _ rfl zD_size.symm
            have hbB : Below w9.heap.size w9 (wA.setCells w9.heap.size 0 (cellsB Y)) := by rw [← hwA]; exact new_stored _ _ _
            have HBB : Hid (Below w8.heap.size w8 (wA.setCells w9.heap.size 0 (cellsB Y)) ∧ w8.heap.size ≤ w9.heap.size) := ⟨hb9.trans (hbB.mono hb9.size), hb9.size⟩
            have HDB : Hid (DAt (wA.setCells w9.heap.size 0 (cellsB Y)) w9.heap.size 0 Y ∧ (wA.setCells w9.heap.size 0 (cellsB Y)).there w9.heap.size 0 32) := ⟨dat_stored htA.out hy, World.there_setCells htA.out _ _ _⟩
            clear hb9 hbB
            generalize hwB : wA.setCells w9.heap.size 0 (cellsB Y) = wB at *
            go_wp2_with (first
              | (refine wpList_allocE (by rfl) 23 (by rfl) (cellsB zD).toArray Tryd.zeroDg w9.heap.size rfl wA hwA ?_)
              | (refine wpList_store_mid (by rfl) 23 (.tmp 15) (.tmp 84) (by rfl) w9.heap.size 0 (cellsB Y).toArray (by rfl) (by rfl) (by rw [cellsB_size, hy]; exact htA.out) (by rw [cellsB_size, hy]; exact Tryd.sizeDg) (all_oneCell_toArray (cellsB_one _)) ?_; rw [show (cellsB Y).toArray.toList = cellsB Y from rfl, hwB]))
            clear hwA htA hwB
            rw [HY.out] at HDB
            clear hy HY
            generalize w9.heap.size = ge at *
            go_loopw [16, 17] (fun ev sv wq => ∃ s : Nat, s ≤ p ∧ ev = .nilIface ∧ sv = .int .i64 (s : Int) ∧ Below w8.heap.size w8 wq ∧ DAt wq ge 0 (walkL d (p - s)) ∧ wq.there ge 0 32) (fun _ sv _ => (intOf sv).toNat)
            case atStart => exact ⟨p, Nat.le_refl _, rfl, rfl, HBB.out.1, HDB.out.1, HDB.out.2⟩
            case round =>
              obtain ⟨s, hs, rfl, rfl, hBq, hDq, hTq⟩ := hrel
              have HBq : Hid (Below w8.heap.size w8 wr ∧ w8.heap.size ≤ ge) := ⟨hBq, HBB.out.2⟩
              have HDq : Hid (DAt wr ge 0 (walkL d (p - s)) ∧ wr.there ge 0 32) := ⟨hDq, hTq⟩
              clear HBB HDB hBq hDq hTq
              by_cases hs0 : 0 < s
              · by_cases hs1 : s ≤ 1000
                · have hz := walkL_length hd (p - s)
                  have hs1' : (s : Int) ≤ 1000 := by omega
                  have HZ : Hid (walkL (walkL d (p - s)) s = walkL d (p - 0)) := by
                    unfold Hid
                    rw [← walkL_add]
                    congr 1
                    omega
                  generalize walkL d (p - s) = Z at *
                  have hs0' : (0 : Int) < (s : Int) := by omega
                  go_wp2_with (refine wpList_load_mid (by rfl) 23 (.tmp 15) (by rfl) ge 0 (by rfl) (cellsB Z) _ HDq.out.1 Tryd.underlying23 (by rfl) (by rw [cellsB_length, hz]; exact Tryd.sizeDg) ?_)
                  refine (wchain_walk Z s wr (HKEEP.out _ HBq.out.1).2.2.2.2.2.2 hz (by omega)).mono ?_
                  rintro e wE ⟨rfl, hbE⟩
                  have hE := walkL_length hz s
                  generalize hEe : walkL Z s = E at *
                  clear hEe
                  have hgw : ge < wr.heap.size := there_block HDq.out.2 (by omega)
                  have HBE : Hid (Below w8.heap.size w8 wE ∧ w8.heap.size ≤ ge) := ⟨HBq.out.1.trans (hbE.mono HBq.out.1.size), HBq.out.2⟩
                  have HTE : Hid (wE.there ge 0 32) := there_below HDq.out.2 hbE hgw
                  clear hbE HDq HBq hgw
                  go_wp2_with (refine wpList_store_mid (by rfl) 23 (.tmp 15) (.tmp 100) (by rfl) ge 0 (cellsB E).toArray (by rfl) (by rfl) (by rw [cellsB_size, hE]; exact HTE.out) (by rw [cellsB_size, hE]; exact Tryd.sizeDg) (all_oneCell_toArray (cellsB_one _)) ?_)
                  go_roundw
                  case rel => exact ⟨0, by omega, rfl, by first | rfl | go_num | (simp; omega), below_setCells _ HBE.out.2 _ _ _ HBE.out.1, by rw [← HZ.out]; exact dat_stored HTE.out hE, World.there_setCells HTE.out _ _ _⟩
                  case measure => simp [intOf]; omega
                · have hz := walkL_length hd (p - s)
                  have hs1' : ¬ (s : Int) ≤ 1000 := by omega
                  have HZ : Hid (walkL (walkL d (p - s)) 1000 = walkL d (p - (s - 1000))) := by
                    unfold Hid
                    rw [← walkL_add]
                    congr 1
                    omega
                  generalize walkL d (p - s) = Z at *
                  have hs0' : (0 : Int) < (s : Int) := by omega
                  go_wp2_with (refine wpList_load_mid (by rfl) 23 (.tmp 15) (by rfl) ge 0 (by rfl) (cellsB Z) _ HDq.out.1 Tryd.underlying23 (by rfl) (by rw [cellsB_length, hz]; exact Tryd.sizeDg) ?_)
                  refine (wchain_walk Z 1000 wr (HKEEP.out _ HBq.out.1).2.2.2.2.2.2 hz (by omega)).mono ?_
                  rintro e wE ⟨rfl, hbE⟩
                  have hE := walkL_length hz 1000
                  generalize hEe : walkL Z 1000 = E at *
                  clear hEe
                  have hgw : ge < wr.heap.size := there_block HDq.out.2 (by omega)
                  have HBE : Hid (Below w8.heap.size w8 wE ∧ w8.heap.size ≤ ge) := ⟨HBq.out.1.trans (hbE.mono HBq.out.1.size), HBq.out.2⟩
                  have HTE : Hid (wE.there ge 0 32) := there_below HDq.out.2 hbE hgw
                  clear hbE HDq HBq hgw
                  go_wp2_with (refine wpList_store_mid (by rfl) 23 (.tmp 15) (.tmp 100) (by rfl) ge 0 (cellsB E).toArray (by rfl) (by rfl) (by rw [cellsB_size, hE]; exact HTE.out) (by rw [cellsB_size, hE]; exact Tryd.sizeDg) (all_oneCell_toArray (cellsB_one _)) ?_)
                  go_roundw
                  case rel => exact ⟨(s - 1000), by omega, rfl, by first | rfl | go_num | (simp; omega), below_setCells _ HBE.out.2 _ _ _ HBE.out.1, by rw [← HZ.out]; exact dat_stored HTE.out hE, World.there_setCells HTE.out _ _ _⟩
                  case measure => simp [intOf]; omega
              · obtain rfl : s = 0 := by omega
                rw [Nat.sub_zero, HX.out] at HDq
                have HBf : Hid (Below w8.heap.size w8 wr) := HBq.out.1
                clear HBq
                have HLL : Hid (lastL d p p = X) := by
                  unfold Hid lastL
                  rw [if_neg (by omega)]
                  exact HX.out
                have hns : ¬ (0 : Int) < ((0 : Nat) : Int) := by omega
                go_wp2_with (first
                  | (refine wpList_load_midG (by rfl) 23 (.tmp 15) (by rfl) ge 0 (by rfl) (cellsB X) _ HDq.out.1 Tryd.underlying23 (by rfl) (by rw [cellsB_length, hx]; exact Tryd.sizeDg) ?_)
                  | (refine wpList_load_midG (by rfl) 23 (.tmp 13) (by rfl) w6.heap.size 0 (by rfl) (cellsB X) _ (HKEEP.out _ HBf.out).2.2.2.2.2.1 Tryd.underlying23 (by rfl) (by rw [cellsB_length, hx]; exact Tryd.sizeDg) ?_)
                  | (refine wpList_neqD (.tmp 108) (.tmp 109) (by rfl) (by rfl) X X hx hx (by rfl) (by rfl) false (by simp) ?_)
                  | (refine wpList_load_mid (by rfl) 23 (.tmp 13) (by rfl) w6.heap.size 0 (by rfl) (cellsB X) _ (HKEEP.out _ HBf.out).2.2.2.2.2.1 Tryd.underlying23 (by rfl) (by rw [cellsB_length, hx]; exact Tryd.sizeDg) ?_)
                  | (refine wpList_store_mid (by rfl) 23 (.tmp 10) (.tmp 116) (by rfl) gl 0 (cellsB X).toArray (by rfl) (by rfl) (by rw [cellsB_size, hx]; exact (HKEEP.out _ HBf.out).2.2.1) (by rw [cellsB_size, hx]; exact Tryd.sizeDg) (all_oneCell_toArray (cellsB_one _)) ?_))
                have hkeep := HKEEP.out _ HBf.out
                go_roundw
                case rel =>
                  have hz := (gr_setCells gl (cellsB X) 0 wr).size
                  exact ⟨p, by omega, by go_num, hkeep.1.other (gr_setCells _ _ _ _) (by omega), by rw [HLL.out]; exact dat_stored hkeep.2.2.1 hx, World.there_setCells hkeep.2.2.1 _ _ _, World.rangeAt_setCells_apart hkeep.2.2.2.1 _ _ _ (.inl (by omega)), below_setCells _ (by omega) _ _ _ hkeep.2.2.2.2.1, by have := HSZ.out.1; have := HBf.out.size; omega⟩
                case measure => simp [intOf]
          · have hpr' : ¬ (p : Int) = (r : Int) := by omega
            go_wp2_with (first
              | (refine wpList_allocE (by rfl) 23 (by rfl) (cellsB zD).toArray Tryd.zeroDg w6.heap.size rfl w7 hw7 ?_)
              | (refine wpList_store_mid (by rfl) 23 (.tmp 13) (.tmp 63) (by rfl) w6.heap.size 0 (cellsB X).toArray (by rfl) (by rfl) (by rw [cellsB_size, hx]; exact ht7.out) (by rw [cellsB_size, hx]; exact Tryd.sizeDg) (all_oneCell_toArray (cellsB_one _)) ?_; rw [show (cellsB X).toArray.toList = cellsB X from rfl, hw8]))
            clear hw7 hw8 ht7
            have HLE : Hid (lastL d r (p + 1) = walkL X 1) := by
              unfold Hid lastL
              rw [if_neg (by omega), ← HX.out, ← walkL_add]
            have hL1 := walkL_length hx 1
            have HBd : Hid (Below w8.heap.size w8 w8.drew) := below_drewN w8 1
            have hSd : w8.drew.rangeAt w6.heap.size 0 (cellsB X) ∧ w8.drew.rangeAt gl 0 (cellsB (walkL X 1)) := by
              have := HKEEP.out _ HBd.out
              rw [HLE.out] at this
              exact ⟨this.2.2.2.2.2.1, this.2.1⟩
            refine wp_region_noPanic ?_
            refine wp_region_held_drew (S := fun w' => w'.rangeAt w6.heap.size 0 (cellsB X) ∧ w'.rangeAt gl 0 (cellsB (walkL X 1))) (by kernel_rfl) hSd (fun hHeld => ?_)
            try simp only [Act.put, List.setIfInBounds_toArray, List.set_cons_zero, List.set_cons_succ]
            generalize w8.drew = wd at *
            refine wpAnyH_take (i := 0) (v := .agg (cellsB X).toArray) (by simp only [List.getElem?_toArray, List.getElem?_cons_zero, List.getElem?_cons_succ]; rfl) (by kernel_rfl) (by kernel_rfl) (by kernel_rfl) (fun _ _ _ h => h)
              (yieldsIf_load_mid (by rfl) _ _ rfl _ _ rfl _ _ (fun w hw => hw.1) Tryd.underlying23 rfl (by rw [cellsB_length, hx]; exact Tryd.sizeDg)) hHeld ?_
            try simp only [Act.put, List.setIfInBounds_toArray, List.set_cons_zero, List.set_cons_succ]
            refine wpAnyH_take (i := 2) (v := .agg (cellsB (walkL X 1)).toArray) (by simp only [List.getElem?_toArray, List.getElem?_cons_zero, List.getElem?_cons_succ]; rfl) (by kernel_rfl) (by kernel_rfl) (by kernel_rfl) (fun _ _ _ h => h)
              (yieldsIf_load_mid (by rfl) _ _ rfl _ _ rfl _ _ (fun w hw => hw.2) Tryd.underlying23 rfl (by rw [cellsB_length, hL1]; exact Tryd.sizeDg)) hHeld ?_
            try simp only [Act.put, List.setIfInBounds_toArray, List.set_cons_zero, List.set_cons_succ]
            refine wpAnyH_ready (rs := [1]) (by kernel_rfl) (by simp) ?_
            refine AllReadyH.cons (by simp only [List.getElem?_toArray, List.getElem?_cons_zero, List.getElem?_cons_succ]; rfl) (fun K hK => ?_) AllReadyH.nil
            rw [if_pos (by rfl)]
            go_simp
            refine (wchain_step X wd (HKEEP.out _ HBd.out).2.2.2.2.2.2 hx).mono ?_
            rintro e wE ⟨rfl, hbE⟩
            have HBf : Hid (Below w8.heap.size w8 wE) := HBd.out.trans (hbE.mono HBd.out.size)
            clear hbE
            go_wp2_with fail
            refine hK.out _ _ (by
              have := HKEEP.out _ HBf.out
              rw [HLE.out] at this
              exact ⟨this.2.2.2.2.2.1, this.2.1⟩) (fun hHeld => ?_)
            clear hK K
            try simp only [Act.put, List.setIfInBounds_toArray, List.set_cons_zero, List.set_cons_succ]
            refine wpAnyH_take (i := 3) (v := .bool false) (by simp only [List.getElem?_toArray, List.getElem?_cons_zero, List.getElem?_cons_succ]; rfl) (by kernel_rfl) (by kernel_rfl) (by kernel_rfl) (fun _ _ _ h => h)
              (yieldsIf_neqD (by rfl) _ _ rfl (walkL X 1) (walkL X 1) hL1 hL1 rfl rfl false (by simp)) hHeld ?_
            try simp only [Act.put, List.setIfInBounds_toArray, List.set_cons_zero, List.set_cons_succ]
            refine wpAnyH_done (by kernel_rfl) (NoPanic.normal ?_) _
            clear hHeld
            have HLL : Hid (lastL d r p = X) := by
              unfold Hid lastL
              rw [if_neg (by omega)]
              exact HX.out
            go_wp2_with (first
              | (refine wpList_load_mid (by rfl) 23 (.tmp 13) (by rfl) w6.heap.size 0 (by rfl) (cellsB X) _ (HKEEP.out _ HBf.out).2.2.2.2.2.1 Tryd.underlying23 (by rfl) (by rw [cellsB_length, hx]; exact Tryd.sizeDg) ?_)
              | (refine wpList_store_mid (by rfl) 23 (.tmp 10) (.tmp 116) (by rfl) gl 0 (cellsB X).toArray (by rfl) (by rfl) (by rw [cellsB_size, hx]; exact (HKEEP.out _ HBf.out).2.2.1) (by rw [cellsB_size, hx]; exact Tryd.sizeDg) (all_oneCell_toArray (cellsB_one _)) ?_))
            have hkeep := HKEEP.out _ HBf.out
            go_roundw
            case rel =>
              have hz := (gr_setCells gl (cellsB X) 0 wE).size
              exact ⟨p, by omega, by go_num, hkeep.1.other (gr_setCells _ _ _ _) (by omega), by rw [HLL.out]; exact dat_stored hkeep.2.2.1 hx, World.there_setCells hkeep.2.2.1 _ _ _, World.rangeAt_setCells_apart hkeep.2.2.2.1 _ _ _ (.inl (by omega)), below_setCells _ (by omega) _ _ _ hkeep.2.2.2.2.1, by have := HSZ.out.1; have := HBf.out.size; omega⟩
            case measure => simp [intOf]

theorem cback_walk (d : List UInt8) (m : Int) (w : World) (G : Env w) (Z : Db w) (HH : Handle w) (hd : d.length = 32) (m1 : -9223372036854775808 ≤ m) (m2 : m ≤ 9223372036854775807) :
    Calls Tryd.prog 5 #[digestV d, .int .i64 m] w fun e w' => e = .returned (.bool true) ∧ Below w.heap.size w w' := by
  by_cases h : m < 0 ∨ 10 < m
  · exact cback_out d m w HH hd h
  · obtain ⟨k, rfl⟩ : ∃ k : Nat, m = (k : Int) := Int.eq_ofNat_of_zero_le (by omega)
    exact cback_in d k w G Z HH hd (by omega)
end Go.Proofs.YtggkieemleibjaaDoor
