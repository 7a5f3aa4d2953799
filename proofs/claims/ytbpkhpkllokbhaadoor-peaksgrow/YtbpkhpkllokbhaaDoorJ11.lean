/- Texts of this claim, joined: Wpeaks, Rturn, Rnum, Rblock. -/
import Derived.Test.YtbpkhpkllokbhaaDoorJ03
import Derived.Test.YtbpkhpkllokbhaaDoorJ09
import Derived.Test.YtbpkhpkllokbhaaDoorJ10
import Derived.OwnWalk
import Derived.Test.YtbpkhpkllokbhaaDoorJ01
import Derived.Deep.QuietTactic
import Derived.BigQuiet
import Derived.BigRegion
/- The contracts of peaks.check, Add and Root. -/
namespace Go.Proofs.YtbpkhpkllokbhaaDoor
open Go.RowKit
set_option linter.unusedVariables false
set_option linter.unusedSimpArgs false

set_option maxRecDepth 100000 in
set_option maxHeartbeats 1000000 in
theorem wcheck_ok (n p c : Nat) (a : Option Addr) (w : World) (hn : n ≤ 1073741824) (hp : p = onesT n) :
    Calls Tryd.prog 16 #[.int .i64 (n : Int), .slice a p c] w fun e w' => e = .returned (.nilIface) ∧ w' = w := by
  have g0 : ¬ (n : Int) < 0 := by omega
  have g1 : ¬ (1073741824 : Int) < (n : Int) := by omega
  have HP : Hid (p = onesT n) := hp
  clear hp
  go_enter Tryd.func16, Tryd.ntmps16
  go_wp2_with fail
  refine (wones_any n w (by omega)).mono ?_
  rintro e wq ⟨rfl, hq⟩
  have hq' : w = wq := hq.symm
  subst hq'
  rw [← HP.out]
  go_wp2_with fail
  go_ret
  exact ⟨rfl, rfl⟩
set_option maxRecDepth 100000 in
set_option maxHeartbeats 1000000 in
theorem wcheck_out (n : Int) (p c : Nat) (a : Option Addr) (w : World) (hn : n < 0 ∨ 1073741824 < n) (n1 : -9223372036854775808 ≤ n) (n2 : n ≤ 9223372036854775807) :
    Calls Tryd.prog 16 #[.int .i64 n, .slice a p c] w fun e w' => e = .returned (.iface 25 (.int .i64 2)) ∧ w' = w := by
  by_cases g0 : n < 0
  · clear hn
    go_enter Tryd.func16, Tryd.ntmps16
    go_wp2_with fail
    go_ret
    exact ⟨rfl, rfl⟩
  · have g1 : (1073741824 : Int) < n := by omega
    clear hn
    go_enter Tryd.func16, Tryd.ntmps16
    go_wp2_with fail
    go_ret
    exact ⟨rfl, rfl⟩
set_option maxRecDepth 100000 in
set_option maxHeartbeats 1000000 in
theorem wcheck_len (n p c : Nat) (a : Option Addr) (w : World) (hn : n ≤ 1073741824) (hp : p ≠ onesT n) :
    Calls Tryd.prog 16 #[.int .i64 (n : Int), .slice a p c] w fun e w' => e = .returned (.iface 25 (.int .i64 3)) ∧ w' = w := by
  have g0 : ¬ (n : Int) < 0 := by omega
  have g1 : ¬ (1073741824 : Int) < (n : Int) := by omega
  go_enter Tryd.func16, Tryd.ntmps16
  go_wp2_with fail
  refine (wones_any n w (by omega)).mono ?_
  rintro e wq ⟨rfl, hq⟩
  have hq' : w = wq := hq.symm
  subst hq'
  generalize onesT n = k at *
  have g2 : ((p : Int) == (k : Int)) = false := by simp; omega
  go_wp2_with fail
  go_ret
  exact ⟨rfl, rfl⟩
set_option maxRecDepth 100000 in
set_option maxHeartbeats 1000000 in
theorem wpeaks_addout (n : Int) (p c : Nat) (a : Option Addr) (ps : List (List UInt8)) (l : List UInt8) (w : World) (G : Env w) (R : DRow w a p ps) (hc : p ≤ c) (hp2 : 32 * p ≤ 140737488351232) (hn : n < 0 ∨ 1073741824 < n) (n1 : -9223372036854775808 ≤ n) (n2 : n ≤ 9223372036854775807) (hl : l.length = 32) :
    Calls Tryd.prog 9 #[.int .i64 n, .slice a p c, digestV l] w fun e w' => (∃ a' c', e = .returned (.tuple #[.slice a' 0 c', .iface 25 (.int .i64 2)])) ∧ Below w.heap.size w w' := by
  obtain ⟨w2, hw2⟩ : ∃ w2, (w.alloc (.cells (cellsB l).toArray 24)) = w2 := ⟨_, rfl⟩
  have HS2 : Hid (w2.heap.size = w.heap.size + 1) := by unfold Hid; rw [← hw2]; simp
  have HB2 : Hid (Below w.heap.size w w2) := by rw [← hw2]; exact (Below.refl _ _).alloc (Nat.le_refl _) _
  clear G R
  go_enter Tryd.func9, Tryd.ntmps9
  go_wp2_with fail
  refine (wcheck_out n p c a w2 hn n1 n2).mono ?_
  rintro e wq ⟨rfl, hq⟩
  have hq' : w2 = wq := hq.symm
  subst hq'
  clear hw2 hn
  go_wp2_with fail
  go_ret2
  exact ⟨⟨_, _, rfl⟩, HB2.out⟩
set_option maxRecDepth 100000 in
set_option maxHeartbeats 1000000 in
theorem wpeaks_addlen (n p c : Nat) (a : Option Addr) (ps : List (List UInt8)) (l : List UInt8) (w : World) (G : Env w) (R : DRow w a p ps) (hc : p ≤ c) (hp2 : 32 * p ≤ 140737488351232) (hn : n ≤ 1073741824) (hp : p ≠ onesT n) (hl : l.length = 32) :
    Calls Tryd.prog 9 #[.int .i64 (n : Int), .slice a p c, digestV l] w fun e w' => (∃ a' c', e = .returned (.tuple #[.slice a' 0 c', .iface 25 (.int .i64 3)])) ∧ Below w.heap.size w w' := by
  obtain ⟨w2, hw2⟩ : ∃ w2, (w.alloc (.cells (cellsB l).toArray 24)) = w2 := ⟨_, rfl⟩
  have HS2 : Hid (w2.heap.size = w.heap.size + 1) := by unfold Hid; rw [← hw2]; simp
  have HB2 : Hid (Below w.heap.size w w2) := by rw [← hw2]; exact (Below.refl _ _).alloc (Nat.le_refl _) _
  clear G R
  go_enter Tryd.func9, Tryd.ntmps9
  go_wp2_with fail
  refine (wcheck_len n p c a w2 hn hp).mono ?_
  rintro e wq ⟨rfl, hq⟩
  have hq' : w2 = wq := hq.symm
  subst hq'
  clear hw2 hn hp
  go_wp2_with fail
  go_ret2
  exact ⟨⟨_, _, rfl⟩, HB2.out⟩
theorem add_facts {w wr w4 : World} {a : Option Addr} {p k : Nat} {ps : List (List UInt8)} {x : List UInt8} {xs : List Value} (hown : w4.ownsRow wr.heap.size 24 32 (.slice (some ⟨wr.heap.size, 0, none⟩) (k + 1) (k + 1)) (k + 1) xs) (hgrow : wr.grownBy w4 none) (HD : DRow wr a p ps) (hk : k ≤ p) (hS : w.heap.size < wr.heap.size) (HX : wr.rangeAt w.heap.size 0 (cellsB x)) (HB : Below w.heap.size w wr) (hx : x.length = 32) :
    Hid (DRow w4 a k (ps.take k)) ∧ Hid (w4.there wr.heap.size 0 ((k + 1) * 32)) ∧ Hid ((w4.setCells wr.heap.size 0 (cellsB (ps.take k).flatten)).rangeAt w.heap.size 0 (cellsB x)) ∧ Hid ((w4.setCells wr.heap.size 0 (cellsB (ps.take k).flatten)).there wr.heap.size (k * 32) 32) ∧ Hid (DRow ((w4.setCells wr.heap.size 0 (cellsB (ps.take k).flatten)).setCells wr.heap.size (k * 32) (cellsB x)) (some ⟨wr.heap.size, 0, none⟩) (k + 1) (ps.take k ++ [x])) ∧ Hid (Below w.heap.size w ((w4.setCells wr.heap.size 0 (cellsB (ps.take k).flatten)).setCells wr.heap.size (k * 32) (cellsB x))) := by
  have HB4 : Below wr.heap.size wr w4 := (Below.refl _ _).grown hgrow (Nat.le_refl _) (fun _ h => by cases h)
  have HT4 : w4.there wr.heap.size 0 ((k + 1) * 32) := own_there hown
  have HD4 : DRow w4 a k (ps.take k) := (HD.below HB4).take k hk
  have hfl : (ps.take k).flatten.length = k * 32 := by rw [flat_len HD4.2.1, HD4.1]; omega
  generalize wr.heap.size = g at *
  refine ⟨HD4, HT4, World.rangeAt_setCells_apart (range_below HX HB4 hS) _ _ _ (.inl (by omega)), World.there_setCells (fun j hj => ?_) _ _ _, ?_, below_setCells _ (by omega) _ _ _ (below_setCells _ (by omega) _ _ _ (HB.trans (HB4.mono (by omega))))⟩
  · have := HT4 (k * 32 + j) (by omega)
    rwa [Nat.zero_add] at this
  · have h32 : ∀ q ∈ ps.take k ++ [x], q.length = 32 := fun q hq => by
      rcases List.mem_append.1 hq with h | h
      · exact HD4.2.1 q h
      · rw [List.mem_singleton.1 h]; exact hx
    have h := dat_two (w := w4) (b := g) (o := 0) (x := (ps.take k).flatten) (y := x) (by rw [hfl, hx]; have := HT4; rwa [show (k + 1) * 32 = k * 32 + 32 by omega] at this)
    rw [hfl, Nat.zero_add] at h
    have e : (ps.take k ++ [x]).flatten = (ps.take k).flatten ++ x := by simp
    have r := DRow.ofFlat (w := (w4.setCells g 0 (cellsB (ps.take k).flatten)).setCells g (k * 32) (cellsB x)) (b := g) (o := 0) h32 (by rw [e]; exact h)
    rw [List.length_append, HD4.1] at r
    exact r
set_option maxRecDepth 100000 in
set_option maxHeartbeats 1000000 in
theorem wpeaks_add (n p c : Nat) (a : Option Addr) (ps : List (List UInt8)) (l : List UInt8) (w : World) (G : Env w) (R : DRow w a p ps) (hc : p ≤ c) (hn : n ≤ 1073741824) (hp : p = onesT n) (hl : l.length = 32) :
    Calls Tryd.prog 9 #[.int .i64 (n : Int), .slice a p c, digestV l] w fun e w' => (∃ a' c', e = .returned (.tuple #[.slice a' (onesT (n + 1)) c', .nilIface]) ∧ onesT (n + 1) ≤ c' ∧ DRow w' a' (onesT (n + 1)) (grownT n ps l)) ∧ Below w.heap.size w w' := by
  obtain ⟨iD, hiD, hzD0, hzD1, hzD2⟩ := info_parts Tryd.infoDg
  obtain ⟨w2, hw2⟩ : ∃ w2, (w.alloc (.cells (cellsB l).toArray 24)) = w2 := ⟨_, rfl⟩
  have HS2 : Hid (w2.heap.size = w.heap.size + 1) := by unfold Hid; rw [← hw2]; simp
  have HB2 : Hid (Below w.heap.size w w2) := by rw [← hw2]; exact (Below.refl _ _).alloc (Nat.le_refl _) _
  have HL2 : Hid (DAt w2 w.heap.size 0 l) := by rw [← hw2]; exact box_dat w l _
  have HT2 : Hid (w2.there w.heap.size 0 32) := by rw [← hw2]; exact alloc_thereAt _ _ _ 32 _ rfl (by rw [cellsB_size, hl])
  have HGR : Hid (∀ wx, Below w.heap.size w wx → Env wx ∧ DRow wx a p ps) := fun wx hx => ⟨G.below hx, R.below hx⟩
  have HPL : Hid (ps.length = p) := R.1
  have HPR : Hid (DRow w a p ps) := R
  have HGL : Hid ((grownT n ps l).length = onesT (n + 1)) := grownT_length n ps l (by rw [R.1, hp])
  have HP : Hid (p = onesT n) := hp
  have h31 : p ≤ 31 := by rw [hp]; exact onesT_30 hn
  clear G R hp
  go_enter Tryd.func9, Tryd.ntmps9
  go_wp2_with fail
  refine (wcheck_ok n p c a w2 hn HP.out).mono ?_
  rintro e wq ⟨rfl, hq⟩
  have hq' : w2 = wq := hq.symm
  subst hq'
  clear hw2
  go_wp2_with fail
  go_loopw [0, 9] (fun nv kv wr => ∃ (m k : Nat) (x : List UInt8), nv = .int .i64 (m : Int) ∧ kv = .int .i64 (k : Int) ∧ m ≤ n ∧ k ≤ p ∧ x.length = 32 ∧ wr.rangeAt w.heap.size 0 (cellsB x) ∧ wr.there w.heap.size 0 32 ∧ Below w.heap.size w wr ∧ w.heap.size < wr.heap.size ∧ Hid (grownT m (ps.take k) x = grownT n ps l ∧ k = onesT m)) (fun nv _ _ => (intOf nv).toNat)
  case atStart =>
    have s := HS2.out
    exact ⟨n, p, l, rfl, rfl, Nat.le_refl _, Nat.le_refl _, hl, HL2.out, HT2.out, HB2.out, by omega, by rw [List.take_of_length_le (by rw [HPL.out]; omega)], HP.out⟩
  case round =>
    clear HL2 HT2 HB2 HS2
    obtain ⟨m, k, x, rfl, rfl, hm, hk, hx, hX, hT, hB, hS, HE⟩ := hrel
    have HX : Hid (wr.rangeAt w.heap.size 0 (cellsB x)) := hX
    have HT : Hid (wr.there w.heap.size 0 32) := hT
    have HB : Hid (Below w.heap.size w wr) := hB
    have HS : Hid (w.heap.size < wr.heap.size) := hS
    clear hX hT hB hS
    have d1 : (m : Int).tdiv 2 = ((m / 2 : Nat) : Int) := by rw [Int.tdiv_eq_ediv_of_nonneg (by omega)]; omega
    have d2 : (m : Int) / 2 = ((m / 2 : Nat) : Int) := by omega
    have d3 : (m : Int).tmod 2 = ((m % 2 : Nat) : Int) := by rw [Int.tmod_eq_emod_of_nonneg (by omega)]; omega
    have d4 : (m : Int) % 2 = ((m % 2 : Nat) : Int) := by omega
    by_cases hodd : m % 2 = 1
    · rw [hodd] at d3 d4
      have HKO : Hid (k = 1 + onesT (m / 2)) := by
        have := HE.out.2
        rw [onesT_step (by omega), hodd] at this
        exact this
      obtain ⟨j, hj⟩ : ∃ j, k = j + 1 := ⟨k - 1, by have := HKO.out; omega⟩
      obtain ⟨b, o, ha⟩ := HPR.out.addr (by omega)
      subst ha
      have lD := HPR.out.len j (by omega)
      have HE2 : Hid (grownT (m / 2) (ps.take j) (nodeT (ps.getD j []) x) = grownT n ps l ∧ j = onesT (m / 2)) := by
        have h := HE.out.1
        rw [grownT_odd hodd, hj, show (ps.take (j + 1)).length - 1 = j by rw [List.length_take, HPL.out]; omega, List.take_take, Nat.min_eq_left (by omega), show (ps.take (j + 1)).getD j [] = ps.getD j [] by simp [List.getD_eq_getElem?_getD, List.getElem?_take]] at h
        exact ⟨h, by have := HKO.out; omega⟩
      have HXD : Hid (∀ wx, Below wr.heap.size wr wx → wx.rangeAt b (o + j * 32) (cellsB (ps.getD j [])) ∧ wx.rangeAt w.heap.size 0 (cellsB x) ∧ wx.there w.heap.size 0 32 ∧ Below w.heap.size w wx) := fun wx hx => by
        have s := HS.out
        have hb : Below w.heap.size w wx := HB.out.trans (hx.mono (by omega))
        exact ⟨(HGR.out wx hb).2.at j (by omega), range_below HX.out hx (by omega), there_below HT.out hx (by omega), hb⟩
      have HGE : Hid (∀ wx, Below wr.heap.size wr wx → Env wx) := fun wx hx => (HGR.out wx (HXD.out wx hx).2.2.2).1
      subst hj
      have j0 : (0 : Int) ≤ (j : Int) := by omega
      have j1 : (j : Int) < (p : Int) := by omega
      have j2 : (j : Int) + 1 - 1 = (j : Int) := by omega
      have wj : IntKind.i64.wrap (j : Int) = (j : Int) := by rw [IntKind.wrap_i64]; omega
      have HQ1 : Hid (m / 2 < m ∧ m / 2 ≤ n ∧ j ≤ p) := by unfold Hid; omega
      clear HE HKO HX HT HB
      generalize ps.getD j [] = D at *
      generalize m / 2 = m' at *
      go_wp2_with fail
      refine wp_region_noPanic ?_
      refine wp_region_till (S := fun wx => wx.rangeAt b (o + j * 32) (cellsB D) ∧ wx.rangeAt w.heap.size 0 (cellsB x)) 6 (by kernel_rfl) ⟨(HXD.out _ (below_drewN wr 1)).1, (HXD.out _ (below_drewN wr 1)).2.1⟩ (fun hHeld => ?_)
      try simp only [Act.put, List.setIfInBounds_toArray, List.set_cons_zero, List.set_cons_succ]
      have HBd : Hid (Below wr.heap.size wr wr.drew) := below_drewN wr 1
      generalize wr.drew = wd at *
      refine wpAnyT_take (i := 0) (v := ?_) (by simp only [List.getElem?_toArray, List.getElem?_cons_zero, List.getElem?_cons_succ]; rfl) (by kernel_rfl) (by kernel_rfl) (by kernel_rfl) (by kernel_rfl) (fun _ _ _ h => h) (Or.inl ⟨by rfl, ?_⟩) hHeld ?_
      rotate_left
      · intro w hSw
        obtain ⟨hSw0, hSw1⟩ := hSw
        go_simp
        try with_reducible rfl
      try simp only [Act.put, List.setIfInBounds_toArray, List.set_cons_zero, List.set_cons_succ]
      refine wpAnyT_take (i := 1) (v := ?_) (by simp only [List.getElem?_toArray, List.getElem?_cons_zero, List.getElem?_cons_succ]; rfl) (by kernel_rfl) (by kernel_rfl) (by kernel_rfl) (by kernel_rfl) (fun _ _ _ h => h) (Or.inl ⟨by rfl, ?_⟩) hHeld ?_
      rotate_left
      · intro w hSw
        obtain ⟨hSw0, hSw1⟩ := hSw
        go_simp
        try with_reducible rfl
      try simp only [Act.put, List.setIfInBounds_toArray, List.set_cons_zero, List.set_cons_succ]
      refine wpAnyT_take (i := 2) (v := .pointer (some ⟨b, o + j * 32, none⟩)) (by simp only [List.getElem?_toArray, List.getElem?_cons_zero, List.getElem?_cons_succ]; rfl) (by kernel_rfl) (by kernel_rfl) (by kernel_rfl) (by kernel_rfl) (fun _ _ _ h => h) (Or.inl ⟨by rfl, ?_⟩) hHeld ?_
      · intro w hSw
        obtain ⟨hSw0, hSw1⟩ := hSw
        go_simp
      try simp only [Act.put, List.setIfInBounds_toArray, List.set_cons_zero, List.set_cons_succ]
      refine wpAnyT_take (i := 3) (v := .agg (cellsB D).toArray) (by simp only [List.getElem?_toArray, List.getElem?_cons_zero, List.getElem?_cons_succ]; rfl) (by kernel_rfl) (by kernel_rfl) (by kernel_rfl) (by kernel_rfl) (fun _ _ _ h => h)
        (yieldsIf_load_mid (by rfl) _ _ rfl _ _ rfl _ _ (fun w hw => hw.1) Tryd.underlying24 rfl (by rw [cellsB_length, lD]; exact Tryd.sizeDg)) hHeld ?_
      try simp only [Act.put, List.setIfInBounds_toArray, List.set_cons_zero, List.set_cons_succ]
      refine wpAnyT_take (i := 4) (v := .agg (cellsB x).toArray) (by simp only [List.getElem?_toArray, List.getElem?_cons_zero, List.getElem?_cons_succ]; rfl) (by kernel_rfl) (by kernel_rfl) (by kernel_rfl) (by kernel_rfl) (fun _ _ _ h => h)
        (yieldsIf_load_mid (by rfl) _ _ rfl _ _ rfl _ _ (fun w hw => hw.2) Tryd.underlying24 rfl (by rw [cellsB_length, hx]; exact Tryd.sizeDg)) hHeld ?_
      try simp only [Act.put, List.setIfInBounds_toArray, List.set_cons_zero, List.set_cons_succ]
      refine wpAnyT_ready (rs := [5]) (by kernel_rfl) (by simp) ?_
      refine AllReadyT.cons (by simp only [List.getElem?_toArray, List.getElem?_cons_zero, List.getElem?_cons_succ]; rfl) (fun K hK => ?_) AllReadyT.nil
      rw [if_pos (by rfl)]
      go_simp
      refine (wtree_node D x wd (HGE.out _ HBd.out) lD hx).mono ?_
      rintro e wn ⟨rfl, hbn⟩
      have HBn : Hid (Below wr.heap.size wr wn) := HBd.out.trans (hbn.mono HBd.out.size)
      have lN := nodeT_length D x
      clear hbn HBd
      generalize nodeT D x = N at *
      go_wp2_with fail
      refine hK.out _ _ ⟨(HXD.out _ HBn.out).1, (HXD.out _ HBn.out).2.1⟩ (fun hHeld => ?_)
      clear hK K
      try simp only [Act.put, List.setIfInBounds_toArray, List.set_cons_zero, List.set_cons_succ]
      refine wpAnyT_ready (rs := [6]) (by kernel_rfl) (by simp) ?_
      refine AllReadyT.lastly (by simp only [List.getElem?_toArray, List.getElem?_cons_zero, List.getElem?_cons_succ]; rfl) rfl (fun K hK => ?_) AllReadyT.nil
      rw [if_pos (by rfl)]
      have HTn : Hid (wn.there w.heap.size 0 32) := (HXD.out _ HBn.out).2.2.1
      refine wp_store_mid _ _ _ rfl w.heap.size 0 (cellsB N).toArray rfl rfl (by rw [cellsB_size, lN]; exact HTn.out) (by rw [cellsB_size, lN]; exact Tryd.sizeDg) (all_oneCell_toArray (cellsB_one _)) ?_
      refine hK.out _ _ ?_
      clear hK K
      try simp only [Act.put, List.setIfInBounds_toArray, List.set_cons_zero, List.set_cons_succ]
      refine wpAnyT_done (by kernel_rfl) (NoPanic.normal ?_) _
      try clear hHeld
      go_wp2_with fail
      go_roundw
      case rel =>
        have hgr := gro_setCells w.heap.size (cellsB N) 0 wn
        refine ⟨m', j, N, rfl, rfl, HQ1.out.2.1, HQ1.out.2.2, lN, World.rangeAt_setCells_same _ _ _ _ (by rw [cellsB_length, lN]; exact HTn.out), World.there_setCells HTn.out _ _ _, below_setCells _ (Nat.le_refl _) _ _ _ (HXD.out _ HBn.out).2.2.2, ?_, HE2⟩
        have h1 := hgr.size
        have h2 := HBn.out.size
        have h3 := HS.out
        omega
      case measure => have := HQ1.out; simp [intOf]; omega
    · have hr0 : m % 2 = 0 := by omega
      rw [hr0] at d3 d4
      have HE2 : Hid (ps.take k ++ [x] = grownT n ps l) := by
        have := HE.out.1
        rw [grownT_even hodd] at this
        exact this
      have HKL : Hid (onesT (n + 1) = k + 1) := by
        have h := HGL.out
        rw [← HE2.out, List.length_append, List.length_take, HPL.out, Nat.min_eq_left hk] at h
        exact h.symm
      have k0 : (0 : Int) ≤ (k : Int) := by omega
      have k1 : (k : Int) ≤ (p : Int) := by omega
      have k2 : (k : Int) ≤ (c : Int) := by omega
      have k3 : (p : Int) ≤ (c : Int) := by omega
      have k4 : (k : Int) < (k : Int) + 1 := by omega
      have HKP : Hid (k ≤ 31) := by unfold Hid; omega
      have HKp : Hid (k ≤ p) := hk
      clear HE d1 d2 hk
      have key : ∀ aa : Option Addr, aa = a → Hid (DRow wr aa p ps) := fun aa e => by subst e; exact (HGR.out wr HB.out).2
      cases a with
      | none =>
        have HD := key none rfl
        clear key
        go_wp2_with (first
          | (at_make; refine wpList_make_full _ rfl _ _ 22 rfl wr.heap.size 24 iD (.agg zeros32) 32 Tryd.underlying22 hiD hzD0 hzD1 _ _ _ _ (k + 1) rfl rfl rfl rfl (by rw [hzD2]; have := HKP.out; omega) (by have := HKP.out; unfold maxLen; omega) (Nat.le_refl _) ?_; intro w4 hown hgrow; obtain ⟨HD4, HT4, HX5, HT5, HD6, HB6⟩ := add_facts (w := w) (x := x) hown hgrow HD.out HKp.out HS.out HX.out HB.out hx; clear hown hgrow)
          | (refine wpList_copy_digests (by rfl) (.tmp 35) (.tmp 38) (by rfl) wr.heap.size 0 (k + 1) (k + 1) (by rfl) none k c (ps.take k) (by rfl) HD4.out (by omega) (by intro j hj; exact HT4.out j (by omega)) ?_)
          | (refine wpList_load_mid (by rfl) 24 (.tmp 5) (by rfl) w.heap.size 0 (by rfl) (cellsB x) _ HX5.out Tryd.underlying24 (by rfl) (by rw [cellsB_length, hx]; exact Tryd.sizeDg) ?_)
          | (refine wpList_store_mid (by rfl) 24 (.tmp 43) (.tmp 42) (by rfl) wr.heap.size (k * 32) (cellsB x).toArray (by rfl) (by rfl) (by rw [cellsB_size, hx]; exact HT5.out) (by rw [cellsB_size, hx]; exact Tryd.sizeDg) (all_oneCell_toArray (cellsB_one _)) ?_))
        go_ret2
        rw [HKL.out]
        exact ⟨⟨_, _, rfl, Nat.le_refl _, by rw [← HE2.out]; exact HD6.out⟩, HB6.out⟩
      | some aa =>
        have HD := key (some aa) rfl
        clear key
        go_wp2_with (first
          | (at_make; refine wpList_make_full _ rfl _ _ 22 rfl wr.heap.size 24 iD (.agg zeros32) 32 Tryd.underlying22 hiD hzD0 hzD1 _ _ _ _ (k + 1) rfl rfl rfl rfl (by rw [hzD2]; have := HKP.out; omega) (by have := HKP.out; unfold maxLen; omega) (Nat.le_refl _) ?_; intro w4 hown hgrow; obtain ⟨HD4, HT4, HX5, HT5, HD6, HB6⟩ := add_facts (w := w) (x := x) hown hgrow HD.out HKp.out HS.out HX.out HB.out hx; clear hown hgrow)
          | (refine wpList_copy_digests (by rfl) (.tmp 35) (.tmp 38) (by rfl) wr.heap.size 0 (k + 1) (k + 1) (by rfl) (some aa) k c (ps.take k) (by rfl) HD4.out (by omega) (by intro j hj; exact HT4.out j (by omega)) ?_)
          | (refine wpList_load_mid (by rfl) 24 (.tmp 5) (by rfl) w.heap.size 0 (by rfl) (cellsB x) _ HX5.out Tryd.underlying24 (by rfl) (by rw [cellsB_length, hx]; exact Tryd.sizeDg) ?_)
          | (refine wpList_store_mid (by rfl) 24 (.tmp 43) (.tmp 42) (by rfl) wr.heap.size (k * 32) (cellsB x).toArray (by rfl) (by rfl) (by rw [cellsB_size, hx]; exact HT5.out) (by rw [cellsB_size, hx]; exact Tryd.sizeDg) (all_oneCell_toArray (cellsB_one _)) ?_))
        go_ret2
        rw [HKL.out]
        exact ⟨⟨_, _, rfl, Nat.le_refl _, by rw [← HE2.out]; exact HD6.out⟩, HB6.out⟩
set_option maxRecDepth 100000 in
set_option maxHeartbeats 1000000 in
theorem wpeaks_rootout (n : Int) (p c : Nat) (a : Option Addr) (ps : List (List UInt8)) (w : World) (G : Env w) (R : DRow w a p ps) (hc : p ≤ c) (hp2 : 32 * p ≤ 140737488351232) (hn : n < 0 ∨ 1073741824 < n) (n1 : -9223372036854775808 ≤ n) (n2 : n ≤ 9223372036854775807) :
    Calls Tryd.prog 12 #[.int .i64 n, .slice a p c] w fun e w' => e = .returned (.tuple #[digestV zD, .iface 25 (.int .i64 2)]) ∧ Below w.heap.size w w' := by
  obtain ⟨w2, hw2⟩ : ∃ w2, w.alloc (.cells (cellsB zD).toArray 24) = w2 := ⟨_, rfl⟩
  have HS2 : Hid (w2.heap.size = w.heap.size + 1) := by unfold Hid; rw [← hw2]; simp
  have HB2 : Hid (Below w.heap.size w w2) := by rw [← hw2]; exact (Below.refl _ _).alloc (Nat.le_refl _) _
  have HT2 : Hid (w2.there w.heap.size 0 32) := by rw [← hw2]; exact alloc_thereAt _ _ _ 32 _ rfl zD_size.symm
  clear G R
  go_enter Tryd.func12, Tryd.ntmps12
  go_wp2_with (refine wpList_allocE (by rfl) 24 (by rfl) (cellsB zD).toArray Tryd.zeroDg w.heap.size rfl w2 hw2 ?_)
  refine (wcheck_out n p c a w2 hn n1 n2).mono ?_
  rintro e wq ⟨rfl, hq⟩
  have hq' : w2 = wq := hq.symm
  subst hq'
  clear hw2 hn
  have lZ : zD.length = 32 := rfl
  have hbu : Tryd.prog.built 24 [] = some (cellsB zD).toArray := by kernel_rfl
  obtain ⟨Z, hZ⟩ : ∃ Z, zD = Z := ⟨_, rfl⟩
  have HZ : Hid (zD = Z) := hZ
  rw [hZ] at lZ hbu
  have HBU : Hid (Tryd.prog.built 24 [] = some (cellsB Z).toArray) := hbu
  clear hZ hbu
  go_wp2_with (first
    | (refine wpList_buildC (by rfl) 24 #[] (by rfl) (cellsB Z).toArray (by simpa using HBU.out) ?_)
    | (refine wpList_store_mid (by rfl) 24 (.tmp 4) (.tmp 15) (by rfl) w.heap.size 0 (cellsB Z).toArray (by rfl) (by rfl) (by rw [cellsB_size, lZ]; exact HT2.out) (by rw [cellsB_size, lZ]; exact Tryd.sizeDg) (all_oneCell_toArray (cellsB_one _)) ?_))
  refine bodyPost_ret (v := .tuple #[digestV Z, .iface 25 (.int .i64 2)]) (run_results_row2 Tryd.results12 _ _ w.heap.size 0 (by rfl) _ (by rfl) (cellsB Z) (World.rangeAt_setCells_same _ _ _ _ (by rw [cellsB_length, lZ]; exact HT2.out)) _ Tryd.underlying24 (by rfl) (by rw [cellsB_length, lZ]; exact Tryd.sizeDg)) rfl ⟨by rw [HZ.out], ?_⟩
  exact below_setCells _ (Nat.le_refl _) _ _ _ HB2.out
set_option maxRecDepth 100000 in
set_option maxHeartbeats 1000000 in
theorem wpeaks_rootlen (n p c : Nat) (a : Option Addr) (ps : List (List UInt8)) (w : World) (G : Env w) (R : DRow w a p ps) (hc : p ≤ c) (hp2 : 32 * p ≤ 140737488351232) (hn : n ≤ 1073741824) (hp : p ≠ onesT n) :
    Calls Tryd.prog 12 #[.int .i64 (n : Int), .slice a p c] w fun e w' => e = .returned (.tuple #[digestV zD, .iface 25 (.int .i64 3)]) ∧ Below w.heap.size w w' := by
  obtain ⟨w2, hw2⟩ : ∃ w2, w.alloc (.cells (cellsB zD).toArray 24) = w2 := ⟨_, rfl⟩
  have HS2 : Hid (w2.heap.size = w.heap.size + 1) := by unfold Hid; rw [← hw2]; simp
  have HB2 : Hid (Below w.heap.size w w2) := by rw [← hw2]; exact (Below.refl _ _).alloc (Nat.le_refl _) _
  have HT2 : Hid (w2.there w.heap.size 0 32) := by rw [← hw2]; exact alloc_thereAt _ _ _ 32 _ rfl zD_size.symm
  clear G R
  go_enter Tryd.func12, Tryd.ntmps12
  go_wp2_with (refine wpList_allocE (by rfl) 24 (by rfl) (cellsB zD).toArray Tryd.zeroDg w.heap.size rfl w2 hw2 ?_)
  refine (wcheck_len n p c a w2 hn hp).mono ?_
  rintro e wq ⟨rfl, hq⟩
  have hq' : w2 = wq := hq.symm
  subst hq'
  clear hw2 hn hp
  have lZ : zD.length = 32 := rfl
  have hbu : Tryd.prog.built 24 [] = some (cellsB zD).toArray := by kernel_rfl
  obtain ⟨Z, hZ⟩ : ∃ Z, zD = Z := ⟨_, rfl⟩
  have HZ : Hid (zD = Z) := hZ
  rw [hZ] at lZ hbu
  have HBU : Hid (Tryd.prog.built 24 [] = some (cellsB Z).toArray) := hbu
  clear hZ hbu
  go_wp2_with (first
    | (refine wpList_buildC (by rfl) 24 #[] (by rfl) (cellsB Z).toArray (by simpa using HBU.out) ?_)
    | (refine wpList_store_mid (by rfl) 24 (.tmp 4) (.tmp 15) (by rfl) w.heap.size 0 (cellsB Z).toArray (by rfl) (by rfl) (by rw [cellsB_size, lZ]; exact HT2.out) (by rw [cellsB_size, lZ]; exact Tryd.sizeDg) (all_oneCell_toArray (cellsB_one _)) ?_))
  refine bodyPost_ret (v := .tuple #[digestV Z, .iface 25 (.int .i64 3)]) (run_results_row2 Tryd.results12 _ _ w.heap.size 0 (by rfl) _ (by rfl) (cellsB Z) (World.rangeAt_setCells_same _ _ _ _ (by rw [cellsB_length, lZ]; exact HT2.out)) _ Tryd.underlying24 (by rfl) (by rw [cellsB_length, lZ]; exact Tryd.sizeDg)) rfl ⟨by rw [HZ.out], ?_⟩
  exact below_setCells _ (Nat.le_refl _) _ _ _ HB2.out
theorem bag_last {ps : List (List UInt8)} {k : Nat} (h : ps.length = k + 1) : bagT (ps.drop k) = ps.getD k [] := by
  have hd : ps.drop k = [ps.getD k []] := by
    rw [List.drop_eq_getElem_cons (by omega), List.drop_of_length_le (by omega), List.getD_eq_getElem?_getD, List.getElem?_eq_getElem (by omega)]
    rfl
  rw [hd]
  rfl
theorem bag_step {ps : List (List UInt8)} {k : Nat} (h : k + 1 < ps.length) : bagT (ps.drop k) = nodeT (ps.getD k []) (bagT (ps.drop (k + 1))) := by
  have hd : ps.drop k = ps.getD k [] :: ps.drop (k + 1) := by
    rw [List.drop_eq_getElem_cons (by omega), List.getD_eq_getElem?_getD, List.getElem?_eq_getElem (by omega)]
    rfl
  rw [hd, bagT_cons (fun e => by have := congrArg List.length e; rw [List.length_drop] at this; simp at this; omega)]
set_option maxRecDepth 100000 in
set_option maxHeartbeats 1000000 in
theorem wpeaks_root (n p c : Nat) (a : Option Addr) (ps : List (List UInt8)) (w : World) (G : Env w) (R : DRow w a p ps) (hc : p ≤ c) (hn : n ≤ 1073741824) (hp : p = onesT n) :
    Calls Tryd.prog 12 #[.int .i64 (n : Int), .slice a p c] w fun e w' => e = .returned (.tuple #[digestV (bagT ps), .nilIface]) ∧ Below w.heap.size w w' := by
  obtain ⟨w2, hw2⟩ : ∃ w2, w.alloc (.cells (cellsB zD).toArray 24) = w2 := ⟨_, rfl⟩
  have HS2 : Hid (w2.heap.size = w.heap.size + 1) := by unfold Hid; rw [← hw2]; simp
  have HB2 : Hid (Below w.heap.size w w2) := by rw [← hw2]; exact (Below.refl _ _).alloc (Nat.le_refl _) _
  have HT2 : Hid (w2.there w.heap.size 0 32) := by rw [← hw2]; exact alloc_thereAt _ _ _ 32 _ rfl zD_size.symm
  have HGR : Hid (∀ wx, Below w.heap.size w wx → Env wx ∧ DRow wx a p ps) := fun wx hx => ⟨G.below hx, R.below hx⟩
  have HPR : Hid (DRow w a p ps) := R
  have HPL : Hid (ps.length = p) := R.1
  have h31 : p ≤ 31 := by rw [hp]; exact onesT_30 hn
  have HP : Hid (p = onesT n) := hp
  clear G R hp
  go_enter Tryd.func12, Tryd.ntmps12
  go_wp2_with (refine wpList_allocE (by rfl) 24 (by rfl) (cellsB zD).toArray Tryd.zeroDg w.heap.size rfl w2 hw2 ?_)
  refine (wcheck_ok n p c a w2 hn HP.out).mono ?_
  rintro e wq ⟨rfl, hq⟩
  have hq' : w2 = wq := hq.symm
  subst hq'
  clear hw2
  by_cases h0 : n = 0
  · subst h0
    have hE : ps = [] := List.eq_nil_of_length_eq_zero (by rw [HPL.out, HP.out, onesT_zero])
    subst hE
    go_wp2_with fail
    refine (wtree_root none 0 0 [] w2 (HGR.out w2 HB2.out).1 (DRow.nil _) (Nat.le_refl _) (by omega)).mono ?_
    rintro e w3 ⟨rfl, hb3⟩
    have HB3 : Hid (Below w.heap.size w w3) := below_trans HB2.out hb3
    have HT3 : Hid (w3.there w.heap.size 0 32) := there_below HT2.out hb3 (by have := HS2.out; omega)
    have HE : Hid (rootT [] = bagT []) := (by rw [rootT_none (by rfl)]; rfl)
    have lX : (rootT []).length = 32 := rootT_length (fun l hl => by cases hl)
    clear hb3
    generalize rootT [] = X at *
    go_wp2_with (refine wpList_store_mid (by rfl) 24 (.tmp 4) (.tmp 20) (by rfl) w.heap.size 0 (cellsB X).toArray (by rfl) (by rfl) (by rw [cellsB_size, lX]; exact HT3.out) (by rw [cellsB_size, lX]; exact Tryd.sizeDg) (all_oneCell_toArray (cellsB_one _)) ?_)
    refine bodyPost_ret (v := .tuple #[digestV X, .nilIface]) (run_results_row2 Tryd.results12 _ _ w.heap.size 0 (by rfl) _ (by rfl) (cellsB X) (World.rangeAt_setCells_same _ _ _ _ (by rw [cellsB_length, lX]; exact HT3.out)) _ Tryd.underlying24 (by rfl) (by rw [cellsB_length, lX]; exact Tryd.sizeDg)) rfl ⟨by rw [HE.out], ?_⟩
    exact below_setCells _ (Nat.le_refl _) _ _ _ HB3.out
  · have e0 : ((n : Int) == 0) = false := by simp; omega
    have hp1 : 1 ≤ p := by rw [HP.out, onesT_peak (by omega)]; omega
    obtain ⟨q, hq⟩ : ∃ q, p = q + 1 := ⟨p - 1, by omega⟩
    subst hq
    obtain ⟨b, o, ha⟩ := HPR.out.addr (by omega)
    subst ha
    have lD := HPR.out.len q (by omega)
    have HBL : Hid (bagT (ps.drop q) = ps.getD q []) := bag_last HPL.out
    have HX2 : Hid (w2.rangeAt b (o + q * 32) (cellsB (ps.getD q []))) := (HGR.out w2 HB2.out).2.at q (by omega)
    obtain ⟨g3, hg3⟩ : ∃ g3, w2.heap.size = g3 := ⟨_, rfl⟩
    obtain ⟨w3, hw3⟩ : ∃ w3, w2.alloc (.cells (cellsB zD).toArray 24) = w3 := ⟨_, rfl⟩
    have HG3 : Hid (w.heap.size < g3 ∧ w3.heap.size = g3 + 1) := ⟨by rw [← hg3]; have := HS2.out; omega, by rw [← hw3, ← hg3]; simp⟩
    have HB23 : Hid (Below w2.heap.size w2 w3) := by rw [← hw3]; exact (Below.refl _ _).alloc (Nat.le_refl _) _
    have HT3 : Hid (w3.there g3 0 32) := by rw [← hw3]; exact alloc_thereAt _ _ _ 32 _ hg3 zD_size.symm
    rw [← HBL.out] at lD HX2
    generalize hX : bagT (ps.drop q) = X at *
    have HXE : Hid (bagT (ps.drop q) = X) := hX
    clear hX
    have HX4 : Hid ((w3.setCells g3 0 (cellsB X)).rangeAt g3 0 (cellsB X)) := World.rangeAt_setCells_same _ _ _ _ (by rw [cellsB_length, lD]; exact HT3.out)
    have HT4 : Hid ((w3.setCells g3 0 (cellsB X)).there g3 0 32) := World.there_setCells HT3.out _ _ _
    have HB4 : Hid (Below w2.heap.size w2 (w3.setCells g3 0 (cellsB X))) := below_setCells _ (by omega) _ _ _ HB23.out
    have HN4 : Hid (g3 < (w3.setCells g3 0 (cellsB X)).heap.size) := by have h := (gro_setCells g3 (cellsB X) 0 w3).size; have := HG3.out; unfold Hid; omega
    have q0 : (0 : Int) ≤ (q : Int) := by omega
    have q1 : (q : Int) < (q : Int) + 1 := by omega
    have q2 : (q : Int) + 1 - 1 = (q : Int) := by omega
    have HX2' : Hid (w2.rangeAt b (o + q * 32) (cellsB X)) := HX2.out
    have HXW : Hid (w3.rangeAt b (o + q * 32) (cellsB X)) := range_below HX2.out HB23.out (by have := HPR.out.at q (by omega); have h1 := cell_block (this.cell 0 (by rw [HPR.out.len q (by omega)]; omega)); have := HB2.out.size; omega)
    clear HX2
    go_wp2_with (first
      | (refine wpList_load_mid (by rfl) 24 (.tmp 27) (by rfl) b (o + q * 32) (by rfl) (cellsB X) _ HX2'.out Tryd.underlying24 (by rfl) (by rw [cellsB_length, lD]; exact Tryd.sizeDg) ?_)
      | (refine wpList_load_mid (by rfl) 24 (.tmp 27) (by rfl) b (o + q * 32) (by rfl) (cellsB X) _ HXW.out Tryd.underlying24 (by rfl) (by rw [cellsB_length, lD]; exact Tryd.sizeDg) ?_)
      | (refine wpList_allocE (by rfl) 24 (by rfl) (cellsB zD).toArray Tryd.zeroDg g3 hg3 w3 hw3 ?_)
      | (refine wpList_store_mid (by rfl) 24 (.tmp 8) (.tmp 28) (by rfl) g3 0 (cellsB X).toArray (by rfl) (by rfl) (by rw [cellsB_size, lD]; exact HT3.out) (by rw [cellsB_size, lD]; exact Tryd.sizeDg) (all_oneCell_toArray (cellsB_one _)) ?_))
    go_loopw [9] (fun iv wr => ∃ (k : Nat) (x : List UInt8), iv = .int .i64 ((k : Int) - 1) ∧ k ≤ q ∧ x.length = 32 ∧ wr.rangeAt g3 0 (cellsB x) ∧ wr.there g3 0 32 ∧ Below w2.heap.size w2 wr ∧ g3 < wr.heap.size ∧ Hid (bagT (ps.drop k) = x)) (fun iv _ => (intOf iv + 1).toNat)
    case atStart => exact ⟨q, X, rfl, Nat.le_refl _, lD, HX4.out, HT4.out, HB4.out, HN4.out, HXE.out⟩
    case round =>
      clear HX4 HT4 HB4 HXE HXW HX2' HN4 HBL
      obtain ⟨k, x, rfl, hk, hx, hX, hT, hB, hS, HE⟩ := hrel
      have HX : Hid (wr.rangeAt g3 0 (cellsB x)) := hX
      have HT : Hid (wr.there g3 0 32) := hT
      have HB : Hid (Below w2.heap.size w2 wr) := hB
      have HS : Hid (g3 < wr.heap.size) := hS
      clear hX hT hB hS
      by_cases hk0 : 1 ≤ k
      · obtain ⟨j, hj⟩ : ∃ j, k = j + 1 := ⟨k - 1, by omega⟩
        subst hj
        have lD := HPR.out.len j (by omega)
        have HE2 : Hid (bagT (ps.drop j) = nodeT (ps.getD j []) x) := by
          have := bag_step (ps := ps) (k := j) (by rw [HPL.out]; omega)
          rw [HE.out] at this
          exact this
        have HXD : Hid (∀ wx, Below wr.heap.size wr wx → wx.rangeAt b (o + j * 32) (cellsB (ps.getD j [])) ∧ wx.rangeAt g3 0 (cellsB x) ∧ wx.there g3 0 32 ∧ Below w2.heap.size w2 wx) := fun wx hx => by
          have s := HS.out
          have hs1 := HB.out.size
          have hs2 := HB2.out.size
          have hb : Below w2.heap.size w2 wx := HB.out.trans (hx.mono hs1)
          have hb0 : Below w.heap.size w wx := HB2.out.trans (hb.mono hs2)
          exact ⟨(HGR.out wx hb0).2.at j (by omega), range_below HX.out hx (by omega), there_below HT.out hx (by omega), hb⟩
        have HGE : Hid (∀ wx, Below wr.heap.size wr wx → Env wx) := fun wx hx => (HGR.out wx (HB2.out.trans ((HXD.out wx hx).2.2.2.mono HB2.out.size))).1
        have j0 : (0 : Int) ≤ (j : Int) := by omega
        have j1 : (j : Int) < (q : Int) + 1 := by omega
        have j2 : (j : Int) + 1 - 1 = (j : Int) := by omega
        have HJQ : Hid (j ≤ q) := by unfold Hid; omega
        clear HE HX HT HB
        generalize ps.getD j [] = D at *
        go_wp2_with fail
        refine wp_region_noPanic ?_
        refine wp_region_till (S := fun wx => wx.rangeAt b (o + j * 32) (cellsB D) ∧ wx.rangeAt g3 0 (cellsB x)) 6 (by kernel_rfl) ⟨(HXD.out _ (below_drewN wr 1)).1, (HXD.out _ (below_drewN wr 1)).2.1⟩ (fun hHeld => ?_)
        try simp only [Act.put, List.setIfInBounds_toArray, List.set_cons_zero, List.set_cons_succ]
        have HBd : Hid (Below wr.heap.size wr wr.drew) := below_drewN wr 1
        generalize wr.drew = wd at *
        refine wpAnyT_take (i := 0) (v := ?_) (by simp only [List.getElem?_toArray, List.getElem?_cons_zero, List.getElem?_cons_succ]; rfl) (by kernel_rfl) (by kernel_rfl) (by kernel_rfl) (by kernel_rfl) (fun _ _ _ h => h) (Or.inl ⟨by rfl, ?_⟩) hHeld ?_
        rotate_left
        · intro w hSw
          obtain ⟨hSw0, hSw1⟩ := hSw
          go_simp
          try with_reducible rfl
        try simp only [Act.put, List.setIfInBounds_toArray, List.set_cons_zero, List.set_cons_succ]
        refine wpAnyT_take (i := 1) (v := ?_) (by simp only [List.getElem?_toArray, List.getElem?_cons_zero, List.getElem?_cons_succ]; rfl) (by kernel_rfl) (by kernel_rfl) (by kernel_rfl) (by kernel_rfl) (fun _ _ _ h => h) (Or.inl ⟨by rfl, ?_⟩) hHeld ?_
        rotate_left
        · intro w hSw
          obtain ⟨hSw0, hSw1⟩ := hSw
          go_simp
          try with_reducible rfl
        try simp only [Act.put, List.setIfInBounds_toArray, List.set_cons_zero, List.set_cons_succ]
        refine wpAnyT_take (i := 2) (v := .pointer (some ⟨b, o + j * 32, none⟩)) (by simp only [List.getElem?_toArray, List.getElem?_cons_zero, List.getElem?_cons_succ]; rfl) (by kernel_rfl) (by kernel_rfl) (by kernel_rfl) (by kernel_rfl) (fun _ _ _ h => h) (Or.inl ⟨by rfl, ?_⟩) hHeld ?_
        · intro w hSw
          obtain ⟨hSw0, hSw1⟩ := hSw
          go_simp
        try simp only [Act.put, List.setIfInBounds_toArray, List.set_cons_zero, List.set_cons_succ]
        refine wpAnyT_take (i := 3) (v := .agg (cellsB D).toArray) (by simp only [List.getElem?_toArray, List.getElem?_cons_zero, List.getElem?_cons_succ]; rfl) (by kernel_rfl) (by kernel_rfl) (by kernel_rfl) (by kernel_rfl) (fun _ _ _ h => h)
          (yieldsIf_load_mid (by rfl) _ _ rfl _ _ rfl _ _ (fun w hw => hw.1) Tryd.underlying24 rfl (by rw [cellsB_length, lD]; exact Tryd.sizeDg)) hHeld ?_
        try simp only [Act.put, List.setIfInBounds_toArray, List.set_cons_zero, List.set_cons_succ]
        refine wpAnyT_take (i := 4) (v := .agg (cellsB x).toArray) (by simp only [List.getElem?_toArray, List.getElem?_cons_zero, List.getElem?_cons_succ]; rfl) (by kernel_rfl) (by kernel_rfl) (by kernel_rfl) (by kernel_rfl) (fun _ _ _ h => h)
          (yieldsIf_load_mid (by rfl) _ _ rfl _ _ rfl _ _ (fun w hw => hw.2) Tryd.underlying24 rfl (by rw [cellsB_length, hx]; exact Tryd.sizeDg)) hHeld ?_
        try simp only [Act.put, List.setIfInBounds_toArray, List.set_cons_zero, List.set_cons_succ]
        refine wpAnyT_ready (rs := [5]) (by kernel_rfl) (by simp) ?_
        refine AllReadyT.cons (by simp only [List.getElem?_toArray, List.getElem?_cons_zero, List.getElem?_cons_succ]; rfl) (fun K hK => ?_) AllReadyT.nil
        rw [if_pos (by rfl)]
        go_simp
        refine (wtree_node D x wd (HGE.out _ HBd.out) lD hx).mono ?_
        rintro e wn ⟨rfl, hbn⟩
        have HBn : Hid (Below wr.heap.size wr wn) := HBd.out.trans (hbn.mono HBd.out.size)
        have lN := nodeT_length D x
        clear hbn HBd
        generalize nodeT D x = N at *
        go_wp2_with fail
        refine hK.out _ _ ⟨(HXD.out _ HBn.out).1, (HXD.out _ HBn.out).2.1⟩ (fun hHeld => ?_)
        clear hK K
        try simp only [Act.put, List.setIfInBounds_toArray, List.set_cons_zero, List.set_cons_succ]
        refine wpAnyT_ready (rs := [6]) (by kernel_rfl) (by simp) ?_
        refine AllReadyT.lastly (by simp only [List.getElem?_toArray, List.getElem?_cons_zero, List.getElem?_cons_succ]; rfl) rfl (fun K hK => ?_) AllReadyT.nil
        rw [if_pos (by rfl)]
        have HTn : Hid (wn.there g3 0 32) := (HXD.out _ HBn.out).2.2.1
        refine wp_store_mid _ _ _ rfl g3 0 (cellsB N).toArray rfl rfl (by rw [cellsB_size, lN]; exact HTn.out) (by rw [cellsB_size, lN]; exact Tryd.sizeDg) (all_oneCell_toArray (cellsB_one _)) ?_
        refine hK.out _ _ ?_
        clear hK K
        try simp only [Act.put, List.setIfInBounds_toArray, List.set_cons_zero, List.set_cons_succ]
        refine wpAnyT_done (by kernel_rfl) (NoPanic.normal ?_) _
        try clear hHeld
        go_wp2_with fail
        go_roundw
        case rel =>
          have hgr := gro_setCells g3 (cellsB N) 0 wn
          refine ⟨j, N, rfl, HJQ.out, lN, World.rangeAt_setCells_same _ _ _ _ (by rw [cellsB_length, lN]; exact HTn.out), World.there_setCells HTn.out _ _ _, below_setCells _ (by omega) _ _ _ (HXD.out _ HBn.out).2.2.2, ?_, HE2.out⟩
          have h1 := hgr.size
          have h2 := HBn.out.size
          have h3 := HS.out
          omega
        case measure => simp [intOf]
      · obtain rfl : k = 0 := by omega
        have HE2 : Hid (bagT ps = x) := HE.out
        have HTr : Hid (wr.there w.heap.size 0 32 ∧ Below w.heap.size w wr) := ⟨there_below HT2.out HB.out (by have := HS2.out; omega), HB2.out.trans (HB.out.mono HB2.out.size)⟩
        clear HE
        go_wp2_with (first
          | (refine wpList_load_mid (by rfl) 24 (.tmp 8) (by rfl) g3 0 (by rfl) (cellsB x) _ HX.out Tryd.underlying24 (by rfl) (by rw [cellsB_length, hx]; exact Tryd.sizeDg) ?_)
          | (refine wpList_store_mid (by rfl) 24 (.tmp 4) (.tmp 41) (by rfl) w.heap.size 0 (cellsB x).toArray (by rfl) (by rfl) (by rw [cellsB_size, hx]; exact HTr.out.1) (by rw [cellsB_size, hx]; exact Tryd.sizeDg) (all_oneCell_toArray (cellsB_one _)) ?_))
        refine bodyPost_ret (v := .tuple #[digestV x, .nilIface]) (run_results_row2 Tryd.results12 _ _ w.heap.size 0 (by rfl) _ (by rfl) (cellsB x) (World.rangeAt_setCells_same _ _ _ _ (by rw [cellsB_length, hx]; exact HTr.out.1)) _ Tryd.underlying24 (by rfl) (by rw [cellsB_length, hx]; exact Tryd.sizeDg)) rfl ⟨by rw [HE2.out], ?_⟩
        exact below_setCells _ (Nat.le_refl _) _ _ _ HTr.out.2
end Go.Proofs.YtbpkhpkllokbhaaDoor
/- The contract of oathbookref1.turn. -/
namespace Go.Proofs.YtbpkhpkllokbhaaDoor
open Go.RowKit
set_option linter.unusedVariables false
set_option linter.unusedSimpArgs false

theorem turn_eq (x n : Nat) (hx : x < 4294967296) (h1 : 1 ≤ n) (h2 : n ≤ 31) : bits .or .i64 ((x : Int) / 2 ^ n) (bits .and .i64 (wrap64 ((x : Int) * 2 ^ (32 - n))) 4294967295) = ((rotr x n : Nat) : Int) := by
  have e1 : (x : Int) / 2 ^ n = ((x >>> n : Nat) : Int) := by rw [Nat.shiftRight_eq_div_pow, Int.natCast_ediv, Int.natCast_pow]; rfl
  have e2 : (x : Int) * 2 ^ (32 - n) = ((x <<< (32 - n) : Nat) : Int) := by rw [Nat.shiftLeft_eq, Int.natCast_mul, Int.natCast_pow]; rfl
  have hp : 2 ^ (32 - n) ≤ 2 ^ 31 := Nat.pow_le_pow_right (by omega) (by omega)
  have hb : x <<< (32 - n) < 9223372036854775808 := by
    rw [Nat.shiftLeft_eq]
    have : x * 2 ^ (32 - n) ≤ x * 2 ^ 31 := Nat.mul_le_mul_left _ hp
    omega
  have hs := shr_lt32 n hx
  rw [e1, e2]
  unfold rotr
  clear e1 e2 hp
  generalize x >>> n = u at *
  generalize x <<< (32 - n) = v at *
  rw [IntWalk.wrap64_in _ ⟨by omega, by omega⟩]
  have e3 : (4294967295 : Int) = ((4294967295 : Nat) : Int) := rfl
  rw [e3, i64_and_nat _ _ hb (by omega)]
  have hc : v &&& 4294967295 < 4294967296 := by rw [and_all]; omega
  rw [i64_or_nat _ _ (by omega) (by omega)]

set_option maxRecDepth 100000 in
set_option maxHeartbeats 400000 in
theorem turn_any (x n : Nat) (w : World) (hx : x < 4294967296) (h1 : 1 ≤ n) (h2 : n ≤ 31) :
    Calls Tryd.prog 30 #[.int .i64 x, .int .i64 n] w fun e w' => e = .returned (.int .i64 (rotr x n : Nat)) ∧ ∃ q, w' = w.drewN q := by
  go_enter Tryd.func30, Tryd.ntmps30
  go_wp2_with fail
  go_quiet (fail)
  go_wp2
  go_ret
  exact ⟨ret_int (turn_eq x n hx h1 h2), nq, rfl⟩
theorem turn_at (x n : Nat) (z : Int) (w : World) (hx : x < 4294967296) (hz : z = (n : Int)) (h1 : 1 ≤ n) (h2 : n ≤ 31) :
    Calls Tryd.prog 30 #[.int .i64 x, .int .i64 z] w fun e w' => e = .returned (.int .i64 (rotr x n : Nat)) ∧ ∃ q, w' = w.drewN q := by
  subst hz
  exact turn_any x n w hx h1 h2
theorem shr3 (x : Nat) : (x : Int) / (8 : Int) = ((x >>> 3 : Nat) : Int) := by rw [Nat.shiftRight_eq_div_pow]; rfl
theorem shr10 (x : Nat) : (x : Int) / (1024 : Int) = ((x >>> 10 : Nat) : Int) := by rw [Nat.shiftRight_eq_div_pow]; rfl
theorem xor3 {a b c : Nat} (ha : a < 4294967296) (hb : b < 4294967296) (hc : c < 4294967296) : bits .xor .i64 (bits .xor .i64 (a : Int) (b : Int)) (c : Int) = ((a ^^^ b ^^^ c : Nat) : Int) := by
  have hx := xor_lt32 ha hb
  rw [i64_xor_nat _ _ (by omega) (by omega), i64_xor_nat _ _ (by omega) (by omega)]
theorem ss0_eq {x : Nat} (h : x < 4294967296) : bits .xor .i64 (bits .xor .i64 ((rotr x 7 : Nat) : Int) ((rotr x 18 : Nat) : Int)) ((x : Int) / (8 : Int)) = ((ss0 x : Nat) : Int) := by
  rw [shr3, xor3 (rotr_lt _ _ h) (rotr_lt _ _ h) (shr_lt32 _ h)]; rfl
theorem ss1_eq {x : Nat} (h : x < 4294967296) : bits .xor .i64 (bits .xor .i64 ((rotr x 17 : Nat) : Int) ((rotr x 19 : Nat) : Int)) ((x : Int) / (1024 : Int)) = ((ss1 x : Nat) : Int) := by
  rw [shr10, xor3 (rotr_lt _ _ h) (rotr_lt _ _ h) (shr_lt32 _ h)]; rfl
theorem bs0_eq {x : Nat} (h : x < 4294967296) : bits .xor .i64 (bits .xor .i64 ((rotr x 2 : Nat) : Int) ((rotr x 13 : Nat) : Int)) ((rotr x 22 : Nat) : Int) = ((bs0 x : Nat) : Int) := by
  rw [xor3 (rotr_lt _ _ h) (rotr_lt _ _ h) (rotr_lt _ _ h)]; rfl
theorem bs1_eq {x : Nat} (h : x < 4294967296) : bits .xor .i64 (bits .xor .i64 ((rotr x 6 : Nat) : Int) ((rotr x 11 : Nat) : Int)) ((rotr x 25 : Nat) : Int) = ((bs1 x : Nat) : Int) := by
  rw [xor3 (rotr_lt _ _ h) (rotr_lt _ _ h) (rotr_lt _ _ h)]; rfl
theorem and_all_i64 (x : Nat) (h : x < 9223372036854775808) : bits .and .i64 (x : Int) 4294967295 = ((x % 4294967296 : Nat) : Int) := by
  have e3 : (4294967295 : Int) = ((4294967295 : Nat) : Int) := rfl
  rw [e3, i64_and_nat _ _ h (by omega), and_all]
theorem turn_z (x : Nat) (z : Int) (w : World) (hx : x < 4294967296) (h1 : 1 ≤ z) (h2 : z ≤ 31) :
    Calls Tryd.prog 30 #[.int .i64 x, .int .i64 z] w fun e w' => e = .returned (.int .i64 (rotr x z.toNat : Nat)) ∧ ∃ q, w' = w.drewN q :=
  turn_at x z.toNat z w hx (by omega) (by omega) (by omega)
theorem ch_eq {e f g : Nat} (he : e < 4294967296) (hf : f < 4294967296) (hg : g < 4294967296) : bits .xor .i64 (bits .and .i64 (e : Int) (f : Int)) (bits .and .i64 (4294967295 - (e : Int)) (g : Int)) = ((chW e f g : Nat) : Int) := by
  have e1 : (4294967295 - (e : Int)) = ((4294967295 - e : Nat) : Int) := by omega
  have a := and_lt32 (a := e) hf
  have b := and_lt32 (a := 4294967295 - e) hg
  rw [e1, i64_and_nat _ _ (by omega) (by omega), i64_and_nat _ _ (by omega) (by omega), i64_xor_nat _ _ (by omega) (by omega)]
  rfl
theorem mj_eq {a b c : Nat} (ha : a < 4294967296) (hb : b < 4294967296) (hc : c < 4294967296) : bits .xor .i64 (bits .xor .i64 (bits .and .i64 (a : Int) (b : Int)) (bits .and .i64 (a : Int) (c : Int))) (bits .and .i64 (b : Int) (c : Int)) = ((mjW a b c : Nat) : Int) := by
  rw [i64_and_nat _ _ (by omega) (by omega), i64_and_nat _ _ (by omega) (by omega), i64_and_nat _ _ (by omega) (by omega), xor3 (and_lt32 hb) (and_lt32 hc) (and_lt32 hc)]
  rfl
end Go.Proofs.YtbpkhpkllokbhaaDoor
/- The contract of oathbookref1.Num. -/
namespace Go.Proofs.YtbpkhpkllokbhaaDoor
open Go.RowKit
set_option linter.unusedVariables false
set_option linter.unusedSimpArgs false

set_option maxRecDepth 100000 in
set_option maxHeartbeats 400000 in
theorem rnum_some (a : Option Addr) (n c : Nat) (l : List UInt8) (w : World) (hr : Row w a n l) (hk : numOk l = true) :
    Calls Tryd.prog 29 #[.slice a n c] w fun e w' => e = .returned (.tuple #[.int .i64 (numTo l n), .bool true]) ∧ w' = w := by
  unfold numOk at hk
  rw [decide_eq_true_iff] at hk
  obtain ⟨hl, hr⟩ := hr
  rw [hl] at hk
  obtain ⟨hn, hn8, h8⟩ := hk
  rcases hr with hr | ⟨b, o, rfl, hc⟩
  · omega
  clear hl
  have g0 : w.cell? ⟨b, o, none⟩ = some (.int .u8 (nth l 0)) := hc 0 (by omega)
  have H8 : Hid (n = 8 → nth l 0 < 128) := h8
  clear h8
  have hi : (0:Int) < (n:Int) := by omega
  have hz : ((n : Int) == 0) = false := by simp; omega
  have hg : ¬ (8 : Int) < (n : Int) := by omega
  have hd : ((n : Int) == 8) = true ∧ ¬ (128 ≤ nth l 0) ∨ ((n : Int) == 8) = false := by
    by_cases h : n = 8
    · exact .inl ⟨by simp; omega, by have := H8.out h; omega⟩
    · exact .inr (by simp; omega)
  rcases hd with ⟨hb, hp⟩ | hb
  all_goals
    go_enter Tryd.func29, Tryd.ntmps29
    go_wp2
    go_loop [4, 5] (fun t i => ∃ k : Nat, k ≤ n ∧ i = .int .i64 k ∧ t = .int .i64 (numTo l k)) (fun _ i => n - (intOf i).toNat)
    case atStart => exact ⟨0, Nat.zero_le _, rfl, rfl⟩
    case round =>
      obtain ⟨k, hk, rfl, rfl⟩ := hrel
      by_cases hlt : k < n
      · have g := hc k hlt
        have r1 := numTo_room l n k hlt hn8 H8.out
        have r2 := (numTo_bd l k).1
        have r3 := nth_bd l k
        clear g0 hc
        go_wp2
        go_round
        case rel => exact ⟨k + 1, by omega, by go_num, by rw [numTo_succ]⟩
        case measure => simp [intOf]; omega
      · obtain rfl : k = n := by omega
        go_wp2
        go_ret2
        exact ⟨rfl, rfl⟩

set_option maxRecDepth 100000 in
set_option maxHeartbeats 400000 in
theorem rnum_none (a : Option Addr) (n c : Nat) (l : List UInt8) (w : World) (hr : Row w a n l) (hk : numOk l = false) (hm : n ≤ 281474976710656) :
    Calls Tryd.prog 29 #[.slice a n c] w fun e w' => e = .returned (.tuple #[.int .i64 0, .bool false]) ∧ w' = w := by
  unfold numOk at hk
  rw [decide_eq_false_iff_not] at hk
  obtain ⟨hl, hr⟩ := hr
  rw [hl] at hk
  clear hl
  by_cases h1 : n = 0
  · subst h1
    clear hr hk
    go_enter Tryd.func29, Tryd.ntmps29
    go_wp2
    go_ret2
    exact ⟨rfl, rfl⟩
  · have h1' : ((n : Int) == 0) = false := by simp; omega
    by_cases h2 : 8 < n
    · clear hr hk
      have h2' : (8 : Int) < (n : Int) := by omega
      go_enter Tryd.func29, Tryd.ntmps29
      go_wp2
      go_ret2
      exact ⟨rfl, rfl⟩
    · have h3 : n = 8 ∧ 128 ≤ nth l 0 := by
        by_cases h : n = 8
        · exact ⟨h, by
            by_cases hq : nth l 0 < 128
            · exact absurd ⟨by omega, by omega, fun _ => hq⟩ hk
            · omega⟩
        · exact absurd ⟨by omega, by omega, fun q => absurd q h⟩ hk
      obtain ⟨rfl, hp⟩ := h3
      rcases hr with hr | ⟨b, o, rfl, hc⟩
      · omega
      have g0 : w.cell? ⟨b, o, none⟩ = some (.int .u8 (nth l 0)) := hc 0 (by omega)
      clear hc hk h1 h2
      go_enter Tryd.func29, Tryd.ntmps29
      go_wp2
      go_ret2
      exact ⟨rfl, rfl⟩
end Go.Proofs.YtbpkhpkllokbhaaDoor
/- The contract of oathbookref1.block: 64 bytes more. -/
namespace Go.Proofs.YtbpkhpkllokbhaaDoor
open Go.RowKit
set_option linter.unusedVariables false
set_option linter.unusedSimpArgs false
theorem Tryd.infoInt : (Tryd.prog.info? 3).map (fun i => (i.zero, i.size, i.bytes)) = some (some (.int .i64 0), 1, 8) := by kernel_rfl

/-- Num of four of the bytes. -/
theorem rnum4 (bm om cm t : Nat) (m : List UInt8) (wr : World) (hl : m.length = 64) (ht : t < 16) (hc : ∀ i, i < 64 → wr.cell? ⟨bm, om + i, none⟩ = some (.int .u8 (nth m i))) :
    Calls Tryd.prog 29 #[.slice (some ⟨bm, om + 4 * t, none⟩) 4 cm] wr fun e w' => e = .returned (.tuple #[.int .i64 ((wordB m t : Nat) : Int), .bool true]) ∧ w' = wr := by
  have r4 : Row wr (some ⟨bm, om + 4 * t, none⟩) 4 ((m.drop (4 * t)).take 4) := by
    refine ⟨by simp; omega, .inr ⟨bm, om + 4 * t, rfl, fun i hi => ?_⟩⟩
    rw [Nat.add_assoc, hc (4 * t + i) (by omega)]
    unfold nth
    simp [List.getD_eq_getElem?_getD, List.getElem?_take, hi, List.getElem?_drop]
  have k4 : numOk ((m.drop (4 * t)).take 4) = true := by
    unfold numOk
    rw [decide_eq_true_iff, r4.1]
    omega
  rw [← numTo_word m t]
  exact rnum_some _ _ _ _ _ r4 k4

theorem row_news {k : IntKind} {w wr : World} {bh oh : Nat} {h : List Nat} {o : Obj} (hh : ∀ i, i < 8 → w.cell? ⟨bh, oh + i, none⟩ = some (.int k ((at' h i : Nat) : Int))) (hB : Below w.heap.size w wr) :
    ∀ j u, ((List.range 8).map fun i => Value.int k ((at' h i : Nat) : Int))[j]? = some u → (wr.alloc o).cell? ((⟨bh, oh, none⟩ : Addr).add j) = some u := by
  intro j u hj
  have h8 : j < 8 := by have := (List.getElem?_eq_some_iff.1 hj).1; simpa using this
  rw [Go.WideShapes.add_plain]
  have hb := cell_block (hh j h8)
  have hc := (hB.cell (p := ⟨bh, oh + j, none⟩) hb).trans (hh j h8)
  rw [World.cell?_alloc_lt _ _ ⟨bh, oh + j, none⟩ (Nat.lt_of_lt_of_le hb hB.size), hc]
  simpa [h8] using hj
theorem map_oneCell {k : IntKind} (l : List Nat) (f : Nat → Int) : ∀ u ∈ l.map (fun i => Value.int k (f i)), u.oneCell' = true := by
  intro u hu
  obtain ⟨i, _, rfl⟩ := List.mem_map.1 hu
  rfl
theorem own_slice {k : IntKind} {e : TypeId} {w : World} {B n : Nat} {v : Value} {f : Nat → Int} (hn : 0 < n) (h : w.ownsRow B e 1 v (0 + n) ([] ++ (List.range n).map fun i => Value.int k (f i))) :
    ∃ g cap, v = .slice (some ⟨g, 0, none⟩) n cap ∧ OwnK k e w B g n cap f := by
  rw [Nat.zero_add, List.nil_append] at h
  rcases h.2 with ⟨_, h0⟩ | ⟨g, cap, cur, rfl, _⟩
  · omega
  · exact ⟨g, cap, rfl, h⟩

/-- What the words that 64 bytes are spread to keep. -/
def Spread (m : List UInt8) (W : List Nat) : Prop := Fit W ∧ ∀ t, t < 64 → at' W t = if t < 16 then wordB m t else (ss1 (at' W (t - 2)) + at' W (t - 7) + ss0 (at' W (t - 15)) + at' W (t - 16)) % 4294967296
theorem spread_wTo (m : List UInt8) : Spread m (wTo m 64) := ⟨fit_wTo m 64, fun t h => wTo_rec m t h⟩

set_option maxRecDepth 100000 in
set_option maxHeartbeats 1000000 in
theorem rblock_core (W : List Nat) (ah ak am : Option Addr) (ch ck cm : Nat) (h : List Nat) (m : List UInt8) (w : World) (Rh : RowK .i64 w ah 8 h) (Rk : RowK .i64 w ak 64 kW) (Rm : Row w am 64 m) (hm : 64 ≤ cm) (hf : Fit h) (hW : Spread m W) :
    Calls Tryd.prog 23 #[.slice ah 8 ch, .slice ak 64 ck, .slice am 64 cm] w fun e w' => (∃ g cap, e = .returned (.slice (some ⟨g, 0, none⟩) 8 cap) ∧ w.heap.size ≤ g ∧ RowK .i64 w' (some ⟨g, 0, none⟩) 8 (addW (rTo h W 64) h)) ∧ Below w.heap.size w w' := by
  obtain ⟨i0, hi, hz0, hz1, hz2⟩ := info_parts Tryd.infoInt
  obtain ⟨lh, h0 | ⟨bh, oh, rfl, hh⟩⟩ := Rh
  · omega
  obtain ⟨lk, h0 | ⟨bk, ok, rfl, hk⟩⟩ := Rk
  · omega
  obtain ⟨lm, h0 | ⟨bm, om, rfl, hmc⟩⟩ := Rm
  · omega
  have HL : Hid (h.length = 8 ∧ m.length = 64) := ⟨lh, lm⟩
  clear lh lk lm
  have HF : Hid (Fit h) := hf
  clear hf
  go_enter Tryd.func23, Tryd.ntmps23
  go_wp2_with (at_make; refine wpList_make_full _ rfl _ _ 48 rfl w.heap.size 3 i0 (.int .i64 0) 1 Tryd.underlying48 hi hz0 hz1 _ _ _ _ 64 rfl rfl rfl rfl (by rw [hz2]; omega) (by unfold maxLen; omega) (Nat.le_refl _) ?_; intro w1 hown hgrow)
  have hO := OwnK.zero hown
  have hB : Below w.heap.size w w1 := (Below.refl _ _).grown hgrow (Nat.le_refl _) (fun _ h => by cases h)
  clear hown hgrow
  go_loopw [8] (fun i wr => ∃ t : Nat, t ≤ 64 ∧ i = .int .i64 (t : Int) ∧ OwnK .i64 3 wr w.heap.size w.heap.size 64 64 (fun x => if x < t then ((at' W x : Nat) : Int) else 0) ∧ Below w.heap.size w wr) (fun i _ => 64 - (intOf i).toNat)
  case atStart => exact ⟨0, Nat.zero_le _, rfl, hO.congr (fun i hi => by rw [if_neg (by omega)]), hB⟩
  case round =>
    clear hO hB
    obtain ⟨t, ht, rfl, hO, hB⟩ := hrel
    by_cases hlt : t < 64
    · by_cases h16 : t < 16
      · have hcell := hO.cell t hlt
        have hfz := hO.frozen t
        have a1 : (0 : Int) ≤ 4 * (t : Int) := by omega
        have a2 : 4 * (t : Int) + 4 ≤ 64 := by omega
        have a3 : 4 * (t : Int) + 4 ≤ (cm : Int) := by omega
        have HW : Hid (at' W t = wordB m t) := by
          unfold Hid; rw [hW.2 t hlt, if_pos h16]
        go_wp2_with fail
        refine (rnum4 bm om (cm - 4 * t) t m wr HL.out.2 h16 (fun i hi => (hB.cell (p := ⟨bm, om + i, none⟩) (cell_block (hmc i hi))).trans (hmc i hi))).mono ?_
        rintro e w' ⟨rfl, rfl⟩
        go_wp2
        go_roundw
        case rel =>
          refine ⟨t + 1, by omega, by go_num, (hO.store t _).congr fun i hi => ?_, hB.setCell (Nat.le_refl _) _⟩
          by_cases hit : i = t
          · subst hit; rw [if_pos rfl, if_pos (by omega), HW.out]
          · rw [if_neg hit]
            by_cases hlt2 : i < t
            · rw [if_pos hlt2, if_pos (by omega)]
            · rw [if_neg hlt2, if_neg (by omega)]
        case measure => simp [intOf]; omega
      · have c0 := hO.cell t hlt
        have hfz := hO.frozen t
        have c2 := hO.cell (t - 2) (by omega)
        have c7 := hO.cell (t - 7) (by omega)
        have c15 := hO.cell (t - 15) (by omega)
        have c16 := hO.cell (t - 16) (by omega)
        rw [if_pos (by omega)] at c2 c7 c15 c16
        rw [if_neg (by omega)] at c0
        have f2 := hW.1 (t - 2)
        have f7 := hW.1 (t - 7)
        have f15 := hW.1 (t - 15)
        have f16 := hW.1 (t - 16)
        have HW : Hid (at' W t = (ss1 (at' W (t - 2)) + at' W (t - 7) + ss0 (at' W (t - 15)) + at' W (t - 16)) % 4294967296) := by
          unfold Hid; rw [hW.2 t hlt, if_neg h16]
        generalize at' W (t - 2) = x2 at *
        generalize at' W (t - 7) = x7 at *
        generalize at' W (t - 15) = x15 at *
        generalize at' W (t - 16) = x16 at *
        have h16' : ¬ (t : Int) < 16 := by omega
        go_wp2_with fail
        refine (turn_at x15 7 _ _ f15 rfl (by omega) (by omega)).mono ?_
        rintro e w' ⟨rfl, q1, rfl⟩
        go_wp2_with fail
        refine (turn_at x15 18 _ _ f15 rfl (by omega) (by omega)).mono ?_
        rintro e w' ⟨rfl, q2, rfl⟩
        go_wp2_with fail
        refine (turn_at x2 17 _ _ f2 rfl (by omega) (by omega)).mono ?_
        rintro e w' ⟨rfl, q3, rfl⟩
        go_wp2_with fail
        refine (turn_at x2 19 _ _ f2 rfl (by omega) (by omega)).mono ?_
        rintro e w' ⟨rfl, q4, rfl⟩
        go_wp2_with fail
        rw [ss0_eq f15, ss1_eq f2]
        have g0 := ss0_lt f15
        have g1 := ss1_lt f2
        have hO := hO.drewN (q1 + q2 + q3 + q4)
        have hB : Below w.heap.size w (wr.drewN (q1 + q2 + q3 + q4)) := hB.trans ((below_drewN wr _).mono hB.size)
        have d0 : (wr.drewN (q1 + q2 + q3 + q4)).cell? ⟨w.heap.size, t, none⟩ = _ := c0
        have d7 : (wr.drewN (q1 + q2 + q3 + q4)).cell? ⟨w.heap.size, t - 7, none⟩ = _ := c7
        have d16 : (wr.drewN (q1 + q2 + q3 + q4)).cell? ⟨w.heap.size, t - 16, none⟩ = _ := c16
        have df : (wr.drewN (q1 + q2 + q3 + q4)).frozen? ⟨w.heap.size, t, none⟩ = _ := hfz
        clear c0 c2 c7 c15 c16 hfz
        generalize wr.drewN (q1 + q2 + q3 + q4) = w5 at *
        generalize ss0 x15 = y0 at *
        generalize ss1 x2 = y1 at *
        go_region
        all_goals
          go_wp2
          go_roundw
          case rel =>
            refine ⟨t + 1, by omega, by go_num, (hO.store t _).congr fun i hi => ?_, (Below.setCell (p := ⟨w.heap.size, t, none⟩) hB (Nat.le_refl _) _).drew⟩
            by_cases hit : i = t
            · subst hit
              rw [if_pos rfl, if_pos (by omega), HW.out]
              have e : (y1 : Int) + (x7 : Int) + (y0 : Int) + (x16 : Int) = ((y1 + x7 + y0 + x16 : Nat) : Int) := by omega
              rw [e, and_all_i64 _ (by omega)]
            · rw [if_neg hit]
              by_cases hlt2 : i < t
              · rw [if_pos hlt2, if_pos (by omega)]
              · rw [if_neg hlt2, if_neg (by omega)]
          case measure => simp [intOf]; omega
    · obtain rfl : t = 64 := by omega
      have hO : OwnK .i64 3 wr w.heap.size w.heap.size 64 64 (fun x => ((at' W x : Nat) : Int)) := hO.congr fun i hi => by rw [if_pos hi]
      have hwr := hO.base.2
      go_wp2_with (at_builtin; refine wpList_append_own _ rfl _ _ 48 rfl (w.heap.size + 1) 3 i0 (.int .i64 0) 1 8 Tryd.underlying48 hi hz0 hz1 hz2 rfl (by decide) _ 0 [] rfl (World.ownsRow_lit wr #[] 0 (by omega) (by unfold maxLen; omega) rfl) ⟨bh, oh, none⟩ 8 ch ((List.range 8).map fun i => Value.int .i64 ((at' h i : Nat) : Int)) rfl (by simp) (row_news hh hB) (map_oneCell _ _) (by unfold maxLen; omega) (by omega) (by simp; omega) ?_; intro v2 w2 hown2 hgrow2 _)
      obtain ⟨g, cap, rfl, hV⟩ := own_slice (by omega) hown2
      have hO := hO.kept ((World.grownBy_alloc wr (.cells #[] 3) none)) (by simp)
      have hg2 : (wr.alloc (.cells #[] 3)).grownBy w2 (some wr.heap.size) := hgrow2
      have hO := hO.kept hg2 (by intro h; have := Option.some.inj h; omega)
      have hB : Below w.heap.size w w2 := ((hB.alloc hB.size _).grown hg2 (by simp; omega) (fun k hk => by cases hk; omega))
      clear hown2 hgrow2 hwr hg2
      go_loopw [14] (fun i wr => ∃ t : Nat, t ≤ 64 ∧ i = .int .i64 (t : Int) ∧ OwnK .i64 3 wr (w.heap.size + 1) g 8 cap (fun x => ((at' (rTo h W t) x : Nat) : Int)) ∧ OwnK .i64 3 wr w.heap.size w.heap.size 64 64 (fun x => ((at' W x : Nat) : Int)) ∧ Below w.heap.size w wr) (fun i _ => 64 - (intOf i).toNat)
      case atStart => exact ⟨0, Nat.zero_le _, rfl, hV, hO, hB⟩
      case round =>
        clear hO hB hV
        obtain ⟨t, ht, rfl, hV, hO, hB⟩ := hrel
        have hgb := hV.base
        by_cases hlt : t < 64
        · have hfv := fit_rTo (ws := W) HF.out t
          have HS : Hid (rTo h W (t + 1) = stepW (rTo h W t) (at' kW t) (at' W t)) := rfl
          generalize rTo h W t = v at *
          have HV : Hid (OwnK .i64 3 wr (w.heap.size + 1) g 8 cap (fun x => ((at' v x : Nat) : Int))) := hV
          have c0 := hV.cell 0 (by omega)
          have c1 := hV.cell 1 (by omega)
          have c2 := hV.cell 2 (by omega)
          have c3 := hV.cell 3 (by omega)
          have c4 := hV.cell 4 (by omega)
          have c5 := hV.cell 5 (by omega)
          have c6 := hV.cell 6 (by omega)
          have c7 := hV.cell 7 (by omega)
          have f0 := hfv 0
          have f1 := hfv 1
          have f2 := hfv 2
          have f4 := hfv 4
          have f5 := hfv 5
          have f6 := hfv 6
          have f7 := hfv 7
          have f3 := hfv 3
          have cw := hO.cell t hlt
          have ck := (hB.cell (p := ⟨bk, ok + t, none⟩) (cell_block (hk t hlt))).trans (hk t hlt)
          have fk := fit_kW t
          have fw := hW.1 t
          have HO : Hid (OwnK .i64 3 wr w.heap.size w.heap.size 64 64 (fun x => ((at' W x : Nat) : Int))) := hO
          have HP : Hid (∀ x0 x1 x2 x3 x4 x5 x6 x7 : Nat, x0 = at' v 0 → x1 = at' v 1 → x2 = at' v 2 → x3 = at' v 3 → x4 = at' v 4 → x5 = at' v 5 → x6 = at' v 6 → x7 = at' v 7 → stepW v (at' kW t) (at' W t) = [(x7 + bs1 x4 + chW x4 x5 x6 + at' kW t + at' W t + (bs0 x0 + mjW x0 x1 x2)) % 4294967296, x0, x1, x2, (x3 + (x7 + bs1 x4 + chW x4 x5 x6 + at' kW t + at' W t)) % 4294967296, x4, x5, x6]) := by
            intro x0 x1 x2 x3 x4 x5 x6 x7 h0 h1 h2 h3 h4 h5 h6 h7
            subst h0 h1 h2 h3 h4 h5 h6 h7
            rfl
          clear hV hO hfv
          generalize at' v 0 = x0 at *
          generalize at' v 1 = x1 at *
          generalize at' v 2 = x2 at *
          generalize at' v 3 = x3 at *
          generalize at' v 4 = x4 at *
          generalize at' v 5 = x5 at *
          generalize at' v 6 = x6 at *
          generalize at' v 7 = x7 at *
          generalize at' kW t = kt at *
          generalize at' W t = wt at *
          have hlt' : (t : Int) < 64 := by omega
          have ht0 : (0 : Int) ≤ (t : Int) := by omega
          have E1 := bs1_eq f4
          have E2 := ch_eq f4 f5 f6
          have G1 := bs1_lt f4
          have G2 := chW_lt (e := x4) f5 f6
          have E3 := bs0_eq f0
          have E4 := mj_eq f0 f1 f2
          have G3 := bs0_lt f0
          have G4 := mjW_lt (a := x0) f1 f2
          go_wp2_with fail
          go_quiet ((go_at_call 30; exact Calls.quiet_of (turn_z _ _ _ f4 (by omega) (by omega))))
          clear E1 E2
          rw [← drewN_cell wr nq] at c0 c1 c2 c3 c4 c5 c6 c7 cw ck
          have HV : Hid (OwnK .i64 3 (wr.drewN nq) (w.heap.size + 1) g 8 cap (fun x => ((at' v x : Nat) : Int))) := OwnK.drewN HV.out nq
          have HO : Hid (OwnK .i64 3 (wr.drewN nq) w.heap.size w.heap.size 64 64 (fun x => ((at' W x : Nat) : Int))) := OwnK.drewN HO.out nq
          have hB : Below w.heap.size w (wr.drewN nq) := hB.trans ((below_drewN wr _).mono hB.size)
          generalize wr.drewN nq = w5 at *
          go_wp2_with fail
          go_quiet ((go_at_call 30; exact Calls.quiet_of (turn_z _ _ _ f0 (by omega) (by omega))))
          clear E3 E4
          go_wp2_with fail
          generalize hp1 : bs1 x4 = y1 at *
          generalize hp2 : chW x4 x5 x6 = y2 at *
          generalize hp3 : bs0 x0 = y3 at *
          generalize hp4 : mjW x0 x1 x2 = y4 at *
          have HP1 : Hid (_ ∧ _ ∧ _ ∧ _) := ⟨hp1, hp2, hp3, hp4⟩
          clear hp1 hp2 hp3 hp4
          rw [← drewN_cell w5 nq] at c0 c1 c2 c3 c4 c5 c6 c7
          have HV : Hid (OwnK .i64 3 (w5.drewN nq) (w.heap.size + 1) g 8 cap (fun x => ((at' v x : Nat) : Int))) := OwnK.drewN HV.out nq
          have HO : Hid (OwnK .i64 3 (w5.drewN nq) w.heap.size w.heap.size 64 64 (fun x => ((at' W x : Nat) : Int))) := OwnK.drewN HO.out nq
          have hB : Below w.heap.size w (w5.drewN nq) := hB.trans ((below_drewN w5 _).mono hB.size)
          clear cw ck
          generalize w5.drewN nq = w6 at *
          have z0 := OwnK.frozen HV.out 0
          have z1 := OwnK.frozen HV.out 1
          have z2 := OwnK.frozen HV.out 2
          have z3 := OwnK.frozen HV.out 3
          have z4 := OwnK.frozen HV.out 4
          have z5 := OwnK.frozen HV.out 5
          have z6 := OwnK.frozen HV.out 6
          have z7 := OwnK.frozen HV.out 7
          refine wp_loop_rounds 8 ?_
          iterate 7
            rw [rounds_succ]
            go_wp2
          rw [rounds_succ]
          go_wp2
          go_roundw
          case rel =>
            have hne : g ≠ w.heap.size := by omega
            refine ⟨t + 1, by omega, by go_num, ?_, ?_, ?_⟩
            · refine (((((((((OwnK.store HV.out 7 _).store 6 _).store 5 _).store 4 _).store 3 _).store 2 _).store 1 _).store 4 _).store 0 _).congr fun i hi => ?_
              obtain ⟨p1, p2, p3, p4⟩ := HP1.out
              rw [HS.out, HP.out x0 x1 x2 x3 x4 x5 x6 x7 rfl rfl rfl rfl rfl rfl rfl rfl, p1, p2, p3, p4]
              have e0 : bits BinOp.and IntKind.i64 (↑x7 + ↑y1 + ↑y2 + ↑kt + ↑wt + (↑y3 + ↑y4)) 4294967295 = (((x7 + y1 + y2 + kt + wt + (y3 + y4)) % 4294967296 : Nat) : Int) := by
                rw [← and_all_i64 _ (by omega)]; rfl
              have e4 : bits BinOp.and IntKind.i64 (↑x3 + (↑x7 + ↑y1 + ↑y2 + ↑kt + ↑wt)) 4294967295 = (((x3 + (x7 + y1 + y2 + kt + wt)) % 4294967296 : Nat) : Int) := by
                rw [← and_all_i64 _ (by omega)]; rfl
              have hi8 : i = 0 ∨ i = 1 ∨ i = 2 ∨ i = 3 ∨ i = 4 ∨ i = 5 ∨ i = 6 ∨ i = 7 := by omega
              rcases hi8 with rfl | rfl | rfl | rfl | rfl | rfl | rfl | rfl
              · exact e0
              · rfl
              · rfl
              · rfl
              · exact e4
              · rfl
              · rfl
              · rfl
            · exact ((((((((OwnK.aside HO.out _ _ hne).aside _ _ hne).aside _ _ hne).aside _ _ hne).aside _ _ hne).aside _ _ hne).aside _ _ hne).aside _ _ hne).aside _ _ hne
            · have hle : w.heap.size ≤ g := by omega
              exact ((((((((hB.setCell hle _).setCell hle _).setCell hle _).setCell hle _).setCell hle _).setCell hle _).setCell hle _).setCell hle _).setCell hle _
          case measure => simp [intOf]; omega
        · obtain rfl : t = 64 := by omega
          have hfv : Fit (rTo h W 64) := fit_rTo HF.out 64
          generalize hv64 : rTo h W 64 = v at *
          have HE : Hid (rTo h W 64 = v) := hv64
          clear hO hv64
          go_wp2_with fail
          go_loopw [20] (fun i wr => ∃ j : Nat, j ≤ 8 ∧ i = .int .i64 (j : Int) ∧ OwnK .i64 3 wr (w.heap.size + 1) g 8 cap (fun x => if x < j then (((at' v x + at' h x) % 4294967296 : Nat) : Int) else ((at' v x : Nat) : Int)) ∧ Below w.heap.size w wr) (fun i _ => 8 - (intOf i).toNat)
          case atStart => exact ⟨0, Nat.zero_le _, rfl, hV.congr (fun i hi => by rw [if_neg (by omega)]), hB⟩
          case round =>
            clear hV hB
            obtain ⟨j, hj, rfl, hV, hB⟩ := hrel
            by_cases hlt8 : j < 8
            · have c0 := hV.cell j hlt8
              rw [if_neg (by omega)] at c0
              have z0 := hV.frozen j
              have ch' := (hB.cell (p := ⟨bh, oh + j, none⟩) (cell_block (hh j hlt8))).trans (hh j hlt8)
              have f1 := hfv j
              have f2 := HF.out j
              have HV : Hid (OwnK .i64 3 wr (w.heap.size + 1) g 8 cap (fun x => if x < j then (((at' v x + at' h x) % 4294967296 : Nat) : Int) else ((at' v x : Nat) : Int))) := hV
              clear hV
              generalize hx : at' v j = x at *
              generalize hy : at' h j = y at *
              have HX : Hid (at' v j = x ∧ at' h j = y) := ⟨hx, hy⟩
              clear hx hy
              have hj1 : (j : Int) < 8 := by omega
              have hj0 : (0 : Int) ≤ (j : Int) := by omega
              go_wp2_with fail
              go_region
              all_goals
                go_wp2
                go_roundw
                case rel =>
                  refine ⟨j + 1, by omega, by go_num, (OwnK.store HV.out j _).congr fun i hi => ?_, (Below.setCell (p := ⟨g, j, none⟩) hB (by show w.heap.size ≤ g; omega) _).drew⟩
                  by_cases hij : i = j
                  · subst hij
                    rw [if_pos rfl, if_pos (by omega), HX.out.1, HX.out.2, ← and_all_i64 _ (by omega)]
                    rfl
                  · rw [if_neg hij]
                    by_cases hl2 : i < j
                    · rw [if_pos hl2, if_pos (by omega)]
                    · rw [if_neg hl2, if_neg (by omega)]
                case measure => simp [intOf]; omega
            · obtain rfl : j = 8 := by omega
              have HR : Hid (RowK .i64 wr (some ⟨g, 0, none⟩) 8 (addW v h)) := hV.row (by simp [addW]) (fun i hi => by rw [if_pos hi]; unfold addW; rw [at_map_range _ _ _ hi])
              clear hV
              go_wp2
              go_ret
              exact ⟨⟨g, cap, rfl, by omega, by rw [HE.out]; exact HR.out⟩, hB⟩

theorem rblock_any (ah ak am : Option Addr) (ch ck cm : Nat) (h : List Nat) (m : List UInt8) (w : World) (Rh : RowK .i64 w ah 8 h) (Rk : RowK .i64 w ak 64 kW) (Rm : Row w am 64 m) (hm : 64 ≤ cm) (hf : Fit h) :
    Calls Tryd.prog 23 #[.slice ah 8 ch, .slice ak 64 ck, .slice am 64 cm] w fun e w' => (∃ g cap, e = .returned (.slice (some ⟨g, 0, none⟩) 8 cap) ∧ w.heap.size ≤ g ∧ RowK .i64 w' (some ⟨g, 0, none⟩) 8 (blockW h m)) ∧ Below w.heap.size w w' :=
  rblock_core (wTo m 64) ah ak am ch ck cm h m w Rh Rk Rm hm hf (spread_wTo m)
end Go.Proofs.YtbpkhpkllokbhaaDoor
