/- The contracts of peaks.check, Add and Root. -/
import Derived.Test.YtbpkhpkllokbhaaDoorWones
import Derived.Test.YtbpkhpkllokbhaaDoorWroot
import Derived.Test.YtbpkhpkllokbhaaDoorCopyd
import Derived.Test.YtbpkhpkllokbhaaDoorTill
import Derived.OwnWalk
namespace Go.Proofs.YtbpkhpkllokbhaaDoor
open Go.RowKit
set_option linter.unusedVariables false
set_option linter.unusedSimpArgs false

set_option maxRecDepth 100000 in
set_option maxHeartbeats 1000000 in
theorem wcheck_ok (n p c : Nat) (a : Option Addr) (w : World) (hn : n ≤ 1073741824) (hp : p = onesT n) :
    Calls Tryd.prog 16 #[.int .i64 (n : Int), .slice a p c] w fun e w' => e = .returned (.nilIface) ∧ w' = w := by
  have g0 : ¬ (n : Int) < 0 := by omega
  have g1 : ¬ (1073741824 : Int) < (n : Int) := by omega
  have HP : Hid (p = onesT n) := hp
  clear hp
  go_enter Tryd.func16, Tryd.ntmps16
  go_wp2_with fail
  refine (wones_any n w (by omega)).mono ?_
  rintro e wq ⟨rfl, hq⟩
  have hq' : w = wq := hq.symm
  subst hq'
  rw [← HP.out]
  go_wp2_with fail
  go_ret
  exact ⟨rfl, rfl⟩
set_option maxRecDepth 100000 in
set_option maxHeartbeats 1000000 in
theorem wcheck_out (n : Int) (p c : Nat) (a : Option Addr) (w : World) (hn : n < 0 ∨ 1073741824 < n) (n1 : -9223372036854775808 ≤ n) (n2 : n ≤ 9223372036854775807) :
    Calls Tryd.prog 16 #[.int .i64 n, .slice a p c] w fun e w' => e = .returned (.iface 25 (.int .i64 2)) ∧ w' = w := by
  by_cases g0 : n < 0
  · clear hn
    go_enter Tryd.func16, Tryd.ntmps16
    go_wp2_with fail
    go_ret
    exact ⟨rfl, rfl⟩
  · have g1 : (1073741824 : Int) < n := by omega
    clear hn
    go_enter Tryd.func16, Tryd.ntmps16
    go_wp2_with fail
    go_ret
    exact ⟨rfl, rfl⟩
set_option maxRecDepth 100000 in
set_option maxHeartbeats 1000000 in
theorem wcheck_len (n p c : Nat) (a : Option Addr) (w : World) (hn : n ≤ 1073741824) (hp : p ≠ onesT n) :
    Calls Tryd.prog 16 #[.int .i64 (n : Int), .slice a p c] w fun e w' => e = .returned (.iface 25 (.int .i64 3)) ∧ w' = w := by
  have g0 : ¬ (n : Int) < 0 := by omega
  have g1 : ¬ (1073741824 : Int) < (n : Int) := by omega
  go_enter Tryd.func16, Tryd.ntmps16
  go_wp2_with fail
  refine (wones_any n w (by omega)).mono ?_
  rintro e wq ⟨rfl, hq⟩
  have hq' : w = wq := hq.symm
  subst hq'
  generalize onesT n = k at *
  have g2 : ((p : Int) == (k : Int)) = false := by simp; omega
  go_wp2_with fail
  go_ret
  exact ⟨rfl, rfl⟩
set_option maxRecDepth 100000 in
set_option maxHeartbeats 1000000 in
theorem wpeaks_addout (n : Int) (p c : Nat) (a : Option Addr) (ps : List (List UInt8)) (l : List UInt8) (w : World) (G : Env w) (R : DRow w a p ps) (hc : p ≤ c) (hp2 : 32 * p ≤ 140737488351232) (hn : n < 0 ∨ 1073741824 < n) (n1 : -9223372036854775808 ≤ n) (n2 : n ≤ 9223372036854775807) (hl : l.length = 32) :
    Calls Tryd.prog 9 #[.int .i64 n, .slice a p c, digestV l] w fun e w' => (∃ a' c', e = .returned (.tuple #[.slice a' 0 c', .iface 25 (.int .i64 2)])) ∧ Below w.heap.size w w' := by
  obtain ⟨w2, hw2⟩ : ∃ w2, (w.alloc (.cells (cellsB l).toArray 24)) = w2 := ⟨_, rfl⟩
  have HS2 : Hid (w2.heap.size = w.heap.size + 1) := by unfold Hid; rw [← hw2]; simp
  have HB2 : Hid (Below w.heap.size w w2) := by rw [← hw2]; exact (Below.refl _ _).alloc (Nat.le_refl _) _
  clear G R
  go_enter Tryd.func9, Tryd.ntmps9
  go_wp2_with fail
  refine (wcheck_out n p c a w2 hn n1 n2).mono ?_
  rintro e wq ⟨rfl, hq⟩
  have hq' : w2 = wq := hq.symm
  subst hq'
  clear hw2 hn
  go_wp2_with fail
  go_ret2
  exact ⟨⟨_, _, rfl⟩, HB2.out⟩
set_option maxRecDepth 100000 in
set_option maxHeartbeats 1000000 in
theorem wpeaks_addlen (n p c : Nat) (a : Option Addr) (ps : List (List UInt8)) (l : List UInt8) (w : World) (G : Env w) (R : DRow w a p ps) (hc : p ≤ c) (hp2 : 32 * p ≤ 140737488351232) (hn : n ≤ 1073741824) (hp : p ≠ onesT n) (hl : l.length = 32) :
    Calls Tryd.prog 9 #[.int .i64 (n : Int), .slice a p c, digestV l] w fun e w' => (∃ a' c', e = .returned (.tuple #[.slice a' 0 c', .iface 25 (.int .i64 3)])) ∧ Below w.heap.size w w' := by
  obtain ⟨w2, hw2⟩ : ∃ w2, (w.alloc (.cells (cellsB l).toArray 24)) = w2 := ⟨_, rfl⟩
  have HS2 : Hid (w2.heap.size = w.heap.size + 1) := by unfold Hid; rw [← hw2]; simp
  have HB2 : Hid (Below w.heap.size w w2) := by rw [← hw2]; exact (Below.refl _ _).alloc (Nat.le_refl _) _
  clear G R
  go_enter Tryd.func9, Tryd.ntmps9
  go_wp2_with fail
  refine (wcheck_len n p c a w2 hn hp).mono ?_
  rintro e wq ⟨rfl, hq⟩
  have hq' : w2 = wq := hq.symm
  subst hq'
  clear hw2 hn hp
  go_wp2_with fail
  go_ret2
  exact ⟨⟨_, _, rfl⟩, HB2.out⟩
theorem add_facts {w wr w4 : World} {a : Option Addr} {p k : Nat} {ps : List (List UInt8)} {x : List UInt8} {xs : List Value} (hown : w4.ownsRow wr.heap.size 24 32 (.slice (some ⟨wr.heap.size, 0, none⟩) (k + 1) (k + 1)) (k + 1) xs) (hgrow : wr.grownBy w4 none) (HD : DRow wr a p ps) (hk : k ≤ p) (hS : w.heap.size < wr.heap.size) (HX : wr.rangeAt w.heap.size 0 (cellsB x)) (HB : Below w.heap.size w wr) (hx : x.length = 32) :
    Hid (DRow w4 a k (ps.take k)) ∧ Hid (w4.there wr.heap.size 0 ((k + 1) * 32)) ∧ Hid ((w4.setCells wr.heap.size 0 (cellsB (ps.take k).flatten)).rangeAt w.heap.size 0 (cellsB x)) ∧ Hid ((w4.setCells wr.heap.size 0 (cellsB (ps.take k).flatten)).there wr.heap.size (k * 32) 32) ∧ Hid (DRow ((w4.setCells wr.heap.size 0 (cellsB (ps.take k).flatten)).setCells wr.heap.size (k * 32) (cellsB x)) (some ⟨wr.heap.size, 0, none⟩) (k + 1) (ps.take k ++ [x])) ∧ Hid (Below w.heap.size w ((w4.setCells wr.heap.size 0 (cellsB (ps.take k).flatten)).setCells wr.heap.size (k * 32) (cellsB x))) := by
  have HB4 : Below wr.heap.size wr w4 := (Below.refl _ _).grown hgrow (Nat.le_refl _) (fun _ h => by cases h)
  have HT4 : w4.there wr.heap.size 0 ((k + 1) * 32) := own_there hown
  have HD4 : DRow w4 a k (ps.take k) := (HD.below HB4).take k hk
  have hfl : (ps.take k).flatten.length = k * 32 := by rw [flat_len HD4.2.1, HD4.1]; omega
  generalize wr.heap.size = g at *
  refine ⟨HD4, HT4, World.rangeAt_setCells_apart (range_below HX HB4 hS) _ _ _ (.inl (by omega)), World.there_setCells (fun j hj => ?_) _ _ _, ?_, below_setCells _ (by omega) _ _ _ (below_setCells _ (by omega) _ _ _ (HB.trans (HB4.mono (by omega))))⟩
  · have := HT4 (k * 32 + j) (by omega)
    rwa [Nat.zero_add] at this
  · have h32 : ∀ q ∈ ps.take k ++ [x], q.length = 32 := fun q hq => by
      rcases List.mem_append.1 hq with h | h
      · exact HD4.2.1 q h
      · rw [List.mem_singleton.1 h]; exact hx
    have h := dat_two (w := w4) (b := g) (o := 0) (x := (ps.take k).flatten) (y := x) (by rw [hfl, hx]; have := HT4; rwa [show (k + 1) * 32 = k * 32 + 32 by omega] at this)
    rw [hfl, Nat.zero_add] at h
    have e : (ps.take k ++ [x]).flatten = (ps.take k).flatten ++ x := by simp
    have r := DRow.ofFlat (w := (w4.setCells g 0 (cellsB (ps.take k).flatten)).setCells g (k * 32) (cellsB x)) (b := g) (o := 0) h32 (by rw [e]; exact h)
    rw [List.length_append, HD4.1] at r
    exact r
set_option maxRecDepth 100000 in
set_option maxHeartbeats 1000000 in
theorem wpeaks_add (n p c : Nat) (a : Option Addr) (ps : List (List UInt8)) (l : List UInt8) (w : World) (G : Env w) (R : DRow w a p ps) (hc : p ≤ c) (hn : n ≤ 1073741824) (hp : p = onesT n) (hl : l.length = 32) :
    Calls Tryd.prog 9 #[.int .i64 (n : Int), .slice a p c, digestV l] w fun e w' => (∃ a' c', e = .returned (.tuple #[.slice a' (onesT (n + 1)) c', .nilIface]) ∧ onesT (n + 1) ≤ c' ∧ DRow w' a' (onesT (n + 1)) (grownT n ps l)) ∧ Below w.heap.size w w' := by
  obtain ⟨iD, hiD, hzD0, hzD1, hzD2⟩ := info_parts Tryd.infoDg
  obtain ⟨w2, hw2⟩ : ∃ w2, (w.alloc (.cells (cellsB l).toArray 24)) = w2 := ⟨_, rfl⟩
  have HS2 : Hid (w2.heap.size = w.heap.size + 1) := by unfold Hid; rw [← hw2]; simp
  have HB2 : Hid (Below w.heap.size w w2) := by rw [← hw2]; exact (Below.refl _ _).alloc (Nat.le_refl _) _
  have HL2 : Hid (DAt w2 w.heap.size 0 l) := by rw [← hw2]; exact box_dat w l _
  have HT2 : Hid (w2.there w.heap.size 0 32) := by rw [← hw2]; exact alloc_thereAt _ _ _ 32 _ rfl (by rw [cellsB_size, hl])
  have HGR : Hid (∀ wx, Below w.heap.size w wx → Env wx ∧ DRow wx a p ps) := fun wx hx => ⟨G.below hx, R.below hx⟩
  have HPL : Hid (ps.length = p) := R.1
  have HPR : Hid (DRow w a p ps) := R
  have HGL : Hid ((grownT n ps l).length = onesT (n + 1)) := grownT_length n ps l (by rw [R.1, hp])
  have HP : Hid (p = onesT n) := hp
  have h31 : p ≤ 31 := by rw [hp]; exact onesT_30 hn
  clear G R hp
  go_enter Tryd.func9, Tryd.ntmps9
  go_wp2_with fail
  refine (wcheck_ok n p c a w2 hn HP.out).mono ?_
  rintro e wq ⟨rfl, hq⟩
  have hq' : w2 = wq := hq.symm
  subst hq'
  clear hw2
  go_wp2_with fail
  go_loopw [0, 9] (fun nv kv wr => ∃ (m k : Nat) (x : List UInt8), nv = .int .i64 (m : Int) ∧ kv = .int .i64 (k : Int) ∧ m ≤ n ∧ k ≤ p ∧ x.length = 32 ∧ wr.rangeAt w.heap.size 0 (cellsB x) ∧ wr.there w.heap.size 0 32 ∧ Below w.heap.size w wr ∧ w.heap.size < wr.heap.size ∧ Hid (grownT m (ps.take k) x = grownT n ps l ∧ k = onesT m)) (fun nv _ _ => (intOf nv).toNat)
  case atStart =>
    have s := HS2.out
    exact ⟨n, p, l, rfl, rfl, Nat.le_refl _, Nat.le_refl _, hl, HL2.out, HT2.out, HB2.out, by omega, by rw [List.take_of_length_le (by rw [HPL.out]; omega)], HP.out⟩
  case round =>
    clear HL2 HT2 HB2 HS2
    obtain ⟨m, k, x, rfl, rfl, hm, hk, hx, hX, hT, hB, hS, HE⟩ := hrel
    have HX : Hid (wr.rangeAt w.heap.size 0 (cellsB x)) := hX
    have HT : Hid (wr.there w.heap.size 0 32) := hT
    have HB : Hid (Below w.heap.size w wr) := hB
    have HS : Hid (w.heap.size < wr.heap.size) := hS
    clear hX hT hB hS
    have d1 : (m : Int).tdiv 2 = ((m / 2 : Nat) : Int) := by rw [Int.tdiv_eq_ediv_of_nonneg (by omega)]; omega
    have d2 : (m : Int) / 2 = ((m / 2 : Nat) : Int) := by omega
    have d3 : (m : Int).tmod 2 = ((m % 2 : Nat) : Int) := by rw [Int.tmod_eq_emod_of_nonneg (by omega)]; omega
    have d4 : (m : Int) % 2 = ((m % 2 : Nat) : Int) := by omega
    by_cases hodd : m % 2 = 1
    · rw [hodd] at d3 d4
      have HKO : Hid (k = 1 + onesT (m / 2)) := by
        have := HE.out.2
        rw [onesT_step (by omega), hodd] at this
        exact this
      obtain ⟨j, hj⟩ : ∃ j, k = j + 1 := ⟨k - 1, by have := HKO.out; omega⟩
      obtain ⟨b, o, ha⟩ := HPR.out.addr (by omega)
      subst ha
      have lD := HPR.out.len j (by omega)
      have HE2 : Hid (grownT (m / 2) (ps.take j) (nodeT (ps.getD j []) x) = grownT n ps l ∧ j = onesT (m / 2)) := by
        have h := HE.out.1
        rw [grownT_odd hodd, hj, show (ps.take (j + 1)).length - 1 = j by rw [List.length_take, HPL.out]; omega, List.take_take, Nat.min_eq_left (by omega), show (ps.take (j + 1)).getD j [] = ps.getD j [] by simp [List.getD_eq_getElem?_getD, List.getElem?_take]] at h
        exact ⟨h, by have := HKO.out; omega⟩
      have HXD : Hid (∀ wx, Below wr.heap.size wr wx → wx.rangeAt b (o + j * 32) (cellsB (ps.getD j [])) ∧ wx.rangeAt w.heap.size 0 (cellsB x) ∧ wx.there w.heap.size 0 32 ∧ Below w.heap.size w wx) := fun wx hx => by
        have s := HS.out
        have hb : Below w.heap.size w wx := HB.out.trans (hx.mono (by omega))
        exact ⟨(HGR.out wx hb).2.at j (by omega), range_below HX.out hx (by omega), there_below HT.out hx (by omega), hb⟩
      have HGE : Hid (∀ wx, Below wr.heap.size wr wx → Env wx) := fun wx hx => (HGR.out wx (HXD.out wx hx).2.2.2).1
      subst hj
      have j0 : (0 : Int) ≤ (j : Int) := by omega
      have j1 : (j : Int) < (p : Int) := by omega
      have j2 : (j : Int) + 1 - 1 = (j : Int) := by omega
      have wj : IntKind.i64.wrap (j : Int) = (j : Int) := by rw [IntKind.wrap_i64]; omega
      have HQ1 : Hid (m / 2 < m ∧ m / 2 ≤ n ∧ j ≤ p) := by unfold Hid; omega
      clear HE HKO HX HT HB
      generalize ps.getD j [] = D at *
      generalize m / 2 = m' at *
      go_wp2_with fail
      refine wp_region_noPanic ?_
      refine wp_region_till (S := fun wx => wx.rangeAt b (o + j * 32) (cellsB D) ∧ wx.rangeAt w.heap.size 0 (cellsB x)) 6 (by kernel_rfl) ⟨(HXD.out _ (below_drewN wr 1)).1, (HXD.out _ (below_drewN wr 1)).2.1⟩ (fun hHeld => ?_)
      try simp only [Act.put, List.setIfInBounds_toArray, List.set_cons_zero, List.set_cons_succ]
      have HBd : Hid (Below wr.heap.size wr wr.drew) := below_drewN wr 1
      generalize wr.drew = wd at *
      refine wpAnyT_take (i := 0) (v := ?_) (by simp only [List.getElem?_toArray, List.getElem?_cons_zero, List.getElem?_cons_succ]; rfl) (by kernel_rfl) (by kernel_rfl) (by kernel_rfl) (by kernel_rfl) (fun _ _ _ h => h) (Or.inl ⟨by rfl, ?_⟩) hHeld ?_
      rotate_left
      · intro w hSw
        obtain ⟨hSw0, hSw1⟩ := hSw
        go_simp
        try with_reducible rfl
      try simp only [Act.put, List.setIfInBounds_toArray, List.set_cons_zero, List.set_cons_succ]
      refine wpAnyT_take (i := 1) (v := ?_) (by simp only [List.getElem?_toArray, List.getElem?_cons_zero, List.getElem?_cons_succ]; rfl) (by kernel_rfl) (by kernel_rfl) (by kernel_rfl) (by kernel_rfl) (fun _ _ _ h => h) (Or.inl ⟨by rfl, ?_⟩) hHeld ?_
      rotate_left
      · intro w hSw
        obtain ⟨hSw0, hSw1⟩ := hSw
        go_simp
        try with_reducible rfl
      try simp only [Act.put, List.setIfInBounds_toArray, List.set_cons_zero, List.set_cons_succ]
      refine wpAnyT_take (i := 2) (v := .pointer (some ⟨b, o + j * 32, none⟩)) (by simp only [List.getElem?_toArray, List.getElem?_cons_zero, List.getElem?_cons_succ]; rfl) (by kernel_rfl) (by kernel_rfl) (by kernel_rfl) (by kernel_rfl) (fun _ _ _ h => h) (Or.inl ⟨by rfl, ?_⟩) hHeld ?_
      · intro w hSw
        obtain ⟨hSw0, hSw1⟩ := hSw
        go_simp
      try simp only [Act.put, List.setIfInBounds_toArray, List.set_cons_zero, List.set_cons_succ]
      refine wpAnyT_take (i := 3) (v := .agg (cellsB D).toArray) (by simp only [List.getElem?_toArray, List.getElem?_cons_zero, List.getElem?_cons_succ]; rfl) (by kernel_rfl) (by kernel_rfl) (by kernel_rfl) (by kernel_rfl) (fun _ _ _ h => h)
        (yieldsIf_load_mid (by rfl) _ _ rfl _ _ rfl _ _ (fun w hw => hw.1) Tryd.underlying24 rfl (by rw [cellsB_length, lD]; exact Tryd.sizeDg)) hHeld ?_
      try simp only [Act.put, List.setIfInBounds_toArray, List.set_cons_zero, List.set_cons_succ]
      refine wpAnyT_take (i := 4) (v := .agg (cellsB x).toArray) (by simp only [List.getElem?_toArray, List.getElem?_cons_zero, List.getElem?_cons_succ]; rfl) (by kernel_rfl) (by kernel_rfl) (by kernel_rfl) (by kernel_rfl) (fun _ _ _ h => h)
        (yieldsIf_load_mid (by rfl) _ _ rfl _ _ rfl _ _ (fun w hw => hw.2) Tryd.underlying24 rfl (by rw [cellsB_length, hx]; exact Tryd.sizeDg)) hHeld ?_
      try simp only [Act.put, List.setIfInBounds_toArray, List.set_cons_zero, List.set_cons_succ]
      refine wpAnyT_ready (rs := [5]) (by kernel_rfl) (by simp) ?_
      refine AllReadyT.cons (by simp only [List.getElem?_toArray, List.getElem?_cons_zero, List.getElem?_cons_succ]; rfl) (fun K hK => ?_) AllReadyT.nil
      rw [if_pos (by rfl)]
      go_simp
      refine (wtree_node D x wd (HGE.out _ HBd.out) lD hx).mono ?_
      rintro e wn ⟨rfl, hbn⟩
      have HBn : Hid (Below wr.heap.size wr wn) := HBd.out.trans (hbn.mono HBd.out.size)
      have lN := nodeT_length D x
      clear hbn HBd
      generalize nodeT D x = N at *
      go_wp2_with fail
      refine hK.out _ _ ⟨(HXD.out _ HBn.out).1, (HXD.out _ HBn.out).2.1⟩ (fun hHeld => ?_)
      clear hK K
      try simp only [Act.put, List.setIfInBounds_toArray, List.set_cons_zero, List.set_cons_succ]
      refine wpAnyT_ready (rs := [6]) (by kernel_rfl) (by simp) ?_
      refine AllReadyT.lastly (by simp only [List.getElem?_toArray, List.getElem?_cons_zero, List.getElem?_cons_succ]; rfl) rfl (fun K hK => ?_) AllReadyT.nil
      rw [if_pos (by rfl)]
      have HTn : Hid (wn.there w.heap.size 0 32) := (HXD.out _ HBn.out).2.2.1
      refine wp_store_mid _ _ _ rfl w.heap.size 0 (cellsB N).toArray rfl rfl (by rw [cellsB_size, lN]; exact HTn.out) (by rw [cellsB_size, lN]; exact Tryd.sizeDg) (all_oneCell_toArray (cellsB_one _)) ?_
      refine hK.out _ _ ?_
      clear hK K
      try simp only [Act.put, List.setIfInBounds_toArray, List.set_cons_zero, List.set_cons_succ]
      refine wpAnyT_done (by kernel_rfl) (NoPanic.normal ?_) _
      try clear hHeld
      go_wp2_with fail
      go_roundw
      case rel =>
        have hgr := gro_setCells w.heap.size (cellsB N) 0 wn
        refine ⟨m', j, N, rfl, rfl, HQ1.out.2.1, HQ1.out.2.2, lN, World.rangeAt_setCells_same _ _ _ _ (by rw [cellsB_length, lN]; exact HTn.out), World.there_setCells HTn.out _ _ _, below_setCells _ (Nat.le_refl _) _ _ _ (HXD.out _ HBn.out).2.2.2, ?_, HE2⟩
        have h1 := hgr.size
        have h2 := HBn.out.size
        have h3 := HS.out
        omega
      case measure => have := HQ1.out; simp [intOf]; omega
    · have hr0 : m % 2 = 0 := by omega
      rw [hr0] at d3 d4
      have HE2 : Hid (ps.take k ++ [x] = grownT n ps l) := by
        have := HE.out.1
        rw [grownT_even hodd] at this
        exact this
      have HKL : Hid (onesT (n + 1) = k + 1) := by
        have h := HGL.out
        rw [← HE2.out, List.length_append, List.length_take, HPL.out, Nat.min_eq_left hk] at h
        exact h.symm
      have k0 : (0 : Int) ≤ (k : Int) := by omega
      have k1 : (k : Int) ≤ (p : Int) := by omega
      have k2 : (k : Int) ≤ (c : Int) := by omega
      have k3 : (p : Int) ≤ (c : Int) := by omega
      have k4 : (k : Int) < (k : Int) + 1 := by omega
      have HKP : Hid (k ≤ 31) := by unfold Hid; omega
      have HKp : Hid (k ≤ p) := hk
      clear HE d1 d2 hk
      have key : ∀ aa : Option Addr, aa = a → Hid (DRow wr aa p ps) := fun aa e => by subst e; exact (HGR.out wr HB.out).2
      cases a with
      | none =>
        have HD := key none rfl
        clear key
        go_wp2_with (first
          | (at_make; refine wpList_make_full _ rfl _ _ 22 rfl wr.heap.size 24 iD (.agg zeros32) 32 Tryd.underlying22 hiD hzD0 hzD1 _ _ _ _ (k + 1) rfl rfl rfl rfl (by rw [hzD2]; have := HKP.out; omega) (by have := HKP.out; unfold maxLen; omega) (Nat.le_refl _) ?_; intro w4 hown hgrow; obtain ⟨HD4, HT4, HX5, HT5, HD6, HB6⟩ := add_facts (w := w) (x := x) hown hgrow HD.out HKp.out HS.out HX.out HB.out hx; clear hown hgrow)
          | (refine wpList_copy_digests (by rfl) (.tmp 35) (.tmp 38) (by rfl) wr.heap.size 0 (k + 1) (k + 1) (by rfl) none k c (ps.take k) (by rfl) HD4.out (by omega) (by intro j hj; exact HT4.out j (by omega)) ?_)
          | (refine wpList_load_mid (by rfl) 24 (.tmp 5) (by rfl) w.heap.size 0 (by rfl) (cellsB x) _ HX5.out Tryd.underlying24 (by rfl) (by rw [cellsB_length, hx]; exact Tryd.sizeDg) ?_)
          | (refine wpList_store_mid (by rfl) 24 (.tmp 43) (.tmp 42) (by rfl) wr.heap.size (k * 32) (cellsB x).toArray (by rfl) (by rfl) (by rw [cellsB_size, hx]; exact HT5.out) (by rw [cellsB_size, hx]; exact Tryd.sizeDg) (all_oneCell_toArray (cellsB_one _)) ?_))
        go_ret2
        rw [HKL.out]
        exact ⟨⟨_, _, rfl, Nat.le_refl _, by rw [← HE2.out]; exact HD6.out⟩, HB6.out⟩
      | some aa =>
        have HD := key (some aa) rfl
        clear key
        go_wp2_with (first
          | (at_make; refine wpList_make_full _ rfl _ _ 22 rfl wr.heap.size 24 iD (.agg zeros32) 32 Tryd.underlying22 hiD hzD0 hzD1 _ _ _ _ (k + 1) rfl rfl rfl rfl (by rw [hzD2]; have := HKP.out; omega) (by have := HKP.out; unfold maxLen; omega) (Nat.le_refl _) ?_; intro w4 hown hgrow; obtain ⟨HD4, HT4, HX5, HT5, HD6, HB6⟩ := add_facts (w := w) (x := x) hown hgrow HD.out HKp.out HS.out HX.out HB.out hx; clear hown hgrow)
          | (refine wpList_copy_digests (by rfl) (.tmp 35) (.tmp 38) (by rfl) wr.heap.size 0 (k + 1) (k + 1) (by rfl) (some aa) k c (ps.take k) (by rfl) HD4.out (by omega) (by intro j hj; exact HT4.out j (by omega)) ?_)
          | (refine wpList_load_mid (by rfl) 24 (.tmp 5) (by rfl) w.heap.size 0 (by rfl) (cellsB x) _ HX5.out Tryd.underlying24 (by rfl) (by rw [cellsB_length, hx]; exact Tryd.sizeDg) ?_)
          | (refine wpList_store_mid (by rfl) 24 (.tmp 43) (.tmp 42) (by rfl) wr.heap.size (k * 32) (cellsB x).toArray (by rfl) (by rfl) (by rw [cellsB_size, hx]; exact HT5.out) (by rw [cellsB_size, hx]; exact Tryd.sizeDg) (all_oneCell_toArray (cellsB_one _)) ?_))
        go_ret2
        rw [HKL.out]
        exact ⟨⟨_, _, rfl, Nat.le_refl _, by rw [← HE2.out]; exact HD6.out⟩, HB6.out⟩
set_option maxRecDepth 100000 in
set_option maxHeartbeats 1000000 in
theorem wpeaks_rootout (n : Int) (p c : Nat) (a : Option Addr) (ps : List (List UInt8)) (w : World) (G : Env w) (R : DRow w a p ps) (hc : p ≤ c) (hp2 : 32 * p ≤ 140737488351232) (hn : n < 0 ∨ 1073741824 < n) (n1 : -9223372036854775808 ≤ n) (n2 : n ≤ 9223372036854775807) :
    Calls Tryd.prog 12 #[.int .i64 n, .slice a p c] w fun e w' => e = .returned (.tuple #[digestV zD, .iface 25 (.int .i64 2)]) ∧ Below w.heap.size w w' := by
  obtain ⟨w2, hw2⟩ : ∃ w2, w.alloc (.cells (cellsB zD).toArray 24) = w2 := ⟨_, rfl⟩
  have HS2 : Hid (w2.heap.size = w.heap.size + 1) := by unfold Hid; rw [← hw2]; simp
  have HB2 : Hid (Below w.heap.size w w2) := by rw [← hw2]; exact (Below.refl _ _).alloc (Nat.le_refl _) _
  have HT2 : Hid (w2.there w.heap.size 0 32) := by rw [← hw2]; exact alloc_thereAt _ _ _ 32 _ rfl zD_size.symm
  clear G R
  go_enter Tryd.func12, Tryd.ntmps12
  go_wp2_with (refine wpList_allocE (by rfl) 24 (by rfl) (cellsB zD).toArray Tryd.zeroDg w.heap.size rfl w2 hw2 ?_)
  refine (wcheck_out n p c a w2 hn n1 n2).mono ?_
  rintro e wq ⟨rfl, hq⟩
  have hq' : w2 = wq := hq.symm
  subst hq'
  clear hw2 hn
  have lZ : zD.length = 32 := rfl
  have hbu : Tryd.prog.built 24 [] = some (cellsB zD).toArray := by kernel_rfl
  obtain ⟨Z, hZ⟩ : ∃ Z, zD = Z := ⟨_, rfl⟩
  have HZ : Hid (zD = Z) := hZ
  rw [hZ] at lZ hbu
  have HBU : Hid (Tryd.prog.built 24 [] = some (cellsB Z).toArray) := hbu
  clear hZ hbu
  go_wp2_with (first
    | (refine wpList_buildC (by rfl) 24 #[] (by rfl) (cellsB Z).toArray (by simpa using HBU.out) ?_)
    | (refine wpList_store_mid (by rfl) 24 (.tmp 4) (.tmp 15) (by rfl) w.heap.size 0 (cellsB Z).toArray (by rfl) (by rfl) (by rw [cellsB_size, lZ]; exact HT2.out) (by rw [cellsB_size, lZ]; exact Tryd.sizeDg) (all_oneCell_toArray (cellsB_one _)) ?_))
  refine bodyPost_ret (v := .tuple #[digestV Z, .iface 25 (.int .i64 2)]) (run_results_row2 Tryd.results12 _ _ w.heap.size 0 (by rfl) _ (by rfl) (cellsB Z) (World.rangeAt_setCells_same _ _ _ _ (by rw [cellsB_length, lZ]; exact HT2.out)) _ Tryd.underlying24 (by rfl) (by rw [cellsB_length, lZ]; exact Tryd.sizeDg)) rfl ⟨by rw [HZ.out], ?_⟩
  exact below_setCells _ (Nat.le_refl _) _ _ _ HB2.out
set_option maxRecDepth 100000 in
set_option maxHeartbeats 1000000 in
theorem wpeaks_rootlen (n p c : Nat) (a : Option Addr) (ps : List (List UInt8)) (w : World) (G : Env w) (R : DRow w a p ps) (hc : p ≤ c) (hp2 : 32 * p ≤ 140737488351232) (hn : n ≤ 1073741824) (hp : p ≠ onesT n) :
    Calls Tryd.prog 12 #[.int .i64 (n : Int), .slice a p c] w fun e w' => e = .returned (.tuple #[digestV zD, .iface 25 (.int .i64 3)]) ∧ Below w.heap.size w w' := by
  obtain ⟨w2, hw2⟩ : ∃ w2, w.alloc (.cells (cellsB zD).toArray 24) = w2 := ⟨_, rfl⟩
  have HS2 : Hid (w2.heap.size = w.heap.size + 1) := by unfold Hid; rw [← hw2]; simp
  have HB2 : Hid (Below w.heap.size w w2) := by rw [← hw2]; exact (Below.refl _ _).alloc (Nat.le_refl _) _
  have HT2 : Hid (w2.there w.heap.size 0 32) := by rw [← hw2]; exact alloc_thereAt _ _ _ 32 _ rfl zD_size.symm
  clear G R
  go_enter Tryd.func12, Tryd.ntmps12
  go_wp2_with (refine wpList_allocE (by rfl) 24 (by rfl) (cellsB zD).toArray Tryd.zeroDg w.heap.size rfl w2 hw2 ?_)
  refine (wcheck_len n p c a w2 hn hp).mono ?_
  rintro e wq ⟨rfl, hq⟩
  have hq' : w2 = wq := hq.symm
  subst hq'
  clear hw2 hn hp
  have lZ : zD.length = 32 := rfl
  have hbu : Tryd.prog.built 24 [] = some (cellsB zD).toArray := by kernel_rfl
  obtain ⟨Z, hZ⟩ : ∃ Z, zD = Z := ⟨_, rfl⟩
  have HZ : Hid (zD = Z) := hZ
  rw [hZ] at lZ hbu
  have HBU : Hid (Tryd.prog.built 24 [] = some (cellsB Z).toArray) := hbu
  clear hZ hbu
  go_wp2_with (first
    | (refine wpList_buildC (by rfl) 24 #[] (by rfl) (cellsB Z).toArray (by simpa using HBU.out) ?_)
    | (refine wpList_store_mid (by rfl) 24 (.tmp 4) (.tmp 15) (by rfl) w.heap.size 0 (cellsB Z).toArray (by rfl) (by rfl) (by rw [cellsB_size, lZ]; exact HT2.out) (by rw [cellsB_size, lZ]; exact Tryd.sizeDg) (all_oneCell_toArray (cellsB_one _)) ?_))
  refine bodyPost_ret (v := .tuple #[digestV Z, .iface 25 (.int .i64 3)]) (run_results_row2 Tryd.results12 _ _ w.heap.size 0 (by rfl) _ (by rfl) (cellsB Z) (World.rangeAt_setCells_same _ _ _ _ (by rw [cellsB_length, lZ]; exact HT2.out)) _ Tryd.underlying24 (by rfl) (by rw [cellsB_length, lZ]; exact Tryd.sizeDg)) rfl ⟨by rw [HZ.out], ?_⟩
  exact below_setCells _ (Nat.le_refl _) _ _ _ HB2.out
theorem bag_last {ps : List (List UInt8)} {k : Nat} (h : ps.length = k + 1) : bagT (ps.drop k) = ps.getD k [] := by
  have hd : ps.drop k = [ps.getD k []] := by
    rw [List.drop_eq_getElem_cons (by omega), List.drop_of_length_le (by omega), List.getD_eq_getElem?_getD, List.getElem?_eq_getElem (by omega)]
    rfl
  rw [hd]
  rfl
theorem bag_step {ps : List (List UInt8)} {k : Nat} (h : k + 1 < ps.length) : bagT (ps.drop k) = nodeT (ps.getD k []) (bagT (ps.drop (k + 1))) := by
  have hd : ps.drop k = ps.getD k [] :: ps.drop (k + 1) := by
    rw [List.drop_eq_getElem_cons (by omega), List.getD_eq_getElem?_getD, List.getElem?_eq_getElem (by omega)]
    rfl
  rw [hd, bagT_cons (fun e => by have := congrArg List.length e; rw [List.length_drop] at this; simp at this; omega)]
set_option maxRecDepth 100000 in
set_option maxHeartbeats 1000000 in
theorem wpeaks_root (n p c : Nat) (a : Option Addr) (ps : List (List UInt8)) (w : World) (G : Env w) (R : DRow w a p ps) (hc : p ≤ c) (hn : n ≤ 1073741824) (hp : p = onesT n) :
    Calls Tryd.prog 12 #[.int .i64 (n : Int), .slice a p c] w fun e w' => e = .returned (.tuple #[digestV (bagT ps), .nilIface]) ∧ Below w.heap.size w w' := by
  obtain ⟨w2, hw2⟩ : ∃ w2, w.alloc (.cells (cellsB zD).toArray 24) = w2 := ⟨_, rfl⟩
  have HS2 : Hid (w2.heap.size = w.heap.size + 1) := by unfold Hid; rw [← hw2]; simp
  have HB2 : Hid (Below w.heap.size w w2) := by rw [← hw2]; exact (Below.refl _ _).alloc (Nat.le_refl _) _
  have HT2 : Hid (w2.there w.heap.size 0 32) := by rw [← hw2]; exact alloc_thereAt _ _ _ 32 _ rfl zD_size.symm
  have HGR : Hid (∀ wx, Below w.heap.size w wx → Env wx ∧ DRow wx a p ps) := fun wx hx => ⟨G.below hx, R.below hx⟩
  have HPR : Hid (DRow w a p ps) := R
  have HPL : Hid (ps.length = p) := R.1
  have h31 : p ≤ 31 := by rw [hp]; exact onesT_30 hn
  have HP : Hid (p = onesT n) := hp
  clear G R hp
  go_enter Tryd.func12, Tryd.ntmps12
  go_wp2_with (refine wpList_allocE (by rfl) 24 (by rfl) (cellsB zD).toArray Tryd.zeroDg w.heap.size rfl w2 hw2 ?_)
  refine (wcheck_ok n p c a w2 hn HP.out).mono ?_
  rintro e wq ⟨rfl, hq⟩
  have hq' : w2 = wq := hq.symm
  subst hq'
  clear hw2
  by_cases h0 : n = 0
  · subst h0
    have hE : ps = [] := List.eq_nil_of_length_eq_zero (by rw [HPL.out, HP.out, onesT_zero])
    subst hE
    go_wp2_with fail
    refine (wtree_root none 0 0 [] w2 (HGR.out w2 HB2.out).1 (DRow.nil _) (Nat.le_refl _) (by omega)).mono ?_
    rintro e w3 ⟨rfl, hb3⟩
    have HB3 : Hid (Below w.heap.size w w3) := below_trans HB2.out hb3
    have HT3 : Hid (w3.there w.heap.size 0 32) := there_below HT2.out hb3 (by have := HS2.out; omega)
    have HE : Hid (rootT [] = bagT []) := (by rw [rootT_none (by rfl)]; rfl)
    have lX : (rootT []).length = 32 := rootT_length (fun l hl => by cases hl)
    clear hb3
    generalize rootT [] = X at *
    go_wp2_with (refine wpList_store_mid (by rfl) 24 (.tmp 4) (.tmp 20) (by rfl) w.heap.size 0 (cellsB X).toArray (by rfl) (by rfl) (by rw [cellsB_size, lX]; exact HT3.out) (by rw [cellsB_size, lX]; exact Tryd.sizeDg) (all_oneCell_toArray (cellsB_one _)) ?_)
    refine bodyPost_ret (v := .tuple #[digestV X, .nilIface]) (run_results_row2 Tryd.results12 _ _ w.heap.size 0 (by rfl) _ (by rfl) (cellsB X) (World.rangeAt_setCells_same _ _ _ _ (by rw [cellsB_length, lX]; exact HT3.out)) _ Tryd.underlying24 (by rfl) (by rw [cellsB_length, lX]; exact Tryd.sizeDg)) rfl ⟨by rw [HE.out], ?_⟩
    exact below_setCells _ (Nat.le_refl _) _ _ _ HB3.out
  · have e0 : ((n : Int) == 0) = false := by simp; omega
    have hp1 : 1 ≤ p := by rw [HP.out, onesT_peak (by omega)]; omega
    obtain ⟨q, hq⟩ : ∃ q, p = q + 1 := ⟨p - 1, by omega⟩
    subst hq
    obtain ⟨b, o, ha⟩ := HPR.out.addr (by omega)
    subst ha
    have lD := HPR.out.len q (by omega)
    have HBL : Hid (bagT (ps.drop q) = ps.getD q []) := bag_last HPL.out
    have HX2 : Hid (w2.rangeAt b (o + q * 32) (cellsB (ps.getD q []))) := (HGR.out w2 HB2.out).2.at q (by omega)
    obtain ⟨g3, hg3⟩ : ∃ g3, w2.heap.size = g3 := ⟨_, rfl⟩
    obtain ⟨w3, hw3⟩ : ∃ w3, w2.alloc (.cells (cellsB zD).toArray 24) = w3 := ⟨_, rfl⟩
    have HG3 : Hid (w.heap.size < g3 ∧ w3.heap.size = g3 + 1) := ⟨by rw [← hg3]; have := HS2.out; omega, by rw [← hw3, ← hg3]; simp⟩
    have HB23 : Hid (Below w2.heap.size w2 w3) := by rw [← hw3]; exact (Below.refl _ _).alloc (Nat.le_refl _) _
    have HT3 : Hid (w3.there g3 0 32) := by rw [← hw3]; exact alloc_thereAt _ _ _ 32 _ hg3 zD_size.symm
    rw [← HBL.out] at lD HX2
    generalize hX : bagT (ps.drop q) = X at *
    have HXE : Hid (bagT (ps.drop q) = X) := hX
    clear hX
    have HX4 : Hid ((w3.setCells g3 0 (cellsB X)).rangeAt g3 0 (cellsB X)) := World.rangeAt_setCells_same _ _ _ _ (by rw [cellsB_length, lD]; exact HT3.out)
    have HT4 : Hid ((w3.setCells g3 0 (cellsB X)).there g3 0 32) := World.there_setCells HT3.out _ _ _
    have HB4 : Hid (Below w2.heap.size w2 (w3.setCells g3 0 (cellsB X))) := below_setCells _ (by omega) _ _ _ HB23.out
    have HN4 : Hid (g3 < (w3.setCells g3 0 (cellsB X)).heap.size) := by have h := (gro_setCells g3 (cellsB X) 0 w3).size; have := HG3.out; unfold Hid; omega
    have q0 : (0 : Int) ≤ (q : Int) := by omega
    have q1 : (q : Int) < (q : Int) + 1 := by omega
    have q2 : (q : Int) + 1 - 1 = (q : Int) := by omega
    have HX2' : Hid (w2.rangeAt b (o + q * 32) (cellsB X)) := HX2.out
    have HXW : Hid (w3.rangeAt b (o + q * 32) (cellsB X)) := range_below HX2.out HB23.out (by have := HPR.out.at q (by omega); have h1 := cell_block (this.cell 0 (by rw [HPR.out.len q (by omega)]; omega)); have := HB2.out.size; omega)
    clear HX2
    go_wp2_with (first
      | (refine wpList_load_mid (by rfl) 24 (.tmp 27) (by rfl) b (o + q * 32) (by rfl) (cellsB X) _ HX2'.out Tryd.underlying24 (by rfl) (by rw [cellsB_length, lD]; exact Tryd.sizeDg) ?_)
      | (refine wpList_load_mid (by rfl) 24 (.tmp 27) (by rfl) b (o + q * 32) (by rfl) (cellsB X) _ HXW.out Tryd.underlying24 (by rfl) (by rw [cellsB_length, lD]; exact Tryd.sizeDg) ?_)
      | (refine wpList_allocE (by rfl) 24 (by rfl) (cellsB zD).toArray Tryd.zeroDg g3 hg3 w3 hw3 ?_)
      | (refine wpList_store_mid (by rfl) 24 (.tmp 8) (.tmp 28) (by rfl) g3 0 (cellsB X).toArray (by rfl) (by rfl) (by rw [cellsB_size, lD]; exact HT3.out) (by rw [cellsB_size, lD]; exact Tryd.sizeDg) (all_oneCell_toArray (cellsB_one _)) ?_))
    go_loopw [9] (fun iv wr => ∃ (k : Nat) (x : List UInt8), iv = .int .i64 ((k : Int) - 1) ∧ k ≤ q ∧ x.length = 32 ∧ wr.rangeAt g3 0 (cellsB x) ∧ wr.there g3 0 32 ∧ Below w2.heap.size w2 wr ∧ g3 < wr.heap.size ∧ Hid (bagT (ps.drop k) = x)) (fun iv _ => (intOf iv + 1).toNat)
    case atStart => exact ⟨q, X, rfl, Nat.le_refl _, lD, HX4.out, HT4.out, HB4.out, HN4.out, HXE.out⟩
    case round =>
      clear HX4 HT4 HB4 HXE HXW HX2' HN4 HBL
      obtain ⟨k, x, rfl, hk, hx, hX, hT, hB, hS, HE⟩ := hrel
      have HX : Hid (wr.rangeAt g3 0 (cellsB x)) := hX
      have HT : Hid (wr.there g3 0 32) := hT
      have HB : Hid (Below w2.heap.size w2 wr) := hB
      have HS : Hid (g3 < wr.heap.size) := hS
      clear hX hT hB hS
      by_cases hk0 : 1 ≤ k
      · obtain ⟨j, hj⟩ : ∃ j, k = j + 1 := ⟨k - 1, by omega⟩
        subst hj
        have lD := HPR.out.len j (by omega)
        have HE2 : Hid (bagT (ps.drop j) = nodeT (ps.getD j []) x) := by
          have := bag_step (ps := ps) (k := j) (by rw [HPL.out]; omega)
          rw [HE.out] at this
          exact this
        have HXD : Hid (∀ wx, Below wr.heap.size wr wx → wx.rangeAt b (o + j * 32) (cellsB (ps.getD j [])) ∧ wx.rangeAt g3 0 (cellsB x) ∧ wx.there g3 0 32 ∧ Below w2.heap.size w2 wx) := fun wx hx => by
          have s := HS.out
          have hs1 := HB.out.size
          have hs2 := HB2.out.size
          have hb : Below w2.heap.size w2 wx := HB.out.trans (hx.mono hs1)
          have hb0 : Below w.heap.size w wx := HB2.out.trans (hb.mono hs2)
          exact ⟨(HGR.out wx hb0).2.at j (by omega), range_below HX.out hx (by omega), there_below HT.out hx (by omega), hb⟩
        have HGE : Hid (∀ wx, Below wr.heap.size wr wx → Env wx) := fun wx hx => (HGR.out wx (HB2.out.trans ((HXD.out wx hx).2.2.2.mono HB2.out.size))).1
        have j0 : (0 : Int) ≤ (j : Int) := by omega
        have j1 : (j : Int) < (q : Int) + 1 := by omega
        have j2 : (j : Int) + 1 - 1 = (j : Int) := by omega
        have HJQ : Hid (j ≤ q) := by unfold Hid; omega
        clear HE HX HT HB
        generalize ps.getD j [] = D at *
        go_wp2_with fail
        refine wp_region_noPanic ?_
        refine wp_region_till (S := fun wx => wx.rangeAt b (o + j * 32) (cellsB D) ∧ wx.rangeAt g3 0 (cellsB x)) 6 (by kernel_rfl) ⟨(HXD.out _ (below_drewN wr 1)).1, (HXD.out _ (below_drewN wr 1)).2.1⟩ (fun hHeld => ?_)
        try simp only [Act.put, List.setIfInBounds_toArray, List.set_cons_zero, List.set_cons_succ]
        have HBd : Hid (Below wr.heap.size wr wr.drew) := below_drewN wr 1
        generalize wr.drew = wd at *
        refine wpAnyT_take (i := 0) (v := ?_) (by simp only [List.getElem?_toArray, List.getElem?_cons_zero, List.getElem?_cons_succ]; rfl) (by kernel_rfl) (by kernel_rfl) (by kernel_rfl) (by kernel_rfl) (fun _ _ _ h => h) (Or.inl ⟨by rfl, ?_⟩) hHeld ?_
        rotate_left
        · intro w hSw
          obtain ⟨hSw0, hSw1⟩ := hSw
          go_simp
          try with_reducible rfl
        try simp only [Act.put, List.setIfInBounds_toArray, List.set_cons_zero, List.set_cons_succ]
        refine wpAnyT_take (i := 1) (v := ?_) (by simp only [List.getElem?_toArray, List.getElem?_cons_zero, List.getElem?_cons_succ]; rfl) (by kernel_rfl) (by kernel_rfl) (by kernel_rfl) (by kernel_rfl) (fun _ _ _ h => h) (Or.inl ⟨by rfl, ?_⟩) hHeld ?_
        rotate_left
        · intro w hSw
          obtain ⟨hSw0, hSw1⟩ := hSw
          go_simp
          try with_reducible rfl
        try simp only [Act.put, List.setIfInBounds_toArray, List.set_cons_zero, List.set_cons_succ]
        refine wpAnyT_take (i := 2) (v := .pointer (some ⟨b, o + j * 32, none⟩)) (by simp only [List.getElem?_toArray, List.getElem?_cons_zero, List.getElem?_cons_succ]; rfl) (by kernel_rfl) (by kernel_rfl) (by kernel_rfl) (by kernel_rfl) (fun _ _ _ h => h) (Or.inl ⟨by rfl, ?_⟩) hHeld ?_
        · intro w hSw
          obtain ⟨hSw0, hSw1⟩ := hSw
          go_simp
        try simp only [Act.put, List.setIfInBounds_toArray, List.set_cons_zero, List.set_cons_succ]
        refine wpAnyT_take (i := 3) (v := .agg (cellsB D).toArray) (by simp only [List.getElem?_toArray, List.getElem?_cons_zero, List.getElem?_cons_succ]; rfl) (by kernel_rfl) (by kernel_rfl) (by kernel_rfl) (by kernel_rfl) (fun _ _ _ h => h)
          (yieldsIf_load_mid (by rfl) _ _ rfl _ _ rfl _ _ (fun w hw => hw.1) Tryd.underlying24 rfl (by rw [cellsB_length, lD]; exact Tryd.sizeDg)) hHeld ?_
        try simp only [Act.put, List.setIfInBounds_toArray, List.set_cons_zero, List.set_cons_succ]
        refine wpAnyT_take (i := 4) (v := .agg (cellsB x).toArray) (by simp only [List.getElem?_toArray, List.getElem?_cons_zero, List.getElem?_cons_succ]; rfl) (by kernel_rfl) (by kernel_rfl) (by kernel_rfl) (by kernel_rfl) (fun _ _ _ h => h)
          (yieldsIf_load_mid (by rfl) _ _ rfl _ _ rfl _ _ (fun w hw => hw.2) Tryd.underlying24 rfl (by rw [cellsB_length, hx]; exact Tryd.sizeDg)) hHeld ?_
        try simp only [Act.put, List.setIfInBounds_toArray, List.set_cons_zero, List.set_cons_succ]
        refine wpAnyT_ready (rs := [5]) (by kernel_rfl) (by simp) ?_
        refine AllReadyT.cons (by simp only [List.getElem?_toArray, List.getElem?_cons_zero, List.getElem?_cons_succ]; rfl) (fun K hK => ?_) AllReadyT.nil
        rw [if_pos (by rfl)]
        go_simp
        refine (wtree_node D x wd (HGE.out _ HBd.out) lD hx).mono ?_
        rintro e wn ⟨rfl, hbn⟩
        have HBn : Hid (Below wr.heap.size wr wn) := HBd.out.trans (hbn.mono HBd.out.size)
        have lN := nodeT_length D x
        clear hbn HBd
        generalize nodeT D x = N at *
        go_wp2_with fail
        refine hK.out _ _ ⟨(HXD.out _ HBn.out).1, (HXD.out _ HBn.out).2.1⟩ (fun hHeld => ?_)
        clear hK K
        try simp only [Act.put, List.setIfInBounds_toArray, List.set_cons_zero, List.set_cons_succ]
        refine wpAnyT_ready (rs := [6]) (by kernel_rfl) (by simp) ?_
        refine AllReadyT.lastly (by simp only [List.getElem?_toArray, List.getElem?_cons_zero, List.getElem?_cons_succ]; rfl) rfl (fun K hK => ?_) AllReadyT.nil
        rw [if_pos (by rfl)]
        have HTn : Hid (wn.there g3 0 32) := (HXD.out _ HBn.out).2.2.1
        refine wp_store_mid _ _ _ rfl g3 0 (cellsB N).toArray rfl rfl (by rw [cellsB_size, lN]; exact HTn.out) (by rw [cellsB_size, lN]; exact Tryd.sizeDg) (all_oneCell_toArray (cellsB_one _)) ?_
        refine hK.out _ _ ?_
        clear hK K
        try simp only [Act.put, List.setIfInBounds_toArray, List.set_cons_zero, List.set_cons_succ]
        refine wpAnyT_done (by kernel_rfl) (NoPanic.normal ?_) _
        try clear hHeld
        go_wp2_with fail
        go_roundw
        case rel =>
          have hgr := gro_setCells g3 (cellsB N) 0 wn
          refine ⟨j, N, rfl, HJQ.out, lN, World.rangeAt_setCells_same _ _ _ _ (by rw [cellsB_length, lN]; exact HTn.out), World.there_setCells HTn.out _ _ _, below_setCells _ (by omega) _ _ _ (HXD.out _ HBn.out).2.2.2, ?_, HE2.out⟩
          have h1 := hgr.size
          have h2 := HBn.out.size
          have h3 := HS.out
          omega
        case measure => simp [intOf]
      · obtain rfl : k = 0 := by omega
        have HE2 : Hid (bagT ps = x) := HE.out
        have HTr : Hid (wr.there w.heap.size 0 32 ∧ Below w.heap.size w wr) := ⟨there_below HT2.out HB.out (by have := HS2.out; omega), HB2.out.trans (HB.out.mono HB2.out.size)⟩
        clear HE
        go_wp2_with (first
          | (refine wpList_load_mid (by rfl) 24 (.tmp 8) (by rfl) g3 0 (by rfl) (cellsB x) _ HX.out Tryd.underlying24 (by rfl) (by rw [cellsB_length, hx]; exact Tryd.sizeDg) ?_)
          | (refine wpList_store_mid (by rfl) 24 (.tmp 4) (.tmp 41) (by rfl) w.heap.size 0 (cellsB x).toArray (by rfl) (by rfl) (by rw [cellsB_size, hx]; exact HTr.out.1) (by rw [cellsB_size, hx]; exact Tryd.sizeDg) (all_oneCell_toArray (cellsB_one _)) ?_))
        refine bodyPost_ret (v := .tuple #[digestV x, .nilIface]) (run_results_row2 Tryd.results12 _ _ w.heap.size 0 (by rfl) _ (by rfl) (cellsB x) (World.rangeAt_setCells_same _ _ _ _ (by rw [cellsB_length, hx]; exact HTr.out.1)) _ Tryd.underlying24 (by rfl) (by rw [cellsB_length, hx]; exact Tryd.sizeDg)) rfl ⟨by rw [HE2.out], ?_⟩
        exact below_setCells _ (Nat.le_refl _) _ _ _ HTr.out.2
end Go.Proofs.YtbpkhpkllokbhaaDoor
