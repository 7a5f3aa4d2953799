/- Texts of this claim, joined: Rmac, Rof, Ronce, Wstampk. -/
import Derived.Test.YtghiniaijobonaaDoorJ27
import Derived.Test.YtghiniaijobonaaDoorJ16
import Derived.Deep.DeepCutAuto
import Derived.Test.YtghiniaijobonaaDoorJ07
import Derived.Test.YtghiniaijobonaaDoorJ26
import Derived.Test.YtghiniaijobonaaDoorJ15
import Derived.Test.YtghiniaijobonaaDoorJ19
import Derived.Test.YtghiniaijobonaaDoorJ22
import Derived.Test.YtghiniaijobonaaDoorJ25
import Derived.OwnWalk
/- The contract of oathbookref1.Mac. -/
namespace Go.Proofs.YtghiniaijobonaaDoor
open Go.RowKit
set_option linter.unusedVariables false
set_option linter.unusedSimpArgs false

end Go.Proofs.YtghiniaijobonaaDoor
/- The contract of oathbookref1.Of: the digest of a byte and digests. -/
namespace Go.Proofs.YtghiniaijobonaaDoor
open Go.RowKit
set_option linter.unusedVariables false
set_option linter.unusedSimpArgs false
theorem OwnL.lit1 (w : World) (B : Nat) (x : UInt8) (hB : B ≤ w.heap.size) : OwnL (w.alloc (.cells #[.int .u8 (x.toNat : Int)] 5)) B (.slice (some ⟨w.heap.size, 0, none⟩) 1 1) [x] :=
  World.ownsRow_lit w #[.int .u8 (x.toNat : Int)] 1 hB (by unfold maxLen; omega) rfl
theorem OwnL.lit1' (w : World) (B s : Nat) (x : UInt8) (hs : w.heap.size = s) (hB : B ≤ s) : OwnL (w.alloc (.cells #[.int .u8 (x.toNat : Int)] 5)) B (.slice (some ⟨s, 0, none⟩) 1 1) [x] := by
  subst hs
  exact OwnL.lit1 w B x hB
theorem take_flatten (ls : List (List UInt8)) (k : Nat) (h : k < ls.length) : (ls.take k).flatten ++ ls.getD k [] = (ls.take (k + 1)).flatten := by
  rw [List.take_succ_eq_append_getElem h, List.flatten_append]
  simp [List.getD_eq_getElem?_getD, List.getElem?_eq_getElem h]
theorem flatten_length {ls : List (List UInt8)} (h : ∀ l ∈ ls, l.length = 32) : ls.flatten.length = 32 * ls.length := by
  induction ls with
  | nil => rfl
  | cons a r ih =>
    rw [List.flatten_cons, List.length_append, h a (List.mem_cons_self ..), ih (fun l hl => h l (List.mem_cons_of_mem _ hl)), List.length_cons]
    omega
theorem take_len {ls : List (List UInt8)} (h : ∀ l ∈ ls, l.length = 32) (k : Nat) (hk : k ≤ ls.length) : (ls.take k).flatten.length = 32 * k := by
  rw [flatten_length (fun l hl => h l (List.mem_of_mem_take hl)), List.length_take, Nat.min_eq_left hk]

end Go.Proofs.YtghiniaijobonaaDoor
/- The contracts of oathbookref1's keyed, OnceSecret and OnceLeaf. -/
namespace Go.Proofs.YtghiniaijobonaaDoor
open Go.RowKit
set_option linter.unusedVariables false
set_option linter.unusedSimpArgs false

/-- A literal of bytes. -/
theorem Row.litL (w : World) (cs : Array Value) (t : TypeId) (l : List UInt8) (h : cs.toList = cellsB l) (n : Nat) (hn : l.length = n) : Row (w.alloc (.cells cs t)) (some ⟨w.heap.size, 0, none⟩) n l := by
  have : DAt (w.alloc (.cells cs t)) w.heap.size 0 l := by
    unfold DAt
    rw [← h]
    exact alloc_range w cs t
  exact ⟨hn, .inr ⟨w.heap.size, 0, rfl, fun i hi => this.cell i (by omega)⟩⟩

end Go.Proofs.YtghiniaijobonaaDoor
/- The contracts of stamp.key, isHeight and leavesOf. -/
namespace Go.Proofs.YtghiniaijobonaaDoor
open Go.RowKit
set_option linter.unusedVariables false
set_option linter.unusedSimpArgs false

set_option maxRecDepth 100000 in
set_option maxHeartbeats 1000000 in
theorem wkey_any (seed : List UInt8) (i : Nat) (w : World) (G : Env w) (hs : seed.length = 32) (hi : i < 256) :
    Calls Tryd.prog 19 #[digestV seed, .int .i64 (i : Int)] w fun e w' => e = .returned (digestV (stampKeyL seed i)) ∧ Below w.heap.size w w' := by
  obtain ⟨w2, hw2⟩ : ∃ w2, (w.alloc (.cells (cellsB seed).toArray 23)).alloc (.cells (cellsB zD).toArray 23) = w2 := ⟨_, rfl⟩
  have hs1 : (w.alloc (.cells (cellsB seed).toArray 23)).heap.size = w.heap.size + 1 := by simp
  have hs2 : w2.heap.size = w.heap.size + 1 + 1 := by rw [← hw2]; simp
  have hD2 : DAt w2 w.heap.size 0 seed := by rw [← hw2]; exact World.rangeAt_alloc (box_dat w seed _) _
  have hT2 : w2.there (w.heap.size + 1) 0 32 := by rw [← hw2]; exact alloc_thereAt _ _ _ 32 _ hs1 zD_size.symm
  have hB2 : Below w.heap.size w w2 := by rw [← hw2]; exact ((Below.refl _ _).alloc (Nat.le_refl _) _).alloc (by simp) _
  have hR3 : Row (w2.alloc (.cells #[.int .u8 11, .int .u8 (i : Int)] 5)) (some ⟨w2.heap.size, 0, none⟩) 2 [11, UInt8.ofNat i] := by
    refine Row.litL _ _ _ _ ?_ 2 rfl
    have e1 : (UInt8.ofNat i).toNat = i := by rw [UInt8.toNat_ofNat']; omega
    simp [cellsB, e1]
  have HR3 : Hid (Row (w2.alloc (.cells #[.int .u8 11, .int .u8 (i : Int)] 5)) (some ⟨w.heap.size + 1 + 1, 0, none⟩) 2 [11, UInt8.ofNat i]) := by rw [← hs2]; exact hR3
  have hb3 : Below w2.heap.size w2 (w2.alloc (.cells #[.int .u8 11, .int .u8 (i : Int)] 5)) := (Below.refl _ _).alloc (Nat.le_refl _) _
  have HB3 : Hid (Below w.heap.size w (w2.alloc (.cells #[.int .u8 11, .int .u8 (i : Int)] 5))) := below_trans hB2 hb3
  have HT3 : Hid ((w2.alloc (.cells #[.int .u8 11, .int .u8 (i : Int)] 5)).there (w.heap.size + 1) 0 32) := there_below hT2 hb3 (by omega)
  have HS3 : Hid (Row (w2.alloc (.cells #[.int .u8 11, .int .u8 (i : Int)] 5)) (some ⟨w.heap.size, 0, none⟩) 32 seed) := (hD2.below hb3 (by omega)).row hs
  have HN3 : Hid (w.heap.size + 1 < (w2.alloc (.cells #[.int .u8 11, .int .u8 (i : Int)] 5)).heap.size) := by unfold Hid; simp; omega
  clear hR3 hb3 hD2 hT2 hB2
  have i0 : (0 : Int) ≤ (i : Int) := by omega
  have i1 : (i : Int) < 256 := by omega
  go_enter Tryd.func19, Tryd.ntmps19
  go_wp2_with (refine wpList_allocE (by rfl) 23 (by rfl) (cellsB zD).toArray Tryd.zeroDg (w.heap.size + 1) hs1 w2 hw2 ?_)
  refine (wmac_any _ 32 32 seed _ 2 2 [11, UInt8.ofNat i] _ (G.below HB3.out) HS3.out HR3.out (by omega) (by omega) (by omega) (by omega)).mono ?_
  rintro e w4 ⟨rfl, hb4⟩
  have hE : macL seed [11, UInt8.ofNat i] = stampKeyL seed i := rfl
  rw [hE]
  have HB4 : Hid (Below w.heap.size w w4) := below_trans HB3.out hb4
  have HT4 : Hid (w4.there (w.heap.size + 1) 0 32) := there_below HT3.out hb4 HN3.out
  have hlen := stampKeyL_length seed i
  clear hb4 hw2 hs2 hs1 HR3 HB3 HT3 HS3 HN3 hE
  generalize hD : stampKeyL seed i = D at *
  have HD : Hid (stampKeyL seed i = D) := hD
  clear hD
  go_wp2_with (refine wpList_store_mid (by rfl) 23 (.tmp 4) (.tmp 9) (by rfl) (w.heap.size + 1) 0 (cellsB D).toArray (by rfl) (by rfl) (by rw [cellsB_size, hlen]; exact HT4.out) (by rw [cellsB_size, hlen]; exact Tryd.sizeDg) (all_oneCell_toArray (cellsB_one _)) ?_)
  refine bodyPost_ret (v := digestV D) (run_results_row Tryd.results19 _ _ (w.heap.size + 1) 0 (by rfl) (cellsB D) (World.rangeAt_setCells_same _ _ _ _ (by rw [cellsB_length, hlen]; exact HT4.out)) _ Tryd.underlying23 (by rfl) (by rw [cellsB_length, hlen]; exact Tryd.sizeDg)) rfl ⟨by rw [HD.out], ?_⟩
  exact below_setCells _ (by omega) _ _ _ HB4.out
set_option maxRecDepth 100000 in
set_option maxHeartbeats 1000000 in
theorem wheight_in (h : Nat) (w : World) (hh : h ≤ 4) :
    Calls Tryd.prog 20 #[.int .i64 (h : Int)] w fun e w' => e = .returned (.bool true) ∧ w' = w := by
  have g0 : (0 : Int) ≤ (h : Int) := by omega
  have g1 : (h : Int) ≤ 4 := by omega
  go_enter Tryd.func20, Tryd.ntmps20
  go_wp2_with fail
  go_ret
  exact ⟨rfl, rfl⟩
set_option maxRecDepth 100000 in
set_option maxHeartbeats 1000000 in
theorem wheight_out (h : Int) (w : World) (hh : h < 0 ∨ 4 < h) (h1 : -9223372036854775808 ≤ h) (h2 : h ≤ 9223372036854775807) :
    Calls Tryd.prog 20 #[.int .i64 h] w fun e w' => e = .returned (.bool false) ∧ w' = w := by
  by_cases g0 : 0 ≤ h
  · have g1 : ¬ h ≤ 4 := by omega
    clear hh
    go_enter Tryd.func20, Tryd.ntmps20
    go_wp2_with fail
    go_ret
    exact ⟨rfl, rfl⟩
  · clear hh
    go_enter Tryd.func20, Tryd.ntmps20
    go_wp2_with fail
    go_ret
    exact ⟨rfl, rfl⟩
theorem leaf_put {w : World} {g n : Nat} {ls : List (List UInt8)} {y : List UInt8} (h32 : ∀ l ∈ ls, l.length = 32) (hD : DAt w g 0 ls.flatten) (ht : w.there g 0 (n * 32)) (hj : ls.length < n) (hy : y.length = 32) : DAt (w.setCells g (ls.length * 32) (cellsB y)) g 0 (ls ++ [y]).flatten := by
  have hfl := flat_len h32
  have e : (ls ++ [y]).flatten = ls.flatten ++ y := by simp
  rw [e]
  refine DAt.mk fun i hi => ?_
  rw [List.length_append, hfl, hy] at hi
  by_cases c : i < ls.flatten.length
  · rw [World.cell?_setCells_out _ _ _ _ _ (fun _ _ => Or.inl (by show 0 + i < ls.length * 32; omega)), hD.cell i c]
    unfold nth
    simp only [List.getD_eq_getElem?_getD, List.getElem?_append_left c]
  · have h2 : ∀ j, j < (cellsB y).length → (w.cell? ⟨g, ls.length * 32 + j, none⟩).isSome = true := fun j hj' => by
      rw [cellsB_length, hy] at hj'
      have := (ht (ls.length * 32 + j) (by omega)).1
      rwa [Nat.zero_add] at this
    have hj2 : i - ls.length * 32 < y.length := by omega
    have := World.cell?_setCells_in g (cellsB y) (ls.length * 32) w h2 (i - ls.length * 32) (by rw [cellsB_length]; exact hj2)
    rw [show ls.length * 32 + (i - ls.length * 32) = 0 + i by omega] at this
    rw [this]
    have e2 := cellsB_at y (i - ls.length * 32) hj2
    rw [List.getElem?_eq_getElem (by rw [cellsB_length]; exact hj2)] at e2
    rw [e2]
    unfold nth
    simp only [List.getD_eq_getElem?_getD, List.getElem?_append_right (show ls.flatten.length ≤ i by omega)]
    rw [hfl, Nat.mul_comm 32]
set_option maxRecDepth 100000 in
set_option maxHeartbeats 1000000 in
theorem wleaves_out (seed : List UInt8) (h : Int) (w : World) (hs : seed.length = 32) (hh : h < 0 ∨ 4 < h) (h1 : -9223372036854775808 ≤ h) (h2 : h ≤ 9223372036854775807) :
    Calls Tryd.prog 10 #[digestV seed, .int .i64 h] w fun e w' => e = .returned (.tuple #[.slice none 0 0, .iface 51 (.int .i64 2)]) ∧ Below w.heap.size w w' := by
  obtain ⟨w2, hw2⟩ : ∃ w2, w.alloc (.cells (cellsB seed).toArray 23) = w2 := ⟨_, rfl⟩
  have HS2 : Hid (w2.heap.size = w.heap.size + 1) := by unfold Hid; rw [← hw2]; simp
  have HD2 : Hid (DAt w2 w.heap.size 0 seed) := by rw [← hw2]; exact box_dat w seed _
  have HB2 : Hid (Below w.heap.size w w2) := by rw [← hw2]; exact (Below.refl _ _).alloc (Nat.le_refl _) _
  go_enter Tryd.func10, Tryd.ntmps10
  go_wp2_with fail
  try rw [hw2]
  clear hw2
  refine (wheight_out h w2 hh h1 h2).mono ?_
  rintro e wq ⟨rfl, hq⟩
  have hq' : w2 = wq := hq.symm
  subst hq'
  clear hh
  go_wp2_with fail
  go_ret2
  exact ⟨rfl, HB2.out⟩
set_option maxRecDepth 100000 in
set_option maxHeartbeats 1000000 in
theorem wleaves_any (seed : List UInt8) (h : Nat) (w : World) (G : Env w) (hs : seed.length = 32) (hh : h ≤ 4) :
    Calls Tryd.prog 10 #[digestV seed, .int .i64 (h : Int)] w fun e w' => (∃ g c, e = .returned (.tuple #[.slice (some ⟨g, 0, none⟩) (2 ^ h) c, .nilIface]) ∧ w.heap.size ≤ g ∧ 2 ^ h ≤ c ∧ DRow w' (some ⟨g, 0, none⟩) (2 ^ h) (stampLeavesL seed (2 ^ h))) ∧ Below w.heap.size w w' := by
  obtain ⟨iD, hiD, hzD0, hzD1, hzD2⟩ := info_parts Tryd.infoDg
  obtain ⟨w2, hw2⟩ : ∃ w2, w.alloc (.cells (cellsB seed).toArray 23) = w2 := ⟨_, rfl⟩
  have HS2 : Hid (w2.heap.size = w.heap.size + 1) := by unfold Hid; rw [← hw2]; simp
  have HD2 : Hid (DAt w2 w.heap.size 0 seed) := by rw [← hw2]; exact box_dat w seed _
  have HB2 : Hid (Below w.heap.size w w2) := by rw [← hw2]; exact (Below.refl _ _).alloc (Nat.le_refl _) _
  have HG : Hid (Env w2) := G.below HB2.out
  obtain ⟨n, hn⟩ : ∃ n, 2 ^ h = n := ⟨_, rfl⟩
  have hn1 : 1 ≤ n := by rw [← hn]; exact (Stm.pow hh).1
  have hn16 : n ≤ 16 := by rw [← hn]; exact (Stm.pow hh).2
  have key : wrap64 ((2 : Int) ^ h) = (n : Int) := by
    have e : ((2 : Int) ^ h) = ((2 ^ h : Nat) : Int) := by simp
    rw [e, hn]
    simp only [wrap64]
    omega
  have HN : Hid (2 ^ h = n) := hn
  rw [hn]
  clear hn G
  go_enter Tryd.func10, Tryd.ntmps10
  go_wp2_with fail
  try rw [hw2]
  clear hw2
  refine (wheight_in h w2 hh).mono ?_
  rintro e wq ⟨rfl, hq⟩
  have hq' : w2 = wq := hq.symm
  subst hq'
  have n0 : (0 : Int) ≤ (n : Int) := by omega
  go_wp2_with (first
    | (at_make; (refine wpList_make_full _ rfl _ _ 41 rfl w2.heap.size 23 iD (.agg zeros32) 32 Tryd.underlying41 hiD hzD0 hzD1 _ _ _ _ n rfl rfl key key (by rw [hzD2]; omega) (by unfold maxLen; omega) (Nat.le_refl _) ?_); intro w4 hown hgrow; have HB4 : Hid (Below w2.heap.size w2 w4) := (Below.refl _ _).grown hgrow (Nat.le_refl _) (fun _ h => by cases h); have HT4 : Hid (w4.there w2.heap.size 0 (n * 32)) := own_there hown; clear hown hgrow))
  obtain ⟨g, hg⟩ : ∃ g, w2.heap.size = g := ⟨_, rfl⟩
  have HGG : Hid (w.heap.size < g) := by unfold Hid; rw [← hg, HS2.out]; omega
  have HBB : Hid (∀ wx, Below g w2 wx → wx.rangeAt w.heap.size 0 (cellsB seed) ∧ Env wx ∧ Below w.heap.size w wx) := fun wx hx => by
    have s := HGG.out
    exact ⟨HD2.out.below hx s, HG.out.below (by rw [hg]; exact hx), HB2.out.trans (hx.mono (by omega))⟩
  rw [hg] at HB4 HT4
  simp only [hg]
  clear HD2 HB2 HG HS2
  go_loopw [17] (fun iv wr => ∃ j : Nat, iv = .int .i64 (j : Int) ∧ j ≤ n ∧ Hid (DAt wr g 0 (stampLeavesL seed j).flatten ∧ wr.there g 0 (n * 32) ∧ Below g w2 wr ∧ g < wr.heap.size)) (fun iv _ => n - (intOf iv).toNat)
  case atStart =>
    refine ⟨0, rfl, Nat.zero_le _, ?_, HT4.out, HB4.out, there_block HT4.out (by omega)⟩
    exact DAt.mk fun i hi => absurd hi (by simp [stampLeavesL])
  case round =>
    obtain ⟨j, rfl, hj, HR⟩ := hrel
    by_cases hlt : j < n
    · have g1 : (j : Int) < (n : Int) := by omega
      have j0 : (0 : Int) ≤ (j : Int) := by omega
      have HX : Hid (wr.rangeAt w.heap.size 0 (cellsB seed)) := (HBB.out wr HR.out.2.2.1).1
      have HJ : Hid (j < n) := hlt
      clear hj hlt
      go_wp2_with (refine wpList_load_mid (by rfl) 23 (.tmp 2) (by rfl) w.heap.size 0 (by rfl) (cellsB seed) _ HX.out Tryd.underlying23 (by rfl) (by rw [cellsB_length, hs]; exact Tryd.sizeDg) ?_)
      refine (wkey_any seed j wr (HBB.out wr HR.out.2.2.1).2.1 hs (by have := HJ.out; omega)).mono ?_
      rintro e w5 ⟨rfl, hb5⟩
      have HB5 : Hid (Below g w2 w5 ∧ Below wr.heap.size wr w5) := ⟨HR.out.2.2.1.trans (hb5.mono (by have := HR.out.2.2.2; omega)), hb5⟩
      have hl5 := stampKeyL_length seed j
      obtain ⟨X, hX⟩ : ∃ X, stampKeyL seed j = X := ⟨_, rfl⟩
      have HXE : Hid (stampKeyL seed j = X) := hX
      simp only [hX] at hl5 ⊢
      clear hX HX hb5
      go_wp2_with fail
      refine (wwots_public X w5 (HBB.out w5 HB5.out.1).2.1 hl5).mono ?_
      rintro e w6 ⟨rfl, hb6⟩
      have hl6 := wotsPubL_length X
      have HB6 : Hid (Below wr.heap.size wr w6) := below_trans HB5.out.2 hb6
      have HT6 : Hid (w6.there g (j * 32) 32 ∧ Below g w2 w6 ∧ g < w6.heap.size) := ⟨fun k hk => by
          have := there_below HR.out.2.1 HB6.out HR.out.2.2.2 (j * 32 + k) (by have := HJ.out; omega)
          rwa [Nat.zero_add] at this, HR.out.2.2.1.trans (HB6.out.mono (by have := HR.out.2.2.2; omega)), Nat.lt_of_lt_of_le HR.out.2.2.2 HB6.out.size⟩
      have HP : Hid (stampLeavesL seed j ++ [wotsPubL X] = stampLeavesL seed (j + 1)) := by rw [← HXE.out]; exact stampLeavesL_succ seed j
      clear hb6
      generalize wotsPubL X = Y at *
      have HS6 : Hid (DAt (w6.setCells g (j * 32) (cellsB Y)) g 0 (stampLeavesL seed (j + 1)).flatten ∧ (w6.setCells g (j * 32) (cellsB Y)).there g 0 (n * 32) ∧ Below g w2 (w6.setCells g (j * 32) (cellsB Y)) ∧ g < (w6.setCells g (j * 32) (cellsB Y)).heap.size) := by
        rw [← HP.out]
        have h1 := there_below HR.out.2.1 HB6.out HR.out.2.2.2
        have h2 := leaf_put (w := w6) (g := g) (n := n) (ls := stampLeavesL seed j) (y := Y) (stampLeavesL_32 seed j) (HR.out.1.below HB6.out HR.out.2.2.2) h1 (by rw [stampLeavesL_len]; exact HJ.out) hl6
        rw [stampLeavesL_len] at h2
        refine ⟨h2, World.there_setCells h1 _ _ _, below_setCells _ (Nat.le_refl _) _ _ _ HT6.out.2.1, ?_⟩
        have := (gr_setCells g (cellsB Y) (j * 32) w6).size
        have := HT6.out.2.2
        omega
      clear HR HB5 HB6 HP HXE
      go_wp2_with (refine wpList_store_mid (by rfl) 23 (.tmp 26) (.tmp 25) (by rfl) g (j * 32) (cellsB Y).toArray (by rfl) (by rfl) (by rw [cellsB_size, hl6]; exact HT6.out.1) (by rw [cellsB_size, hl6]; exact Tryd.sizeDg) (all_oneCell_toArray (cellsB_one _)) ?_)
      go_roundw
      case rel => exact ⟨j + 1, by go_num, HJ.out, HS6⟩
      case measure => have := HJ.out; simp [intOf]; omega
    · obtain rfl : j = n := by omega
      have g1 : ¬ (j : Int) < (j : Int) := by omega
      have HR2 : Hid (DRow wr (some ⟨g, 0, none⟩) j (stampLeavesL seed j) ∧ Below w.heap.size w wr) := by
        have r := DRow.ofFlat (stampLeavesL_32 seed j) HR.out.1
        rw [stampLeavesL_len] at r
        exact ⟨r, (HBB.out wr HR.out.2.2.1).2.2⟩
      clear HR hlt
      go_wp2_with fail
      go_ret2
      have := HGG.out
      exact ⟨⟨g, _, rfl, by omega, Nat.le_refl _, HR2.out.1⟩, HR2.out.2⟩
end Go.Proofs.YtghiniaijobonaaDoor
