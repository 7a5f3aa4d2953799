/- The law TopBackup: a seed that was split and joined again is the seed that it was. -/
import Derived.Test.YtghiniaijobonaaDoorJ14
import Derived.Test.YtghiniaijobonaaDoorJ08
import Derived.Test.YtghiniaijobonaaDoorJ31
import Derived.Test.YtghiniaijobonaaDoorJ16
import Derived.Test.YtghiniaijobonaaDoorJ32
import Derived.Test.YtghiniaijobonaaDoorJ25
import Derived.Deep.DeepCutAuto
import Derived.Deep.RegionHeld3
namespace Go.Proofs.YtghiniaijobonaaDoor
open Go.RowKit
set_option linter.unusedVariables false
set_option linter.unusedSimpArgs false

theorem joinE_nine : joinE [(3, [9])] = 0 := by decide
theorem joined_nine {x : Nat} {l : List UInt8} (h : joinedP [(3, [9])] x l) : l.length = 1 := h.1
/-- A literal of one share of one byte. -/
theorem srow_nine (w : World) (t1 t2 : TypeId) : SRow ((w.alloc (.cells #[.int .u8 9] t1)).alloc (.cells #[.int .u8 3, .slice (some ⟨w.heap.size, 0, none⟩) 1 1] t2)) (some ⟨w.heap.size + 1, 0, none⟩) 1 [(3, [9])] := by
  have hs : (w.alloc (.cells #[.int .u8 9] t1)).heap.size = w.heap.size + 1 := by simp
  have r : Row (w.alloc (.cells #[.int .u8 9] t1)) (some ⟨w.heap.size, 0, none⟩) 1 [9] := Row.lit1v w 9 _ 9 rfl
  rw [← hs]
  refine ⟨rfl, .inr ⟨_, 0, rfl, fun i hi => ?_⟩⟩
  have : i = 0 := by omega
  subst this
  refine ⟨by show 3 < 256; omega, ?_, some ⟨w.heap.size, 0, none⟩, 1, 1, ?_, Nat.le_refl _, by omega, r.below ((Below.refl _ _).alloc (Nat.le_refl _) _)⟩
  · exact cells_new (w.alloc (.cells #[.int .u8 9] t1)) [.int .u8 3, .slice (some ⟨w.heap.size, 0, none⟩) 1 1] t2 0
  · exact cells_new (w.alloc (.cells #[.int .u8 9] t1)) [.int .u8 3, .slice (some ⟨w.heap.size, 0, none⟩) 1 1] t2 1
set_option maxRecDepth 100000 in
set_option maxHeartbeats 4000000 in
theorem topb_out (seed : List UInt8) (h n : Int) (a2 : Option Addr) (n2 c2 : Nat) (ls : List (List UInt8)) (a3 : Option Addr) (n3 c3 : Nat) (wh : List Int) (mg : List UInt8) (w : World) (G : Env w)
    (hs : seed.length = 32) (y1 : -9223372036854775808 ≤ h) (y2 : h ≤ 9223372036854775807) (k1 : -9223372036854775808 ≤ n) (k2 : n ≤ 9223372036854775807) (R2 : BRowsB w a2 n2 ls) (h2 : n2 ≤ c2) (hn2 : 24 * n2 ≤ 140737488351232) (R3 : IRow w a3 n3 wh) (h3 : n3 ≤ c3) (hn3 : 8 * n3 ≤ 140737488351232) (hb : ∀ i, i < n3 → -9223372036854775808 ≤ wh.getD i 0 ∧ wh.getD i 0 ≤ 9223372036854775807) (hmg : mg.length = 32)
    (hout : h < 0 ∨ 4 < h) : Calls Tryd.prog 3 #[digestV seed, .int .i64 h, .int .i64 n, .slice a2 n2 c2, .slice a3 n3 c3, digestV mg] w fun r w' => r = .returned (.bool true) ∧ Below w.heap.size w w' := by
  obtain ⟨w1, hw1⟩ : ∃ w1, w.alloc (.cells (cellsB seed).toArray 23) = w1 := ⟨_, rfl⟩
  obtain ⟨w2, hw2⟩ : ∃ w2, w1.alloc (.cells (cellsB mg).toArray 23) = w2 := ⟨_, rfl⟩
  have hs1 : w1.heap.size = w.heap.size + 1 := by rw [← hw1]; simp
  have hs2 : w2.heap.size = w.heap.size + 1 + 1 := by rw [← hw2]; simp [hs1]
  have b1 : Below w.heap.size w w1 := by rw [← hw1]; exact (Below.refl _ _).alloc (Nat.le_refl _) _
  have b12 : Below w1.heap.size w1 w2 := by rw [← hw2]; exact (Below.refl _ _).alloc (Nat.le_refl _) _
  have HB2 : Hid (Below w.heap.size w w2) := b1.trans (b12.mono b1.size)
  have d1 : DAt w1 w.heap.size 0 seed := by rw [← hw1]; exact box_dat w seed _
  have HS2 : Hid (DAt w2 w.heap.size 0 seed) := d1.below b12 (by omega)
  have HM2 : Hid (DAt w2 (w.heap.size + 1) 0 mg) := by rw [← hw2, ← hs1]; exact box_dat w1 mg _
  have HZ2 : Hid (w2.heap.size = w.heap.size + 1 + 1) := hs2
  have HW : Hid ((w.alloc (.cells (cellsB seed).toArray 23)).alloc (.cells (cellsB mg).toArray 23) = w2) := by unfold Hid; rw [hw1, hw2]
  have HALL : Hid (∀ wx, Below w2.heap.size w2 wx → Env wx ∧ BRowsB wx a2 n2 ls ∧ IRow wx a3 n3 wh ∧ DAt wx w.heap.size 0 seed ∧ DAt wx (w.heap.size + 1) 0 mg ∧ Below w.heap.size w wx) := fun wx hx => by
    have b : Below w.heap.size w wx := HB2.out.trans (hx.mono HB2.out.size)
    exact ⟨G.below b, R2.below b, R3.below b, HS2.out.below hx (by omega), HM2.out.below hx (by omega), b⟩
  have HLS : Hid (ls.length = n2) := R2.1.1
  have HBD : Hid (∀ i, i < n3 → -9223372036854775808 ≤ wh.getD i 0 ∧ wh.getD i 0 ≤ 9223372036854775807) := hb
  have HB2' : Hid (Below w2.heap.size w2 w2) := Below.refl _ _
  clear G R2 R3 hb hw1 hw2 hs1 hs2 b1 b12 d1 w1
  have HP : Hid (Calls Tryd.prog 4 #[digestV seed, .int .i64 h] w2 fun e w' => e = .returned (.tuple #[digestV zD, .iface 51 (.int .i64 2)]) ∧ Below w2.heap.size w2 w') := wstamp_pubout seed h w2 (HALL.out _ HB2'.out).1 hs hout y1 y2
  have HOUT : Hid (h < 0 ∨ 4 < h) := hout
  have lZ : zD.length = 32 := rfl
  obtain ⟨Z, hZ⟩ : ∃ Z, zD = Z := ⟨_, rfl⟩
  have HP' : Hid (Calls Tryd.prog 4 #[digestV seed, .int .i64 h] w2 fun e w' => e = .returned (.tuple #[digestV Z, .iface 51 (.int .i64 2)]) ∧ Below w2.heap.size w2 w') := by rw [← hZ]; exact HP.out
  rw [hZ] at lZ
  clear hout HP hZ
  go_enter Tryd.func3, Tryd.ntmps3
  go_upto_region 1 with fail
  rw [HW.out]
  go_wp2_with (refine wpList_load_mid (by rfl) 23 (.tmp 6) (by rfl) w.heap.size 0 (by rfl) (cellsB seed) _ HS2.out Tryd.underlying23 (by rfl) (by rw [cellsB_length, hs]; exact Tryd.sizeDg) ?_)
  refine HP'.out.mono ?_
  rintro e w3 ⟨rfl, hb3⟩
  have HB3 : Hid (Below w2.heap.size w2 w3) := hb3
  clear hb3 HP'
  obtain ⟨g7, hg7⟩ : ∃ g7, w3.heap.size = g7 := ⟨_, rfl⟩
  obtain ⟨w4, hw4⟩ : ∃ w4, w3.alloc (.cells (cellsB zD).toArray 23) = w4 := ⟨_, rfl⟩
  have hT4 := new_var hg7 hw4
  have HT4 : Hid (w4.there g7 0 32) := hT4.1
  obtain ⟨w5, hw5⟩ : ∃ w5, w4.setCells g7 0 (cellsB Z) = w5 := ⟨_, rfl⟩
  have HB5 : Hid (Below w2.heap.size w2 w5) := below_put (HB3.out.trans (hT4.2.2.mono HB3.out.size)) (by have := HB3.out.size; omega) hw5
  clear hT4
  go_upto_region 2 with (first
    | (refine wpList_allocD (by rfl) (by rfl) g7 hg7 w4 hw4 ?_)
    | (refine wpList_storeD (by rfl) (.tmp 13) (.tmp 34) (by rfl) g7 Z (by rfl) (by rfl) lZ HT4.out w5 hw5 ?_))
  clear hw4 hg7 hw5 HT4
  try simp only [Act.put, List.setIfInBounds_toArray, List.set_cons_zero, List.set_cons_succ]
  by_cases hneg : h < 0
  · go_wp2_with fail
    go_ret
    exact ⟨rfl, (HALL.out _ HB5.out).2.2.2.2.2⟩
  have hbig : 4 < h := by have := HOUT.out; omega
  go_wp2_with fail
  go_ret
  exact ⟨rfl, (HALL.out _ HB5.out).2.2.2.2.2⟩
set_option maxRecDepth 100000 in
set_option maxHeartbeats 4000000 in
theorem topb_walk (seed : List UInt8) (h n : Int) (a2 : Option Addr) (n2 c2 : Nat) (ls : List (List UInt8)) (a3 : Option Addr) (n3 c3 : Nat) (wh : List Int) (mg : List UInt8) (w : World) (G : Env w)
    (hs : seed.length = 32) (y1 : -9223372036854775808 ≤ h) (y2 : h ≤ 9223372036854775807) (k1 : -9223372036854775808 ≤ n) (k2 : n ≤ 9223372036854775807) (R2 : BRowsB w a2 n2 ls) (h2 : n2 ≤ c2) (hn2 : 24 * n2 ≤ 140737488351232) (R3 : IRow w a3 n3 wh) (h3 : n3 ≤ c3) (hn3 : 8 * n3 ≤ 140737488351232) (hb : ∀ i, i < n3 → -9223372036854775808 ≤ wh.getD i 0 ∧ wh.getD i 0 ≤ 9223372036854775807) (hmg : mg.length = 32) :
    Calls Tryd.prog 3 #[digestV seed, .int .i64 h, .int .i64 n, .slice a2 n2 c2, .slice a3 n3 c3, digestV mg] w fun r w' => r = .returned (.bool true) ∧ Below w.heap.size w w' := by
  by_cases hout : h < 0 ∨ 4 < h
  · exact topb_out seed h n a2 n2 c2 ls a3 n3 c3 wh mg w G hs y1 y2 k1 k2 R2 h2 hn2 R3 h3 hn3 hb hmg hout
  obtain ⟨hh, rfl⟩ : ∃ hh : Nat, h = (hh : Int) := ⟨h.toNat, by omega⟩
  have hh4 : hh ≤ 4 := by omega
  clear hout
  obtain ⟨w1, hw1⟩ : ∃ w1, w.alloc (.cells (cellsB seed).toArray 23) = w1 := ⟨_, rfl⟩
  obtain ⟨w2, hw2⟩ : ∃ w2, w1.alloc (.cells (cellsB mg).toArray 23) = w2 := ⟨_, rfl⟩
  have hs1 : w1.heap.size = w.heap.size + 1 := by rw [← hw1]; simp
  have hs2 : w2.heap.size = w.heap.size + 1 + 1 := by rw [← hw2]; simp [hs1]
  have b1 : Below w.heap.size w w1 := by rw [← hw1]; exact (Below.refl _ _).alloc (Nat.le_refl _) _
  have b12 : Below w1.heap.size w1 w2 := by rw [← hw2]; exact (Below.refl _ _).alloc (Nat.le_refl _) _
  have HB2 : Hid (Below w.heap.size w w2) := b1.trans (b12.mono b1.size)
  have d1 : DAt w1 w.heap.size 0 seed := by rw [← hw1]; exact box_dat w seed _
  have HS2 : Hid (DAt w2 w.heap.size 0 seed) := d1.below b12 (by omega)
  have HM2 : Hid (DAt w2 (w.heap.size + 1) 0 mg) := by rw [← hw2, ← hs1]; exact box_dat w1 mg _
  have HZ2 : Hid (w2.heap.size = w.heap.size + 1 + 1) := hs2
  have HW : Hid ((w.alloc (.cells (cellsB seed).toArray 23)).alloc (.cells (cellsB mg).toArray 23) = w2) := by unfold Hid; rw [hw1, hw2]
  have HALL : Hid (∀ wx, Below w2.heap.size w2 wx → Env wx ∧ BRowsB wx a2 n2 ls ∧ IRow wx a3 n3 wh ∧ DAt wx w.heap.size 0 seed ∧ DAt wx (w.heap.size + 1) 0 mg ∧ Below w.heap.size w wx) := fun wx hx => by
    have b : Below w.heap.size w wx := HB2.out.trans (hx.mono HB2.out.size)
    exact ⟨G.below b, R2.below b, R3.below b, HS2.out.below hx (by omega), HM2.out.below hx (by omega), b⟩
  have HLS : Hid (ls.length = n2) := R2.1.1
  have HBD : Hid (∀ i, i < n3 → -9223372036854775808 ≤ wh.getD i 0 ∧ wh.getD i 0 ≤ 9223372036854775807) := hb
  have HB2' : Hid (Below w2.heap.size w2 w2) := Below.refl _ _
  clear G R2 R3 hb hw1 hw2 hs1 hs2 b1 b12 d1 w1
  have HP : Hid (Calls Tryd.prog 4 #[digestV seed, .int .i64 (hh : Int)] w2 fun e w' => e = .returned (.tuple #[digestV (stampPubL seed (2 ^ hh)), .nilIface]) ∧ Below w2.heap.size w2 w') := wstamp_public seed hh w2 (HALL.out _ HB2'.out).1 hs hh4
  have lD := stampPubL_length seed (2 ^ hh)
  have hp0 : 0 < 2 ^ hh := Nat.pow_pos (by omega)
  have HTELL : Hid (stampTellL mg 0 (2 ^ hh) (wotsSigL (stampKeyL seed 0) mg 67) (pathT (stampLeavesL seed (2 ^ hh)) 0) = stampPubL seed (2 ^ hh)) := stamp_signed seed mg 0 _ hp0
  have HPOW : Hid (0 < 2 ^ hh) := hp0
  generalize stampPubL seed (2 ^ hh) = D at *
  clear hp0
  go_enter Tryd.func3, Tryd.ntmps3
  go_upto_region 1 with fail
  rw [HW.out]
  go_wp2_with (refine wpList_load_mid (by rfl) 23 (.tmp 6) (by rfl) w.heap.size 0 (by rfl) (cellsB seed) _ HS2.out Tryd.underlying23 (by rfl) (by rw [cellsB_length, hs]; exact Tryd.sizeDg) ?_)
  refine HP.out.mono ?_
  rintro e w3 ⟨rfl, hb3⟩
  have HB3 : Hid (Below w2.heap.size w2 w3) := hb3
  clear hb3 HP
  obtain ⟨g7, hg7⟩ : ∃ g7, w3.heap.size = g7 := ⟨_, rfl⟩
  obtain ⟨w4, hw4⟩ : ∃ w4, w3.alloc (.cells (cellsB zD).toArray 23) = w4 := ⟨_, rfl⟩
  have hT4 := new_var hg7 hw4
  have HT4 : Hid (w4.there g7 0 32) := hT4.1
  obtain ⟨w5, hw5⟩ : ∃ w5, w4.setCells g7 0 (cellsB D) = w5 := ⟨_, rfl⟩
  have HB5 : Hid (Below w2.heap.size w2 w5) := below_put (HB3.out.trans (hT4.2.2.mono HB3.out.size)) (by have := HB3.out.size; omega) hw5
  have hd5 : DAt w5 g7 0 D := datD_put HT4.out lD hw5
  have HAL5 : Hid (∀ wx, Below w5.heap.size w5 wx → Env wx ∧ BRowsB wx a2 n2 ls ∧ IRow wx a3 n3 wh ∧ DAt wx w.heap.size 0 seed ∧ DAt wx (w.heap.size + 1) 0 mg ∧ Below w.heap.size w wx ∧ DAt wx g7 0 D) := fun wx hx => by
    have q := HALL.out wx (HB5.out.trans (hx.mono HB5.out.size))
    exact ⟨q.1, q.2.1, q.2.2.1, q.2.2.2.1, q.2.2.2.2.1, q.2.2.2.2.2, dat_b hd5 lD hx⟩
  have HG7 : Hid (g7 < w5.heap.size ∧ w.heap.size + 1 < w5.heap.size) := ⟨dat_size hd5 lD, by have := HB5.out.size; have := HZ2.out; omega⟩
  have H55' : Hid (Below w5.heap.size w5 w5) := Below.refl _ _
  clear hT4 hd5
  go_upto_region 2 with (first
    | (refine wpList_allocD (by rfl) (by rfl) g7 hg7 w4 hw4 ?_)
    | (refine wpList_storeD (by rfl) (.tmp 13) (.tmp 34) (by rfl) g7 D (by rfl) (by rfl) lD HT4.out w5 hw5 ?_))
  clear hw4 hg7 hw5 HT4 HB3 HALL HB2' HW HS2 HM2
  try simp only [Act.put, List.setIfInBounds_toArray, List.set_cons_zero, List.set_cons_succ]
  have HR1 : Hid (Row w5 (some ⟨w.heap.size, 0, none⟩) 32 seed) := DAt.row (HAL5.out _ H55'.out).2.2.2.1 hs
  go_wp2_with fail
  by_cases he : splitE 32 n ls = 0
  rotate_left
  · refine (wshare_splitout (some ⟨w.heap.size, 0, none⟩) 32 32 seed n a2 n2 c2 ls (splitE 32 n ls) w5 (HAL5.out _ H55'.out).1 HR1.out (by omega) (by omega) k1 k2 (HAL5.out _ H55'.out).2.1 h2 (by omega) rfl he).mono ?_
    rintro r w6 ⟨⟨ag, cg, rfl⟩, hb6⟩
    have HB6 : Hid (Below w5.heap.size w5 w6) := hb6
    generalize splitE 32 n ls = E at *
    clear hb6 he HR1
    go_wp2_with (refine wpList_buildSh (by rfl) (.tmp 68) (by rfl) (3, some ⟨w6.heap.size, 0, none⟩, 1, 1) (by rfl) ?_)
    have HBq : Hid (Below w5.heap.size w5 ((w6.alloc (.cells #[.int .u8 9] 5)).alloc (.cells (hdC (3, some ⟨w6.heap.size, 0, none⟩, 1, 1)).toArray 37))) := (HB6.out.alloc HB6.out.size _).alloc (by have := HB6.out.size; simp; omega) _
    have hsq : (w6.alloc (.cells #[.int .u8 9] 5)).heap.size = w6.heap.size + 1 := by simp
    have HRq : Hid (SRow ((w6.alloc (.cells #[.int .u8 9] 5)).alloc (.cells (hdC (3, some ⟨w6.heap.size, 0, none⟩, 1, 1)).toArray 37)) (some ⟨w6.heap.size + 1, 0, none⟩) 1 [(3, [9])]) := srow_nine w6 _ _
    try rw [hsq]
    clear hsq
    generalize (w6.alloc (.cells #[.int .u8 9] 5)).alloc (.cells (hdC (3, some ⟨w6.heap.size, 0, none⟩, 1, 1)).toArray 37) = wq at *
    refine (wshare_join (some ⟨w6.heap.size + 1, 0, none⟩) 1 1 [(3, [9])] wq (HAL5.out _ HBq.out).1 HRq.out (Nat.le_refl _) joinE_nine).mono ?_
    rintro r w9 ⟨⟨a', c', l, rfl, hc', r', j'⟩, hb9⟩
    have HB9 : Hid (Below w5.heap.size w5 w9) := HBq.out.trans (hb9.mono HBq.out.size)
    have hl := joined_nine j'
    rw [hl] at hc' ⊢
    clear hl r' j' hb9
    go_wp2_with fail
    go_ret
    exact ⟨rfl, (HAL5.out _ HB9.out).2.2.2.2.2.1⟩
  have HE : Hid (splitE 32 n ls = 0) := he
  obtain ⟨p1, p2, p3, p4, p5⟩ := splitE_ok he
  obtain ⟨N, hN⟩ : ∃ N : Nat, n = (N : Int) := ⟨n.toNat, by omega⟩
  subst hN
  have hN20 : N ≤ 20 := by omega
  clear he p3 p4 p5
  refine (wshare_split (some ⟨w.heap.size, 0, none⟩) 32 32 seed N a2 n2 c2 ls w5 (HAL5.out _ H55'.out).1 HR1.out (by omega) (HAL5.out _ H55'.out).2.1 h2 HE.out).mono ?_
  rintro r w6 ⟨⟨a4, c4, rfl, hc4, r4⟩, hb6⟩
  have HB6 : Hid (Below w5.heap.size w5 w6) := hb6
  have HSS : Hid (SRow w6 a4 N (splitL seed ls N)) := r4
  clear hb6 r4 HR1
  by_cases g1 : (n3 : Int) < (n2 : Int) + 1
  · clear HSS HE
    go_wp2_with (refine wpList_buildSh (by rfl) (.tmp 68) (by rfl) (3, some ⟨w6.heap.size, 0, none⟩, 1, 1) (by rfl) ?_)
    have HBq : Hid (Below w5.heap.size w5 ((w6.alloc (.cells #[.int .u8 9] 5)).alloc (.cells (hdC (3, some ⟨w6.heap.size, 0, none⟩, 1, 1)).toArray 37))) := (HB6.out.alloc HB6.out.size _).alloc (by have := HB6.out.size; simp; omega) _
    have hsq : (w6.alloc (.cells #[.int .u8 9] 5)).heap.size = w6.heap.size + 1 := by simp
    have HRq : Hid (SRow ((w6.alloc (.cells #[.int .u8 9] 5)).alloc (.cells (hdC (3, some ⟨w6.heap.size, 0, none⟩, 1, 1)).toArray 37)) (some ⟨w6.heap.size + 1, 0, none⟩) 1 [(3, [9])]) := srow_nine w6 _ _
    try rw [hsq]
    clear hsq
    generalize (w6.alloc (.cells #[.int .u8 9] 5)).alloc (.cells (hdC (3, some ⟨w6.heap.size, 0, none⟩, 1, 1)).toArray 37) = wq at *
    refine (wshare_join (some ⟨w6.heap.size + 1, 0, none⟩) 1 1 [(3, [9])] wq (HAL5.out _ HBq.out).1 HRq.out (Nat.le_refl _) joinE_nine).mono ?_
    rintro r w9 ⟨⟨a', c', l, rfl, hc', r', j'⟩, hb9⟩
    have HB9 : Hid (Below w5.heap.size w5 w9) := HBq.out.trans (hb9.mono HBq.out.size)
    have hl := joined_nine j'
    rw [hl] at hc' ⊢
    clear hl r' j' hb9
    go_wp2_with fail
    go_ret
    exact ⟨rfl, (HAL5.out _ HB9.out).2.2.2.2.2.1⟩
  by_cases g2 : (20 : Int) < (n3 : Int)
  · clear HSS HE
    go_wp2_with (refine wpList_buildSh (by rfl) (.tmp 68) (by rfl) (3, some ⟨w6.heap.size, 0, none⟩, 1, 1) (by rfl) ?_)
    have HBq : Hid (Below w5.heap.size w5 ((w6.alloc (.cells #[.int .u8 9] 5)).alloc (.cells (hdC (3, some ⟨w6.heap.size, 0, none⟩, 1, 1)).toArray 37))) := (HB6.out.alloc HB6.out.size _).alloc (by have := HB6.out.size; simp; omega) _
    have hsq : (w6.alloc (.cells #[.int .u8 9] 5)).heap.size = w6.heap.size + 1 := by simp
    have HRq : Hid (SRow ((w6.alloc (.cells #[.int .u8 9] 5)).alloc (.cells (hdC (3, some ⟨w6.heap.size, 0, none⟩, 1, 1)).toArray 37)) (some ⟨w6.heap.size + 1, 0, none⟩) 1 [(3, [9])]) := srow_nine w6 _ _
    try rw [hsq]
    clear hsq
    generalize (w6.alloc (.cells #[.int .u8 9] 5)).alloc (.cells (hdC (3, some ⟨w6.heap.size, 0, none⟩, 1, 1)).toArray 37) = wq at *
    refine (wshare_join (some ⟨w6.heap.size + 1, 0, none⟩) 1 1 [(3, [9])] wq (HAL5.out _ HBq.out).1 HRq.out (Nat.le_refl _) joinE_nine).mono ?_
    rintro r w9 ⟨⟨a', c', l, rfl, hc', r', j'⟩, hb9⟩
    have HB9 : Hid (Below w5.heap.size w5 w9) := HBq.out.trans (hb9.mono HBq.out.size)
    have hl := joined_nine j'
    rw [hl] at hc' ⊢
    clear hl r' j' hb9
    go_wp2_with fail
    go_ret
    exact ⟨rfl, (HAL5.out _ HB9.out).2.2.2.2.2.1⟩
  have hn31 : n2 + 1 ≤ n3 := by omega
  have hn320 : n3 ≤ 20 := by omega
  obtain ⟨bi, oi, ha3⟩ : ∃ bi oi, a3 = some ⟨bi, oi, none⟩ := by
    rcases (HAL5.out _ HB6.out).2.2.1.2 with h0 | ⟨b, o, e, _⟩
    · omega
    · exact ⟨b, o, e⟩
  subst ha3
  have HWC : Hid (∀ wx, Below w5.heap.size w5 wx → ∀ i, i < n3 → wx.cell? ⟨bi, oi + i, none⟩ = some (.int .i64 (wh.getD i 0))) := fun wx hx i hi => by
    rcases (HAL5.out _ hx).2.2.1.2 with h0 | ⟨b, o, e, hc⟩
    · omega
    · cases e
      exact hc i hi
  go_wp2_with fail
  clear g1 g2
  obtain ⟨B0, hB0⟩ : ∃ B0, w6.heap.size = B0 := ⟨_, rfl⟩
  have HBB : Hid (w6.heap.size = B0) := hB0
  have H66' : Hid (Below B0 w6 w6) := Below.refl _ _
  clear hB0
  have HBW : Hid (∀ wx, Below B0 w6 wx → Below w5.heap.size w5 wx ∧ B0 ≤ wx.heap.size) := fun wx hx => ⟨HB6.out.trans (hx.mono (by have := HB6.out.size; have := HBB.out; omega)), by have := hx.size; have := HBB.out; omega⟩
  go_loopw [18, 19] (fun v iv wr => ∃ i : Nat, iv = .int .i64 (i : Int) ∧ i ≤ n3 ∧ Hid (OwnS wr B0 v (pickS (splitL seed ls N) wh i)) ∧ Hid (∀ j, j < i → 0 ≤ wh.getD j 0 ∧ wh.getD j 0 < (N : Int)) ∧ Hid (∀ p q, p < i → q < p → wh.getD q 0 ≠ wh.getD p 0) ∧ Hid (Below B0 w6 wr)) (fun _ iv _ => n3 - (intOf iv).toNat)
  case atStart => exact ⟨0, rfl, Nat.zero_le _, OwnS.nil _ _, (fun j h => by omega), (fun p q h => by omega), H66'.out⟩
  case round =>
    obtain ⟨i, rfl, hi, HO, HIN, HNE, HB⟩ := hrel
    by_cases hlt : i < n3
    · have HI3 : Hid (i < n3) := hlt
      have k0 : wr.cell? ⟨bi, oi + i, none⟩ = some (.int .i64 (wh.getD i 0)) := HWC.out wr (HBW.out wr HB.out).1 i hlt
      have q1 := (HBD.out i hlt).1
      have q2 := (HBD.out i hlt).2
      have i0 : (0 : Int) ≤ (i : Int) := by omega
      have i1 : (i : Int) < (n3 : Int) := by omega
      obtain ⟨z, hz⟩ : ∃ z, wh.getD i 0 = z := ⟨_, rfl⟩
      have HZ : Hid (wh.getD i 0 = z) := hz
      rw [hz] at k0 q1 q2
      clear hz hlt hi
      by_cases d1 : z < 0
      · go_wp2_with fail
        go_ret
        exact ⟨rfl, (HAL5.out _ (HBW.out wr HB.out).1).2.2.2.2.2.1⟩
      by_cases d2 : (N : Int) ≤ z
      · go_wp2_with fail
        go_ret
        exact ⟨rfl, (HAL5.out _ (HBW.out wr HB.out).1).2.2.2.2.2.1⟩
      have z0 : 0 ≤ z := by omega
      have z1 : z < (N : Int) := by omega
      go_wp2_with fail
      clear k0
      generalize wr = w7 at *
      clear wr
      have H77 : Hid (Below w7.heap.size w7 w7) := Below.refl _ _
      go_loopw [20] (fun jv wr => ∃ j : Nat, jv = .int .i64 (j : Int) ∧ j ≤ i ∧ Hid (∀ q, q < j → wh.getD q 0 ≠ z) ∧ Hid (Below w7.heap.size w7 wr)) (fun jv _ => i - (intOf jv).toNat)
      case atStart => exact ⟨0, rfl, Nat.zero_le _, (fun q h => by omega), H77.out⟩
      case round =>
        clear H77
        obtain ⟨j, rfl, hj, HJ, HB7⟩ := hrel
        have HBx : Hid (Below B0 w6 wr) := HB.out.trans (HB7.out.mono (HBW.out _ HB.out).2)
        by_cases hlj : j < i
        · have HJI : Hid (j < i) := hlj
          have j0 : (0 : Int) ≤ (j : Int) := by omega
          have j1 : (j : Int) < (n3 : Int) := by have := HI3.out; omega
          have j2 : (j : Int) < (i : Int) := by omega
          obtain ⟨zj, hzj⟩ : ∃ zj, wh.getD j 0 = zj := ⟨_, rfl⟩
          have HZJ : Hid (wh.getD j 0 = zj) := hzj
          have HCJ : Hid (∀ wx, Below wr.heap.size wr wx → wx.cell? ⟨bi, oi + j, none⟩ = some (.int .i64 zj) ∧ wx.cell? ⟨bi, oi + i, none⟩ = some (.int .i64 z) ∧ Below B0 w6 wx) := fun wx hx => by
            have b : Below B0 w6 wx := HBx.out.trans (hx.mono (HBW.out _ HBx.out).2)
            have c := HWC.out wx (HBW.out wx b).1
            have := HI3.out
            have := HJI.out
            exact ⟨by rw [c j (by omega), HZJ.out], by rw [c i (by omega), HZ.out], b⟩
          clear hzj hlj hj
          by_cases ce : zj = z
          · have HCE : Hid ((zj : Int) = z) := ce
            clear ce
            go_upto_region 17 with fail
            try simp only [Act.put, List.setIfInBounds_toArray, List.set_cons_zero, List.set_cons_succ]
            refine wp_region_noPanic ?_
            refine wp_region_held_drew (S := fun wx => wx.cell? ⟨bi, oi + j, none⟩ = some (.int .i64 (zj : Int)) ∧ wx.cell? ⟨bi, oi + i, none⟩ = some (.int .i64 (z : Int))) (by kernel_rfl) ⟨(HCJ.out _ (below_drewN wr 1)).1, (HCJ.out _ (below_drewN wr 1)).2.1⟩ (fun hHeld => ?_)
            try simp only [Act.put, List.setIfInBounds_toArray, List.set_cons_zero, List.set_cons_succ]
            have HBd : Hid (Below wr.heap.size wr wr.drew) := below_drewN wr 1
            generalize wr.drew = wd at *
            refine wpAnyH_take (i := 0) (v := .slice (some ⟨bi, oi, none⟩) n3 c3) (by simp only [List.getElem?_toArray, List.getElem?_cons_zero, List.getElem?_cons_succ]; rfl) (by kernel_rfl) (by kernel_rfl) (by kernel_rfl) (fun _ _ _ h => h) (Or.inl ⟨by rfl, ?_⟩) hHeld ?_
            · intro w hSw
              obtain ⟨hSw0, hSw1⟩ := hSw
              go_simp
            try simp only [Act.put, List.setIfInBounds_toArray, List.set_cons_zero, List.set_cons_succ]
            refine wpAnyH_take (i := 1) (v := .int .i64 (j : Int)) (by simp only [List.getElem?_toArray, List.getElem?_cons_zero, List.getElem?_cons_succ]; rfl) (by kernel_rfl) (by kernel_rfl) (by kernel_rfl) (fun _ _ _ h => h) (Or.inl ⟨by rfl, ?_⟩) hHeld ?_
            · intro w hSw
              obtain ⟨hSw0, hSw1⟩ := hSw
              go_simp
            try simp only [Act.put, List.setIfInBounds_toArray, List.set_cons_zero, List.set_cons_succ]
            refine wpAnyH_take (i := 2) (v := .pointer (some ⟨bi, oi + j, none⟩)) (by simp only [List.getElem?_toArray, List.getElem?_cons_zero, List.getElem?_cons_succ]; rfl) (by kernel_rfl) (by kernel_rfl) (by kernel_rfl) (fun _ _ _ h => h) (Or.inl ⟨by rfl, ?_⟩) hHeld ?_
            · intro w hSw
              obtain ⟨hSw0, hSw1⟩ := hSw
              go_simp
            try simp only [Act.put, List.setIfInBounds_toArray, List.set_cons_zero, List.set_cons_succ]
            refine wpAnyH_take (i := 3) (v := .int .i64 (zj : Int)) (by simp only [List.getElem?_toArray, List.getElem?_cons_zero, List.getElem?_cons_succ]; rfl) (by kernel_rfl) (by kernel_rfl) (by kernel_rfl) (fun _ _ _ h => h) (Or.inl ⟨by rfl, ?_⟩) hHeld ?_
            · intro w hSw
              obtain ⟨hSw0, hSw1⟩ := hSw
              go_simp
            try simp only [Act.put, List.setIfInBounds_toArray, List.set_cons_zero, List.set_cons_succ]
            refine wpAnyH_take (i := 4) (v := .slice (some ⟨bi, oi, none⟩) n3 c3) (by simp only [List.getElem?_toArray, List.getElem?_cons_zero, List.getElem?_cons_succ]; rfl) (by kernel_rfl) (by kernel_rfl) (by kernel_rfl) (fun _ _ _ h => h) (Or.inl ⟨by rfl, ?_⟩) hHeld ?_
            · intro w hSw
              obtain ⟨hSw0, hSw1⟩ := hSw
              go_simp
            try simp only [Act.put, List.setIfInBounds_toArray, List.set_cons_zero, List.set_cons_succ]
            refine wpAnyH_take (i := 5) (v := .int .i64 (i : Int)) (by simp only [List.getElem?_toArray, List.getElem?_cons_zero, List.getElem?_cons_succ]; rfl) (by kernel_rfl) (by kernel_rfl) (by kernel_rfl) (fun _ _ _ h => h) (Or.inl ⟨by rfl, ?_⟩) hHeld ?_
            · intro w hSw
              obtain ⟨hSw0, hSw1⟩ := hSw
              go_simp
            try simp only [Act.put, List.setIfInBounds_toArray, List.set_cons_zero, List.set_cons_succ]
            refine wpAnyH_take (i := 6) (v := .pointer (some ⟨bi, oi + i, none⟩)) (by simp only [List.getElem?_toArray, List.getElem?_cons_zero, List.getElem?_cons_succ]; rfl) (by kernel_rfl) (by kernel_rfl) (by kernel_rfl) (fun _ _ _ h => h) (Or.inl ⟨by rfl, ?_⟩) hHeld ?_
            · intro w hSw
              obtain ⟨hSw0, hSw1⟩ := hSw
              go_simp
            try simp only [Act.put, List.setIfInBounds_toArray, List.set_cons_zero, List.set_cons_succ]
            refine wpAnyH_take (i := 7) (v := .int .i64 (z : Int)) (by simp only [List.getElem?_toArray, List.getElem?_cons_zero, List.getElem?_cons_succ]; rfl) (by kernel_rfl) (by kernel_rfl) (by kernel_rfl) (fun _ _ _ h => h) (Or.inl ⟨by rfl, ?_⟩) hHeld ?_
            · intro w hSw
              obtain ⟨hSw0, hSw1⟩ := hSw
              go_simp
            try simp only [Act.put, List.setIfInBounds_toArray, List.set_cons_zero, List.set_cons_succ]
            refine wpAnyH_take (i := 8) (v := .bool true) (by simp only [List.getElem?_toArray, List.getElem?_cons_zero, List.getElem?_cons_succ]; rfl) (by kernel_rfl) (by kernel_rfl) (by kernel_rfl) (fun _ _ _ h => h) (Or.inl ⟨by rfl, ?_⟩) hHeld ?_
            · intro w hSw
              obtain ⟨hSw0, hSw1⟩ := hSw
              go_simp
              exact HCE.out
            try simp only [Act.put, List.setIfInBounds_toArray, List.set_cons_zero, List.set_cons_succ]
            refine wpAnyH_done (by kernel_rfl) (NoPanic.normal ?_) _
            clear hHeld
            go_wp2_with fail
            go_ret
            exact ⟨rfl, (HAL5.out _ (HBW.out _ (HCJ.out _ HBd.out).2.2).1).2.2.2.2.2.1⟩
          · have HCE : Hid (¬ (zj : Int) = z) := ce
            have HNX : Hid (∀ q, q < j + 1 → wh.getD q 0 ≠ z) := fun q h => by
              by_cases e : q = j
              · rw [e, HZJ.out]; exact HCE.out
              · exact HJ.out q (by omega)
            clear ce
            go_upto_region 17 with fail
            try simp only [Act.put, List.setIfInBounds_toArray, List.set_cons_zero, List.set_cons_succ]
            refine wp_region_noPanic ?_
            refine wp_region_held_drew (S := fun wx => wx.cell? ⟨bi, oi + j, none⟩ = some (.int .i64 (zj : Int)) ∧ wx.cell? ⟨bi, oi + i, none⟩ = some (.int .i64 (z : Int))) (by kernel_rfl) ⟨(HCJ.out _ (below_drewN wr 1)).1, (HCJ.out _ (below_drewN wr 1)).2.1⟩ (fun hHeld => ?_)
            try simp only [Act.put, List.setIfInBounds_toArray, List.set_cons_zero, List.set_cons_succ]
            have HBd : Hid (Below wr.heap.size wr wr.drew) := below_drewN wr 1
            generalize wr.drew = wd at *
            refine wpAnyH_take (i := 0) (v := .slice (some ⟨bi, oi, none⟩) n3 c3) (by simp only [List.getElem?_toArray, List.getElem?_cons_zero, List.getElem?_cons_succ]; rfl) (by kernel_rfl) (by kernel_rfl) (by kernel_rfl) (fun _ _ _ h => h) (Or.inl ⟨by rfl, ?_⟩) hHeld ?_
            · intro w hSw
              obtain ⟨hSw0, hSw1⟩ := hSw
              go_simp
            try simp only [Act.put, List.setIfInBounds_toArray, List.set_cons_zero, List.set_cons_succ]
            refine wpAnyH_take (i := 1) (v := .int .i64 (j : Int)) (by simp only [List.getElem?_toArray, List.getElem?_cons_zero, List.getElem?_cons_succ]; rfl) (by kernel_rfl) (by kernel_rfl) (by kernel_rfl) (fun _ _ _ h => h) (Or.inl ⟨by rfl, ?_⟩) hHeld ?_
            · intro w hSw
              obtain ⟨hSw0, hSw1⟩ := hSw
              go_simp
            try simp only [Act.put, List.setIfInBounds_toArray, List.set_cons_zero, List.set_cons_succ]
            refine wpAnyH_take (i := 2) (v := .pointer (some ⟨bi, oi + j, none⟩)) (by simp only [List.getElem?_toArray, List.getElem?_cons_zero, List.getElem?_cons_succ]; rfl) (by kernel_rfl) (by kernel_rfl) (by kernel_rfl) (fun _ _ _ h => h) (Or.inl ⟨by rfl, ?_⟩) hHeld ?_
            · intro w hSw
              obtain ⟨hSw0, hSw1⟩ := hSw
              go_simp
            try simp only [Act.put, List.setIfInBounds_toArray, List.set_cons_zero, List.set_cons_succ]
            refine wpAnyH_take (i := 3) (v := .int .i64 (zj : Int)) (by simp only [List.getElem?_toArray, List.getElem?_cons_zero, List.getElem?_cons_succ]; rfl) (by kernel_rfl) (by kernel_rfl) (by kernel_rfl) (fun _ _ _ h => h) (Or.inl ⟨by rfl, ?_⟩) hHeld ?_
            · intro w hSw
              obtain ⟨hSw0, hSw1⟩ := hSw
              go_simp
            try simp only [Act.put, List.setIfInBounds_toArray, List.set_cons_zero, List.set_cons_succ]
            refine wpAnyH_take (i := 4) (v := .slice (some ⟨bi, oi, none⟩) n3 c3) (by simp only [List.getElem?_toArray, List.getElem?_cons_zero, List.getElem?_cons_succ]; rfl) (by kernel_rfl) (by kernel_rfl) (by kernel_rfl) (fun _ _ _ h => h) (Or.inl ⟨by rfl, ?_⟩) hHeld ?_
            · intro w hSw
              obtain ⟨hSw0, hSw1⟩ := hSw
              go_simp
            try simp only [Act.put, List.setIfInBounds_toArray, List.set_cons_zero, List.set_cons_succ]
            refine wpAnyH_take (i := 5) (v := .int .i64 (i : Int)) (by simp only [List.getElem?_toArray, List.getElem?_cons_zero, List.getElem?_cons_succ]; rfl) (by kernel_rfl) (by kernel_rfl) (by kernel_rfl) (fun _ _ _ h => h) (Or.inl ⟨by rfl, ?_⟩) hHeld ?_
            · intro w hSw
              obtain ⟨hSw0, hSw1⟩ := hSw
              go_simp
            try simp only [Act.put, List.setIfInBounds_toArray, List.set_cons_zero, List.set_cons_succ]
            refine wpAnyH_take (i := 6) (v := .pointer (some ⟨bi, oi + i, none⟩)) (by simp only [List.getElem?_toArray, List.getElem?_cons_zero, List.getElem?_cons_succ]; rfl) (by kernel_rfl) (by kernel_rfl) (by kernel_rfl) (fun _ _ _ h => h) (Or.inl ⟨by rfl, ?_⟩) hHeld ?_
            · intro w hSw
              obtain ⟨hSw0, hSw1⟩ := hSw
              go_simp
            try simp only [Act.put, List.setIfInBounds_toArray, List.set_cons_zero, List.set_cons_succ]
            refine wpAnyH_take (i := 7) (v := .int .i64 (z : Int)) (by simp only [List.getElem?_toArray, List.getElem?_cons_zero, List.getElem?_cons_succ]; rfl) (by kernel_rfl) (by kernel_rfl) (by kernel_rfl) (fun _ _ _ h => h) (Or.inl ⟨by rfl, ?_⟩) hHeld ?_
            · intro w hSw
              obtain ⟨hSw0, hSw1⟩ := hSw
              go_simp
            try simp only [Act.put, List.setIfInBounds_toArray, List.set_cons_zero, List.set_cons_succ]
            refine wpAnyH_take (i := 8) (v := .bool false) (by simp only [List.getElem?_toArray, List.getElem?_cons_zero, List.getElem?_cons_succ]; rfl) (by kernel_rfl) (by kernel_rfl) (by kernel_rfl) (fun _ _ _ h => h) (Or.inl ⟨by rfl, ?_⟩) hHeld ?_
            · intro w hSw
              obtain ⟨hSw0, hSw1⟩ := hSw
              go_simp
              exact HCE.out
            try simp only [Act.put, List.setIfInBounds_toArray, List.set_cons_zero, List.set_cons_succ]
            refine wpAnyH_done (by kernel_rfl) (NoPanic.normal ?_) _
            clear hHeld
            go_wp2_with fail
            go_roundw
            case rel => exact ⟨j + 1, by go_num, HJI.out, HNX.out, HB7.out.trans (HBd.out.mono HB7.out.size)⟩
            case measure => have := HJI.out; simp [intOf]; omega
        · have hji : j = i := by omega
          subst hji
          have g3 : ¬ (j : Int) < (j : Int) := by omega
          obtain ⟨M, hM⟩ : ∃ M : Nat, z = (M : Int) := ⟨z.toNat, by omega⟩
          subst hM
          have M1 : (M : Int) < (N : Int) := z1
          have k0 : wr.cell? ⟨bi, oi + j, none⟩ = some (.int .i64 (M : Int)) := by rw [HWC.out wr (HBW.out wr HBx.out).1 j HI3.out, HZ.out]
          obtain ⟨b, o, ha4⟩ := HSS.out.addr (by omega)
          subst ha4
          obtain ⟨ai, ni, ci, hni, hp8, hnc, HC⟩ := HSS.out.head M (by omega)
          have HBy : Below w6.heap.size w6 wr := by rw [HBB.out]; exact HBx.out
          have hp := HC w6 (Below.refl _ _)
          have hq := HC wr HBy
          obtain ⟨t, ht⟩ : ∃ t, (splitL seed ls N).getD M noS = t := ⟨_, rfl⟩
          rw [ht] at hp hq hp8
          have HDR : Hid (wr.rangeAt b (o + M * 2) (hdC (t.1, ai, ni, ci))) := fun x v hx => by
            match x, hx with
            | 0, hx => rw [← hx]; exact hq.1
            | 1, hx => rw [← hx]; exact hq.2.1
          have HDH : Hid (DatH wr (t.1, ai, ni, ci) t) := ⟨rfl, hp8, hnc, hni, hq.2.2⟩
          have HAP : Hid (ApartH (t.1, ai, ni, ci) u18.ownBlock) := by
            have d : DatH w6 (t.1, ai, ni, ci) t := ⟨rfl, hp8, hnc, hni, hp.2.2⟩
            rcases d.2.2.2.2.2 with h0 | ⟨b', o', e, hc'⟩
            · exact .inl h0
            · by_cases h0 : ni = 0
              · exact .inl h0
              · refine .inr fun ad e2 e3 => ?_
                rw [e] at e2
                cases e2
                have l1 := cell_block (hc' 0 (by show 0 < ni; omega))
                have l2 := (HO.out.lt _ e3).1
                have := HBB.out
                simp only at l2
                omega
          have HPS : Hid (pickS (splitL seed ls N) wh j ++ [t] = pickS (splitL seed ls N) wh (j + 1)) := by
            rw [pickS_succ, HZ.out, ← ht]
            rfl
          have HPL : Hid ((pickS (splitL seed ls N) wh j).length = j) := pickS_len _ _ _
          have HOx : Hid (OwnS wr B0 u18 (pickS (splitL seed ls N) wh j)) := HO.out.below HB7.out
          have HIN2 : Hid (∀ q, q < j + 1 → 0 ≤ wh.getD q 0 ∧ wh.getD q 0 < (N : Int)) := fun q h => by
            by_cases e : q = j
            · rw [e, HZ.out]; exact ⟨z0, z1⟩
            · exact HIN.out q (by omega)
          have HNE2 : Hid (∀ p q, p < j + 1 → q < p → wh.getD q 0 ≠ wh.getD p 0) := fun p q h h' => by
            by_cases e : p = j
            · subst e
              rw [HZ.out]
              exact HJ.out q h'
            · exact HNE.out p q (by omega) h'
          generalize pickS (splitL seed ls N) wh j = PS at *
          clear HC hp hq ht hp8 HBy HO HIN HNE HJ HB7
          go_wp2_with (first
            | (refine wpList_loadSh (by rfl) (.tmp 120) (by rfl) b (o + M * 2) (t.1, ai, ni, ci) (by rfl) HDR.out ?_)
            | (refine wpList_buildSh (by rfl) (.tmp 121) (by rfl) (t.1, ai, ni, ci) (by rfl) ?_)
            | (at_builtin; refine wpList_append_share (by rfl) (.tmp 114) (.tmp 122) (by rfl) B0 u18 PS (by rfl) (OwnS.alloc HOx.out _) wr.heap.size 0 1 (t.1, ai, ni, ci) t (by rfl) (lit_cells wr (t.1, ai, ni, ci) _) (HDH.out.below ((Below.refl _ _).alloc (Nat.le_refl _) _)) HAP.out (by rw [HPL.out]; have := HI3.out; omega) (by have := (HBW.out _ HBx.out).2; simp; omega) ?_; intro v7 w8 ho7 hg7 ha7))
          have q7 : OwnS w8 B0 v7 (pickS (splitL seed ls N) wh (j + 1)) := by rw [← HPS.out]; exact ho7
          have B7 := OwnS.grown (OwnS.alloc HOx.out _) (HBx.out.alloc (HBW.out _ HBx.out).2 _) hg7 (Nat.le_refl _) (by have := (HBW.out _ HBx.out).2; simp; omega)
          have hi3 := HI3.out
          go_roundw
          case rel => exact ⟨j + 1, by go_num, by omega, q7, HIN2.out, HNE2.out, B7⟩
          case measure => simp [intOf]; omega
    · have hin : i = n3 := by omega
      subst hin
      have g3 : ¬ (i : Int) < (i : Int) := by omega
      obtain ⟨a6, c6, hu, r6, hc6⟩ := HO.out.form
      rw [pickS_len] at hu r6 hc6
      subst hu
      have HR6 : Hid (SRow wr a6 i (pickS (splitL seed ls N) wh i)) := r6
      have hall := pickS_all (secret := seed) (ls := ls) (N := N) (n := i) (l := wh) hN20 HIN.out HNE.out
      have HJE : Hid (joinE (pickS (splitL seed ls N) wh i) = 0) := joinE_none (F := 32) (by rw [pickS_len]; omega) (by rw [pickS_len]; exact hn320) (fun s hs' => ⟨⟨(hall.1 s hs').1.1, by have := (hall.1 s hs').1.2; omega⟩, by rw [(hall.1 s hs').2]; show (dataS _ _ _ _).length = 32; rw [dataS_length]; exact hs⟩) hall.2
      have HEN : Hid (∀ l, joinedP (pickS (splitL seed ls N) wh i) 0 l → l = seed) := fun l hl => enough (fun s hs' => ⟨by have := (hall.1 s hs').1.2; omega, (hall.1 s hs').2⟩) hall.2 (by rw [pickS_len, HLS.out]; exact hn31) hl
      have HBx : Hid (Below w5.heap.size w5 wr) := (HBW.out wr HB.out).1
      clear r6 hall HO HIN HNE HB hlt HBW HWC HSS HBB H66' HB6
      go_wp2_with fail
      refine (wshare_join a6 i c6 (pickS (splitL seed ls N) wh i) wr (HAL5.out _ HBx.out).1 HR6.out hc6 HJE.out).mono ?_
      rintro r w8 ⟨⟨a8, c8, l8, rfl, hc8, r8, j8⟩, hb8⟩
      have hl8 := HEN.out l8 j8
      subst hl8
      rw [hs] at hc8 r8 ⊢
      have HB8 : Hid (Below w5.heap.size w5 w8) := HBx.out.trans (hb8.mono HBx.out.size)
      have HR8 : Hid (∀ wx, Below w8.heap.size w8 wx → Row wx a8 32 l8) := fun wx hx => r8.below hx
      have HB88 : Hid (Below w8.heap.size w8 w8) := Below.refl _ _
      obtain ⟨b8, o8, ha8⟩ : ∃ b8 o8, a8 = some ⟨b8, o8, none⟩ := by
        rcases r8.2 with h0 | ⟨b, o, e, _⟩
        · omega
        · exact ⟨b, o, e⟩
      subst ha8
      have HC8 : Hid (∀ wx, Below w8.heap.size w8 wx → ∀ q, q < 32 → wx.cell? ⟨b8, o8 + q, none⟩ = some (.int .u8 (nth l8 q))) := fun wx hx q hq => by
        rcases (HR8.out wx hx).2 with h0 | ⟨b, o, e, hc⟩
        · omega
        · cases e
          exact hc q hq
      clear hb8 HR6 HJE HEN HBx r8 j8 hc8
      obtain ⟨g9, hg9⟩ : ∃ g9, w8.heap.size = g9 := ⟨_, rfl⟩
      obtain ⟨w9, hw9⟩ : ∃ w9, w8.alloc (.cells (cellsB zD).toArray 23) = w9 := ⟨_, rfl⟩
      have HO9 : Hid (OwnK .u8 23 w9 g9 g9 32 32 (fun q => if q < 0 then nth l8 q else 0)) := by
        rw [← hw9, ← hg9, zD_lit]
        exact (OwnK.zero32 w8 _).congr (fun q hq => by rw [if_neg (by omega)])
      have HB9 : Hid (Below g9 w8 w9) := by rw [← hw9, ← hg9]; exact (Below.refl _ _).alloc (Nat.le_refl _) _
      have HG9 : Hid (w8.heap.size = g9) := hg9
      go_upto_region 24 with (first
        | (refine wpList_allocD (by rfl) (by rfl) g9 hg9 w9 hw9 ?_))
      clear hw9 hg9
      try simp only [Act.put, List.setIfInBounds_toArray, List.set_cons_zero, List.set_cons_succ]
      go_wp2_with fail
      go_loopw [23] (fun kv wr => ∃ k : Nat, k ≤ 32 ∧ kv = .int .i64 (k : Int) ∧ Hid (OwnK .u8 23 wr g9 g9 32 32 (fun q => if q < k then nth l8 q else 0)) ∧ Hid (Below g9 w8 wr)) (fun kv _ => 32 - (intOf kv).toNat)
      case atStart => exact ⟨0, Nat.zero_le _, rfl, HO9.out, HB9.out⟩
      case round =>
        clear HO9 HB9
        obtain ⟨k, hk, rfl, HO, HB⟩ := hrel
        by_cases hlt : k < 32
        · have g4 : (k : Int) < 32 := by omega
          have c0 := HO.out.cell k hlt
          rw [if_neg (by omega)] at c0
          have z0 := HO.out.frozen k
          have hbk : Below w8.heap.size w8 wr := by rw [HG9.out]; exact HB.out
          have c1 := HC8.out wr hbk k hlt
          have HLT : Hid (k < 32) := hlt
          clear hbk
          obtain ⟨v, hv⟩ : ∃ v, nth l8 k = v := ⟨_, rfl⟩
          have HV : Hid (nth l8 k = v) := hv
          rw [hv] at c1
          clear hv
          go_wp2_with fail
          go_roundw
          case rel =>
            refine ⟨k + 1, HLT.out, by go_num, (OwnK.store HO.out k _).congr fun q hq => ?_, HB.out.setCell (Nat.le_refl _) _⟩
            by_cases hqt : q = k
            · subst hqt
              rw [if_pos rfl, if_pos (by omega), HV.out]
            · rw [if_neg hqt]
              by_cases hlt2 : q < k
              · rw [if_pos hlt2, if_pos (by omega)]
              · rw [if_neg hlt2, if_neg (by omega)]
          case measure => have := HLT.out; simp [intOf]; omega
        · obtain rfl : k = 32 := by omega
          have HX : Hid (DAt wr g9 0 l8) := HO.out.dat hs fun i hi => by rw [if_pos hi]
          have HBx : Hid (Below w5.heap.size w5 wr) := HB8.out.trans (HB.out.mono (by have := HB8.out.size; have := HG9.out; omega))
          have HG9' : Hid (w5.heap.size ≤ g9) := by have := HB8.out.size; have := HG9.out; unfold Hid; omega
          clear HO HB HR8 HC8 HB88 HB8 HG9
          go_wp2_with (refine wpList_load_mid (by rfl) 23 (.tmp 22) (by rfl) g9 0 (by rfl) (cellsB l8) _ HX.out Tryd.underlying23 (by rfl) (by rw [cellsB_length, hs]; exact Tryd.sizeDg) ?_)
          refine (wstamp_new l8 hh wr (HAL5.out _ HBx.out).1 hs hh4).mono ?_
          rintro e wa ⟨⟨g, rfl, hg, hst⟩, hba⟩
          have HXa : Hid (DAt wa g9 0 l8) := dat_b HX.out hs hba
          have HGN : Hid (g9 < g) := by have := dat_size HX.out hs; unfold Hid; omega
          have HBa : Hid (Below w5.heap.size w5 wa) := HBx.out.trans (hba.mono HBx.out.size)
          have HSTa : Hid (Stm wa g l8 hh 0) := hst
          clear hg hst hba HX HBx
          have hma := (HAL5.out _ HBa.out).2.2.2.2.1
          go_wp2_with (refine wpList_load_mid (by rfl) 23 (.tmp 11) (by rfl) (w.heap.size + 1) 0 (by rfl) (cellsB mg) _ hma Tryd.underlying23 (by rfl) (by rw [cellsB_length, hmg]; exact Tryd.sizeDg) ?_)
          refine (wstamp_sign g l8 mg hh 0 wa (HAL5.out _ HBa.out).1 HSTa.out hmg HPOW.out).mono ?_
          rintro e wb ⟨⟨a1, c1, a2, c2, rfl, hc1, hc2, r1, r2, hs2⟩, hgr⟩
          have HXb : Hid (DAt wb g9 0 l8) := dat_grs HXa.out hgr (dat_size HXa.out hs) (by have := HGN.out; omega)
          have HBb : Hid (Below w5.heap.size w5 wb) := below_grs HBa.out hgr HBa.out.size (by have := HGN.out; have := HG9'.out; omega)
          have HLP : Hid (longT 0 (2 ^ hh) ≤ longT 0 (2 ^ hh)) := Nat.le_refl _
          have HREC : Hid (∀ wx, Below wb.heap.size wb wx → Env wx → Calls Tryd.prog 9 #[digestV mg, .int .i64 (hh : Int), sigV ((0 : Nat) : Int) a1 67 c1 a2 (longT 0 (2 ^ hh)) c2] wx fun e w' => e = .returned (.tuple #[digestV D, .nilIface]) ∧ Below wx.heap.size wx w') := fun wx hx he => by
            have := wstamp_recover mg hh 0 (2 ^ hh) a1 c1 a2 _ c2 _ _ wx he hmg hh4 rfl HPOW.out (r1.below hx) hc1 (r2.below hx) hc2 rfl
            rw [HTELL.out] at this
            exact this
          clear hc1 hc2 r1 r2 hs2 hgr HLP HSTa HXa hma HBa
          generalize longT 0 (2 ^ hh) = L at *
          obtain ⟨g15, hg15⟩ : ∃ g15, wb.heap.size = g15 := ⟨_, rfl⟩
          obtain ⟨wc, hwc⟩ : ∃ wc, wb.alloc (.cells #[.int .i64 0, .slice none 0 0, .slice none 0 0] 43) = wc := ⟨_, rfl⟩
          have HTc : Hid (wc.there g15 0 3) := by rw [← hwc]; exact alloc_thereAt _ _ _ 3 _ hg15 rfl
          obtain ⟨wd, hwd⟩ : ∃ wd, wc.setCells g15 0 [.int .i64 ((0 : Nat) : Int), .slice a1 67 c1, .slice a2 L c2] = wd := ⟨_, rfl⟩
          have HBd : Hid (Below wb.heap.size wb wd) := by rw [← hwd]; exact below_setCells _ (by rw [hg15]; exact Nat.le_refl _) _ _ _ (by rw [← hwc]; exact (Below.refl _ _).alloc (Nat.le_refl _) _)
          have HRd : Hid (wd.rangeAt g15 0 [.int .i64 ((0 : Nat) : Int), .slice a1 67 c1, .slice a2 L c2]) := by rw [← hwd]; exact World.rangeAt_setCells_same _ _ _ _ HTc.out
          go_upto_region 32 with (first
            | (refine wpList_allocE (by rfl) 43 (by rfl) #[.int .i64 0, .slice none 0 0, .slice none 0 0] Tryd.zeroSg g15 hg15 wc hwc ?_)
            | (refine wpList_store_mid (by rfl) 43 (.tmp 26) (.tmp 162) (by rfl) g15 0 #[.int .i64 ((0 : Nat) : Int), .slice a1 67 c1, .slice a2 L c2] (by rfl) (by rfl) HTc.out Tryd.sizeSg (sig_one _ _ _ _ _ _ _) ?_; rw [show wc.setCells g15 0 (#[.int .i64 ((0 : Nat) : Int), .slice a1 67 c1, .slice a2 L c2] : Array Value).toList = wd from hwd]))
          clear hwc hwd HTc hg15
          try simp only [Act.put, List.setIfInBounds_toArray, List.set_cons_zero, List.set_cons_succ]
          have HBd5 : Hid (Below w5.heap.size w5 wd) := HBb.out.trans (HBd.out.mono HBb.out.size)
          have HXd : Hid (DAt wd g9 0 l8) := dat_b HXb.out hs HBd.out
          have hmd := (HAL5.out _ HBd5.out).2.2.2.2.1
          clear HBb HXb
          go_wp2_with (first
            | (refine wpList_load_mid (by rfl) 23 (.tmp 11) (by rfl) (w.heap.size + 1) 0 (by rfl) (cellsB mg) _ hmd Tryd.underlying23 (by rfl) (by rw [cellsB_length, hmg]; exact Tryd.sizeDg) ?_)
            | (refine wpList_load_mid (by rfl) 43 (.tmp 26) (by rfl) g15 0 (by rfl) [.int .i64 ((0 : Nat) : Int), .slice a1 67 c1, .slice a2 L c2] _ HRd.out Tryd.underlying43 (by rfl) Tryd.sizeSg ?_))
          refine (HREC.out wd HBd.out (HAL5.out _ HBd5.out).1).mono ?_
          rintro e we ⟨rfl, hbe⟩
          have HBe : Hid (Below w5.heap.size w5 we) := HBd5.out.trans (hbe.mono HBd5.out.size)
          have HXe : Hid (DAt we g9 0 l8) := dat_b HXd.out hs hbe
          clear hbe HREC HRd hmd HXd HBd
          obtain ⟨gq, hgq⟩ : ∃ gq, we.heap.size = gq := ⟨_, rfl⟩
          obtain ⟨wf, hwf⟩ : ∃ wf, we.alloc (.cells (cellsB zD).toArray 23) = wf := ⟨_, rfl⟩
          have hTf := new_var hgq hwf
          have HTf : Hid (wf.there gq 0 32) := hTf.1
          obtain ⟨wg, hwg⟩ : ∃ wg, wf.setCells gq 0 (cellsB D) = wg := ⟨_, rfl⟩
          have HQg : Hid (DAt wg gq 0 D) := datD_put HTf.out lD hwg
          have HBeg : Hid (Below we.heap.size we wg) := below_put hTf.2.2 (by omega) hwg
          have HBg : Hid (Below w5.heap.size w5 wg) := HBe.out.trans (HBeg.out.mono HBe.out.size)
          have HXg : Hid (DAt wg g9 0 l8) := dat_b HXe.out hs HBeg.out
          have HALg : Hid (DAt wg w.heap.size 0 l8 ∧ DAt wg g7 0 D) := ⟨(HAL5.out _ HBg.out).2.2.2.1, (HAL5.out _ HBg.out).2.2.2.2.2.2⟩
          clear hTf HXe HBeg
          go_upto_region 33 with (first
            | (refine wpList_allocD (by rfl) (by rfl) gq hgq wf hwf ?_)
            | (refine wpList_storeD (by rfl) (.tmp 28) (.tmp 169) (by rfl) gq D (by rfl) (by rfl) lD HTf.out wg hwg ?_))
          clear hwf hwg HTf hgq
          try simp only [Act.put, List.setIfInBounds_toArray, List.set_cons_zero, List.set_cons_succ]
          go_wp2_with (first
            | (refine wpList_load_mid (by rfl) 23 (.tmp 22) (by rfl) g9 0 (by rfl) (cellsB l8) _ HXg.out Tryd.underlying23 (by rfl) (by rw [cellsB_length, hs]; exact Tryd.sizeDg) ?_)
            | (refine wpList_load_mid (by rfl) 23 (.tmp 6) (by rfl) w.heap.size 0 (by rfl) (cellsB l8) _ HALg.out.1 Tryd.underlying23 (by rfl) (by rw [cellsB_length, hs]; exact Tryd.sizeDg) ?_)
            | (refine wpList_eqD (.tmp 171) (.tmp 172) (by rfl) (by rfl) l8 l8 hs hs (by rfl) (by rfl) true (by simp) ?_)
            | (refine wpList_load_midG (by rfl) 23 (.tmp 28) (by rfl) gq 0 (by rfl) (cellsB D) _ HQg.out Tryd.underlying23 (by rfl) (by rw [cellsB_length, lD]; exact Tryd.sizeDg) ?_)
            | (refine wpList_load_midG (by rfl) 23 (.tmp 13) (by rfl) g7 0 (by rfl) (cellsB D) _ HALg.out.2 Tryd.underlying23 (by rfl) (by rw [cellsB_length, lD]; exact Tryd.sizeDg) ?_)
            | (refine wpList_eqD (.tmp 183) (.tmp 184) (by rfl) (by rfl) D D lD lD (by rfl) (by rfl) true (by simp) ?_))
          go_ret
          exact ⟨rfl, (HAL5.out _ HBg.out).2.2.2.2.2.1⟩
end Go.Proofs.YtghiniaijobonaaDoor
