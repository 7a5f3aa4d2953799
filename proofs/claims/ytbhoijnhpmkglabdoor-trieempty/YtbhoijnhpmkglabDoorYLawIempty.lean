/- The law TrieEmpty: nothing is nothing. -/
import Derived.Test.YtbhoijnhpmkglabDoorJ14
import Derived.Test.YtbhoijnhpmkglabDoorJ13
import Derived.Test.YtbhoijnhpmkglabDoorJ11
import Derived.Test.YtbhoijnhpmkglabDoorJ15
import Derived.Test.YtbhoijnhpmkglabDoorJ06
namespace Go.Proofs.YtbhoijnhpmkglabDoor
open Go.RowKit
set_option linter.unusedVariables false
set_option linter.unusedSimpArgs false

set_option maxRecDepth 100000 in
set_option maxHeartbeats 2000000 in
theorem iempty_out (k : Int) (v : List UInt8) (w : World) (G : Env w) (hv : v.length = 32) (k1 : -9223372036854775808 ≤ k) (k2 : k ≤ 9223372036854775807) (hk : isKey k = false) :
    Calls Tryd.prog 4 #[.int .i64 k, digestV v] w fun r w' => r = .returned (.bool true) ∧ Below w.heap.size w w' := by
  obtain ⟨w1, hw1⟩ : ∃ w1, w.alloc (.cells (cellsB v).toArray 25) = w1 := ⟨_, rfl⟩
  have HALL : Hid (∀ wx, Below w1.heap.size w1 wx → Env wx ∧ DAt wx w.heap.size 0 v ∧ Below w.heap.size w wx) := fun wx hx => by
    have b1 : Below w.heap.size w w1 := by rw [← hw1]; exact (Below.refl _ _).alloc (Nat.le_refl _) _
    have b : Below w.heap.size w wx := b1.trans (hx.mono b1.size)
    have hr : DAt w1 w.heap.size 0 v := by rw [← hw1]; exact box_dat w v _
    exact ⟨G.below b, dat_b hr hv hx, b⟩
  have HBw1 : Hid (Below w1.heap.size w1 w1) := Below.refl _ _
  have lZD : zD.length = 32 := rfl
  have HNO : Hid (∀ wx, Calls Tryd.prog 10 #[] wx fun e w' => e = .returned (digestV zD) ∧ Below wx.heap.size wx w') := rnothing_any
  have HR0 : Hid (∀ wx, Env wx → Calls Tryd.prog 6 #[.slice none 0 0] wx fun r w' => r = .returned (.tuple #[digestV zD, .nilIface]) ∧ Below wx.heap.size wx w') := fun wx hx => by
    have h := wtrie_root none 0 0 [] wx hx (ERow.nil wx none) (Nat.le_refl _) (by omega) rfl
    rw [mapL_none 32 0 (fun x _ _ => gE_nil x)] at h
    exact h
  have hp : pathE [] k = 2 := by unfold pathE; rw [if_neg (by decide), if_pos hk]
  have hkb := of_decide_eq_false hk
  have HPT : Hid (∀ wx, Below w1.heap.size w1 wx → Calls Tryd.prog 7 #[.slice none 0 0, .int .i64 k] wx fun r w' => (∃ a' c', r = .returned (.tuple #[.slice a' 0 c', .iface 50 (.int .i64 2)])) ∧ Below wx.heap.size wx w') := fun wx hx => wtrie_pathout none 0 0 [] k 2 wx (HALL.out wx hx).1 (ERow.nil wx none) (Nat.le_refl _) (by omega) k1 k2 hp (by omega)
  have HKB : Hid (¬ (0 ≤ k ∧ k ≤ 4294967295)) := hkb
  clear hp hk hkb
  clear G
  go_enter Tryd.func4, Tryd.ntmps4
  go_wp2_with fail
  try rw [hw1]
  clear hw1
  refine (wleafed_any w1 (HALL.out w1 HBw1.out).1).mono ?_
  rintro r x111 ⟨rfl, hbx111⟩
  have HBx111 : Hid (Below w1.heap.size w1 x111) := HBw1.out.trans (hbx111.mono HBw1.out.size)
  clear hbx111
  go_wp2_with fail
  refine (HR0.out x111 (HALL.out _ HBx111.out).1).mono ?_
  rintro r x112 ⟨rfl, hbx112⟩
  have HBx112 : Hid (Below w1.heap.size w1 x112) := HBx111.out.trans (hbx112.mono HBx111.out.size)
  clear hbx112
  obtain ⟨g6, hg6⟩ : ∃ g6, x112.heap.size = g6 := ⟨_, rfl⟩
  obtain ⟨x113, hx113⟩ : ∃ x113, x112.alloc (.cells (cellsB zD).toArray 25) = x113 := ⟨_, rfl⟩
  have qx113 := new_var hg6 hx113
  have HBx113 : Hid (Below w1.heap.size w1 x113) := HBx112.out.trans (qx113.2.2.mono HBx112.out.size)
  have Lg6 : Hid (w1.heap.size ≤ g6) := by rw [← hg6]; exact HBx112.out.size
  have Dg6x113 : Hid (DAt x113 g6 0 zD) := qx113.2.1
  have Tg6x113 : Hid (x113.there g6 0 32) := qx113.1
  clear qx113
  obtain ⟨x114, hx114⟩ : ∃ x114, x113.setCells g6 0 (cellsB zD) = x114 := ⟨_, rfl⟩
  have HBx114 : Hid (Below w1.heap.size w1 x114) := below_put HBx113.out Lg6.out hx114
  have Tg6x114 : Hid (x114.there g6 0 32) := there_else Tg6x113.out hx114
  have Dg6x114 : Hid (DAt x114 g6 0 zD) := dat_put Tg6x113.out lZD hx114
  go_wp2_with (first
    | (refine wpList_allocD (by rfl) (by rfl) g6 hg6 x113 hx113 ?_)
    | (refine wpList_storeD (by rfl) (.tmp 6) (.tmp 20) (by rfl) g6 zD (by rfl) (by rfl) lZD Tg6x113.out x114 hx114 ?_))
  clear hg6 hx113 Dg6x113 Tg6x113 hx114 
  refine (HPT.out x114 HBx114.out).mono ?_
  rintro r x115 ⟨⟨a7, c7, rfl⟩, hbx115⟩
  have HBx115 : Hid (Below w1.heap.size w1 x115) := HBx114.out.trans (hbx115.mono HBx114.out.size)
  have Dg6x115 : Hid (DAt x115 g6 0 zD) := dat_b Dg6x114.out lZD hbx115
  have Tg6x115 : Hid (x115.there g6 0 32) := there_b Tg6x114.out hbx115
  clear hbx115 Dg6x114 Tg6x114
  go_upto_region 6 with fail
  try simp only [Act.put, List.setIfInBounds_toArray, List.set_cons_zero, List.set_cons_succ]
  have HK6 : Hid (∀ wx, Below x115.heap.size x115 wx → wx.rangeAt g6 0 (cellsB zD)) := fun wx hx => dat_b Dg6x115.out lZD hx
  refine wp_region_noPanic ?_
  refine wp_region_held_drew (S := fun wx => wx.rangeAt g6 0 (cellsB zD)) (by kernel_rfl) (HK6.out _ (below_drewN x115 1)) (fun hHeld => ?_)
  try simp only [Act.put, List.setIfInBounds_toArray, List.set_cons_zero, List.set_cons_succ]
  have HBd : Hid (Below x115.heap.size x115 x115.drew) := below_drewN x115 1
  generalize x115.drew = wd at *
  refine wpAnyH_take (i := 0) (v := ?_) (by simp only [List.getElem?_toArray, List.getElem?_cons_zero, List.getElem?_cons_succ]; rfl) (by kernel_rfl) (by kernel_rfl) (by kernel_rfl) (fun _ _ _ h => h) (Or.inl ⟨by rfl, ?_⟩) hHeld ?_
  rotate_left
  · intro w hSw
    go_simp
    try with_reducible rfl
  try simp only [Act.put, List.setIfInBounds_toArray, List.set_cons_zero, List.set_cons_succ]
  refine wpAnyH_take (i := 1) (v := ?_) (by simp only [List.getElem?_toArray, List.getElem?_cons_zero, List.getElem?_cons_succ]; rfl) (by kernel_rfl) (by kernel_rfl) (by kernel_rfl) (fun _ _ _ h => h) (Or.inl ⟨by rfl, ?_⟩) hHeld ?_
  rotate_left
  · intro w hSw
    go_simp
    try with_reducible rfl
  try simp only [Act.put, List.setIfInBounds_toArray, List.set_cons_zero, List.set_cons_succ]
  refine wpAnyH_take (i := 2) (v := ?_) (by simp only [List.getElem?_toArray, List.getElem?_cons_zero, List.getElem?_cons_succ]; rfl) (by kernel_rfl) (by kernel_rfl) (by kernel_rfl) (fun _ _ _ h => h) (Or.inl ⟨by rfl, ?_⟩) hHeld ?_
  rotate_left
  · intro w hSw
    go_simp
    try with_reducible rfl
  try simp only [Act.put, List.setIfInBounds_toArray, List.set_cons_zero, List.set_cons_succ]
  refine wpAnyH_take (i := 3) (v := .agg (cellsB zD).toArray) (by simp only [List.getElem?_toArray, List.getElem?_cons_zero, List.getElem?_cons_succ]; rfl) (by kernel_rfl) (by kernel_rfl) (by kernel_rfl) (fun _ _ _ h => h)
    (yieldsIf_load_mid (by rfl) _ _ rfl _ _ rfl _ _ (fun w hw => hw) Tryd.underlying25 rfl (by rw [cellsB_length, lZD]; exact Tryd.sizeDg)) hHeld ?_
  try simp only [Act.put, List.setIfInBounds_toArray, List.set_cons_zero, List.set_cons_succ]
  refine wpAnyH_ready (rs := [4]) (by kernel_rfl) (by simp) ?_
  refine AllReadyH.cons (by simp only [List.getElem?_toArray, List.getElem?_cons_zero, List.getElem?_cons_succ]; rfl) (fun K hK => ?_) AllReadyH.nil
  rw [if_pos (by rfl)]
  go_simp
  refine (HNO.out wd).mono ?_
  rintro e wn ⟨rfl, hbn⟩
  have HBn : Hid (Below x115.heap.size x115 wn) := HBd.out.trans (hbn.mono HBd.out.size)
  clear hbn HBd
  go_wp2_with fail
  refine hK.out _ _ (HK6.out _ HBn.out) (fun hHeld => ?_)
  clear hK K
  try simp only [Act.put, List.setIfInBounds_toArray, List.set_cons_zero, List.set_cons_succ]
  refine wpAnyH_take (i := 5) (v := .bool false) (by simp only [List.getElem?_toArray, List.getElem?_cons_zero, List.getElem?_cons_succ]; rfl) (by kernel_rfl) (by kernel_rfl) (by kernel_rfl) (fun _ _ _ h => h)
    (yieldsIf_neqD (by rfl) _ _ rfl zD zD lZD lZD rfl rfl false (by simp)) hHeld ?_
  try simp only [Act.put, List.setIfInBounds_toArray, List.set_cons_zero, List.set_cons_succ]
  refine wpAnyH_take (i := 6) (v := ?_) (by simp only [List.getElem?_toArray, List.getElem?_cons_zero, List.getElem?_cons_succ]; rfl) (by kernel_rfl) (by kernel_rfl) (by kernel_rfl) (fun _ _ _ h => h) (Or.inl ⟨by rfl, ?_⟩) hHeld ?_
  rotate_left
  · intro w hSw
    go_simp
    try with_reducible rfl
  try simp only [Act.put, List.setIfInBounds_toArray, List.set_cons_zero, List.set_cons_succ]
  refine wpAnyH_done (by kernel_rfl) (NoPanic.normal ?_) _
  clear hHeld HK6
  have HBwn : Hid (Below w1.heap.size w1 wn) := HBx115.out.trans ((HBn.out).mono HBx115.out.size)
  have Dg6wn : Hid (DAt wn g6 0 zD) := dat_b Dg6x115.out lZD (HBn.out)
  have Tg6wn : Hid (wn.there g6 0 32) := there_b Tg6x115.out (HBn.out)
  clear Dg6x115 Tg6x115
  have HW := (HALL.out _ HBwn.out).2.2
  by_cases c1 : k < 0
  · go_wp2_with fail
    go_ret
    exact ⟨rfl, HW⟩
  · have c2 : 4294967295 < k := by have := HKB.out; omega
    go_wp2_with fail
    go_ret
    exact ⟨rfl, HW⟩
theorem fold_rep {k i : Nat} {d : List UInt8} (h : i < 32) : foldM k d (List.replicate (32 - i) zT) = foldM (k / 2) (if k % 2 = 1 then mnode zT d else mnode d zT) (List.replicate (32 - (i + 1)) zT) := by
  rw [show 32 - i = (32 - (i + 1)) + 1 by omega, List.replicate_succ]
  rfl
theorem rep_at (i n : Nat) (h : i < n) : (List.replicate n zT).getD i [] = zD := by
  rw [List.getD_eq_getElem?_getD, List.getElem?_replicate, if_pos h]
  rfl
set_option maxRecDepth 100000 in
set_option maxHeartbeats 2000000 in
theorem iempty_in (j : Nat) (v : List UInt8) (w : World) (G : Env w) (hv : v.length = 32) (hj : j < 4294967296) :
    Calls Tryd.prog 4 #[.int .i64 (j : Int), digestV v] w fun r w' => r = .returned (.bool true) ∧ Below w.heap.size w w' := by
  obtain ⟨w1, hw1⟩ : ∃ w1, w.alloc (.cells (cellsB v).toArray 25) = w1 := ⟨_, rfl⟩
  have HALL : Hid (∀ wx, Below w1.heap.size w1 wx → Env wx ∧ DAt wx w.heap.size 0 v ∧ Below w.heap.size w wx) := fun wx hx => by
    have b1 : Below w.heap.size w w1 := by rw [← hw1]; exact (Below.refl _ _).alloc (Nat.le_refl _) _
    have b : Below w.heap.size w wx := b1.trans (hx.mono b1.size)
    have hr : DAt w1 w.heap.size 0 v := by rw [← hw1]; exact box_dat w v _
    exact ⟨G.below b, dat_b hr hv hx, b⟩
  have HBw1 : Hid (Below w1.heap.size w1 w1) := Below.refl _ _
  have lZD : zD.length = 32 := rfl
  have HNO : Hid (∀ wx, Calls Tryd.prog 10 #[] wx fun e w' => e = .returned (digestV zD) ∧ Below wx.heap.size wx w') := rnothing_any
  have HR0 : Hid (∀ wx, Env wx → Calls Tryd.prog 6 #[.slice none 0 0] wx fun r w' => r = .returned (.tuple #[digestV zD, .nilIface]) ∧ Below wx.heap.size wx w') := fun wx hx => by
    have h := wtrie_root none 0 0 [] wx hx (ERow.nil wx none) (Nat.le_refl _) (by omega) rfl
    rw [mapL_none 32 0 (fun x _ _ => gE_nil x)] at h
    exact h
  have hoke : okE ((j : Int), v) := ⟨hv, by show -9223372036854775808 ≤ (j : Int); omega, by show (j : Int) ≤ 9223372036854775807; omega⟩
  have hkey : isKey (j : Int) = true := decide_eq_true (by omega)
  have hfo : faultE [((j : Int), v)] = 0 := faultE_zero (by simp) (fun e he => by rw [List.mem_singleton.1 he]; exact hkey) (by rw [once_pair]; exact List.pairwise_singleton ..)
  have HPT : Hid (∀ wx, Below w1.heap.size w1 wx → Calls Tryd.prog 7 #[.slice none 0 0, .int .i64 (j : Int)] wx fun r w' => (∃ a' c', r = .returned (.tuple #[.slice a' 32 c', .nilIface]) ∧ 32 ≤ c' ∧ DRow w' a' 32 (List.replicate 32 zT)) ∧ Below wx.heap.size wx w') := fun wx hx => by
    have h := wtrie_path none 0 0 [] j wx (HALL.out wx hx).1 (ERow.nil wx none) (Nat.le_refl _) (by omega) rfl hj
    rw [path_zero (gE []) j 32 (fun x _ => gE_nil x)] at h
    exact h
  have HBE : Hid (Tryd.prog.built 39 [(0, .int .i64 (j : Int)), (1, digestV v)] = some (entC ((j : Int), v)).toArray) := Tryd.builtEn (j : Int) v hv
  have HEL : Hid (∀ wx : World, Calls Tryd.prog 11 #[entV ((j : Int), v)] wx fun r w' => r = .returned (digestV (leafE ((j : Int), v))) ∧ Below wx.heap.size wx w') := fun wx => rentryleaf_any ((j : Int), v) wx hoke (by show 0 ≤ (j : Int); omega) (by show (j : Int) ≤ 4294967295; omega)
  have HRT : Hid (∀ a5 c5 wx, Env wx → ERow wx a5 1 [((j : Int), v)] → 1 ≤ c5 → Calls Tryd.prog 6 #[.slice a5 1 c5] wx fun r w' => r = .returned (.tuple #[digestV (foldM j (leafE ((j : Int), v)) (List.replicate 32 zT)), .nilIface]) ∧ Below wx.heap.size wx w') := fun a5 c5 wx hx hr h1 => by
    have h := wtrie_root a5 1 c5 _ wx hx hr h1 (by omega) hfo
    rw [root_one ((j : Int), v) j rfl (by omega)] at h
    exact h
  have lL := leafE_length ((j : Int), v)
  generalize leafE ((j : Int), v) = L at *
  have lO : (foldM j L (List.replicate 32 zT)).length = 32 := foldM_length _ j L lL
  have HFO : Hid (∃ O, foldM j L (List.replicate 32 zT) = O) := ⟨_, rfl⟩
  obtain ⟨O, hO⟩ : ∃ O, foldM j L (List.replicate 32 zT) = O := ⟨_, rfl⟩
  have HO : Hid (foldM j L (List.replicate 32 zT) = O) := hO
  rw [hO] at HRT lO
  clear hO HFO hkey hfo
  obtain ⟨PT, hPT⟩ : ∃ PT, List.replicate 32 zT = PT := ⟨_, rfl⟩
  have HPZ : Hid (∀ i, i < 32 → PT.getD i [] = zD) := fun i hi => by rw [← hPT]; exact rep_at i 32 hi
  rw [hPT] at HPT
  clear hPT
  obtain ⟨E1, hE1⟩ : ∃ E1 : Ent, ((j : Int), v) = E1 := ⟨_, rfl⟩
  rw [hE1] at HRT HEL HBE hoke
  clear hE1
  clear G
  go_enter Tryd.func4, Tryd.ntmps4
  go_wp2_with fail
  try rw [hw1]
  clear hw1
  refine (wleafed_any w1 (HALL.out w1 HBw1.out).1).mono ?_
  rintro r x116 ⟨rfl, hbx116⟩
  have HBx116 : Hid (Below w1.heap.size w1 x116) := HBw1.out.trans (hbx116.mono HBw1.out.size)
  clear hbx116
  go_wp2_with fail
  refine (HR0.out x116 (HALL.out _ HBx116.out).1).mono ?_
  rintro r x117 ⟨rfl, hbx117⟩
  have HBx117 : Hid (Below w1.heap.size w1 x117) := HBx116.out.trans (hbx117.mono HBx116.out.size)
  clear hbx117
  obtain ⟨g6, hg6⟩ : ∃ g6, x117.heap.size = g6 := ⟨_, rfl⟩
  obtain ⟨x118, hx118⟩ : ∃ x118, x117.alloc (.cells (cellsB zD).toArray 25) = x118 := ⟨_, rfl⟩
  have qx118 := new_var hg6 hx118
  have HBx118 : Hid (Below w1.heap.size w1 x118) := HBx117.out.trans (qx118.2.2.mono HBx117.out.size)
  have Lg6 : Hid (w1.heap.size ≤ g6) := by rw [← hg6]; exact HBx117.out.size
  have Dg6x118 : Hid (DAt x118 g6 0 zD) := qx118.2.1
  have Tg6x118 : Hid (x118.there g6 0 32) := qx118.1
  clear qx118
  obtain ⟨x119, hx119⟩ : ∃ x119, x118.setCells g6 0 (cellsB zD) = x119 := ⟨_, rfl⟩
  have HBx119 : Hid (Below w1.heap.size w1 x119) := below_put HBx118.out Lg6.out hx119
  have Tg6x119 : Hid (x119.there g6 0 32) := there_else Tg6x118.out hx119
  have Dg6x119 : Hid (DAt x119 g6 0 zD) := dat_put Tg6x118.out lZD hx119
  go_wp2_with (first
    | (refine wpList_allocD (by rfl) (by rfl) g6 hg6 x118 hx118 ?_)
    | (refine wpList_storeD (by rfl) (.tmp 6) (.tmp 20) (by rfl) g6 zD (by rfl) (by rfl) lZD Tg6x118.out x119 hx119 ?_))
  clear hg6 hx118 Dg6x118 Tg6x118 hx119 
  refine (HPT.out x119 HBx119.out).mono ?_
  rintro r x120 ⟨⟨a7, c7, rfl, hc7, r7⟩, hbx120⟩
  have HBx120 : Hid (Below w1.heap.size w1 x120) := HBx119.out.trans (hbx120.mono HBx119.out.size)
  have Dg6x120 : Hid (DAt x120 g6 0 zD) := dat_b Dg6x119.out lZD hbx120
  have Tg6x120 : Hid (x120.there g6 0 32) := there_b Tg6x119.out hbx120
  have R7x120 : Hid (DRow x120 a7 32 PT) := r7
  clear r7 HPT
  clear hbx120 Dg6x119 Tg6x119
  go_upto_region 6 with fail
  try simp only [Act.put, List.setIfInBounds_toArray, List.set_cons_zero, List.set_cons_succ]
  have HK6 : Hid (∀ wx, Below x120.heap.size x120 wx → wx.rangeAt g6 0 (cellsB zD)) := fun wx hx => dat_b Dg6x120.out lZD hx
  refine wp_region_noPanic ?_
  refine wp_region_held_drew (S := fun wx => wx.rangeAt g6 0 (cellsB zD)) (by kernel_rfl) (HK6.out _ (below_drewN x120 1)) (fun hHeld => ?_)
  try simp only [Act.put, List.setIfInBounds_toArray, List.set_cons_zero, List.set_cons_succ]
  have HBd : Hid (Below x120.heap.size x120 x120.drew) := below_drewN x120 1
  generalize x120.drew = wd at *
  refine wpAnyH_take (i := 0) (v := ?_) (by simp only [List.getElem?_toArray, List.getElem?_cons_zero, List.getElem?_cons_succ]; rfl) (by kernel_rfl) (by kernel_rfl) (by kernel_rfl) (fun _ _ _ h => h) (Or.inl ⟨by rfl, ?_⟩) hHeld ?_
  rotate_left
  · intro w hSw
    go_simp
    try with_reducible rfl
  try simp only [Act.put, List.setIfInBounds_toArray, List.set_cons_zero, List.set_cons_succ]
  refine wpAnyH_take (i := 1) (v := ?_) (by simp only [List.getElem?_toArray, List.getElem?_cons_zero, List.getElem?_cons_succ]; rfl) (by kernel_rfl) (by kernel_rfl) (by kernel_rfl) (fun _ _ _ h => h) (Or.inl ⟨by rfl, ?_⟩) hHeld ?_
  rotate_left
  · intro w hSw
    go_simp
    try with_reducible rfl
  try simp only [Act.put, List.setIfInBounds_toArray, List.set_cons_zero, List.set_cons_succ]
  refine wpAnyH_take (i := 2) (v := ?_) (by simp only [List.getElem?_toArray, List.getElem?_cons_zero, List.getElem?_cons_succ]; rfl) (by kernel_rfl) (by kernel_rfl) (by kernel_rfl) (fun _ _ _ h => h) (Or.inl ⟨by rfl, ?_⟩) hHeld ?_
  rotate_left
  · intro w hSw
    go_simp
    try with_reducible rfl
  try simp only [Act.put, List.setIfInBounds_toArray, List.set_cons_zero, List.set_cons_succ]
  refine wpAnyH_take (i := 3) (v := .agg (cellsB zD).toArray) (by simp only [List.getElem?_toArray, List.getElem?_cons_zero, List.getElem?_cons_succ]; rfl) (by kernel_rfl) (by kernel_rfl) (by kernel_rfl) (fun _ _ _ h => h)
    (yieldsIf_load_mid (by rfl) _ _ rfl _ _ rfl _ _ (fun w hw => hw) Tryd.underlying25 rfl (by rw [cellsB_length, lZD]; exact Tryd.sizeDg)) hHeld ?_
  try simp only [Act.put, List.setIfInBounds_toArray, List.set_cons_zero, List.set_cons_succ]
  refine wpAnyH_ready (rs := [4]) (by kernel_rfl) (by simp) ?_
  refine AllReadyH.cons (by simp only [List.getElem?_toArray, List.getElem?_cons_zero, List.getElem?_cons_succ]; rfl) (fun K hK => ?_) AllReadyH.nil
  rw [if_pos (by rfl)]
  go_simp
  refine (HNO.out wd).mono ?_
  rintro e wn ⟨rfl, hbn⟩
  have HBn : Hid (Below x120.heap.size x120 wn) := HBd.out.trans (hbn.mono HBd.out.size)
  clear hbn HBd
  go_wp2_with fail
  refine hK.out _ _ (HK6.out _ HBn.out) (fun hHeld => ?_)
  clear hK K
  try simp only [Act.put, List.setIfInBounds_toArray, List.set_cons_zero, List.set_cons_succ]
  refine wpAnyH_take (i := 5) (v := .bool false) (by simp only [List.getElem?_toArray, List.getElem?_cons_zero, List.getElem?_cons_succ]; rfl) (by kernel_rfl) (by kernel_rfl) (by kernel_rfl) (fun _ _ _ h => h)
    (yieldsIf_neqD (by rfl) _ _ rfl zD zD lZD lZD rfl rfl false (by simp)) hHeld ?_
  try simp only [Act.put, List.setIfInBounds_toArray, List.set_cons_zero, List.set_cons_succ]
  refine wpAnyH_take (i := 6) (v := ?_) (by simp only [List.getElem?_toArray, List.getElem?_cons_zero, List.getElem?_cons_succ]; rfl) (by kernel_rfl) (by kernel_rfl) (by kernel_rfl) (fun _ _ _ h => h) (Or.inl ⟨by rfl, ?_⟩) hHeld ?_
  rotate_left
  · intro w hSw
    go_simp
    try with_reducible rfl
  try simp only [Act.put, List.setIfInBounds_toArray, List.set_cons_zero, List.set_cons_succ]
  refine wpAnyH_done (by kernel_rfl) (NoPanic.normal ?_) _
  clear hHeld HK6
  have HBwn : Hid (Below w1.heap.size w1 wn) := HBx120.out.trans ((HBn.out).mono HBx120.out.size)
  have Dg6wn : Hid (DAt wn g6 0 zD) := dat_b Dg6x120.out lZD (HBn.out)
  have Tg6wn : Hid (wn.there g6 0 32) := there_b Tg6x120.out (HBn.out)
  have R7wn : Hid (DRow wn a7 32 PT) := DRow.below R7x120.out (HBn.out)
  clear Dg6x120 Tg6x120 R7x120
  go_wp2_with fail
  have HBL : Hid (∀ wx, Below wn.heap.size wn wx → Env wx ∧ DAt wx w.heap.size 0 v ∧ DRow wx a7 32 PT ∧ Below w.heap.size w wx) := fun wx hx => by
    have q := HALL.out wx (HBwn.out.trans (hx.mono HBwn.out.size))
    exact ⟨q.1, q.2.1, R7wn.out.below hx, q.2.2⟩
  clear HALL R7wn HBwn Dg6wn Tg6wn
  go_loopw [10] (fun iv wr => ∃ i : Nat, i ≤ 32 ∧ iv = .int .i64 (i : Int) ∧ Below wn.heap.size wn wr) (fun iv _ => 32 - (intOf iv).toNat)
  case atStart => exact ⟨0, Nat.zero_le _, rfl, Below.refl _ _⟩
  case round =>
    obtain ⟨i, hi, rfl, hB⟩ := hrel
    have HBwr : Hid (Below wn.heap.size wn wr) := hB
    clear hB
    by_cases hlt : i < 32
    · obtain ⟨b, ob, ha⟩ := (HBL.out _ HBwr.out).2.2.1.addr (by omega)
      subst ha
      have i0 : (0 : Int) ≤ (i : Int) := by omega
      have i1 : (i : Int) < 32 := by omega
      have HKP : Hid (∀ wx, Below wr.heap.size wr wx → wx.rangeAt b (ob + i * 32) (cellsB zD) ∧ Below wn.heap.size wn wx) := fun wx hx => by
        have b2 := HBwr.out.trans (hx.mono HBwr.out.size)
        have h := (HBL.out wx b2).2.2.1.at i hlt
        rw [HPZ.out i hlt] at h
        exact ⟨h, b2⟩
      have HI : Hid (i < 32) := hlt
      go_upto_region 13 with fail
      refine wp_region_noPanic ?_
      refine wp_region_held_drew (S := fun wx => wx.rangeAt b (ob + i * 32) (cellsB zD)) (by kernel_rfl) (HKP.out _ (below_drewN wr 1)).1 (fun hHeld => ?_)
      try simp only [Act.put, List.setIfInBounds_toArray, List.set_cons_zero, List.set_cons_succ]
      have HBd : Hid (Below wr.heap.size wr wr.drew) := below_drewN wr 1
      generalize wr.drew = wd at *
      refine wpAnyH_take (i := 0) (v := ?_) (by simp only [List.getElem?_toArray, List.getElem?_cons_zero, List.getElem?_cons_succ]; rfl) (by kernel_rfl) (by kernel_rfl) (by kernel_rfl) (fun _ _ _ h => h) (Or.inl ⟨by rfl, ?_⟩) hHeld ?_
      rotate_left
      · intro w hSw
        go_simp
        try with_reducible rfl
      try simp only [Act.put, List.setIfInBounds_toArray, List.set_cons_zero, List.set_cons_succ]
      refine wpAnyH_take (i := 1) (v := ?_) (by simp only [List.getElem?_toArray, List.getElem?_cons_zero, List.getElem?_cons_succ]; rfl) (by kernel_rfl) (by kernel_rfl) (by kernel_rfl) (fun _ _ _ h => h) (Or.inl ⟨by rfl, ?_⟩) hHeld ?_
      rotate_left
      · intro w hSw
        go_simp
        try with_reducible rfl
      try simp only [Act.put, List.setIfInBounds_toArray, List.set_cons_zero, List.set_cons_succ]
      refine wpAnyH_take (i := 2) (v := .pointer (some ⟨b, ob + i * 32, none⟩)) (by simp only [List.getElem?_toArray, List.getElem?_cons_zero, List.getElem?_cons_succ]; rfl) (by kernel_rfl) (by kernel_rfl) (by kernel_rfl) (fun _ _ _ h => h) (Or.inl ⟨by rfl, ?_⟩) hHeld ?_
      · intro w hSw
        go_simp
      try simp only [Act.put, List.setIfInBounds_toArray, List.set_cons_zero, List.set_cons_succ]
      refine wpAnyH_take (i := 3) (v := .agg (cellsB zD).toArray) (by simp only [List.getElem?_toArray, List.getElem?_cons_zero, List.getElem?_cons_succ]; rfl) (by kernel_rfl) (by kernel_rfl) (by kernel_rfl) (fun _ _ _ h => h)
        (yieldsIf_load_mid (by rfl) _ _ rfl _ _ rfl _ _ (fun w hw => hw) Tryd.underlying25 rfl (by rw [cellsB_length, lZD]; exact Tryd.sizeDg)) hHeld ?_
      try simp only [Act.put, List.setIfInBounds_toArray, List.set_cons_zero, List.set_cons_succ]
      refine wpAnyH_ready (rs := [4]) (by kernel_rfl) (by simp) ?_
      refine AllReadyH.cons (by simp only [List.getElem?_toArray, List.getElem?_cons_zero, List.getElem?_cons_succ]; rfl) (fun K hK => ?_) AllReadyH.nil
      rw [if_pos (by rfl)]
      go_simp
      refine (HNO.out wd).mono ?_
      rintro e wn2 ⟨rfl, hbn⟩
      have HBn2 : Hid (Below wr.heap.size wr wn2) := HBd.out.trans (hbn.mono HBd.out.size)
      clear hbn HBd
      go_wp2_with fail
      refine hK.out _ _ (HKP.out _ HBn2.out).1 (fun hHeld => ?_)
      clear hK K
      try simp only [Act.put, List.setIfInBounds_toArray, List.set_cons_zero, List.set_cons_succ]
      refine wpAnyH_take (i := 5) (v := .bool false) (by simp only [List.getElem?_toArray, List.getElem?_cons_zero, List.getElem?_cons_succ]; rfl) (by kernel_rfl) (by kernel_rfl) (by kernel_rfl) (fun _ _ _ h => h)
        (yieldsIf_neqD (by rfl) _ _ rfl zD zD lZD lZD rfl rfl false (by simp)) hHeld ?_
      try simp only [Act.put, List.setIfInBounds_toArray, List.set_cons_zero, List.set_cons_succ]
      refine wpAnyH_done (by kernel_rfl) (NoPanic.normal ?_) _
      have HBQ : Hid (Below wn.heap.size wn wn2) := (HKP.out _ HBn2.out).2
      clear hHeld HKP HBn2
      go_wp2_with fail
      go_roundw
      case rel => exact ⟨i + 1, by have := HI.out; omega, by go_num, HBQ.out⟩
      case measure => have := HI.out; simp [intOf]; omega
    · obtain rfl : i = 32 := by omega
      have HC7 : Hid (32 ≤ c7) := hc7
      clear hlt hi hc7 HPZ
      have HBa : Hid (Below wn.heap.size wn (wr.alloc (.cells (entC E1).toArray 39))) := Below.alloc HBwr.out HBwr.out.size _
      have HNa : Hid (ERow (wr.alloc (.cells (entC E1).toArray 39)) (some ⟨wr.heap.size, 0, none⟩) 1 [E1]) := ERow.new wr E1 _ hoke
      go_wp2_with (first
        | (refine wpList_loadD (by rfl) (.tmp 3) (by rfl) w.heap.size v (by rfl) hv (HBL.out _ HBwr.out).2.1 ?_)
        | (refine wpList_buildC (by rfl) 39 _ (by rfl) (entC E1).toArray (by simp only [List.map_toArray, List.map_cons, List.map_nil, Act.eval]; exact HBE.out) ?_)
        | (refine wpList_buildEn (by rfl) (.tmp 57) (by rfl) E1 hoke (by rfl) ?_))
      obtain ⟨bE, hbE⟩ : ∃ bE, wr.heap.size = bE := ⟨_, rfl⟩
      rw [hbE] at HNa
      simp only [hbE]
      obtain ⟨we, hwe⟩ : ∃ we, wr.alloc (.cells (entC E1).toArray 39) = we := ⟨_, rfl⟩
      rw [hwe] at HBa HNa
      simp only [hwe]
      clear hbE hwe
      have HBwe : Hid (Below wn.heap.size wn we) := HBa.out
      clear HBa
      refine (HRT.out (some ⟨bE, 0, none⟩) 1 we (HBL.out _ HBwe.out).1 HNa.out (Nat.le_refl _)).mono ?_
      rintro r x121 ⟨rfl, hbx121⟩
      have HBx121 : Hid (Below wn.heap.size wn x121) := HBwe.out.trans (hbx121.mono HBwe.out.size)
      clear hbx121
      obtain ⟨g11, hg11⟩ : ∃ g11, x121.heap.size = g11 := ⟨_, rfl⟩
      obtain ⟨x122, hx122⟩ : ∃ x122, x121.alloc (.cells (cellsB zD).toArray 25) = x122 := ⟨_, rfl⟩
      have qx122 := new_var hg11 hx122
      have HBx122 : Hid (Below wn.heap.size wn x122) := HBx121.out.trans (qx122.2.2.mono HBx121.out.size)
      have Lg11 : Hid (wn.heap.size ≤ g11) := by rw [← hg11]; exact HBx121.out.size
      have Dg11x122 : Hid (DAt x122 g11 0 zD) := qx122.2.1
      have Tg11x122 : Hid (x122.there g11 0 32) := qx122.1
      clear qx122
      obtain ⟨x123, hx123⟩ : ∃ x123, x122.setCells g11 0 (cellsB O) = x123 := ⟨_, rfl⟩
      have HBx123 : Hid (Below wn.heap.size wn x123) := below_put HBx122.out Lg11.out hx123
      have Tg11x123 : Hid (x123.there g11 0 32) := there_else Tg11x122.out hx123
      have Dg11x123 : Hid (DAt x123 g11 0 O) := dat_put Tg11x122.out lO hx123
      go_wp2_with (first
        | (refine wpList_allocD (by rfl) (by rfl) g11 hg11 x122 hx122 ?_)
        | (refine wpList_storeD (by rfl) (.tmp 11) (.tmp 60) (by rfl) g11 O (by rfl) (by rfl) lO Tg11x122.out x123 hx123 ?_)
        | (refine wpList_loadD (by rfl) (.tmp 3) (by rfl) w.heap.size v (by rfl) hv (HBL.out _ HBx123.out).2.1 ?_)
        | (refine wpList_buildC (by rfl) 39 _ (by rfl) (entC E1).toArray (by simp only [List.map_toArray, List.map_cons, List.map_nil, Act.eval]; exact HBE.out) ?_))
      clear hg11 hx122 Dg11x122 Tg11x122 hx123 
      refine (HEL.out x123).mono ?_
      rintro r x124 ⟨rfl, hbx124⟩
      have HBx124 : Hid (Below wn.heap.size wn x124) := HBx123.out.trans (hbx124.mono HBx123.out.size)
      have Dg11x124 : Hid (DAt x124 g11 0 O) := dat_b Dg11x123.out lO hbx124
      have Tg11x124 : Hid (x124.there g11 0 32) := there_b Tg11x123.out hbx124
      clear hbx124 Dg11x123 Tg11x123
      obtain ⟨g12, hg12⟩ : ∃ g12, x124.heap.size = g12 := ⟨_, rfl⟩
      obtain ⟨x125, hx125⟩ : ∃ x125, x124.alloc (.cells (cellsB zD).toArray 25) = x125 := ⟨_, rfl⟩
      have qx125 := new_var hg12 hx125
      have HBx125 : Hid (Below wn.heap.size wn x125) := HBx124.out.trans (qx125.2.2.mono HBx124.out.size)
      have Lg12 : Hid (wn.heap.size ≤ g12) := by rw [← hg12]; exact HBx124.out.size
      have Ng11g12 : Hid (g11 ≠ g12) := by have := dat_size Dg11x124.out lO; unfold Hid; omega
      have Dg11x125 : Hid (DAt x125 g11 0 O) := dat_b Dg11x124.out lO qx125.2.2
      have Tg11x125 : Hid (x125.there g11 0 32) := there_b Tg11x124.out qx125.2.2
      have Dg12x125 : Hid (DAt x125 g12 0 zD) := qx125.2.1
      have Tg12x125 : Hid (x125.there g12 0 32) := qx125.1
      clear qx125
      obtain ⟨x126, hx126⟩ : ∃ x126, x125.setCells g12 0 (cellsB L) = x126 := ⟨_, rfl⟩
      have HBx126 : Hid (Below wn.heap.size wn x126) := below_put HBx125.out Lg12.out hx126
      have Dg11x126 : Hid (DAt x126 g11 0 O) := dat_else Dg11x125.out Ng11g12.out hx126
      have Tg11x126 : Hid (x126.there g11 0 32) := there_else Tg11x125.out hx126
      have Tg12x126 : Hid (x126.there g12 0 32) := there_else Tg12x125.out hx126
      have Dg12x126 : Hid (DAt x126 g12 0 L) := dat_put Tg12x125.out lL hx126
      go_upto_region 17 with (first
        | (refine wpList_allocD (by rfl) (by rfl) g12 hg12 x125 hx125 ?_)
        | (refine wpList_storeD (by rfl) (.tmp 12) (.tmp 65) (by rfl) g12 L (by rfl) (by rfl) lL Tg12x125.out x126 hx126 ?_))
      try simp only [Act.put, List.setIfInBounds_toArray, List.set_cons_zero, List.set_cons_succ]
      clear Dg11x124 Tg11x124 hg12 hx125 Dg11x125 Dg12x125 Tg11x125 Tg12x125 hx126 
      have HK17 : Hid (∀ wx, Below x126.heap.size x126 wx → wx.rangeAt g12 0 (cellsB L)) := fun wx hx => dat_b Dg12x126.out lL hx
      have HDL : Hid ((L = zD) → decide (L = zD) = true) := fun h => decide_eq_true h
      refine wp_region_noPanic ?_
      refine wp_region_held_drew (S := fun wx => wx.rangeAt g12 0 (cellsB L)) (by kernel_rfl) (HK17.out _ (below_drewN x126 1)) (fun hHeld => ?_)
      try simp only [Act.put, List.setIfInBounds_toArray, List.set_cons_zero, List.set_cons_succ]
      have HBd : Hid (Below x126.heap.size x126 x126.drew) := below_drewN x126 1
      generalize x126.drew = wd at *
      refine wpAnyH_take (i := 0) (v := .agg (cellsB L).toArray) (by simp only [List.getElem?_toArray, List.getElem?_cons_zero, List.getElem?_cons_succ]; rfl) (by kernel_rfl) (by kernel_rfl) (by kernel_rfl) (fun _ _ _ h => h)
        (yieldsIf_load_mid (by rfl) _ _ rfl _ _ rfl _ _ (fun w hw => hw) Tryd.underlying25 rfl (by rw [cellsB_length, lL]; exact Tryd.sizeDg)) hHeld ?_
      try simp only [Act.put, List.setIfInBounds_toArray, List.set_cons_zero, List.set_cons_succ]
      refine wpAnyH_ready (rs := [1]) (by kernel_rfl) (by simp) ?_
      refine AllReadyH.cons (by simp only [List.getElem?_toArray, List.getElem?_cons_zero, List.getElem?_cons_succ]; rfl) (fun K hK => ?_) AllReadyH.nil
      rw [if_pos (by rfl)]
      go_simp
      refine (HNO.out wd).mono ?_
      rintro e wn3 ⟨rfl, hbn⟩
      have HBn3 : Hid (Below x126.heap.size x126 wn3) := HBd.out.trans (hbn.mono HBd.out.size)
      clear hbn HBd
      go_wp2_with fail
      refine hK.out _ _ (HK17.out _ HBn3.out) (fun hHeld => ?_)
      clear hK K
      try simp only [Act.put, List.setIfInBounds_toArray, List.set_cons_zero, List.set_cons_succ]
      obtain ⟨z0, hz0⟩ : ∃ z0 : Bool, decide (L = zD) = z0 := ⟨_, rfl⟩
      refine wpAnyH_take (i := 2) (v := .bool z0) (by simp only [List.getElem?_toArray, List.getElem?_cons_zero, List.getElem?_cons_succ]; rfl) (by kernel_rfl) (by kernel_rfl) (by kernel_rfl) (fun _ _ _ h => h)
        (yieldsIf_eqD (by rfl) _ _ rfl L zD lL lZD rfl rfl z0 hz0) hHeld ?_
      try simp only [Act.put, List.setIfInBounds_toArray, List.set_cons_zero, List.set_cons_succ]
      refine wpAnyH_take (i := 3) (v := ?_) (by simp only [List.getElem?_toArray, List.getElem?_cons_zero, List.getElem?_cons_succ]; rfl) (by kernel_rfl) (by kernel_rfl) (by kernel_rfl) (fun _ _ _ h => h) (Or.inl ⟨by rfl, ?_⟩) hHeld ?_
      rotate_left
      · intro w hSw
        go_simp
        try with_reducible rfl
      try simp only [Act.put, List.setIfInBounds_toArray, List.set_cons_zero, List.set_cons_succ]
      refine wpAnyH_done (by kernel_rfl) (NoPanic.normal ?_) _
      rw [hz0] at HDL
      clear hHeld HK17 hz0
      have HBwn3 : Hid (Below wn.heap.size wn wn3) := HBx126.out.trans ((HBn3.out).mono HBx126.out.size)
      have Dg11wn3 : Hid (DAt wn3 g11 0 O) := dat_b Dg11x126.out lO (HBn3.out)
      have Dg12wn3 : Hid (DAt wn3 g12 0 L) := dat_b Dg12x126.out lL (HBn3.out)
      have Tg11wn3 : Hid (wn3.there g11 0 32) := there_b Tg11x126.out (HBn3.out)
      have Tg12wn3 : Hid (wn3.there g12 0 32) := there_b Tg12x126.out (HBn3.out)
      clear Dg11x126 Dg12x126 Tg11x126 Tg12x126
      go_wp2_with fail
      have HNg : Hid (g11 ≠ g12 ∧ wn.heap.size ≤ g12) := ⟨Ng11g12.out, Lg12.out⟩
      go_loopw [0, 13, 14] (fun kv zv iv wr => ∃ (k i : Nat) (z : Bool) (d : List UInt8), kv = .int .i64 (k : Int) ∧ zv = .bool z ∧ iv = .int .i64 (i : Int) ∧ i ≤ 32 ∧ k < 4294967296 ∧ d.length = 32 ∧ Hid (DAt wr g12 0 d ∧ wr.there g12 0 32 ∧ DAt wr g11 0 O ∧ Below wn.heap.size wn wr) ∧ Hid (foldM k d (List.replicate (32 - i) zT) = O) ∧ Hid (d = zD → z = true)) (fun _ _ iv _ => 32 - (intOf iv).toNat)
      case atStart => exact ⟨j, 0, z0, L, rfl, rfl, rfl, Nat.zero_le _, hj, lL, ⟨Dg12wn3.out, Tg12wn3.out, Dg11wn3.out, HBwn3.out⟩, HO.out, HDL.out⟩
      case round =>
        clear Dg12wn3 Tg12wn3 Dg11wn3 Tg11wn3 HBwn3 HO HDL
        obtain ⟨k, i, z, d, rfl, rfl, rfl, hi, hk, ld, HD, HF, HZ⟩ := hrel
        by_cases hlt : i < 32
        · have hF := HF.out
          rw [fold_rep hlt] at hF
          have i1 : (i : Int) < 32 := by omega
          have k0 : (0 : Int) ≤ (k : Int) := by omega
          have d1 : (k : Int).tmod 2 = ((k % 2 : Nat) : Int) := by rw [Int.tmod_eq_emod_of_nonneg (by omega)]; omega
          have d2 : (k : Int) % 2 = ((k % 2 : Nat) : Int) := by omega
          have d3 : (k : Int).tdiv 2 = ((k / 2 : Nat) : Int) := by rw [Int.tdiv_eq_ediv_of_nonneg (by omega)]; omega
          have d4 : (k : Int) / 2 = ((k / 2 : Nat) : Int) := by omega
          have HI : Hid (i < 32 ∧ k / 2 < 4294967296) := by unfold Hid; omega
          have HKD : Hid (∀ wx, Below wr.heap.size wr wx → wx.rangeAt g12 0 (cellsB d) ∧ wx.there g12 0 32 ∧ DAt wx g11 0 O ∧ Below wn.heap.size wn wx) := fun wx hx => ⟨dat_b HD.out.1 ld hx, there_b HD.out.2.1 hx, dat_b HD.out.2.2.1 lO hx, HD.out.2.2.2.trans (hx.mono HD.out.2.2.2.size)⟩
          clear HF hlt hi HD
          by_cases hodd : k % 2 = 1
          · rw [hodd] at d1 d2
            rw [if_pos hodd] at hF
            have hk2b : k / 2 < 4294967296 := by omega
            generalize k / 2 = k2 at *
            go_upto_region 22 with fail
            refine wp_region_noPanic ?_
            refine wp_region_till (S := fun wx => wx.rangeAt g12 0 (cellsB d)) 3 (by kernel_rfl) (HKD.out _ (below_drewN wr 1)).1 (fun hHeld => ?_)
            try simp only [Act.put, List.setIfInBounds_toArray, List.set_cons_zero, List.set_cons_succ]
            have HBd : Hid (Below wr.heap.size wr wr.drew) := below_drewN wr 1
            generalize wr.drew = wd at *
            refine wpAnyT_take (i := 1) (v := .agg (cellsB d).toArray) (by simp only [List.getElem?_toArray, List.getElem?_cons_zero, List.getElem?_cons_succ]; rfl) (by kernel_rfl) (by kernel_rfl) (by kernel_rfl) (by kernel_rfl) (fun _ _ _ h => h)
              (yieldsIf_load_mid (by rfl) _ _ rfl _ _ rfl _ _ (fun w hw => hw) Tryd.underlying25 rfl (by rw [cellsB_length, ld]; exact Tryd.sizeDg)) hHeld ?_
            try simp only [Act.put, List.setIfInBounds_toArray, List.set_cons_zero, List.set_cons_succ]
            refine wpAnyT_ready (rs := [0]) (by kernel_rfl) (by simp) ?_
            refine AllReadyT.cons (by simp only [List.getElem?_toArray, List.getElem?_cons_zero, List.getElem?_cons_succ]; rfl) (fun K hK => ?_) AllReadyT.nil
            rw [if_pos (by rfl)]
            go_simp
            refine (HNO.out wd).mono ?_
            rintro e wk ⟨rfl, hbn⟩
            have HBn : Hid (Below wr.heap.size wr wk) := HBd.out.trans (hbn.mono HBd.out.size)
            clear hbn HBd
            go_wp2_with fail
            refine hK.out _ _ (HKD.out _ HBn.out).1 (fun hHeld => ?_)
            clear hK K
            try simp only [Act.put, List.setIfInBounds_toArray, List.set_cons_zero, List.set_cons_succ]
            refine wpAnyT_ready (rs := [2]) (by kernel_rfl) (by simp) ?_
            refine AllReadyT.cons (by simp only [List.getElem?_toArray, List.getElem?_cons_zero, List.getElem?_cons_succ]; rfl) (fun K hK => ?_) AllReadyT.nil
            rw [if_pos (by rfl)]
            go_simp
            refine (rmapnode_any zD d wk lZD ld).mono ?_
            rintro e wo ⟨rfl, hbo⟩
            have HBo : Hid (Below wr.heap.size wr wo) := HBn.out.trans (hbo.mono HBn.out.size)
            have lY := mnode_length zD d
            have HF9 : Hid (foldM k2 (mnode zD d) (List.replicate (32 - (i + 1)) zT) = O) := hF
            clear hbo HBn
            generalize mnode zD d = Y at *
            go_wp2_with fail
            refine hK.out _ _ (HKD.out _ HBo.out).1 (fun hHeld => ?_)
            clear hK K
            try simp only [Act.put, List.setIfInBounds_toArray, List.set_cons_zero, List.set_cons_succ]
            refine wpAnyT_ready (rs := [3]) (by kernel_rfl) (by simp) ?_
            refine AllReadyT.lastly (by simp only [List.getElem?_toArray, List.getElem?_cons_zero, List.getElem?_cons_succ]; rfl) rfl (fun K hK => ?_) AllReadyT.nil
            rw [if_pos (by rfl)]
            have HTo : Hid (wo.there g12 0 32) := (HKD.out _ HBo.out).2.1
            refine wp_store_mid _ _ _ rfl g12 0 (cellsB Y).toArray rfl rfl (by rw [cellsB_size, lY]; exact HTo.out) (by rw [cellsB_size, lY]; exact Tryd.sizeDg) (all_oneCell_toArray (cellsB_one _)) ?_
            refine hK.out _ _ ?_
            clear hK K
            try simp only [Act.put, List.setIfInBounds_toArray, List.set_cons_zero, List.set_cons_succ]
            refine wpAnyT_done (by kernel_rfl) (NoPanic.normal ?_) _
            have HD9 : Hid (DAt (wo.setCells g12 0 (cellsB Y)) g12 0 Y ∧ (wo.setCells g12 0 (cellsB Y)).there g12 0 32 ∧ DAt (wo.setCells g12 0 (cellsB Y)) g11 0 O ∧ Below wn.heap.size wn (wo.setCells g12 0 (cellsB Y))) := ⟨dat_put HTo.out lY rfl, World.there_setCells HTo.out _ _ _, dat_else (HKD.out _ HBo.out).2.2.1 HNg.out.1 rfl, below_put (HKD.out _ HBo.out).2.2.2 HNg.out.2 rfl⟩
            try clear hHeld
            clear HKD HBo HTo HZ hF
            try rw [show (cellsB Y).toArray.toList = cellsB Y from rfl]
            generalize wo.setCells g12 0 (cellsB Y) = w9 at *
            go_upto_region 24 with fail
            have HK9 : Hid (∀ wx, Below w9.heap.size w9 wx → wx.rangeAt g12 0 (cellsB Y)) := fun wx hx => dat_b HD9.out.1 lY hx
            cases z with
            | true =>
              refine wp_region_noPanic ?_
              refine wp_region_held_drew (S := fun wx => wx.rangeAt g12 0 (cellsB Y)) (by kernel_rfl) (HK9.out _ (below_drewN w9 1)) (fun hHeld => ?_)
              try simp only [Act.put, List.setIfInBounds_toArray, List.set_cons_zero, List.set_cons_succ]
              have HBd9 : Hid (Below w9.heap.size w9 w9.drew) := below_drewN w9 1
              generalize w9.drew = wn9 at *
              refine wpAnyH_take (i := 0) (v := ?_) (by simp only [List.getElem?_toArray, List.getElem?_cons_zero, List.getElem?_cons_succ]; rfl) (by kernel_rfl) (by kernel_rfl) (by kernel_rfl) (fun _ _ _ h => h) (Or.inl ⟨by rfl, ?_⟩) hHeld ?_
              rotate_left
              · intro w hSw
                go_simp
                try with_reducible rfl
              try simp only [Act.put, List.setIfInBounds_toArray, List.set_cons_zero, List.set_cons_succ]
              refine wpAnyH_take (i := 1) (v := ?_) (by simp only [List.getElem?_toArray, List.getElem?_cons_zero, List.getElem?_cons_succ]; rfl) (by kernel_rfl) (by kernel_rfl) (by kernel_rfl) (fun _ _ _ h => h) (Or.inl ⟨by rfl, ?_⟩) hHeld ?_
              rotate_left
              · intro w hSw
                go_simp
                try with_reducible rfl
              try simp only [Act.put, List.setIfInBounds_toArray, List.set_cons_zero, List.set_cons_succ]
              refine wpAnyH_take (i := 2) (v := undef) (by simp only [List.getElem?_toArray, List.getElem?_cons_zero, List.getElem?_cons_succ]; rfl) (by kernel_rfl) (by kernel_rfl) (by kernel_rfl) (fun _ _ _ h => h) (Or.inr ⟨by rfl, rfl⟩) hHeld ?_
              try simp only [Act.put, List.setIfInBounds_toArray, List.set_cons_zero, List.set_cons_succ]
              refine wpAnyH_take (i := 3) (v := undef) (by simp only [List.getElem?_toArray, List.getElem?_cons_zero, List.getElem?_cons_succ]; rfl) (by kernel_rfl) (by kernel_rfl) (by kernel_rfl) (fun _ _ _ h => h) (Or.inr ⟨by rfl, rfl⟩) hHeld ?_
              try simp only [Act.put, List.setIfInBounds_toArray, List.set_cons_zero, List.set_cons_succ]
              refine wpAnyH_take (i := 4) (v := undef) (by simp only [List.getElem?_toArray, List.getElem?_cons_zero, List.getElem?_cons_succ]; rfl) (by kernel_rfl) (by kernel_rfl) (by kernel_rfl) (fun _ _ _ h => h) (Or.inr ⟨by rfl, rfl⟩) hHeld ?_
              try simp only [Act.put, List.setIfInBounds_toArray, List.set_cons_zero, List.set_cons_succ]
              refine wpAnyH_take (i := 5) (v := ?_) (by simp only [List.getElem?_toArray, List.getElem?_cons_zero, List.getElem?_cons_succ]; rfl) (by kernel_rfl) (by kernel_rfl) (by kernel_rfl) (fun _ _ _ h => h) (Or.inl ⟨by rfl, ?_⟩) hHeld ?_
              rotate_left
              · intro w hSw
                go_simp
                try with_reducible rfl
              try simp only [Act.put, List.setIfInBounds_toArray, List.set_cons_zero, List.set_cons_succ]
              refine wpAnyH_take (i := 6) (v := ?_) (by simp only [List.getElem?_toArray, List.getElem?_cons_zero, List.getElem?_cons_succ]; rfl) (by kernel_rfl) (by kernel_rfl) (by kernel_rfl) (fun _ _ _ h => h) (Or.inl ⟨by rfl, ?_⟩) hHeld ?_
              rotate_left
              · intro w hSw
                go_simp
                try with_reducible rfl
              try simp only [Act.put, List.setIfInBounds_toArray, List.set_cons_zero, List.set_cons_succ]
              refine wpAnyH_done (by kernel_rfl) (NoPanic.normal ?_) _
              have HDn : Hid (DAt wn9 g12 0 Y ∧ wn9.there g12 0 32 ∧ DAt wn9 g11 0 O ∧ Below wn.heap.size wn wn9) := ⟨dat_b HD9.out.1 lY HBd9.out, there_b HD9.out.2.1 HBd9.out, dat_b HD9.out.2.2.1 lO HBd9.out, HD9.out.2.2.2.trans (HBd9.out.mono HD9.out.2.2.2.size)⟩
              clear hHeld HK9 HD9
              go_wp2_with fail
              go_roundw
              case rel => exact ⟨k2, i + 1, true, Y, by go_num, rfl, by go_num, by have := HI.out; omega, HI.out.2, lY, HDn.out, HF9.out, fun _ => rfl⟩
              case measure => have := HI.out; simp [intOf]; omega
            | false =>
              refine wp_region_noPanic ?_
              refine wp_region_held_drew (S := fun wx => wx.rangeAt g12 0 (cellsB Y)) (by kernel_rfl) (HK9.out _ (below_drewN w9 1)) (fun hHeld => ?_)
              try simp only [Act.put, List.setIfInBounds_toArray, List.set_cons_zero, List.set_cons_succ]
              have HBd9 : Hid (Below w9.heap.size w9 w9.drew) := below_drewN w9 1
              generalize w9.drew = wd9 at *
              refine wpAnyH_take (i := 0) (v := ?_) (by simp only [List.getElem?_toArray, List.getElem?_cons_zero, List.getElem?_cons_succ]; rfl) (by kernel_rfl) (by kernel_rfl) (by kernel_rfl) (fun _ _ _ h => h) (Or.inl ⟨by rfl, ?_⟩) hHeld ?_
              rotate_left
              · intro w hSw
                go_simp
                try with_reducible rfl
              try simp only [Act.put, List.setIfInBounds_toArray, List.set_cons_zero, List.set_cons_succ]
              refine wpAnyH_take (i := 1) (v := ?_) (by simp only [List.getElem?_toArray, List.getElem?_cons_zero, List.getElem?_cons_succ]; rfl) (by kernel_rfl) (by kernel_rfl) (by kernel_rfl) (fun _ _ _ h => h) (Or.inl ⟨by rfl, ?_⟩) hHeld ?_
              rotate_left
              · intro w hSw
                go_simp
                try with_reducible rfl
              try simp only [Act.put, List.setIfInBounds_toArray, List.set_cons_zero, List.set_cons_succ]
              refine wpAnyH_take (i := 2) (v := .agg (cellsB Y).toArray) (by simp only [List.getElem?_toArray, List.getElem?_cons_zero, List.getElem?_cons_succ]; rfl) (by kernel_rfl) (by kernel_rfl) (by kernel_rfl) (fun _ _ _ h => h)
                (yieldsIf_load_mid (by rfl) _ _ rfl _ _ rfl _ _ (fun w hw => hw) Tryd.underlying25 rfl (by rw [cellsB_length, lY]; exact Tryd.sizeDg)) hHeld ?_
              try simp only [Act.put, List.setIfInBounds_toArray, List.set_cons_zero, List.set_cons_succ]
              refine wpAnyH_ready (rs := [3]) (by kernel_rfl) (by simp) ?_
              refine AllReadyH.cons (by simp only [List.getElem?_toArray, List.getElem?_cons_zero, List.getElem?_cons_succ]; rfl) (fun K hK => ?_) AllReadyH.nil
              rw [if_pos (by rfl)]
              go_simp
              refine (HNO.out wd9).mono ?_
              rintro e wn9 ⟨rfl, hbn⟩
              have HBn9 : Hid (Below w9.heap.size w9 wn9) := HBd9.out.trans (hbn.mono HBd9.out.size)
              clear hbn HBd9
              go_wp2_with fail
              refine hK.out _ _ (HK9.out _ HBn9.out) (fun hHeld => ?_)
              clear hK K
              try simp only [Act.put, List.setIfInBounds_toArray, List.set_cons_zero, List.set_cons_succ]
              obtain ⟨z1, hz1⟩ : ∃ z1 : Bool, decide (Y = zD) = z1 := ⟨_, rfl⟩
              have HZ1 : Hid (Y = zD → z1 = true) := fun h => by rw [← hz1]; exact decide_eq_true h
              refine wpAnyH_take (i := 4) (v := .bool z1) (by simp only [List.getElem?_toArray, List.getElem?_cons_zero, List.getElem?_cons_succ]; rfl) (by kernel_rfl) (by kernel_rfl) (by kernel_rfl) (fun _ _ _ h => h)
                (yieldsIf_eqD (by rfl) _ _ rfl Y zD lY lZD rfl rfl z1 hz1) hHeld ?_
              try simp only [Act.put, List.setIfInBounds_toArray, List.set_cons_zero, List.set_cons_succ]
              refine wpAnyH_take (i := 5) (v := ?_) (by simp only [List.getElem?_toArray, List.getElem?_cons_zero, List.getElem?_cons_succ]; rfl) (by kernel_rfl) (by kernel_rfl) (by kernel_rfl) (fun _ _ _ h => h) (Or.inl ⟨by rfl, ?_⟩) hHeld ?_
              rotate_left
              · intro w hSw
                go_simp
                try with_reducible rfl
              try simp only [Act.put, List.setIfInBounds_toArray, List.set_cons_zero, List.set_cons_succ]
              refine wpAnyH_take (i := 6) (v := ?_) (by simp only [List.getElem?_toArray, List.getElem?_cons_zero, List.getElem?_cons_succ]; rfl) (by kernel_rfl) (by kernel_rfl) (by kernel_rfl) (fun _ _ _ h => h) (Or.inl ⟨by rfl, ?_⟩) hHeld ?_
              rotate_left
              · intro w hSw
                go_simp
                try with_reducible rfl
              try simp only [Act.put, List.setIfInBounds_toArray, List.set_cons_zero, List.set_cons_succ]
              refine wpAnyH_done (by kernel_rfl) (NoPanic.normal ?_) _
              have HDn : Hid (DAt wn9 g12 0 Y ∧ wn9.there g12 0 32 ∧ DAt wn9 g11 0 O ∧ Below wn.heap.size wn wn9) := ⟨dat_b HD9.out.1 lY HBn9.out, there_b HD9.out.2.1 HBn9.out, dat_b HD9.out.2.2.1 lO HBn9.out, HD9.out.2.2.2.trans (HBn9.out.mono HD9.out.2.2.2.size)⟩
              clear hHeld HK9 hz1 HD9
              go_wp2_with fail
              go_roundw
              case rel => exact ⟨k2, i + 1, z1, Y, by go_num, rfl, by go_num, by have := HI.out; omega, HI.out.2, lY, HDn.out, HF9.out, HZ1.out⟩
              case measure => have := HI.out; simp [intOf]; omega
          · have hev : k % 2 = 0 := by omega
            rw [hev] at d1 d2
            rw [if_neg hodd] at hF
            clear hodd
            have hk2b : k / 2 < 4294967296 := by omega
            generalize k / 2 = k2 at *
            go_upto_region 23 with fail
            refine wp_region_noPanic ?_
            refine wp_region_till (S := fun wx => wx.rangeAt g12 0 (cellsB d)) 3 (by kernel_rfl) (HKD.out _ (below_drewN wr 1)).1 (fun hHeld => ?_)
            try simp only [Act.put, List.setIfInBounds_toArray, List.set_cons_zero, List.set_cons_succ]
            have HBd : Hid (Below wr.heap.size wr wr.drew) := below_drewN wr 1
            generalize wr.drew = wd at *
            refine wpAnyT_take (i := 0) (v := .agg (cellsB d).toArray) (by simp only [List.getElem?_toArray, List.getElem?_cons_zero, List.getElem?_cons_succ]; rfl) (by kernel_rfl) (by kernel_rfl) (by kernel_rfl) (by kernel_rfl) (fun _ _ _ h => h)
              (yieldsIf_load_mid (by rfl) _ _ rfl _ _ rfl _ _ (fun w hw => hw) Tryd.underlying25 rfl (by rw [cellsB_length, ld]; exact Tryd.sizeDg)) hHeld ?_
            try simp only [Act.put, List.setIfInBounds_toArray, List.set_cons_zero, List.set_cons_succ]
            refine wpAnyT_ready (rs := [1]) (by kernel_rfl) (by simp) ?_
            refine AllReadyT.cons (by simp only [List.getElem?_toArray, List.getElem?_cons_zero, List.getElem?_cons_succ]; rfl) (fun K hK => ?_) AllReadyT.nil
            rw [if_pos (by rfl)]
            go_simp
            refine (HNO.out wd).mono ?_
            rintro e wk ⟨rfl, hbn⟩
            have HBn : Hid (Below wr.heap.size wr wk) := HBd.out.trans (hbn.mono HBd.out.size)
            clear hbn HBd
            go_wp2_with fail
            refine hK.out _ _ (HKD.out _ HBn.out).1 (fun hHeld => ?_)
            clear hK K
            try simp only [Act.put, List.setIfInBounds_toArray, List.set_cons_zero, List.set_cons_succ]
            refine wpAnyT_ready (rs := [2]) (by kernel_rfl) (by simp) ?_
            refine AllReadyT.cons (by simp only [List.getElem?_toArray, List.getElem?_cons_zero, List.getElem?_cons_succ]; rfl) (fun K hK => ?_) AllReadyT.nil
            rw [if_pos (by rfl)]
            go_simp
            refine (rmapnode_any d zD wk ld lZD).mono ?_
            rintro e wo ⟨rfl, hbo⟩
            have HBo : Hid (Below wr.heap.size wr wo) := HBn.out.trans (hbo.mono HBn.out.size)
            have lY := mnode_length d zD
            have HF9 : Hid (foldM k2 (mnode d zD) (List.replicate (32 - (i + 1)) zT) = O) := hF
            clear hbo HBn
            generalize mnode d zD = Y at *
            go_wp2_with fail
            refine hK.out _ _ (HKD.out _ HBo.out).1 (fun hHeld => ?_)
            clear hK K
            try simp only [Act.put, List.setIfInBounds_toArray, List.set_cons_zero, List.set_cons_succ]
            refine wpAnyT_ready (rs := [3]) (by kernel_rfl) (by simp) ?_
            refine AllReadyT.lastly (by simp only [List.getElem?_toArray, List.getElem?_cons_zero, List.getElem?_cons_succ]; rfl) rfl (fun K hK => ?_) AllReadyT.nil
            rw [if_pos (by rfl)]
            have HTo : Hid (wo.there g12 0 32) := (HKD.out _ HBo.out).2.1
            refine wp_store_mid _ _ _ rfl g12 0 (cellsB Y).toArray rfl rfl (by rw [cellsB_size, lY]; exact HTo.out) (by rw [cellsB_size, lY]; exact Tryd.sizeDg) (all_oneCell_toArray (cellsB_one _)) ?_
            refine hK.out _ _ ?_
            clear hK K
            try simp only [Act.put, List.setIfInBounds_toArray, List.set_cons_zero, List.set_cons_succ]
            refine wpAnyT_done (by kernel_rfl) (NoPanic.normal ?_) _
            have HD9 : Hid (DAt (wo.setCells g12 0 (cellsB Y)) g12 0 Y ∧ (wo.setCells g12 0 (cellsB Y)).there g12 0 32 ∧ DAt (wo.setCells g12 0 (cellsB Y)) g11 0 O ∧ Below wn.heap.size wn (wo.setCells g12 0 (cellsB Y))) := ⟨dat_put HTo.out lY rfl, World.there_setCells HTo.out _ _ _, dat_else (HKD.out _ HBo.out).2.2.1 HNg.out.1 rfl, below_put (HKD.out _ HBo.out).2.2.2 HNg.out.2 rfl⟩
            try clear hHeld
            clear HKD HBo HTo HZ hF
            try rw [show (cellsB Y).toArray.toList = cellsB Y from rfl]
            generalize wo.setCells g12 0 (cellsB Y) = w9 at *
            go_upto_region 24 with fail
            have HK9 : Hid (∀ wx, Below w9.heap.size w9 wx → wx.rangeAt g12 0 (cellsB Y)) := fun wx hx => dat_b HD9.out.1 lY hx
            cases z with
            | true =>
              refine wp_region_noPanic ?_
              refine wp_region_held_drew (S := fun wx => wx.rangeAt g12 0 (cellsB Y)) (by kernel_rfl) (HK9.out _ (below_drewN w9 1)) (fun hHeld => ?_)
              try simp only [Act.put, List.setIfInBounds_toArray, List.set_cons_zero, List.set_cons_succ]
              have HBd9 : Hid (Below w9.heap.size w9 w9.drew) := below_drewN w9 1
              generalize w9.drew = wn9 at *
              refine wpAnyH_take (i := 0) (v := ?_) (by simp only [List.getElem?_toArray, List.getElem?_cons_zero, List.getElem?_cons_succ]; rfl) (by kernel_rfl) (by kernel_rfl) (by kernel_rfl) (fun _ _ _ h => h) (Or.inl ⟨by rfl, ?_⟩) hHeld ?_
              rotate_left
              · intro w hSw
                go_simp
                try with_reducible rfl
              try simp only [Act.put, List.setIfInBounds_toArray, List.set_cons_zero, List.set_cons_succ]
              refine wpAnyH_take (i := 1) (v := ?_) (by simp only [List.getElem?_toArray, List.getElem?_cons_zero, List.getElem?_cons_succ]; rfl) (by kernel_rfl) (by kernel_rfl) (by kernel_rfl) (fun _ _ _ h => h) (Or.inl ⟨by rfl, ?_⟩) hHeld ?_
              rotate_left
              · intro w hSw
                go_simp
                try with_reducible rfl
              try simp only [Act.put, List.setIfInBounds_toArray, List.set_cons_zero, List.set_cons_succ]
              refine wpAnyH_take (i := 2) (v := undef) (by simp only [List.getElem?_toArray, List.getElem?_cons_zero, List.getElem?_cons_succ]; rfl) (by kernel_rfl) (by kernel_rfl) (by kernel_rfl) (fun _ _ _ h => h) (Or.inr ⟨by rfl, rfl⟩) hHeld ?_
              try simp only [Act.put, List.setIfInBounds_toArray, List.set_cons_zero, List.set_cons_succ]
              refine wpAnyH_take (i := 3) (v := undef) (by simp only [List.getElem?_toArray, List.getElem?_cons_zero, List.getElem?_cons_succ]; rfl) (by kernel_rfl) (by kernel_rfl) (by kernel_rfl) (fun _ _ _ h => h) (Or.inr ⟨by rfl, rfl⟩) hHeld ?_
              try simp only [Act.put, List.setIfInBounds_toArray, List.set_cons_zero, List.set_cons_succ]
              refine wpAnyH_take (i := 4) (v := undef) (by simp only [List.getElem?_toArray, List.getElem?_cons_zero, List.getElem?_cons_succ]; rfl) (by kernel_rfl) (by kernel_rfl) (by kernel_rfl) (fun _ _ _ h => h) (Or.inr ⟨by rfl, rfl⟩) hHeld ?_
              try simp only [Act.put, List.setIfInBounds_toArray, List.set_cons_zero, List.set_cons_succ]
              refine wpAnyH_take (i := 5) (v := ?_) (by simp only [List.getElem?_toArray, List.getElem?_cons_zero, List.getElem?_cons_succ]; rfl) (by kernel_rfl) (by kernel_rfl) (by kernel_rfl) (fun _ _ _ h => h) (Or.inl ⟨by rfl, ?_⟩) hHeld ?_
              rotate_left
              · intro w hSw
                go_simp
                try with_reducible rfl
              try simp only [Act.put, List.setIfInBounds_toArray, List.set_cons_zero, List.set_cons_succ]
              refine wpAnyH_take (i := 6) (v := ?_) (by simp only [List.getElem?_toArray, List.getElem?_cons_zero, List.getElem?_cons_succ]; rfl) (by kernel_rfl) (by kernel_rfl) (by kernel_rfl) (fun _ _ _ h => h) (Or.inl ⟨by rfl, ?_⟩) hHeld ?_
              rotate_left
              · intro w hSw
                go_simp
                try with_reducible rfl
              try simp only [Act.put, List.setIfInBounds_toArray, List.set_cons_zero, List.set_cons_succ]
              refine wpAnyH_done (by kernel_rfl) (NoPanic.normal ?_) _
              have HDn : Hid (DAt wn9 g12 0 Y ∧ wn9.there g12 0 32 ∧ DAt wn9 g11 0 O ∧ Below wn.heap.size wn wn9) := ⟨dat_b HD9.out.1 lY HBd9.out, there_b HD9.out.2.1 HBd9.out, dat_b HD9.out.2.2.1 lO HBd9.out, HD9.out.2.2.2.trans (HBd9.out.mono HD9.out.2.2.2.size)⟩
              clear hHeld HK9 HD9
              go_wp2_with fail
              go_roundw
              case rel => exact ⟨k2, i + 1, true, Y, by go_num, rfl, by go_num, by have := HI.out; omega, HI.out.2, lY, HDn.out, HF9.out, fun _ => rfl⟩
              case measure => have := HI.out; simp [intOf]; omega
            | false =>
              refine wp_region_noPanic ?_
              refine wp_region_held_drew (S := fun wx => wx.rangeAt g12 0 (cellsB Y)) (by kernel_rfl) (HK9.out _ (below_drewN w9 1)) (fun hHeld => ?_)
              try simp only [Act.put, List.setIfInBounds_toArray, List.set_cons_zero, List.set_cons_succ]
              have HBd9 : Hid (Below w9.heap.size w9 w9.drew) := below_drewN w9 1
              generalize w9.drew = wd9 at *
              refine wpAnyH_take (i := 0) (v := ?_) (by simp only [List.getElem?_toArray, List.getElem?_cons_zero, List.getElem?_cons_succ]; rfl) (by kernel_rfl) (by kernel_rfl) (by kernel_rfl) (fun _ _ _ h => h) (Or.inl ⟨by rfl, ?_⟩) hHeld ?_
              rotate_left
              · intro w hSw
                go_simp
                try with_reducible rfl
              try simp only [Act.put, List.setIfInBounds_toArray, List.set_cons_zero, List.set_cons_succ]
              refine wpAnyH_take (i := 1) (v := ?_) (by simp only [List.getElem?_toArray, List.getElem?_cons_zero, List.getElem?_cons_succ]; rfl) (by kernel_rfl) (by kernel_rfl) (by kernel_rfl) (fun _ _ _ h => h) (Or.inl ⟨by rfl, ?_⟩) hHeld ?_
              rotate_left
              · intro w hSw
                go_simp
                try with_reducible rfl
              try simp only [Act.put, List.setIfInBounds_toArray, List.set_cons_zero, List.set_cons_succ]
              refine wpAnyH_take (i := 2) (v := .agg (cellsB Y).toArray) (by simp only [List.getElem?_toArray, List.getElem?_cons_zero, List.getElem?_cons_succ]; rfl) (by kernel_rfl) (by kernel_rfl) (by kernel_rfl) (fun _ _ _ h => h)
                (yieldsIf_load_mid (by rfl) _ _ rfl _ _ rfl _ _ (fun w hw => hw) Tryd.underlying25 rfl (by rw [cellsB_length, lY]; exact Tryd.sizeDg)) hHeld ?_
              try simp only [Act.put, List.setIfInBounds_toArray, List.set_cons_zero, List.set_cons_succ]
              refine wpAnyH_ready (rs := [3]) (by kernel_rfl) (by simp) ?_
              refine AllReadyH.cons (by simp only [List.getElem?_toArray, List.getElem?_cons_zero, List.getElem?_cons_succ]; rfl) (fun K hK => ?_) AllReadyH.nil
              rw [if_pos (by rfl)]
              go_simp
              refine (HNO.out wd9).mono ?_
              rintro e wn9 ⟨rfl, hbn⟩
              have HBn9 : Hid (Below w9.heap.size w9 wn9) := HBd9.out.trans (hbn.mono HBd9.out.size)
              clear hbn HBd9
              go_wp2_with fail
              refine hK.out _ _ (HK9.out _ HBn9.out) (fun hHeld => ?_)
              clear hK K
              try simp only [Act.put, List.setIfInBounds_toArray, List.set_cons_zero, List.set_cons_succ]
              obtain ⟨z1, hz1⟩ : ∃ z1 : Bool, decide (Y = zD) = z1 := ⟨_, rfl⟩
              have HZ1 : Hid (Y = zD → z1 = true) := fun h => by rw [← hz1]; exact decide_eq_true h
              refine wpAnyH_take (i := 4) (v := .bool z1) (by simp only [List.getElem?_toArray, List.getElem?_cons_zero, List.getElem?_cons_succ]; rfl) (by kernel_rfl) (by kernel_rfl) (by kernel_rfl) (fun _ _ _ h => h)
                (yieldsIf_eqD (by rfl) _ _ rfl Y zD lY lZD rfl rfl z1 hz1) hHeld ?_
              try simp only [Act.put, List.setIfInBounds_toArray, List.set_cons_zero, List.set_cons_succ]
              refine wpAnyH_take (i := 5) (v := ?_) (by simp only [List.getElem?_toArray, List.getElem?_cons_zero, List.getElem?_cons_succ]; rfl) (by kernel_rfl) (by kernel_rfl) (by kernel_rfl) (fun _ _ _ h => h) (Or.inl ⟨by rfl, ?_⟩) hHeld ?_
              rotate_left
              · intro w hSw
                go_simp
                try with_reducible rfl
              try simp only [Act.put, List.setIfInBounds_toArray, List.set_cons_zero, List.set_cons_succ]
              refine wpAnyH_take (i := 6) (v := ?_) (by simp only [List.getElem?_toArray, List.getElem?_cons_zero, List.getElem?_cons_succ]; rfl) (by kernel_rfl) (by kernel_rfl) (by kernel_rfl) (fun _ _ _ h => h) (Or.inl ⟨by rfl, ?_⟩) hHeld ?_
              rotate_left
              · intro w hSw
                go_simp
                try with_reducible rfl
              try simp only [Act.put, List.setIfInBounds_toArray, List.set_cons_zero, List.set_cons_succ]
              refine wpAnyH_done (by kernel_rfl) (NoPanic.normal ?_) _
              have HDn : Hid (DAt wn9 g12 0 Y ∧ wn9.there g12 0 32 ∧ DAt wn9 g11 0 O ∧ Below wn.heap.size wn wn9) := ⟨dat_b HD9.out.1 lY HBn9.out, there_b HD9.out.2.1 HBn9.out, dat_b HD9.out.2.2.1 lO HBn9.out, HD9.out.2.2.2.trans (HBn9.out.mono HD9.out.2.2.2.size)⟩
              clear hHeld HK9 hz1 HD9
              go_wp2_with fail
              go_roundw
              case rel => exact ⟨k2, i + 1, z1, Y, by go_num, rfl, by go_num, by have := HI.out; omega, HI.out.2, lY, HDn.out, HF9.out, HZ1.out⟩
              case measure => have := HI.out; simp [intOf]; omega
        · obtain rfl : i = 32 := by omega
          have g1 : ¬ ((32 : Nat) : Int) < 32 := by omega
          have hdO : d = O := HF.out
          subst hdO
          have HK26 : Hid (∀ wx, Below wr.heap.size wr wx → (wx.rangeAt g11 0 (cellsB d) ∧ wx.rangeAt g12 0 (cellsB d)) ∧ Below w.heap.size w wx) := fun wx hx => ⟨⟨dat_b HD.out.2.2.1 ld hx, dat_b HD.out.1 ld hx⟩, (HBL.out wx (HD.out.2.2.2.trans (hx.mono HD.out.2.2.2.size))).2.2.2⟩
          clear HF hlt hi HD
          go_upto_region 26 with fail
          refine wp_region_noPanic ?_
          refine wp_region_held_drew (S := fun wx => wx.rangeAt g11 0 (cellsB d) ∧ wx.rangeAt g12 0 (cellsB d)) (by kernel_rfl) (HK26.out _ (below_drewN wr 1)).1 (fun hHeld => ?_)
          try simp only [Act.put, List.setIfInBounds_toArray, List.set_cons_zero, List.set_cons_succ]
          have HBd : Hid (Below wr.heap.size wr wr.drew) := below_drewN wr 1
          generalize wr.drew = wd at *
          refine wpAnyH_take (i := 0) (v := ?_) (by simp only [List.getElem?_toArray, List.getElem?_cons_zero, List.getElem?_cons_succ]; rfl) (by kernel_rfl) (by kernel_rfl) (by kernel_rfl) (fun _ _ _ h => h) (Or.inl ⟨by rfl, ?_⟩) hHeld ?_
          rotate_left
          · intro w hSw
            obtain ⟨hSw0, hSw1⟩ := hSw
            go_simp
            try with_reducible rfl
          try simp only [Act.put, List.setIfInBounds_toArray, List.set_cons_zero, List.set_cons_succ]
          refine wpAnyH_take (i := 1) (v := ?_) (by simp only [List.getElem?_toArray, List.getElem?_cons_zero, List.getElem?_cons_succ]; rfl) (by kernel_rfl) (by kernel_rfl) (by kernel_rfl) (fun _ _ _ h => h) (Or.inl ⟨by rfl, ?_⟩) hHeld ?_
          rotate_left
          · intro w hSw
            obtain ⟨hSw0, hSw1⟩ := hSw
            go_simp
            try with_reducible rfl
          try simp only [Act.put, List.setIfInBounds_toArray, List.set_cons_zero, List.set_cons_succ]
          refine wpAnyH_take (i := 2) (v := ?_) (by simp only [List.getElem?_toArray, List.getElem?_cons_zero, List.getElem?_cons_succ]; rfl) (by kernel_rfl) (by kernel_rfl) (by kernel_rfl) (fun _ _ _ h => h) (Or.inl ⟨by rfl, ?_⟩) hHeld ?_
          rotate_left
          · intro w hSw
            obtain ⟨hSw0, hSw1⟩ := hSw
            go_simp
            try with_reducible rfl
          try simp only [Act.put, List.setIfInBounds_toArray, List.set_cons_zero, List.set_cons_succ]
          refine wpAnyH_take (i := 3) (v := ?_) (by simp only [List.getElem?_toArray, List.getElem?_cons_zero, List.getElem?_cons_succ]; rfl) (by kernel_rfl) (by kernel_rfl) (by kernel_rfl) (fun _ _ _ h => h) (Or.inl ⟨by rfl, ?_⟩) hHeld ?_
          rotate_left
          · intro w hSw
            obtain ⟨hSw0, hSw1⟩ := hSw
            go_simp
            try with_reducible rfl
          try simp only [Act.put, List.setIfInBounds_toArray, List.set_cons_zero, List.set_cons_succ]
          refine wpAnyH_take (i := 4) (v := ?_) (by simp only [List.getElem?_toArray, List.getElem?_cons_zero, List.getElem?_cons_succ]; rfl) (by kernel_rfl) (by kernel_rfl) (by kernel_rfl) (fun _ _ _ h => h) (Or.inl ⟨by rfl, ?_⟩) hHeld ?_
          rotate_left
          · intro w hSw
            obtain ⟨hSw0, hSw1⟩ := hSw
            go_simp
            try with_reducible rfl
          try simp only [Act.put, List.setIfInBounds_toArray, List.set_cons_zero, List.set_cons_succ]
          refine wpAnyH_take (i := 5) (v := ?_) (by simp only [List.getElem?_toArray, List.getElem?_cons_zero, List.getElem?_cons_succ]; rfl) (by kernel_rfl) (by kernel_rfl) (by kernel_rfl) (fun _ _ _ h => h) (Or.inl ⟨by rfl, ?_⟩) hHeld ?_
          rotate_left
          · intro w hSw
            obtain ⟨hSw0, hSw1⟩ := hSw
            go_simp
            try with_reducible rfl
          try simp only [Act.put, List.setIfInBounds_toArray, List.set_cons_zero, List.set_cons_succ]
          refine wpAnyH_take (i := 6) (v := ?_) (by simp only [List.getElem?_toArray, List.getElem?_cons_zero, List.getElem?_cons_succ]; rfl) (by kernel_rfl) (by kernel_rfl) (by kernel_rfl) (fun _ _ _ h => h) (Or.inl ⟨by rfl, ?_⟩) hHeld ?_
          rotate_left
          · intro w hSw
            obtain ⟨hSw0, hSw1⟩ := hSw
            go_simp
            try with_reducible rfl
          try simp only [Act.put, List.setIfInBounds_toArray, List.set_cons_zero, List.set_cons_succ]
          refine wpAnyH_take (i := 7) (v := ?_) (by simp only [List.getElem?_toArray, List.getElem?_cons_zero, List.getElem?_cons_succ]; rfl) (by kernel_rfl) (by kernel_rfl) (by kernel_rfl) (fun _ _ _ h => h) (Or.inl ⟨by rfl, ?_⟩) hHeld ?_
          rotate_left
          · intro w hSw
            obtain ⟨hSw0, hSw1⟩ := hSw
            go_simp
            try with_reducible rfl
          try simp only [Act.put, List.setIfInBounds_toArray, List.set_cons_zero, List.set_cons_succ]
          refine wpAnyH_take (i := 8) (v := .agg (cellsB d).toArray) (by simp only [List.getElem?_toArray, List.getElem?_cons_zero, List.getElem?_cons_succ]; rfl) (by kernel_rfl) (by kernel_rfl) (by kernel_rfl) (fun _ _ _ h => h)
            (yieldsIf_load_mid (by rfl) _ _ rfl _ _ rfl _ _ (fun w hw => hw.1) Tryd.underlying25 rfl (by rw [cellsB_length, ld]; exact Tryd.sizeDg)) hHeld ?_
          try simp only [Act.put, List.setIfInBounds_toArray, List.set_cons_zero, List.set_cons_succ]
          refine wpAnyH_take (i := 9) (v := .agg (cellsB d).toArray) (by simp only [List.getElem?_toArray, List.getElem?_cons_zero, List.getElem?_cons_succ]; rfl) (by kernel_rfl) (by kernel_rfl) (by kernel_rfl) (fun _ _ _ h => h)
            (yieldsIf_load_mid (by rfl) _ _ rfl _ _ rfl _ _ (fun w hw => hw.2) Tryd.underlying25 rfl (by rw [cellsB_length, ld]; exact Tryd.sizeDg)) hHeld ?_
          try simp only [Act.put, List.setIfInBounds_toArray, List.set_cons_zero, List.set_cons_succ]
          refine wpAnyH_take (i := 10) (v := .bool true) (by simp only [List.getElem?_toArray, List.getElem?_cons_zero, List.getElem?_cons_succ]; rfl) (by kernel_rfl) (by kernel_rfl) (by kernel_rfl) (fun _ _ _ h => h)
            (yieldsIf_eqD (by rfl) _ _ rfl d d ld ld rfl rfl true (decide_eq_true rfl)) hHeld ?_
          try simp only [Act.put, List.setIfInBounds_toArray, List.set_cons_zero, List.set_cons_succ]
          refine wpAnyH_take (i := 11) (v := ?_) (by simp only [List.getElem?_toArray, List.getElem?_cons_zero, List.getElem?_cons_succ]; rfl) (by kernel_rfl) (by kernel_rfl) (by kernel_rfl) (fun _ _ _ h => h) (Or.inl ⟨by rfl, ?_⟩) hHeld ?_
          rotate_left
          · intro w hSw
            obtain ⟨hSw0, hSw1⟩ := hSw
            go_simp
            try with_reducible rfl
          try simp only [Act.put, List.setIfInBounds_toArray, List.set_cons_zero, List.set_cons_succ]
          refine wpAnyH_take (i := 12) (v := ?_) (by simp only [List.getElem?_toArray, List.getElem?_cons_zero, List.getElem?_cons_succ]; rfl) (by kernel_rfl) (by kernel_rfl) (by kernel_rfl) (fun _ _ _ h => h) (Or.inl ⟨by rfl, ?_⟩) hHeld ?_
          rotate_left
          · intro w hSw
            obtain ⟨hSw0, hSw1⟩ := hSw
            go_simp
            try with_reducible rfl
          try simp only [Act.put, List.setIfInBounds_toArray, List.set_cons_zero, List.set_cons_succ]
          refine wpAnyH_take (i := 13) (v := .agg (cellsB d).toArray) (by simp only [List.getElem?_toArray, List.getElem?_cons_zero, List.getElem?_cons_succ]; rfl) (by kernel_rfl) (by kernel_rfl) (by kernel_rfl) (fun _ _ _ h => h)
            (yieldsIf_load_mid (by rfl) _ _ rfl _ _ rfl _ _ (fun w hw => hw.1) Tryd.underlying25 rfl (by rw [cellsB_length, ld]; exact Tryd.sizeDg)) hHeld ?_
          try simp only [Act.put, List.setIfInBounds_toArray, List.set_cons_zero, List.set_cons_succ]
          refine wpAnyH_ready (rs := [14]) (by kernel_rfl) (by simp) ?_
          refine AllReadyH.cons (by simp only [List.getElem?_toArray, List.getElem?_cons_zero, List.getElem?_cons_succ]; rfl) (fun K hK => ?_) AllReadyH.nil
          rw [if_pos (by rfl)]
          go_simp
          refine (HNO.out wd).mono ?_
          rintro e wn ⟨rfl, hbn⟩
          have HBn : Hid (Below wr.heap.size wr wn) := HBd.out.trans (hbn.mono HBd.out.size)
          clear hbn HBd
          go_wp2_with fail
          refine hK.out _ _ (HK26.out _ HBn.out).1 (fun hHeld => ?_)
          clear hK K
          try simp only [Act.put, List.setIfInBounds_toArray, List.set_cons_zero, List.set_cons_succ]
          have HW : Hid (Below w.heap.size w wn) := (HK26.out _ HBn.out).2
          by_cases hdz : d = zD
          · have hzt : z = true := HZ.out hdz
            subst hzt
            have hne : (!decide (d = zD)) = false := by simp [hdz]
            refine wpAnyH_take (i := 15) (v := .bool false) (by simp only [List.getElem?_toArray, List.getElem?_cons_zero, List.getElem?_cons_succ]; rfl) (by kernel_rfl) (by kernel_rfl) (by kernel_rfl) (fun _ _ _ h => h)
              (yieldsIf_neqD (by rfl) _ _ rfl d zD ld lZD rfl rfl false hne) hHeld ?_
            try simp only [Act.put, List.setIfInBounds_toArray, List.set_cons_zero, List.set_cons_succ]
            refine wpAnyH_take (i := 16) (v := ?_) (by simp only [List.getElem?_toArray, List.getElem?_cons_zero, List.getElem?_cons_succ]; rfl) (by kernel_rfl) (by kernel_rfl) (by kernel_rfl) (fun _ _ _ h => h) (Or.inl ⟨by rfl, ?_⟩) hHeld ?_
            rotate_left
            · intro w hSw
              obtain ⟨hSw0, hSw1⟩ := hSw
              go_simp
              try with_reducible rfl
            try simp only [Act.put, List.setIfInBounds_toArray, List.set_cons_zero, List.set_cons_succ]
            refine wpAnyH_take (i := 17) (v := ?_) (by simp only [List.getElem?_toArray, List.getElem?_cons_zero, List.getElem?_cons_succ]; rfl) (by kernel_rfl) (by kernel_rfl) (by kernel_rfl) (fun _ _ _ h => h) (Or.inl ⟨by rfl, ?_⟩) hHeld ?_
            rotate_left
            · intro w hSw
              obtain ⟨hSw0, hSw1⟩ := hSw
              go_simp
              try with_reducible rfl
            try simp only [Act.put, List.setIfInBounds_toArray, List.set_cons_zero, List.set_cons_succ]
            refine wpAnyH_take (i := 18) (v := ?_) (by simp only [List.getElem?_toArray, List.getElem?_cons_zero, List.getElem?_cons_succ]; rfl) (by kernel_rfl) (by kernel_rfl) (by kernel_rfl) (fun _ _ _ h => h) (Or.inl ⟨by rfl, ?_⟩) hHeld ?_
            rotate_left
            · intro w hSw
              obtain ⟨hSw0, hSw1⟩ := hSw
              go_simp
              try with_reducible rfl
            try simp only [Act.put, List.setIfInBounds_toArray, List.set_cons_zero, List.set_cons_succ]
            refine wpAnyH_take (i := 19) (v := ?_) (by simp only [List.getElem?_toArray, List.getElem?_cons_zero, List.getElem?_cons_succ]; rfl) (by kernel_rfl) (by kernel_rfl) (by kernel_rfl) (fun _ _ _ h => h) (Or.inl ⟨by rfl, ?_⟩) hHeld ?_
            rotate_left
            · intro w hSw
              obtain ⟨hSw0, hSw1⟩ := hSw
              go_simp
              try with_reducible rfl
            try simp only [Act.put, List.setIfInBounds_toArray, List.set_cons_zero, List.set_cons_succ]
            refine wpAnyH_take (i := 20) (v := ?_) (by simp only [List.getElem?_toArray, List.getElem?_cons_zero, List.getElem?_cons_succ]; rfl) (by kernel_rfl) (by kernel_rfl) (by kernel_rfl) (fun _ _ _ h => h) (Or.inl ⟨by rfl, ?_⟩) hHeld ?_
            rotate_left
            · intro w hSw
              obtain ⟨hSw0, hSw1⟩ := hSw
              go_simp
              try with_reducible rfl
            try simp only [Act.put, List.setIfInBounds_toArray, List.set_cons_zero, List.set_cons_succ]
            refine wpAnyH_done (by kernel_rfl) (NoPanic.normal ?_) _
            clear hHeld HK26 hdz hne HZ
            go_wp2_with fail
            go_ret
            exact ⟨rfl, HW.out⟩
          · have hne : (!decide (d = zD)) = true := by simp [hdz]
            refine wpAnyH_take (i := 15) (v := .bool true) (by simp only [List.getElem?_toArray, List.getElem?_cons_zero, List.getElem?_cons_succ]; rfl) (by kernel_rfl) (by kernel_rfl) (by kernel_rfl) (fun _ _ _ h => h)
              (yieldsIf_neqD (by rfl) _ _ rfl d zD ld lZD rfl rfl true hne) hHeld ?_
            try simp only [Act.put, List.setIfInBounds_toArray, List.set_cons_zero, List.set_cons_succ]
            refine wpAnyH_take (i := 16) (v := ?_) (by simp only [List.getElem?_toArray, List.getElem?_cons_zero, List.getElem?_cons_succ]; rfl) (by kernel_rfl) (by kernel_rfl) (by kernel_rfl) (fun _ _ _ h => h) (Or.inl ⟨by rfl, ?_⟩) hHeld ?_
            rotate_left
            · intro w hSw
              obtain ⟨hSw0, hSw1⟩ := hSw
              go_simp
              try with_reducible rfl
            try simp only [Act.put, List.setIfInBounds_toArray, List.set_cons_zero, List.set_cons_succ]
            refine wpAnyH_take (i := 17) (v := undef) (by simp only [List.getElem?_toArray, List.getElem?_cons_zero, List.getElem?_cons_succ]; rfl) (by kernel_rfl) (by kernel_rfl) (by kernel_rfl) (fun _ _ _ h => h) (Or.inr ⟨by rfl, rfl⟩) hHeld ?_
            try simp only [Act.put, List.setIfInBounds_toArray, List.set_cons_zero, List.set_cons_succ]
            refine wpAnyH_take (i := 18) (v := ?_) (by simp only [List.getElem?_toArray, List.getElem?_cons_zero, List.getElem?_cons_succ]; rfl) (by kernel_rfl) (by kernel_rfl) (by kernel_rfl) (fun _ _ _ h => h) (Or.inl ⟨by rfl, ?_⟩) hHeld ?_
            rotate_left
            · intro w hSw
              obtain ⟨hSw0, hSw1⟩ := hSw
              go_simp
              try with_reducible rfl
            try simp only [Act.put, List.setIfInBounds_toArray, List.set_cons_zero, List.set_cons_succ]
            refine wpAnyH_take (i := 19) (v := ?_) (by simp only [List.getElem?_toArray, List.getElem?_cons_zero, List.getElem?_cons_succ]; rfl) (by kernel_rfl) (by kernel_rfl) (by kernel_rfl) (fun _ _ _ h => h) (Or.inl ⟨by rfl, ?_⟩) hHeld ?_
            rotate_left
            · intro w hSw
              obtain ⟨hSw0, hSw1⟩ := hSw
              go_simp
              try with_reducible rfl
            try simp only [Act.put, List.setIfInBounds_toArray, List.set_cons_zero, List.set_cons_succ]
            refine wpAnyH_take (i := 20) (v := ?_) (by simp only [List.getElem?_toArray, List.getElem?_cons_zero, List.getElem?_cons_succ]; rfl) (by kernel_rfl) (by kernel_rfl) (by kernel_rfl) (fun _ _ _ h => h) (Or.inl ⟨by rfl, ?_⟩) hHeld ?_
            rotate_left
            · intro w hSw
              obtain ⟨hSw0, hSw1⟩ := hSw
              go_simp
              try with_reducible rfl
            try simp only [Act.put, List.setIfInBounds_toArray, List.set_cons_zero, List.set_cons_succ]
            refine wpAnyH_done (by kernel_rfl) (NoPanic.normal ?_) _
            clear hHeld HK26 hdz hne HZ
            go_wp2_with fail
            go_ret
            exact ⟨rfl, HW.out⟩
theorem iempty_walk (k : Int) (v : List UInt8) (w : World) (G : Env w) (k1 : -9223372036854775808 ≤ k) (k2 : k ≤ 9223372036854775807) (hv : v.length = 32) :
    Calls Tryd.prog 4 #[.int .i64 k, digestV v] w fun r w' => r = .returned (.bool true) ∧ Below w.heap.size w w' := by
  cases hk : isKey k with
  | true =>
    have hkb := of_decide_eq_true hk
    obtain ⟨j, rfl⟩ : ∃ j : Nat, k = (j : Int) := ⟨k.toNat, by omega⟩
    exact iempty_in j v w G hv (by omega)
  | false => exact iempty_out k v w G hv k1 k2 hk
end Go.Proofs.YtbhoijnhpmkglabDoor
