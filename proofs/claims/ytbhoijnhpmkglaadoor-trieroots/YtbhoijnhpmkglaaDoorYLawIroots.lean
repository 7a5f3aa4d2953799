/- The law TrieRoots: the program's Root, Path, Leaf and Node are the document's. -/
import Derived.Test.YtbhoijnhpmkglaaDoorJ13
import Derived.Test.YtbhoijnhpmkglaaDoorJ14
import Derived.Test.YtbhoijnhpmkglaaDoorJ11
import Derived.Test.YtbhoijnhpmkglaaDoorJ06
import Derived.Test.YtbhoijnhpmkglaaDoorJ15
import Derived.Deep.DeepCutAuto
namespace Go.Proofs.YtbhoijnhpmkglaaDoor
open Go.RowKit
set_option linter.unusedVariables false
set_option linter.unusedSimpArgs false

theorem drow_nil0 (w : World) (a : Option Addr) : DRow w a 0 [] := ⟨rfl, (fun l hl => by cases hl), .inl rfl⟩
set_option maxRecDepth 100000 in
set_option maxHeartbeats 2000000 in
theorem iroots_okkey (a : Option Addr) (n c : Nat) (es : List Ent) (k : Int) (e : Ent) (w : World) (G : Env w) (HH : Handle w) (R : ERow w a n es) (hc : n ≤ c) (hn : 40 * n ≤ 140737488351232) (k1 : -9223372036854775808 ≤ k) (k2 : k ≤ 9223372036854775807) (he : okE e) (hf : faultE es = 0) (hk : isKey k = true) (hk2 : isKey e.1 = true) :
    Calls Tryd.prog 3 #[.slice a n c, .int .i64 k, entV e] w fun r w' => r = .returned (.bool true) ∧ Below w.heap.size w w' := by
  obtain ⟨w1, hw1⟩ : ∃ w1, w.alloc (.cells (entC e).toArray 26) = w1 := ⟨_, rfl⟩
  have HALL : Hid (∀ wx, Below w1.heap.size w1 wx → Env wx ∧ Handle wx ∧ ERow wx a n es ∧ wx.rangeAt w.heap.size 0 (entC e) ∧ Below w.heap.size w wx) := fun wx hx => by
    have b1 : Below w.heap.size w w1 := by rw [← hw1]; exact (Below.refl _ _).alloc (Nat.le_refl _) _
    have b : Below w.heap.size w wx := b1.trans (hx.mono b1.size)
    have hr : w1.rangeAt w.heap.size 0 (entC e) := by rw [← hw1]; exact box_range w (entC e) _
    exact ⟨G.below b, HH.below b, R.below b, ent_below hr hx (ent_block hr), b⟩
  have HBw1 : Hid (Below w1.heap.size w1 w1) := Below.refl _ _
  have HOK : Hid (okE e) := he
  have b1 := he.2.1
  have b2 := he.2.2
  clear G HH R he
  have lZD : zD.length = 32 := rfl
  have lM : (mapL (gE es) 0 32).length = 32 := mapL_length (gE_length es) 32 0
  have hn64 : n ≤ 64 := by have := (faultE_ok hf).1; rw [(HALL.out w1 HBw1.out).2.2.1.1] at this; exact this
  have HMR : Hid (∀ wx, Below w1.heap.size w1 wx → Calls Tryd.prog 10 #[.slice a n c, .int .i64 0, .int .i64 4294967296] wx fun r w' => r = .returned (digestV (mapL (gE es) 0 32)) ∧ Below wx.heap.size wx w') := fun wx hx => rmaproot_any 32 a n c es 0 wx (HALL.out wx hx).2.2.1 hc (by omega) (by decide)
  have HRT : Hid (∀ wx, Below w1.heap.size w1 wx → Calls Tryd.prog 11 #[.slice a n c] wx fun r w' => r = .returned (.tuple #[digestV (mapL (gE es) 0 32), .nilIface]) ∧ Below wx.heap.size wx w') := fun wx hx => wtrie_root a n c es wx (HALL.out wx hx).1 (HALL.out wx hx).2.2.1 hc hn hf
  have HMF : Hid (∀ wx, Below w1.heap.size w1 wx → Calls Tryd.prog 9 #[.slice a n c] wx fun r w' => r = .returned (.int .i64 0) ∧ Below wx.heap.size wx w') := fun wx hx => by
    have := rmapfault_any a n c es wx (HALL.out wx hx).2.2.1 hc (by omega)
    rw [hf] at this
    exact this
  have hkb := of_decide_eq_true hk
  obtain ⟨j, rfl⟩ : ∃ j : Nat, k = (j : Int) := ⟨k.toNat, by omega⟩
  have HMP : Hid (∀ wx, Below w1.heap.size w1 wx → Calls Tryd.prog 14 #[.slice a n c, .int .i64 (j : Int)] wx fun r w' => (∃ a' c', r = .returned (.slice a' 32 c') ∧ DRow w' a' 32 (pathM (gE es) j 32)) ∧ Below wx.heap.size wx w') := fun wx hx => by
    refine (rmappath_any a n c es j wx (HALL.out wx hx).2.2.1 hc (by omega) (by omega)).mono ?_
    rintro r w' ⟨⟨v, rfl, hv⟩, hb⟩
    obtain ⟨a', c', rfl, R', _⟩ := hv.form
    rw [pathM_length] at R' ⊢
    exact ⟨⟨a', c', rfl, R'⟩, hb⟩
  have HPT : Hid (∀ wx, Below w1.heap.size w1 wx → Calls Tryd.prog 15 #[.slice a n c, .int .i64 (j : Int)] wx fun r w' => (∃ a' c', r = .returned (.tuple #[.slice a' 32 c', .nilIface]) ∧ 32 ≤ c' ∧ DRow w' a' 32 (pathM (gE es) j 32)) ∧ Below wx.heap.size wx w') := fun wx hx => wtrie_path a n c es j wx (HALL.out wx hx).1 (HALL.out wx hx).2.2.1 hc hn hf (by omega)
  have HIK : Hid (∀ wx : World, Calls Tryd.prog 13 #[.int .i64 (j : Int)] wx fun e w' => e = .returned (.bool true) ∧ w' = wx) := fun wx => by
    have := riskey_any (j : Int) wx (by omega) (by omega)
    rw [hk] at this
    exact this
  clear hkb hk
  generalize pathM (gE es) j 32 = PT at *
  clear hf
  generalize mapL (gE es) 0 32 = M at *
  have hk2b := of_decide_eq_true hk2
  have lL := leafE_length e
  have HEL : Hid (∀ wx : World, Calls Tryd.prog 17 #[entV e] wx fun r w' => r = .returned (digestV (leafE e)) ∧ Below wx.heap.size wx w') := fun wx => rentryleaf_any e wx HOK.out hk2b.1 hk2b.2
  have HLF : Hid (∀ wx, Env wx → Calls Tryd.prog 18 #[entV e] wx fun r w' => r = .returned (.tuple #[digestV (leafE e), .nilIface]) ∧ Below wx.heap.size wx w') := fun wx hx => wtrie_leaf e wx hx HOK.out hk2
  generalize leafE e = L at *
  clear hk2b
  have HIE : Hid (∀ wx : World, Calls Tryd.prog 13 #[.int .i64 e.1] wx fun e w' => e = .returned (.bool true) ∧ w' = wx) := fun wx => by
    have := riskey_any e.1 wx b1 b2
    rw [hk2] at this
    exact this
  have HNL : Hid (∀ wx, Env wx → Calls Tryd.prog 19 #[digestV L, digestV M] wx fun q w' => q = .returned (digestV (mnode L M)) ∧ Below wx.heap.size wx w') := fun wx hx => wtrie_node L M wx hx lL lM
  have HMN : Hid (∀ wx : World, Calls Tryd.prog 20 #[digestV L, digestV M] wx fun q w' => q = .returned (digestV (mnode L M)) ∧ Below wx.heap.size wx w') := fun wx => rmapnode_any L M wx lL lM
  have lN := mnode_length L M
  generalize mnode L M = N at *
  clear hk2
  obtain ⟨e1, he1⟩ : ∃ e1, e.1 = e1 := ⟨_, rfl⟩
  have HE1 : Hid (e.1 = e1) := he1
  rw [he1] at b1 b2 HIE
  clear he1
  go_enter Tryd.func3, Tryd.ntmps3
  unfold entV
  go_wp2_with fail
  try rw [hw1]
  clear hw1
  refine (HMF.out w1 HBw1.out).mono ?_
  rintro r x1 ⟨rfl, hbx1⟩
  have HBx1 : Hid (Below w1.heap.size w1 x1) := HBw1.out.trans (hbx1.mono HBw1.out.size)
  clear hbx1
  obtain ⟨g8, hg8⟩ : ∃ g8, x1.heap.size = g8 := ⟨_, rfl⟩
  obtain ⟨x2, hx2⟩ : ∃ x2, x1.alloc (.cells (cellsB zD).toArray 24) = x2 := ⟨_, rfl⟩
  have qx2 := new_var hg8 hx2
  have HBx2 : Hid (Below w1.heap.size w1 x2) := HBx1.out.trans (qx2.2.2.mono HBx1.out.size)
  have Lg8 : Hid (w1.heap.size ≤ g8) := by rw [← hg8]; exact HBx1.out.size
  have Dg8x2 : Hid (DAt x2 g8 0 zD) := qx2.2.1
  have Tg8x2 : Hid (x2.there g8 0 32) := qx2.1
  clear qx2
  go_wp2_with (refine wpList_allocD (by rfl) (by rfl) g8 hg8 x2 hx2 ?_)
  clear hg8 hx2 
  refine (HMR.out x2 HBx2.out).mono ?_
  rintro r x3 ⟨rfl, hbx3⟩
  have HBx3 : Hid (Below w1.heap.size w1 x3) := HBx2.out.trans (hbx3.mono HBx2.out.size)
  have Dg8x3 : Hid (DAt x3 g8 0 zD) := dat_b Dg8x2.out rfl hbx3
  have Tg8x3 : Hid (x3.there g8 0 32) := there_b Tg8x2.out hbx3
  clear hbx3 Dg8x2 Tg8x2
  obtain ⟨x4, hx4⟩ : ∃ x4, x3.setCells g8 0 (cellsB M) = x4 := ⟨_, rfl⟩
  have HBx4 : Hid (Below w1.heap.size w1 x4) := below_put HBx3.out Lg8.out hx4
  have Tg8x4 : Hid (x4.there g8 0 32) := there_else Tg8x3.out hx4
  have Dg8x4 : Hid (DAt x4 g8 0 M) := dat_put Tg8x3.out lM hx4
  go_wp2_with (refine wpList_storeD (by rfl) (.tmp 8) (.tmp 22) (by rfl) g8 M (by rfl) (by rfl) lM Tg8x3.out x4 hx4 ?_)
  clear Dg8x3 Tg8x3 hx4 
  refine (HRT.out x4 HBx4.out).mono ?_
  rintro r x5 ⟨rfl, hbx5⟩
  have HBx5 : Hid (Below w1.heap.size w1 x5) := HBx4.out.trans (hbx5.mono HBx4.out.size)
  have Dg8x5 : Hid (DAt x5 g8 0 M) := dat_b Dg8x4.out lM hbx5
  have Tg8x5 : Hid (x5.there g8 0 32) := there_b Tg8x4.out hbx5
  clear hbx5 Dg8x4 Tg8x4
  obtain ⟨g9, hg9⟩ : ∃ g9, x5.heap.size = g9 := ⟨_, rfl⟩
  obtain ⟨x6, hx6⟩ : ∃ x6, x5.alloc (.cells (cellsB zD).toArray 24) = x6 := ⟨_, rfl⟩
  have qx6 := new_var hg9 hx6
  have HBx6 : Hid (Below w1.heap.size w1 x6) := HBx5.out.trans (qx6.2.2.mono HBx5.out.size)
  have Lg9 : Hid (w1.heap.size ≤ g9) := by rw [← hg9]; exact HBx5.out.size
  have Ng8g9 : Hid (g8 ≠ g9) := by have := dat_size Dg8x5.out lM; unfold Hid; omega
  have Dg8x6 : Hid (DAt x6 g8 0 M) := dat_b Dg8x5.out lM qx6.2.2
  have Tg8x6 : Hid (x6.there g8 0 32) := there_b Tg8x5.out qx6.2.2
  have Dg9x6 : Hid (DAt x6 g9 0 zD) := qx6.2.1
  have Tg9x6 : Hid (x6.there g9 0 32) := qx6.1
  clear qx6
  obtain ⟨x7, hx7⟩ : ∃ x7, x6.setCells g9 0 (cellsB M) = x7 := ⟨_, rfl⟩
  have HBx7 : Hid (Below w1.heap.size w1 x7) := below_put HBx6.out Lg9.out hx7
  have Dg8x7 : Hid (DAt x7 g8 0 M) := dat_else Dg8x6.out Ng8g9.out hx7
  have Tg8x7 : Hid (x7.there g8 0 32) := there_else Tg8x6.out hx7
  have Tg9x7 : Hid (x7.there g9 0 32) := there_else Tg9x6.out hx7
  have Dg9x7 : Hid (DAt x7 g9 0 M) := dat_put Tg9x6.out lM hx7
  go_wp2_with (first
    | (refine wpList_allocD (by rfl) (by rfl) g9 hg9 x6 hx6 ?_)
    | (refine wpList_storeD (by rfl) (.tmp 9) (.tmp 26) (by rfl) g9 M (by rfl) (by rfl) lM Tg9x6.out x7 hx7 ?_))
  clear Dg8x5 Tg8x5 hg9 hx6 Dg8x6 Dg9x6 Tg8x6 Tg9x6 hx7 
  refine (error_nil 0 x7).mono ?_
  rintro r x8 ⟨rfl, hbx8⟩
  have HBx8 : Hid (Below w1.heap.size w1 x8) := HBx7.out.trans (hbx8.mono HBx7.out.size)
  have Dg8x8 : Hid (DAt x8 g8 0 M) := dat_b Dg8x7.out lM hbx8
  have Dg9x8 : Hid (DAt x8 g9 0 M) := dat_b Dg9x7.out lM hbx8
  have Tg8x8 : Hid (x8.there g8 0 32) := there_b Tg8x7.out hbx8
  have Tg9x8 : Hid (x8.there g9 0 32) := there_b Tg9x7.out hbx8
  clear hbx8 Dg8x7 Dg9x7 Tg8x7 Tg9x7
  rw [show decide ((0 : Int) = 0) = true from rfl]
  go_wp2_with (first
    | (refine wpList_loadDG (by rfl) (.tmp 9) (by rfl) g9 M (by rfl) lM Dg9x8.out ?_)
    | (refine wpList_loadDG (by rfl) (.tmp 8) (by rfl) g8 M (by rfl) lM Dg8x8.out ?_)
    | (refine wpList_neqD (.tmp 34) (.tmp 35) (by rfl) (by rfl) M M lM lM (by rfl) (by rfl) false (by simp) ?_))
  refine (HIK.out x8).mono ?_
  rintro r x9 ⟨rfl, hq⟩
  have hq' : x8 = x9 := hq.symm
  subst hq'
  go_wp2_with fail
  refine (HMP.out x8 HBx8.out).mono ?_
  rintro r x10 ⟨⟨a7, c7, rfl, r7⟩, hbx10⟩
  have HBx10 : Hid (Below w1.heap.size w1 x10) := HBx8.out.trans (hbx10.mono HBx8.out.size)
  have Dg8x10 : Hid (DAt x10 g8 0 M) := dat_b Dg8x8.out lM hbx10
  have Dg9x10 : Hid (DAt x10 g9 0 M) := dat_b Dg9x8.out lM hbx10
  have Tg8x10 : Hid (x10.there g8 0 32) := there_b Tg8x8.out hbx10
  have Tg9x10 : Hid (x10.there g9 0 32) := there_b Tg9x8.out hbx10
  have R7x10 : Hid (DRow x10 a7 32 PT) := r7
  clear r7
  clear hbx10 Dg8x8 Dg9x8 Tg8x8 Tg9x8
  go_wp2_with fail
  refine (HPT.out x10 HBx10.out).mono ?_
  rintro r x11 ⟨⟨a9, c9, rfl, hc9, r9⟩, hbx11⟩
  have HBx11 : Hid (Below w1.heap.size w1 x11) := HBx10.out.trans (hbx11.mono HBx10.out.size)
  have Dg8x11 : Hid (DAt x11 g8 0 M) := dat_b Dg8x10.out lM hbx11
  have Dg9x11 : Hid (DAt x11 g9 0 M) := dat_b Dg9x10.out lM hbx11
  have Tg8x11 : Hid (x11.there g8 0 32) := there_b Tg8x10.out hbx11
  have Tg9x11 : Hid (x11.there g9 0 32) := there_b Tg9x10.out hbx11
  have R7x11 : Hid (DRow x11 a7 32 PT) := R7x10.out.below hbx11
  have R9x11 : Hid (DRow x11 a9 32 PT) := r9
  clear r9 R7x10
  clear hbx11 Dg8x10 Dg9x10 Tg8x10 Tg9x10
  go_wp2_with fail
  refine (error_nil 0 x11).mono ?_
  rintro r x12 ⟨rfl, hbx12⟩
  have HBx12 : Hid (Below w1.heap.size w1 x12) := HBx11.out.trans (hbx12.mono HBx11.out.size)
  have Dg8x12 : Hid (DAt x12 g8 0 M) := dat_b Dg8x11.out lM hbx12
  have Dg9x12 : Hid (DAt x12 g9 0 M) := dat_b Dg9x11.out lM hbx12
  have Tg8x12 : Hid (x12.there g8 0 32) := there_b Tg8x11.out hbx12
  have Tg9x12 : Hid (x12.there g9 0 32) := there_b Tg9x11.out hbx12
  have R7x12 : Hid (DRow x12 a7 32 PT) := R7x11.out.below hbx12
  have R9x12 : Hid (DRow x12 a9 32 PT) := R9x11.out.below hbx12
  clear R7x11 R9x11
  clear hbx12 Dg8x11 Dg9x11 Tg8x11 Tg9x11
  rw [show decide ((0 : Int) = 0) = true from rfl]
  go_wp2_with fail
  refine (sdigests_any a9 a7 32 32 c9 c7 PT PT x12 R9x12.out R7x12.out (by omega)).mono ?_
  rintro r x13 ⟨rfl, hbx13⟩
  have HBx13 : Hid (Below w1.heap.size w1 x13) := HBx12.out.trans (hbx13.mono HBx12.out.size)
  have Dg8x13 : Hid (DAt x13 g8 0 M) := dat_b Dg8x12.out lM hbx13
  have Dg9x13 : Hid (DAt x13 g9 0 M) := dat_b Dg9x12.out lM hbx13
  have Tg8x13 : Hid (x13.there g8 0 32) := there_b Tg8x12.out hbx13
  have Tg9x13 : Hid (x13.there g9 0 32) := there_b Tg9x12.out hbx13
  clear hbx13 Dg8x12 Dg9x12 Tg8x12 Tg9x12
  rw [show decide (PT = PT) = true from decide_eq_true rfl]
  obtain ⟨g15, hg15⟩ : ∃ g15, x13.heap.size = g15 := ⟨_, rfl⟩
  obtain ⟨x14, hx14⟩ : ∃ x14, x13.alloc (.cells (cellsB zD).toArray 24) = x14 := ⟨_, rfl⟩
  have qx14 := new_var hg15 hx14
  have HBx14 : Hid (Below w1.heap.size w1 x14) := HBx13.out.trans (qx14.2.2.mono HBx13.out.size)
  have Lg15 : Hid (w1.heap.size ≤ g15) := by rw [← hg15]; exact HBx13.out.size
  have Ng8g15 : Hid (g8 ≠ g15) := by have := dat_size Dg8x13.out lM; unfold Hid; omega
  have Dg8x14 : Hid (DAt x14 g8 0 M) := dat_b Dg8x13.out lM qx14.2.2
  have Ng9g15 : Hid (g9 ≠ g15) := by have := dat_size Dg9x13.out lM; unfold Hid; omega
  have Dg9x14 : Hid (DAt x14 g9 0 M) := dat_b Dg9x13.out lM qx14.2.2
  have Tg8x14 : Hid (x14.there g8 0 32) := there_b Tg8x13.out qx14.2.2
  have Tg9x14 : Hid (x14.there g9 0 32) := there_b Tg9x13.out qx14.2.2
  have Dg15x14 : Hid (DAt x14 g15 0 zD) := qx14.2.1
  have Tg15x14 : Hid (x14.there g15 0 32) := qx14.1
  clear qx14
  have k0 : x14.cell? ⟨w.heap.size, 0, none⟩ = some (.int .i64 e1) := by have h := (HALL.out _ HBx14.out).2.2.2.1 0 _ rfl; rw [HE1.out] at h; exact h
  go_wp2_with (refine wpList_allocD (by rfl) (by rfl) g15 hg15 x14 hx14 ?_)
  clear Dg8x13 Dg9x13 Tg8x13 Tg9x13 hg15 hx14 
  clear k0
  refine (HIE.out x14).mono ?_
  rintro r x15 ⟨rfl, hq⟩
  have hq' : x14 = x15 := hq.symm
  subst hq'
  go_wp2_with (refine wpList_load_mid (by rfl) 26 (.tmp 5) (by rfl) w.heap.size 0 (by rfl) (entC e) _ (HALL.out _ HBx14.out).2.2.2.1 Tryd.underlying26 (by rfl) (by rw [entC_length HOK.out]; exact Tryd.sizeEn) ?_)
  refine (HEL.out x14).mono ?_
  rintro r x16 ⟨rfl, hbx16⟩
  have HBx16 : Hid (Below w1.heap.size w1 x16) := HBx14.out.trans (hbx16.mono HBx14.out.size)
  have Dg8x16 : Hid (DAt x16 g8 0 M) := dat_b Dg8x14.out lM hbx16
  have Dg9x16 : Hid (DAt x16 g9 0 M) := dat_b Dg9x14.out lM hbx16
  have Dg15x16 : Hid (DAt x16 g15 0 zD) := dat_b Dg15x14.out rfl hbx16
  have Tg8x16 : Hid (x16.there g8 0 32) := there_b Tg8x14.out hbx16
  have Tg9x16 : Hid (x16.there g9 0 32) := there_b Tg9x14.out hbx16
  have Tg15x16 : Hid (x16.there g15 0 32) := there_b Tg15x14.out hbx16
  clear hbx16 Dg8x14 Dg9x14 Dg15x14 Tg8x14 Tg9x14 Tg15x14
  obtain ⟨x17, hx17⟩ : ∃ x17, x16.setCells g15 0 (cellsB L) = x17 := ⟨_, rfl⟩
  have HBx17 : Hid (Below w1.heap.size w1 x17) := below_put HBx16.out Lg15.out hx17
  have Dg8x17 : Hid (DAt x17 g8 0 M) := dat_else Dg8x16.out Ng8g15.out hx17
  have Dg9x17 : Hid (DAt x17 g9 0 M) := dat_else Dg9x16.out Ng9g15.out hx17
  have Tg8x17 : Hid (x17.there g8 0 32) := there_else Tg8x16.out hx17
  have Tg9x17 : Hid (x17.there g9 0 32) := there_else Tg9x16.out hx17
  have Tg15x17 : Hid (x17.there g15 0 32) := there_else Tg15x16.out hx17
  have Dg15x17 : Hid (DAt x17 g15 0 L) := dat_put Tg15x16.out lL hx17
  go_wp2_with (first
    | (refine wpList_storeD (by rfl) (.tmp 15) (.tmp 72) (by rfl) g15 L (by rfl) (by rfl) lL Tg15x16.out x17 hx17 ?_)
    | (refine wpList_load_mid (by rfl) 26 (.tmp 5) (by rfl) w.heap.size 0 (by rfl) (entC e) _ (HALL.out _ HBx17.out).2.2.2.1 Tryd.underlying26 (by rfl) (by rw [entC_length HOK.out]; exact Tryd.sizeEn) ?_))
  clear Dg8x16 Dg9x16 Dg15x16 Tg8x16 Tg9x16 Tg15x16 hx17 
  refine (HLF.out x17 (HALL.out _ HBx17.out).1).mono ?_
  rintro r x18 ⟨rfl, hbx18⟩
  have HBx18 : Hid (Below w1.heap.size w1 x18) := HBx17.out.trans (hbx18.mono HBx17.out.size)
  have Dg8x18 : Hid (DAt x18 g8 0 M) := dat_b Dg8x17.out lM hbx18
  have Dg9x18 : Hid (DAt x18 g9 0 M) := dat_b Dg9x17.out lM hbx18
  have Dg15x18 : Hid (DAt x18 g15 0 L) := dat_b Dg15x17.out lL hbx18
  have Tg8x18 : Hid (x18.there g8 0 32) := there_b Tg8x17.out hbx18
  have Tg9x18 : Hid (x18.there g9 0 32) := there_b Tg9x17.out hbx18
  have Tg15x18 : Hid (x18.there g15 0 32) := there_b Tg15x17.out hbx18
  clear hbx18 Dg8x17 Dg9x17 Dg15x17 Tg8x17 Tg9x17 Tg15x17
  obtain ⟨g16, hg16⟩ : ∃ g16, x18.heap.size = g16 := ⟨_, rfl⟩
  obtain ⟨x19, hx19⟩ : ∃ x19, x18.alloc (.cells (cellsB zD).toArray 24) = x19 := ⟨_, rfl⟩
  have qx19 := new_var hg16 hx19
  have HBx19 : Hid (Below w1.heap.size w1 x19) := HBx18.out.trans (qx19.2.2.mono HBx18.out.size)
  have Lg16 : Hid (w1.heap.size ≤ g16) := by rw [← hg16]; exact HBx18.out.size
  have Ng8g16 : Hid (g8 ≠ g16) := by have := dat_size Dg8x18.out lM; unfold Hid; omega
  have Dg8x19 : Hid (DAt x19 g8 0 M) := dat_b Dg8x18.out lM qx19.2.2
  have Ng9g16 : Hid (g9 ≠ g16) := by have := dat_size Dg9x18.out lM; unfold Hid; omega
  have Dg9x19 : Hid (DAt x19 g9 0 M) := dat_b Dg9x18.out lM qx19.2.2
  have Ng15g16 : Hid (g15 ≠ g16) := by have := dat_size Dg15x18.out lL; unfold Hid; omega
  have Dg15x19 : Hid (DAt x19 g15 0 L) := dat_b Dg15x18.out lL qx19.2.2
  have Tg8x19 : Hid (x19.there g8 0 32) := there_b Tg8x18.out qx19.2.2
  have Tg9x19 : Hid (x19.there g9 0 32) := there_b Tg9x18.out qx19.2.2
  have Tg15x19 : Hid (x19.there g15 0 32) := there_b Tg15x18.out qx19.2.2
  have Dg16x19 : Hid (DAt x19 g16 0 zD) := qx19.2.1
  have Tg16x19 : Hid (x19.there g16 0 32) := qx19.1
  clear qx19
  obtain ⟨x20, hx20⟩ : ∃ x20, x19.setCells g16 0 (cellsB L) = x20 := ⟨_, rfl⟩
  have HBx20 : Hid (Below w1.heap.size w1 x20) := below_put HBx19.out Lg16.out hx20
  have Dg8x20 : Hid (DAt x20 g8 0 M) := dat_else Dg8x19.out Ng8g16.out hx20
  have Dg9x20 : Hid (DAt x20 g9 0 M) := dat_else Dg9x19.out Ng9g16.out hx20
  have Dg15x20 : Hid (DAt x20 g15 0 L) := dat_else Dg15x19.out Ng15g16.out hx20
  have Tg8x20 : Hid (x20.there g8 0 32) := there_else Tg8x19.out hx20
  have Tg9x20 : Hid (x20.there g9 0 32) := there_else Tg9x19.out hx20
  have Tg15x20 : Hid (x20.there g15 0 32) := there_else Tg15x19.out hx20
  have Tg16x20 : Hid (x20.there g16 0 32) := there_else Tg16x19.out hx20
  have Dg16x20 : Hid (DAt x20 g16 0 L) := dat_put Tg16x19.out lL hx20
  go_wp2_with (first
    | (refine wpList_allocD (by rfl) (by rfl) g16 hg16 x19 hx19 ?_)
    | (refine wpList_storeD (by rfl) (.tmp 16) (.tmp 76) (by rfl) g16 L (by rfl) (by rfl) lL Tg16x19.out x20 hx20 ?_))
  clear Dg8x18 Dg9x18 Dg15x18 Tg8x18 Tg9x18 Tg15x18 hg16 hx19 Dg8x19 Dg9x19 Dg15x19 Dg16x19 Tg8x19 Tg9x19 Tg15x19 Tg16x19 hx20 
  refine (error_nil 0 x20).mono ?_
  rintro r x21 ⟨rfl, hbx21⟩
  have HBx21 : Hid (Below w1.heap.size w1 x21) := HBx20.out.trans (hbx21.mono HBx20.out.size)
  have Dg8x21 : Hid (DAt x21 g8 0 M) := dat_b Dg8x20.out lM hbx21
  have Dg9x21 : Hid (DAt x21 g9 0 M) := dat_b Dg9x20.out lM hbx21
  have Dg15x21 : Hid (DAt x21 g15 0 L) := dat_b Dg15x20.out lL hbx21
  have Dg16x21 : Hid (DAt x21 g16 0 L) := dat_b Dg16x20.out lL hbx21
  have Tg8x21 : Hid (x21.there g8 0 32) := there_b Tg8x20.out hbx21
  have Tg9x21 : Hid (x21.there g9 0 32) := there_b Tg9x20.out hbx21
  have Tg15x21 : Hid (x21.there g15 0 32) := there_b Tg15x20.out hbx21
  have Tg16x21 : Hid (x21.there g16 0 32) := there_b Tg16x20.out hbx21
  clear hbx21 Dg8x20 Dg9x20 Dg15x20 Dg16x20 Tg8x20 Tg9x20 Tg15x20 Tg16x20
  rw [show decide ((0 : Int) = 0) = true from rfl]
  go_upto_region 26 with fail
  try simp only [Act.put, List.setIfInBounds_toArray, List.set_cons_zero, List.set_cons_succ]
  have HKK : Hid (∀ wx, Below x21.heap.size x21 wx → (wx.rangeAt g16 0 (cellsB L) ∧ wx.rangeAt g15 0 (cellsB L) ∧ wx.rangeAt g8 0 (cellsB M)) ∧ Env wx ∧ Below w.heap.size w wx) := fun wx hx => by
    have q := HALL.out wx (HBx21.out.trans (hx.mono HBx21.out.size))
    exact ⟨⟨dat_b Dg16x21.out lL hx, dat_b Dg15x21.out lL hx, dat_b Dg8x21.out lM hx⟩, q.1, q.2.2.2.2⟩
  refine wp_region_noPanic ?_
  refine wp_region_held_drew (S := fun wx => wx.rangeAt g16 0 (cellsB L) ∧ wx.rangeAt g15 0 (cellsB L) ∧ wx.rangeAt g8 0 (cellsB M)) (by kernel_rfl) (HKK.out _ (below_drewN x21 1)).1 (fun hHeld => ?_)
  try simp only [Act.put, List.setIfInBounds_toArray, List.set_cons_zero, List.set_cons_succ]
  have HBd : Hid (Below x21.heap.size x21 x21.drew) := below_drewN x21 1
  generalize x21.drew = wd at *
  refine wpAnyH_take (i := 0) (v := ?_) (by simp only [List.getElem?_toArray, List.getElem?_cons_zero, List.getElem?_cons_succ]; rfl) (by kernel_rfl) (by kernel_rfl) (by kernel_rfl) (fun _ _ _ h => h) (Or.inl ⟨by rfl, ?_⟩) hHeld ?_
  rotate_left
  · intro w hSw
    obtain ⟨hSw0, hSw1, hSw2⟩ := hSw
    go_simp
    try with_reducible rfl
  try simp only [Act.put, List.setIfInBounds_toArray, List.set_cons_zero, List.set_cons_succ]
  refine wpAnyH_take (i := 1) (v := ?_) (by simp only [List.getElem?_toArray, List.getElem?_cons_zero, List.getElem?_cons_succ]; rfl) (by kernel_rfl) (by kernel_rfl) (by kernel_rfl) (fun _ _ _ h => h) (Or.inl ⟨by rfl, ?_⟩) hHeld ?_
  rotate_left
  · intro w hSw
    obtain ⟨hSw0, hSw1, hSw2⟩ := hSw
    go_simp
    try with_reducible rfl
  try simp only [Act.put, List.setIfInBounds_toArray, List.set_cons_zero, List.set_cons_succ]
  refine wpAnyH_take (i := 2) (v := .agg (cellsB L).toArray) (by simp only [List.getElem?_toArray, List.getElem?_cons_zero, List.getElem?_cons_succ]; rfl) (by kernel_rfl) (by kernel_rfl) (by kernel_rfl) (fun _ _ _ h => h)
    (yieldsIf_load_mid (by rfl) _ _ rfl _ _ rfl _ _ (fun w hw => hw.1) Tryd.underlying24 rfl (by rw [cellsB_length, lL]; exact Tryd.sizeDg)) hHeld ?_
  try simp only [Act.put, List.setIfInBounds_toArray, List.set_cons_zero, List.set_cons_succ]
  refine wpAnyH_take (i := 3) (v := .agg (cellsB L).toArray) (by simp only [List.getElem?_toArray, List.getElem?_cons_zero, List.getElem?_cons_succ]; rfl) (by kernel_rfl) (by kernel_rfl) (by kernel_rfl) (fun _ _ _ h => h)
    (yieldsIf_load_mid (by rfl) _ _ rfl _ _ rfl _ _ (fun w hw => hw.2.1) Tryd.underlying24 rfl (by rw [cellsB_length, lL]; exact Tryd.sizeDg)) hHeld ?_
  try simp only [Act.put, List.setIfInBounds_toArray, List.set_cons_zero, List.set_cons_succ]
  refine wpAnyH_take (i := 4) (v := .bool true) (by simp only [List.getElem?_toArray, List.getElem?_cons_zero, List.getElem?_cons_succ]; rfl) (by kernel_rfl) (by kernel_rfl) (by kernel_rfl) (fun _ _ _ h => h)
    (yieldsIf_eqD (by rfl) _ _ rfl L L lL lL rfl rfl true (decide_eq_true rfl)) hHeld ?_
  try simp only [Act.put, List.setIfInBounds_toArray, List.set_cons_zero, List.set_cons_succ]
  refine wpAnyH_take (i := 5) (v := ?_) (by simp only [List.getElem?_toArray, List.getElem?_cons_zero, List.getElem?_cons_succ]; rfl) (by kernel_rfl) (by kernel_rfl) (by kernel_rfl) (fun _ _ _ h => h) (Or.inl ⟨by rfl, ?_⟩) hHeld ?_
  rotate_left
  · intro w hSw
    obtain ⟨hSw0, hSw1, hSw2⟩ := hSw
    go_simp
    try with_reducible rfl
  try simp only [Act.put, List.setIfInBounds_toArray, List.set_cons_zero, List.set_cons_succ]
  refine wpAnyH_take (i := 6) (v := ?_) (by simp only [List.getElem?_toArray, List.getElem?_cons_zero, List.getElem?_cons_succ]; rfl) (by kernel_rfl) (by kernel_rfl) (by kernel_rfl) (fun _ _ _ h => h) (Or.inl ⟨by rfl, ?_⟩) hHeld ?_
  rotate_left
  · intro w hSw
    obtain ⟨hSw0, hSw1, hSw2⟩ := hSw
    go_simp
    try with_reducible rfl
  try simp only [Act.put, List.setIfInBounds_toArray, List.set_cons_zero, List.set_cons_succ]
  refine wpAnyH_take (i := 7) (v := .agg (cellsB L).toArray) (by simp only [List.getElem?_toArray, List.getElem?_cons_zero, List.getElem?_cons_succ]; rfl) (by kernel_rfl) (by kernel_rfl) (by kernel_rfl) (fun _ _ _ h => h)
    (yieldsIf_load_mid (by rfl) _ _ rfl _ _ rfl _ _ (fun w hw => hw.1) Tryd.underlying24 rfl (by rw [cellsB_length, lL]; exact Tryd.sizeDg)) hHeld ?_
  try simp only [Act.put, List.setIfInBounds_toArray, List.set_cons_zero, List.set_cons_succ]
  refine wpAnyH_take (i := 8) (v := .agg (cellsB M).toArray) (by simp only [List.getElem?_toArray, List.getElem?_cons_zero, List.getElem?_cons_succ]; rfl) (by kernel_rfl) (by kernel_rfl) (by kernel_rfl) (fun _ _ _ h => h)
    (yieldsIf_load_mid (by rfl) _ _ rfl _ _ rfl _ _ (fun w hw => hw.2.2) Tryd.underlying24 rfl (by rw [cellsB_length, lM]; exact Tryd.sizeDg)) hHeld ?_
  try simp only [Act.put, List.setIfInBounds_toArray, List.set_cons_zero, List.set_cons_succ]
  refine wpAnyH_take (i := 10) (v := .agg (cellsB L).toArray) (by simp only [List.getElem?_toArray, List.getElem?_cons_zero, List.getElem?_cons_succ]; rfl) (by kernel_rfl) (by kernel_rfl) (by kernel_rfl) (fun _ _ _ h => h)
    (yieldsIf_load_mid (by rfl) _ _ rfl _ _ rfl _ _ (fun w hw => hw.2.1) Tryd.underlying24 rfl (by rw [cellsB_length, lL]; exact Tryd.sizeDg)) hHeld ?_
  try simp only [Act.put, List.setIfInBounds_toArray, List.set_cons_zero, List.set_cons_succ]
  refine wpAnyH_take (i := 11) (v := .agg (cellsB M).toArray) (by simp only [List.getElem?_toArray, List.getElem?_cons_zero, List.getElem?_cons_succ]; rfl) (by kernel_rfl) (by kernel_rfl) (by kernel_rfl) (fun _ _ _ h => h)
    (yieldsIf_load_mid (by rfl) _ _ rfl _ _ rfl _ _ (fun w hw => hw.2.2) Tryd.underlying24 rfl (by rw [cellsB_length, lM]; exact Tryd.sizeDg)) hHeld ?_
  try simp only [Act.put, List.setIfInBounds_toArray, List.set_cons_zero, List.set_cons_succ]
  refine wpAnyH_ready (rs := [9]) (by kernel_rfl) (by simp) ?_
  refine AllReadyH.cons (by simp only [List.getElem?_toArray, List.getElem?_cons_zero, List.getElem?_cons_succ]; rfl) (fun K hK => ?_) AllReadyH.nil
  rw [if_pos (by rfl)]
  go_simp
  refine (HNL.out wd (HKK.out _ HBd.out).2.1).mono ?_
  rintro e wn ⟨rfl, hbn⟩
  have HBn : Hid (Below x21.heap.size x21 wn) := HBd.out.trans (hbn.mono HBd.out.size)
  clear hbn HBd
  go_wp2_with fail
  refine hK.out _ _ (HKK.out _ HBn.out).1 (fun hHeld => ?_)
  clear hK K
  try simp only [Act.put, List.setIfInBounds_toArray, List.set_cons_zero, List.set_cons_succ]
  refine wpAnyH_ready (rs := [12]) (by kernel_rfl) (by simp) ?_
  refine AllReadyH.cons (by simp only [List.getElem?_toArray, List.getElem?_cons_zero, List.getElem?_cons_succ]; rfl) (fun K hK => ?_) AllReadyH.nil
  rw [if_pos (by rfl)]
  go_simp
  refine (HMN.out wn).mono ?_
  rintro e wo ⟨rfl, hbo⟩
  have HBo : Hid (Below x21.heap.size x21 wo) := HBn.out.trans (hbo.mono HBn.out.size)
  clear hbo HBn
  go_wp2_with fail
  refine hK.out _ _ (HKK.out _ HBo.out).1 (fun hHeld => ?_)
  clear hK K
  try simp only [Act.put, List.setIfInBounds_toArray, List.set_cons_zero, List.set_cons_succ]
  refine wpAnyH_take (i := 13) (v := .bool true) (by simp only [List.getElem?_toArray, List.getElem?_cons_zero, List.getElem?_cons_succ]; rfl) (by kernel_rfl) (by kernel_rfl) (by kernel_rfl) (fun _ _ _ h => h)
    (yieldsIf_eqD (by rfl) _ _ rfl N N lN lN rfl rfl true (decide_eq_true rfl)) hHeld ?_
  try simp only [Act.put, List.setIfInBounds_toArray, List.set_cons_zero, List.set_cons_succ]
  refine wpAnyH_take (i := 14) (v := ?_) (by simp only [List.getElem?_toArray, List.getElem?_cons_zero, List.getElem?_cons_succ]; rfl) (by kernel_rfl) (by kernel_rfl) (by kernel_rfl) (fun _ _ _ h => h) (Or.inl ⟨by rfl, ?_⟩) hHeld ?_
  rotate_left
  · intro w hSw
    obtain ⟨hSw0, hSw1, hSw2⟩ := hSw
    go_simp
    try with_reducible rfl
  try simp only [Act.put, List.setIfInBounds_toArray, List.set_cons_zero, List.set_cons_succ]
  refine wpAnyH_take (i := 15) (v := ?_) (by simp only [List.getElem?_toArray, List.getElem?_cons_zero, List.getElem?_cons_succ]; rfl) (by kernel_rfl) (by kernel_rfl) (by kernel_rfl) (fun _ _ _ h => h) (Or.inl ⟨by rfl, ?_⟩) hHeld ?_
  rotate_left
  · intro w hSw
    obtain ⟨hSw0, hSw1, hSw2⟩ := hSw
    go_simp
    try with_reducible rfl
  try simp only [Act.put, List.setIfInBounds_toArray, List.set_cons_zero, List.set_cons_succ]
  refine wpAnyH_done (by kernel_rfl) (NoPanic.normal ?_) _
  have HW : Hid (Below w.heap.size w wo) := (HKK.out _ HBo.out).2.2
  clear hHeld HKK HBo
  go_wp2_with fail
  go_ret
  exact ⟨rfl, HW.out⟩
set_option maxRecDepth 100000 in
set_option maxHeartbeats 2000000 in
theorem iroots_oknot (a : Option Addr) (n c : Nat) (es : List Ent) (k : Int) (e : Ent) (w : World) (G : Env w) (HH : Handle w) (R : ERow w a n es) (hc : n ≤ c) (hn : 40 * n ≤ 140737488351232) (k1 : -9223372036854775808 ≤ k) (k2 : k ≤ 9223372036854775807) (he : okE e) (hf : faultE es = 0) (hk : isKey k = true) (hk2 : isKey e.1 = false) :
    Calls Tryd.prog 3 #[.slice a n c, .int .i64 k, entV e] w fun r w' => r = .returned (.bool true) ∧ Below w.heap.size w w' := by
  obtain ⟨w1, hw1⟩ : ∃ w1, w.alloc (.cells (entC e).toArray 26) = w1 := ⟨_, rfl⟩
  have HALL : Hid (∀ wx, Below w1.heap.size w1 wx → Env wx ∧ Handle wx ∧ ERow wx a n es ∧ wx.rangeAt w.heap.size 0 (entC e) ∧ Below w.heap.size w wx) := fun wx hx => by
    have b1 : Below w.heap.size w w1 := by rw [← hw1]; exact (Below.refl _ _).alloc (Nat.le_refl _) _
    have b : Below w.heap.size w wx := b1.trans (hx.mono b1.size)
    have hr : w1.rangeAt w.heap.size 0 (entC e) := by rw [← hw1]; exact box_range w (entC e) _
    exact ⟨G.below b, HH.below b, R.below b, ent_below hr hx (ent_block hr), b⟩
  have HBw1 : Hid (Below w1.heap.size w1 w1) := Below.refl _ _
  have HOK : Hid (okE e) := he
  have b1 := he.2.1
  have b2 := he.2.2
  clear G HH R he
  have lZD : zD.length = 32 := rfl
  have lM : (mapL (gE es) 0 32).length = 32 := mapL_length (gE_length es) 32 0
  have hn64 : n ≤ 64 := by have := (faultE_ok hf).1; rw [(HALL.out w1 HBw1.out).2.2.1.1] at this; exact this
  have HMR : Hid (∀ wx, Below w1.heap.size w1 wx → Calls Tryd.prog 10 #[.slice a n c, .int .i64 0, .int .i64 4294967296] wx fun r w' => r = .returned (digestV (mapL (gE es) 0 32)) ∧ Below wx.heap.size wx w') := fun wx hx => rmaproot_any 32 a n c es 0 wx (HALL.out wx hx).2.2.1 hc (by omega) (by decide)
  have HRT : Hid (∀ wx, Below w1.heap.size w1 wx → Calls Tryd.prog 11 #[.slice a n c] wx fun r w' => r = .returned (.tuple #[digestV (mapL (gE es) 0 32), .nilIface]) ∧ Below wx.heap.size wx w') := fun wx hx => wtrie_root a n c es wx (HALL.out wx hx).1 (HALL.out wx hx).2.2.1 hc hn hf
  have HMF : Hid (∀ wx, Below w1.heap.size w1 wx → Calls Tryd.prog 9 #[.slice a n c] wx fun r w' => r = .returned (.int .i64 0) ∧ Below wx.heap.size wx w') := fun wx hx => by
    have := rmapfault_any a n c es wx (HALL.out wx hx).2.2.1 hc (by omega)
    rw [hf] at this
    exact this
  have hkb := of_decide_eq_true hk
  obtain ⟨j, rfl⟩ : ∃ j : Nat, k = (j : Int) := ⟨k.toNat, by omega⟩
  have HMP : Hid (∀ wx, Below w1.heap.size w1 wx → Calls Tryd.prog 14 #[.slice a n c, .int .i64 (j : Int)] wx fun r w' => (∃ a' c', r = .returned (.slice a' 32 c') ∧ DRow w' a' 32 (pathM (gE es) j 32)) ∧ Below wx.heap.size wx w') := fun wx hx => by
    refine (rmappath_any a n c es j wx (HALL.out wx hx).2.2.1 hc (by omega) (by omega)).mono ?_
    rintro r w' ⟨⟨v, rfl, hv⟩, hb⟩
    obtain ⟨a', c', rfl, R', _⟩ := hv.form
    rw [pathM_length] at R' ⊢
    exact ⟨⟨a', c', rfl, R'⟩, hb⟩
  have HPT : Hid (∀ wx, Below w1.heap.size w1 wx → Calls Tryd.prog 15 #[.slice a n c, .int .i64 (j : Int)] wx fun r w' => (∃ a' c', r = .returned (.tuple #[.slice a' 32 c', .nilIface]) ∧ 32 ≤ c' ∧ DRow w' a' 32 (pathM (gE es) j 32)) ∧ Below wx.heap.size wx w') := fun wx hx => wtrie_path a n c es j wx (HALL.out wx hx).1 (HALL.out wx hx).2.2.1 hc hn hf (by omega)
  have HIK : Hid (∀ wx : World, Calls Tryd.prog 13 #[.int .i64 (j : Int)] wx fun e w' => e = .returned (.bool true) ∧ w' = wx) := fun wx => by
    have := riskey_any (j : Int) wx (by omega) (by omega)
    rw [hk] at this
    exact this
  clear hkb hk
  generalize pathM (gE es) j 32 = PT at *
  clear hf
  generalize mapL (gE es) 0 32 = M at *
  have HLF : Hid (∀ wx, Env wx → Calls Tryd.prog 18 #[entV e] wx fun r w' => r = .returned (.tuple #[digestV zD, .iface 27 (.int .i64 2)]) ∧ Below wx.heap.size wx w') := fun wx hx => wtrie_leafout e wx hx HOK.out hk2
  have HIE : Hid (∀ wx : World, Calls Tryd.prog 13 #[.int .i64 e.1] wx fun e w' => e = .returned (.bool false) ∧ w' = wx) := fun wx => by
    have := riskey_any e.1 wx b1 b2
    rw [hk2] at this
    exact this
  have HNL : Hid (∀ wx, Env wx → Calls Tryd.prog 19 #[digestV zD, digestV M] wx fun q w' => q = .returned (digestV (mnode zD M)) ∧ Below wx.heap.size wx w') := fun wx hx => wtrie_node zD M wx hx lZD lM
  have HMN : Hid (∀ wx : World, Calls Tryd.prog 20 #[digestV zD, digestV M] wx fun q w' => q = .returned (digestV (mnode zD M)) ∧ Below wx.heap.size wx w') := fun wx => rmapnode_any zD M wx lZD lM
  have lN := mnode_length zD M
  generalize mnode zD M = N at *
  clear hk2
  obtain ⟨e1, he1⟩ : ∃ e1, e.1 = e1 := ⟨_, rfl⟩
  have HE1 : Hid (e.1 = e1) := he1
  rw [he1] at b1 b2 HIE
  clear he1
  go_enter Tryd.func3, Tryd.ntmps3
  unfold entV
  go_wp2_with fail
  try rw [hw1]
  clear hw1
  refine (HMF.out w1 HBw1.out).mono ?_
  rintro r x22 ⟨rfl, hbx22⟩
  have HBx22 : Hid (Below w1.heap.size w1 x22) := HBw1.out.trans (hbx22.mono HBw1.out.size)
  clear hbx22
  obtain ⟨g8, hg8⟩ : ∃ g8, x22.heap.size = g8 := ⟨_, rfl⟩
  obtain ⟨x23, hx23⟩ : ∃ x23, x22.alloc (.cells (cellsB zD).toArray 24) = x23 := ⟨_, rfl⟩
  have qx23 := new_var hg8 hx23
  have HBx23 : Hid (Below w1.heap.size w1 x23) := HBx22.out.trans (qx23.2.2.mono HBx22.out.size)
  have Lg8 : Hid (w1.heap.size ≤ g8) := by rw [← hg8]; exact HBx22.out.size
  have Dg8x23 : Hid (DAt x23 g8 0 zD) := qx23.2.1
  have Tg8x23 : Hid (x23.there g8 0 32) := qx23.1
  clear qx23
  go_wp2_with (refine wpList_allocD (by rfl) (by rfl) g8 hg8 x23 hx23 ?_)
  clear hg8 hx23 
  refine (HMR.out x23 HBx23.out).mono ?_
  rintro r x24 ⟨rfl, hbx24⟩
  have HBx24 : Hid (Below w1.heap.size w1 x24) := HBx23.out.trans (hbx24.mono HBx23.out.size)
  have Dg8x24 : Hid (DAt x24 g8 0 zD) := dat_b Dg8x23.out rfl hbx24
  have Tg8x24 : Hid (x24.there g8 0 32) := there_b Tg8x23.out hbx24
  clear hbx24 Dg8x23 Tg8x23
  obtain ⟨x25, hx25⟩ : ∃ x25, x24.setCells g8 0 (cellsB M) = x25 := ⟨_, rfl⟩
  have HBx25 : Hid (Below w1.heap.size w1 x25) := below_put HBx24.out Lg8.out hx25
  have Tg8x25 : Hid (x25.there g8 0 32) := there_else Tg8x24.out hx25
  have Dg8x25 : Hid (DAt x25 g8 0 M) := dat_put Tg8x24.out lM hx25
  go_wp2_with (refine wpList_storeD (by rfl) (.tmp 8) (.tmp 22) (by rfl) g8 M (by rfl) (by rfl) lM Tg8x24.out x25 hx25 ?_)
  clear Dg8x24 Tg8x24 hx25 
  refine (HRT.out x25 HBx25.out).mono ?_
  rintro r x26 ⟨rfl, hbx26⟩
  have HBx26 : Hid (Below w1.heap.size w1 x26) := HBx25.out.trans (hbx26.mono HBx25.out.size)
  have Dg8x26 : Hid (DAt x26 g8 0 M) := dat_b Dg8x25.out lM hbx26
  have Tg8x26 : Hid (x26.there g8 0 32) := there_b Tg8x25.out hbx26
  clear hbx26 Dg8x25 Tg8x25
  obtain ⟨g9, hg9⟩ : ∃ g9, x26.heap.size = g9 := ⟨_, rfl⟩
  obtain ⟨x27, hx27⟩ : ∃ x27, x26.alloc (.cells (cellsB zD).toArray 24) = x27 := ⟨_, rfl⟩
  have qx27 := new_var hg9 hx27
  have HBx27 : Hid (Below w1.heap.size w1 x27) := HBx26.out.trans (qx27.2.2.mono HBx26.out.size)
  have Lg9 : Hid (w1.heap.size ≤ g9) := by rw [← hg9]; exact HBx26.out.size
  have Ng8g9 : Hid (g8 ≠ g9) := by have := dat_size Dg8x26.out lM; unfold Hid; omega
  have Dg8x27 : Hid (DAt x27 g8 0 M) := dat_b Dg8x26.out lM qx27.2.2
  have Tg8x27 : Hid (x27.there g8 0 32) := there_b Tg8x26.out qx27.2.2
  have Dg9x27 : Hid (DAt x27 g9 0 zD) := qx27.2.1
  have Tg9x27 : Hid (x27.there g9 0 32) := qx27.1
  clear qx27
  obtain ⟨x28, hx28⟩ : ∃ x28, x27.setCells g9 0 (cellsB M) = x28 := ⟨_, rfl⟩
  have HBx28 : Hid (Below w1.heap.size w1 x28) := below_put HBx27.out Lg9.out hx28
  have Dg8x28 : Hid (DAt x28 g8 0 M) := dat_else Dg8x27.out Ng8g9.out hx28
  have Tg8x28 : Hid (x28.there g8 0 32) := there_else Tg8x27.out hx28
  have Tg9x28 : Hid (x28.there g9 0 32) := there_else Tg9x27.out hx28
  have Dg9x28 : Hid (DAt x28 g9 0 M) := dat_put Tg9x27.out lM hx28
  go_wp2_with (first
    | (refine wpList_allocD (by rfl) (by rfl) g9 hg9 x27 hx27 ?_)
    | (refine wpList_storeD (by rfl) (.tmp 9) (.tmp 26) (by rfl) g9 M (by rfl) (by rfl) lM Tg9x27.out x28 hx28 ?_))
  clear Dg8x26 Tg8x26 hg9 hx27 Dg8x27 Dg9x27 Tg8x27 Tg9x27 hx28 
  refine (error_nil 0 x28).mono ?_
  rintro r x29 ⟨rfl, hbx29⟩
  have HBx29 : Hid (Below w1.heap.size w1 x29) := HBx28.out.trans (hbx29.mono HBx28.out.size)
  have Dg8x29 : Hid (DAt x29 g8 0 M) := dat_b Dg8x28.out lM hbx29
  have Dg9x29 : Hid (DAt x29 g9 0 M) := dat_b Dg9x28.out lM hbx29
  have Tg8x29 : Hid (x29.there g8 0 32) := there_b Tg8x28.out hbx29
  have Tg9x29 : Hid (x29.there g9 0 32) := there_b Tg9x28.out hbx29
  clear hbx29 Dg8x28 Dg9x28 Tg8x28 Tg9x28
  rw [show decide ((0 : Int) = 0) = true from rfl]
  go_wp2_with (first
    | (refine wpList_loadDG (by rfl) (.tmp 9) (by rfl) g9 M (by rfl) lM Dg9x29.out ?_)
    | (refine wpList_loadDG (by rfl) (.tmp 8) (by rfl) g8 M (by rfl) lM Dg8x29.out ?_)
    | (refine wpList_neqD (.tmp 34) (.tmp 35) (by rfl) (by rfl) M M lM lM (by rfl) (by rfl) false (by simp) ?_))
  refine (HIK.out x29).mono ?_
  rintro r x30 ⟨rfl, hq⟩
  have hq' : x29 = x30 := hq.symm
  subst hq'
  go_wp2_with fail
  refine (HMP.out x29 HBx29.out).mono ?_
  rintro r x31 ⟨⟨a7, c7, rfl, r7⟩, hbx31⟩
  have HBx31 : Hid (Below w1.heap.size w1 x31) := HBx29.out.trans (hbx31.mono HBx29.out.size)
  have Dg8x31 : Hid (DAt x31 g8 0 M) := dat_b Dg8x29.out lM hbx31
  have Dg9x31 : Hid (DAt x31 g9 0 M) := dat_b Dg9x29.out lM hbx31
  have Tg8x31 : Hid (x31.there g8 0 32) := there_b Tg8x29.out hbx31
  have Tg9x31 : Hid (x31.there g9 0 32) := there_b Tg9x29.out hbx31
  have R7x31 : Hid (DRow x31 a7 32 PT) := r7
  clear r7
  clear hbx31 Dg8x29 Dg9x29 Tg8x29 Tg9x29
  go_wp2_with fail
  refine (HPT.out x31 HBx31.out).mono ?_
  rintro r x32 ⟨⟨a9, c9, rfl, hc9, r9⟩, hbx32⟩
  have HBx32 : Hid (Below w1.heap.size w1 x32) := HBx31.out.trans (hbx32.mono HBx31.out.size)
  have Dg8x32 : Hid (DAt x32 g8 0 M) := dat_b Dg8x31.out lM hbx32
  have Dg9x32 : Hid (DAt x32 g9 0 M) := dat_b Dg9x31.out lM hbx32
  have Tg8x32 : Hid (x32.there g8 0 32) := there_b Tg8x31.out hbx32
  have Tg9x32 : Hid (x32.there g9 0 32) := there_b Tg9x31.out hbx32
  have R7x32 : Hid (DRow x32 a7 32 PT) := R7x31.out.below hbx32
  have R9x32 : Hid (DRow x32 a9 32 PT) := r9
  clear r9 R7x31
  clear hbx32 Dg8x31 Dg9x31 Tg8x31 Tg9x31
  go_wp2_with fail
  refine (error_nil 0 x32).mono ?_
  rintro r x33 ⟨rfl, hbx33⟩
  have HBx33 : Hid (Below w1.heap.size w1 x33) := HBx32.out.trans (hbx33.mono HBx32.out.size)
  have Dg8x33 : Hid (DAt x33 g8 0 M) := dat_b Dg8x32.out lM hbx33
  have Dg9x33 : Hid (DAt x33 g9 0 M) := dat_b Dg9x32.out lM hbx33
  have Tg8x33 : Hid (x33.there g8 0 32) := there_b Tg8x32.out hbx33
  have Tg9x33 : Hid (x33.there g9 0 32) := there_b Tg9x32.out hbx33
  have R7x33 : Hid (DRow x33 a7 32 PT) := R7x32.out.below hbx33
  have R9x33 : Hid (DRow x33 a9 32 PT) := R9x32.out.below hbx33
  clear R7x32 R9x32
  clear hbx33 Dg8x32 Dg9x32 Tg8x32 Tg9x32
  rw [show decide ((0 : Int) = 0) = true from rfl]
  go_wp2_with fail
  refine (sdigests_any a9 a7 32 32 c9 c7 PT PT x33 R9x33.out R7x33.out (by omega)).mono ?_
  rintro r x34 ⟨rfl, hbx34⟩
  have HBx34 : Hid (Below w1.heap.size w1 x34) := HBx33.out.trans (hbx34.mono HBx33.out.size)
  have Dg8x34 : Hid (DAt x34 g8 0 M) := dat_b Dg8x33.out lM hbx34
  have Dg9x34 : Hid (DAt x34 g9 0 M) := dat_b Dg9x33.out lM hbx34
  have Tg8x34 : Hid (x34.there g8 0 32) := there_b Tg8x33.out hbx34
  have Tg9x34 : Hid (x34.there g9 0 32) := there_b Tg9x33.out hbx34
  clear hbx34 Dg8x33 Dg9x33 Tg8x33 Tg9x33
  rw [show decide (PT = PT) = true from decide_eq_true rfl]
  obtain ⟨g15, hg15⟩ : ∃ g15, x34.heap.size = g15 := ⟨_, rfl⟩
  obtain ⟨x35, hx35⟩ : ∃ x35, x34.alloc (.cells (cellsB zD).toArray 24) = x35 := ⟨_, rfl⟩
  have qx35 := new_var hg15 hx35
  have HBx35 : Hid (Below w1.heap.size w1 x35) := HBx34.out.trans (qx35.2.2.mono HBx34.out.size)
  have Lg15 : Hid (w1.heap.size ≤ g15) := by rw [← hg15]; exact HBx34.out.size
  have Ng8g15 : Hid (g8 ≠ g15) := by have := dat_size Dg8x34.out lM; unfold Hid; omega
  have Dg8x35 : Hid (DAt x35 g8 0 M) := dat_b Dg8x34.out lM qx35.2.2
  have Ng9g15 : Hid (g9 ≠ g15) := by have := dat_size Dg9x34.out lM; unfold Hid; omega
  have Dg9x35 : Hid (DAt x35 g9 0 M) := dat_b Dg9x34.out lM qx35.2.2
  have Tg8x35 : Hid (x35.there g8 0 32) := there_b Tg8x34.out qx35.2.2
  have Tg9x35 : Hid (x35.there g9 0 32) := there_b Tg9x34.out qx35.2.2
  have Dg15x35 : Hid (DAt x35 g15 0 zD) := qx35.2.1
  have Tg15x35 : Hid (x35.there g15 0 32) := qx35.1
  clear qx35
  have k0 : x35.cell? ⟨w.heap.size, 0, none⟩ = some (.int .i64 e1) := by have h := (HALL.out _ HBx35.out).2.2.2.1 0 _ rfl; rw [HE1.out] at h; exact h
  go_wp2_with (refine wpList_allocD (by rfl) (by rfl) g15 hg15 x35 hx35 ?_)
  clear Dg8x34 Dg9x34 Tg8x34 Tg9x34 hg15 hx35 
  clear k0
  refine (HIE.out x35).mono ?_
  rintro r x36 ⟨rfl, hq⟩
  have hq' : x35 = x36 := hq.symm
  subst hq'
  go_wp2_with (refine wpList_load_mid (by rfl) 26 (.tmp 5) (by rfl) w.heap.size 0 (by rfl) (entC e) _ (HALL.out _ HBx35.out).2.2.2.1 Tryd.underlying26 (by rfl) (by rw [entC_length HOK.out]; exact Tryd.sizeEn) ?_)
  refine (HLF.out x35 (HALL.out _ HBx35.out).1).mono ?_
  rintro r x37 ⟨rfl, hbx37⟩
  have HBx37 : Hid (Below w1.heap.size w1 x37) := HBx35.out.trans (hbx37.mono HBx35.out.size)
  have Dg8x37 : Hid (DAt x37 g8 0 M) := dat_b Dg8x35.out lM hbx37
  have Dg9x37 : Hid (DAt x37 g9 0 M) := dat_b Dg9x35.out lM hbx37
  have Dg15x37 : Hid (DAt x37 g15 0 zD) := dat_b Dg15x35.out rfl hbx37
  have Tg8x37 : Hid (x37.there g8 0 32) := there_b Tg8x35.out hbx37
  have Tg9x37 : Hid (x37.there g9 0 32) := there_b Tg9x35.out hbx37
  have Tg15x37 : Hid (x37.there g15 0 32) := there_b Tg15x35.out hbx37
  clear hbx37 Dg8x35 Dg9x35 Dg15x35 Tg8x35 Tg9x35 Tg15x35
  obtain ⟨g16, hg16⟩ : ∃ g16, x37.heap.size = g16 := ⟨_, rfl⟩
  obtain ⟨x38, hx38⟩ : ∃ x38, x37.alloc (.cells (cellsB zD).toArray 24) = x38 := ⟨_, rfl⟩
  have qx38 := new_var hg16 hx38
  have HBx38 : Hid (Below w1.heap.size w1 x38) := HBx37.out.trans (qx38.2.2.mono HBx37.out.size)
  have Lg16 : Hid (w1.heap.size ≤ g16) := by rw [← hg16]; exact HBx37.out.size
  have Ng8g16 : Hid (g8 ≠ g16) := by have := dat_size Dg8x37.out lM; unfold Hid; omega
  have Dg8x38 : Hid (DAt x38 g8 0 M) := dat_b Dg8x37.out lM qx38.2.2
  have Ng9g16 : Hid (g9 ≠ g16) := by have := dat_size Dg9x37.out lM; unfold Hid; omega
  have Dg9x38 : Hid (DAt x38 g9 0 M) := dat_b Dg9x37.out lM qx38.2.2
  have Ng15g16 : Hid (g15 ≠ g16) := by have := dat_size Dg15x37.out rfl; unfold Hid; omega
  have Dg15x38 : Hid (DAt x38 g15 0 zD) := dat_b Dg15x37.out rfl qx38.2.2
  have Tg8x38 : Hid (x38.there g8 0 32) := there_b Tg8x37.out qx38.2.2
  have Tg9x38 : Hid (x38.there g9 0 32) := there_b Tg9x37.out qx38.2.2
  have Tg15x38 : Hid (x38.there g15 0 32) := there_b Tg15x37.out qx38.2.2
  have Dg16x38 : Hid (DAt x38 g16 0 zD) := qx38.2.1
  have Tg16x38 : Hid (x38.there g16 0 32) := qx38.1
  clear qx38
  obtain ⟨x39, hx39⟩ : ∃ x39, x38.setCells g16 0 (cellsB zD) = x39 := ⟨_, rfl⟩
  have HBx39 : Hid (Below w1.heap.size w1 x39) := below_put HBx38.out Lg16.out hx39
  have Dg8x39 : Hid (DAt x39 g8 0 M) := dat_else Dg8x38.out Ng8g16.out hx39
  have Dg9x39 : Hid (DAt x39 g9 0 M) := dat_else Dg9x38.out Ng9g16.out hx39
  have Dg15x39 : Hid (DAt x39 g15 0 zD) := dat_else Dg15x38.out Ng15g16.out hx39
  have Tg8x39 : Hid (x39.there g8 0 32) := there_else Tg8x38.out hx39
  have Tg9x39 : Hid (x39.there g9 0 32) := there_else Tg9x38.out hx39
  have Tg15x39 : Hid (x39.there g15 0 32) := there_else Tg15x38.out hx39
  have Tg16x39 : Hid (x39.there g16 0 32) := there_else Tg16x38.out hx39
  have Dg16x39 : Hid (DAt x39 g16 0 zD) := dat_put Tg16x38.out lZD hx39
  go_wp2_with (first
    | (refine wpList_allocD (by rfl) (by rfl) g16 hg16 x38 hx38 ?_)
    | (refine wpList_storeD (by rfl) (.tmp 16) (.tmp 76) (by rfl) g16 zD (by rfl) (by rfl) lZD Tg16x38.out x39 hx39 ?_))
  clear Dg8x37 Dg9x37 Dg15x37 Tg8x37 Tg9x37 Tg15x37 hg16 hx38 Dg8x38 Dg9x38 Dg15x38 Dg16x38 Tg8x38 Tg9x38 Tg15x38 Tg16x38 hx39 
  refine (error_errno 2 2 x39 (HALL.out _ HBx39.out).2.1).mono ?_
  rintro r x40 ⟨rfl, hbx40⟩
  have HBx40 : Hid (Below w1.heap.size w1 x40) := HBx39.out.trans (hbx40.mono HBx39.out.size)
  have Dg8x40 : Hid (DAt x40 g8 0 M) := dat_b Dg8x39.out lM hbx40
  have Dg9x40 : Hid (DAt x40 g9 0 M) := dat_b Dg9x39.out lM hbx40
  have Dg15x40 : Hid (DAt x40 g15 0 zD) := dat_b Dg15x39.out rfl hbx40
  have Dg16x40 : Hid (DAt x40 g16 0 zD) := dat_b Dg16x39.out lZD hbx40
  have Tg8x40 : Hid (x40.there g8 0 32) := there_b Tg8x39.out hbx40
  have Tg9x40 : Hid (x40.there g9 0 32) := there_b Tg9x39.out hbx40
  have Tg15x40 : Hid (x40.there g15 0 32) := there_b Tg15x39.out hbx40
  have Tg16x40 : Hid (x40.there g16 0 32) := there_b Tg16x39.out hbx40
  clear hbx40 Dg8x39 Dg9x39 Dg15x39 Dg16x39 Tg8x39 Tg9x39 Tg15x39 Tg16x39
  rw [show decide ((2 : Int) = 2) = true from rfl]
  go_upto_region 26 with fail
  try simp only [Act.put, List.setIfInBounds_toArray, List.set_cons_zero, List.set_cons_succ]
  have HKK : Hid (∀ wx, Below x40.heap.size x40 wx → (wx.rangeAt g16 0 (cellsB zD) ∧ wx.rangeAt g15 0 (cellsB zD) ∧ wx.rangeAt g8 0 (cellsB M)) ∧ Env wx ∧ Below w.heap.size w wx) := fun wx hx => by
    have q := HALL.out wx (HBx40.out.trans (hx.mono HBx40.out.size))
    exact ⟨⟨dat_b Dg16x40.out lZD hx, dat_b Dg15x40.out lZD hx, dat_b Dg8x40.out lM hx⟩, q.1, q.2.2.2.2⟩
  refine wp_region_noPanic ?_
  refine wp_region_held_drew (S := fun wx => wx.rangeAt g16 0 (cellsB zD) ∧ wx.rangeAt g15 0 (cellsB zD) ∧ wx.rangeAt g8 0 (cellsB M)) (by kernel_rfl) (HKK.out _ (below_drewN x40 1)).1 (fun hHeld => ?_)
  try simp only [Act.put, List.setIfInBounds_toArray, List.set_cons_zero, List.set_cons_succ]
  have HBd : Hid (Below x40.heap.size x40 x40.drew) := below_drewN x40 1
  generalize x40.drew = wd at *
  refine wpAnyH_take (i := 0) (v := ?_) (by simp only [List.getElem?_toArray, List.getElem?_cons_zero, List.getElem?_cons_succ]; rfl) (by kernel_rfl) (by kernel_rfl) (by kernel_rfl) (fun _ _ _ h => h) (Or.inl ⟨by rfl, ?_⟩) hHeld ?_
  rotate_left
  · intro w hSw
    obtain ⟨hSw0, hSw1, hSw2⟩ := hSw
    go_simp
    try with_reducible rfl
  try simp only [Act.put, List.setIfInBounds_toArray, List.set_cons_zero, List.set_cons_succ]
  refine wpAnyH_take (i := 1) (v := ?_) (by simp only [List.getElem?_toArray, List.getElem?_cons_zero, List.getElem?_cons_succ]; rfl) (by kernel_rfl) (by kernel_rfl) (by kernel_rfl) (fun _ _ _ h => h) (Or.inl ⟨by rfl, ?_⟩) hHeld ?_
  rotate_left
  · intro w hSw
    obtain ⟨hSw0, hSw1, hSw2⟩ := hSw
    go_simp
    try with_reducible rfl
  try simp only [Act.put, List.setIfInBounds_toArray, List.set_cons_zero, List.set_cons_succ]
  refine wpAnyH_take (i := 2) (v := .agg (cellsB zD).toArray) (by simp only [List.getElem?_toArray, List.getElem?_cons_zero, List.getElem?_cons_succ]; rfl) (by kernel_rfl) (by kernel_rfl) (by kernel_rfl) (fun _ _ _ h => h)
    (yieldsIf_load_mid (by rfl) _ _ rfl _ _ rfl _ _ (fun w hw => hw.1) Tryd.underlying24 rfl (by rw [cellsB_length, lZD]; exact Tryd.sizeDg)) hHeld ?_
  try simp only [Act.put, List.setIfInBounds_toArray, List.set_cons_zero, List.set_cons_succ]
  refine wpAnyH_take (i := 3) (v := .agg (cellsB zD).toArray) (by simp only [List.getElem?_toArray, List.getElem?_cons_zero, List.getElem?_cons_succ]; rfl) (by kernel_rfl) (by kernel_rfl) (by kernel_rfl) (fun _ _ _ h => h)
    (yieldsIf_load_mid (by rfl) _ _ rfl _ _ rfl _ _ (fun w hw => hw.2.1) Tryd.underlying24 rfl (by rw [cellsB_length, lZD]; exact Tryd.sizeDg)) hHeld ?_
  try simp only [Act.put, List.setIfInBounds_toArray, List.set_cons_zero, List.set_cons_succ]
  refine wpAnyH_take (i := 4) (v := .bool true) (by simp only [List.getElem?_toArray, List.getElem?_cons_zero, List.getElem?_cons_succ]; rfl) (by kernel_rfl) (by kernel_rfl) (by kernel_rfl) (fun _ _ _ h => h)
    (yieldsIf_eqD (by rfl) _ _ rfl zD zD lZD lZD rfl rfl true (decide_eq_true rfl)) hHeld ?_
  try simp only [Act.put, List.setIfInBounds_toArray, List.set_cons_zero, List.set_cons_succ]
  refine wpAnyH_take (i := 5) (v := ?_) (by simp only [List.getElem?_toArray, List.getElem?_cons_zero, List.getElem?_cons_succ]; rfl) (by kernel_rfl) (by kernel_rfl) (by kernel_rfl) (fun _ _ _ h => h) (Or.inl ⟨by rfl, ?_⟩) hHeld ?_
  rotate_left
  · intro w hSw
    obtain ⟨hSw0, hSw1, hSw2⟩ := hSw
    go_simp
    try with_reducible rfl
  try simp only [Act.put, List.setIfInBounds_toArray, List.set_cons_zero, List.set_cons_succ]
  refine wpAnyH_take (i := 6) (v := ?_) (by simp only [List.getElem?_toArray, List.getElem?_cons_zero, List.getElem?_cons_succ]; rfl) (by kernel_rfl) (by kernel_rfl) (by kernel_rfl) (fun _ _ _ h => h) (Or.inl ⟨by rfl, ?_⟩) hHeld ?_
  rotate_left
  · intro w hSw
    obtain ⟨hSw0, hSw1, hSw2⟩ := hSw
    go_simp
    try with_reducible rfl
  try simp only [Act.put, List.setIfInBounds_toArray, List.set_cons_zero, List.set_cons_succ]
  refine wpAnyH_take (i := 7) (v := .agg (cellsB zD).toArray) (by simp only [List.getElem?_toArray, List.getElem?_cons_zero, List.getElem?_cons_succ]; rfl) (by kernel_rfl) (by kernel_rfl) (by kernel_rfl) (fun _ _ _ h => h)
    (yieldsIf_load_mid (by rfl) _ _ rfl _ _ rfl _ _ (fun w hw => hw.1) Tryd.underlying24 rfl (by rw [cellsB_length, lZD]; exact Tryd.sizeDg)) hHeld ?_
  try simp only [Act.put, List.setIfInBounds_toArray, List.set_cons_zero, List.set_cons_succ]
  refine wpAnyH_take (i := 8) (v := .agg (cellsB M).toArray) (by simp only [List.getElem?_toArray, List.getElem?_cons_zero, List.getElem?_cons_succ]; rfl) (by kernel_rfl) (by kernel_rfl) (by kernel_rfl) (fun _ _ _ h => h)
    (yieldsIf_load_mid (by rfl) _ _ rfl _ _ rfl _ _ (fun w hw => hw.2.2) Tryd.underlying24 rfl (by rw [cellsB_length, lM]; exact Tryd.sizeDg)) hHeld ?_
  try simp only [Act.put, List.setIfInBounds_toArray, List.set_cons_zero, List.set_cons_succ]
  refine wpAnyH_take (i := 10) (v := .agg (cellsB zD).toArray) (by simp only [List.getElem?_toArray, List.getElem?_cons_zero, List.getElem?_cons_succ]; rfl) (by kernel_rfl) (by kernel_rfl) (by kernel_rfl) (fun _ _ _ h => h)
    (yieldsIf_load_mid (by rfl) _ _ rfl _ _ rfl _ _ (fun w hw => hw.2.1) Tryd.underlying24 rfl (by rw [cellsB_length, lZD]; exact Tryd.sizeDg)) hHeld ?_
  try simp only [Act.put, List.setIfInBounds_toArray, List.set_cons_zero, List.set_cons_succ]
  refine wpAnyH_take (i := 11) (v := .agg (cellsB M).toArray) (by simp only [List.getElem?_toArray, List.getElem?_cons_zero, List.getElem?_cons_succ]; rfl) (by kernel_rfl) (by kernel_rfl) (by kernel_rfl) (fun _ _ _ h => h)
    (yieldsIf_load_mid (by rfl) _ _ rfl _ _ rfl _ _ (fun w hw => hw.2.2) Tryd.underlying24 rfl (by rw [cellsB_length, lM]; exact Tryd.sizeDg)) hHeld ?_
  try simp only [Act.put, List.setIfInBounds_toArray, List.set_cons_zero, List.set_cons_succ]
  refine wpAnyH_ready (rs := [9]) (by kernel_rfl) (by simp) ?_
  refine AllReadyH.cons (by simp only [List.getElem?_toArray, List.getElem?_cons_zero, List.getElem?_cons_succ]; rfl) (fun K hK => ?_) AllReadyH.nil
  rw [if_pos (by rfl)]
  go_simp
  refine (HNL.out wd (HKK.out _ HBd.out).2.1).mono ?_
  rintro e wn ⟨rfl, hbn⟩
  have HBn : Hid (Below x40.heap.size x40 wn) := HBd.out.trans (hbn.mono HBd.out.size)
  clear hbn HBd
  go_wp2_with fail
  refine hK.out _ _ (HKK.out _ HBn.out).1 (fun hHeld => ?_)
  clear hK K
  try simp only [Act.put, List.setIfInBounds_toArray, List.set_cons_zero, List.set_cons_succ]
  refine wpAnyH_ready (rs := [12]) (by kernel_rfl) (by simp) ?_
  refine AllReadyH.cons (by simp only [List.getElem?_toArray, List.getElem?_cons_zero, List.getElem?_cons_succ]; rfl) (fun K hK => ?_) AllReadyH.nil
  rw [if_pos (by rfl)]
  go_simp
  refine (HMN.out wn).mono ?_
  rintro e wo ⟨rfl, hbo⟩
  have HBo : Hid (Below x40.heap.size x40 wo) := HBn.out.trans (hbo.mono HBn.out.size)
  clear hbo HBn
  go_wp2_with fail
  refine hK.out _ _ (HKK.out _ HBo.out).1 (fun hHeld => ?_)
  clear hK K
  try simp only [Act.put, List.setIfInBounds_toArray, List.set_cons_zero, List.set_cons_succ]
  refine wpAnyH_take (i := 13) (v := .bool true) (by simp only [List.getElem?_toArray, List.getElem?_cons_zero, List.getElem?_cons_succ]; rfl) (by kernel_rfl) (by kernel_rfl) (by kernel_rfl) (fun _ _ _ h => h)
    (yieldsIf_eqD (by rfl) _ _ rfl N N lN lN rfl rfl true (decide_eq_true rfl)) hHeld ?_
  try simp only [Act.put, List.setIfInBounds_toArray, List.set_cons_zero, List.set_cons_succ]
  refine wpAnyH_take (i := 14) (v := ?_) (by simp only [List.getElem?_toArray, List.getElem?_cons_zero, List.getElem?_cons_succ]; rfl) (by kernel_rfl) (by kernel_rfl) (by kernel_rfl) (fun _ _ _ h => h) (Or.inl ⟨by rfl, ?_⟩) hHeld ?_
  rotate_left
  · intro w hSw
    obtain ⟨hSw0, hSw1, hSw2⟩ := hSw
    go_simp
    try with_reducible rfl
  try simp only [Act.put, List.setIfInBounds_toArray, List.set_cons_zero, List.set_cons_succ]
  refine wpAnyH_take (i := 15) (v := ?_) (by simp only [List.getElem?_toArray, List.getElem?_cons_zero, List.getElem?_cons_succ]; rfl) (by kernel_rfl) (by kernel_rfl) (by kernel_rfl) (fun _ _ _ h => h) (Or.inl ⟨by rfl, ?_⟩) hHeld ?_
  rotate_left
  · intro w hSw
    obtain ⟨hSw0, hSw1, hSw2⟩ := hSw
    go_simp
    try with_reducible rfl
  try simp only [Act.put, List.setIfInBounds_toArray, List.set_cons_zero, List.set_cons_succ]
  refine wpAnyH_done (by kernel_rfl) (NoPanic.normal ?_) _
  have HW : Hid (Below w.heap.size w wo) := (HKK.out _ HBo.out).2.2
  clear hHeld HKK HBo
  go_wp2_with fail
  go_ret
  exact ⟨rfl, HW.out⟩
set_option maxRecDepth 100000 in
set_option maxHeartbeats 2000000 in
theorem iroots_nokeykey (a : Option Addr) (n c : Nat) (es : List Ent) (k : Int) (e : Ent) (w : World) (G : Env w) (HH : Handle w) (R : ERow w a n es) (hc : n ≤ c) (hn : 40 * n ≤ 140737488351232) (k1 : -9223372036854775808 ≤ k) (k2 : k ≤ 9223372036854775807) (he : okE e) (hf : faultE es = 0) (hk : isKey k = false) (hk2 : isKey e.1 = true) :
    Calls Tryd.prog 3 #[.slice a n c, .int .i64 k, entV e] w fun r w' => r = .returned (.bool true) ∧ Below w.heap.size w w' := by
  obtain ⟨w1, hw1⟩ : ∃ w1, w.alloc (.cells (entC e).toArray 26) = w1 := ⟨_, rfl⟩
  have HALL : Hid (∀ wx, Below w1.heap.size w1 wx → Env wx ∧ Handle wx ∧ ERow wx a n es ∧ wx.rangeAt w.heap.size 0 (entC e) ∧ Below w.heap.size w wx) := fun wx hx => by
    have b1 : Below w.heap.size w w1 := by rw [← hw1]; exact (Below.refl _ _).alloc (Nat.le_refl _) _
    have b : Below w.heap.size w wx := b1.trans (hx.mono b1.size)
    have hr : w1.rangeAt w.heap.size 0 (entC e) := by rw [← hw1]; exact box_range w (entC e) _
    exact ⟨G.below b, HH.below b, R.below b, ent_below hr hx (ent_block hr), b⟩
  have HBw1 : Hid (Below w1.heap.size w1 w1) := Below.refl _ _
  have HOK : Hid (okE e) := he
  have b1 := he.2.1
  have b2 := he.2.2
  clear G HH R he
  have lZD : zD.length = 32 := rfl
  have lM : (mapL (gE es) 0 32).length = 32 := mapL_length (gE_length es) 32 0
  have hn64 : n ≤ 64 := by have := (faultE_ok hf).1; rw [(HALL.out w1 HBw1.out).2.2.1.1] at this; exact this
  have HMR : Hid (∀ wx, Below w1.heap.size w1 wx → Calls Tryd.prog 10 #[.slice a n c, .int .i64 0, .int .i64 4294967296] wx fun r w' => r = .returned (digestV (mapL (gE es) 0 32)) ∧ Below wx.heap.size wx w') := fun wx hx => rmaproot_any 32 a n c es 0 wx (HALL.out wx hx).2.2.1 hc (by omega) (by decide)
  have HRT : Hid (∀ wx, Below w1.heap.size w1 wx → Calls Tryd.prog 11 #[.slice a n c] wx fun r w' => r = .returned (.tuple #[digestV (mapL (gE es) 0 32), .nilIface]) ∧ Below wx.heap.size wx w') := fun wx hx => wtrie_root a n c es wx (HALL.out wx hx).1 (HALL.out wx hx).2.2.1 hc hn hf
  have HMF : Hid (∀ wx, Below w1.heap.size w1 wx → Calls Tryd.prog 9 #[.slice a n c] wx fun r w' => r = .returned (.int .i64 0) ∧ Below wx.heap.size wx w') := fun wx hx => by
    have := rmapfault_any a n c es wx (HALL.out wx hx).2.2.1 hc (by omega)
    rw [hf] at this
    exact this
  have hp : pathE es k = 2 := by unfold pathE; rw [if_neg (by simp [hf]), if_pos hk]
  have HPT : Hid (∀ wx, Below w1.heap.size w1 wx → Calls Tryd.prog 15 #[.slice a n c, .int .i64 k] wx fun r w' => (∃ a' c', r = .returned (.tuple #[.slice a' 0 c', .iface 27 (.int .i64 (2))])) ∧ Below wx.heap.size wx w') := fun wx hx => wtrie_pathout a n c es k _ wx (HALL.out wx hx).1 (HALL.out wx hx).2.2.1 hc hn k1 k2 hp (by omega)
  clear hp
  have HIK : Hid (∀ wx : World, Calls Tryd.prog 13 #[.int .i64 k] wx fun e w' => e = .returned (.bool false) ∧ w' = wx) := fun wx => by
    have := riskey_any k wx k1 k2
    rw [hk] at this
    exact this
  clear hk
  clear hf
  generalize mapL (gE es) 0 32 = M at *
  have hk2b := of_decide_eq_true hk2
  have lL := leafE_length e
  have HEL : Hid (∀ wx : World, Calls Tryd.prog 17 #[entV e] wx fun r w' => r = .returned (digestV (leafE e)) ∧ Below wx.heap.size wx w') := fun wx => rentryleaf_any e wx HOK.out hk2b.1 hk2b.2
  have HLF : Hid (∀ wx, Env wx → Calls Tryd.prog 18 #[entV e] wx fun r w' => r = .returned (.tuple #[digestV (leafE e), .nilIface]) ∧ Below wx.heap.size wx w') := fun wx hx => wtrie_leaf e wx hx HOK.out hk2
  generalize leafE e = L at *
  clear hk2b
  have HIE : Hid (∀ wx : World, Calls Tryd.prog 13 #[.int .i64 e.1] wx fun e w' => e = .returned (.bool true) ∧ w' = wx) := fun wx => by
    have := riskey_any e.1 wx b1 b2
    rw [hk2] at this
    exact this
  have HNL : Hid (∀ wx, Env wx → Calls Tryd.prog 19 #[digestV L, digestV M] wx fun q w' => q = .returned (digestV (mnode L M)) ∧ Below wx.heap.size wx w') := fun wx hx => wtrie_node L M wx hx lL lM
  have HMN : Hid (∀ wx : World, Calls Tryd.prog 20 #[digestV L, digestV M] wx fun q w' => q = .returned (digestV (mnode L M)) ∧ Below wx.heap.size wx w') := fun wx => rmapnode_any L M wx lL lM
  have lN := mnode_length L M
  generalize mnode L M = N at *
  clear hk2
  obtain ⟨e1, he1⟩ : ∃ e1, e.1 = e1 := ⟨_, rfl⟩
  have HE1 : Hid (e.1 = e1) := he1
  rw [he1] at b1 b2 HIE
  clear he1
  go_enter Tryd.func3, Tryd.ntmps3
  unfold entV
  go_wp2_with fail
  try rw [hw1]
  clear hw1
  refine (HMF.out w1 HBw1.out).mono ?_
  rintro r x41 ⟨rfl, hbx41⟩
  have HBx41 : Hid (Below w1.heap.size w1 x41) := HBw1.out.trans (hbx41.mono HBw1.out.size)
  clear hbx41
  obtain ⟨g8, hg8⟩ : ∃ g8, x41.heap.size = g8 := ⟨_, rfl⟩
  obtain ⟨x42, hx42⟩ : ∃ x42, x41.alloc (.cells (cellsB zD).toArray 24) = x42 := ⟨_, rfl⟩
  have qx42 := new_var hg8 hx42
  have HBx42 : Hid (Below w1.heap.size w1 x42) := HBx41.out.trans (qx42.2.2.mono HBx41.out.size)
  have Lg8 : Hid (w1.heap.size ≤ g8) := by rw [← hg8]; exact HBx41.out.size
  have Dg8x42 : Hid (DAt x42 g8 0 zD) := qx42.2.1
  have Tg8x42 : Hid (x42.there g8 0 32) := qx42.1
  clear qx42
  go_wp2_with (refine wpList_allocD (by rfl) (by rfl) g8 hg8 x42 hx42 ?_)
  clear hg8 hx42 
  refine (HMR.out x42 HBx42.out).mono ?_
  rintro r x43 ⟨rfl, hbx43⟩
  have HBx43 : Hid (Below w1.heap.size w1 x43) := HBx42.out.trans (hbx43.mono HBx42.out.size)
  have Dg8x43 : Hid (DAt x43 g8 0 zD) := dat_b Dg8x42.out rfl hbx43
  have Tg8x43 : Hid (x43.there g8 0 32) := there_b Tg8x42.out hbx43
  clear hbx43 Dg8x42 Tg8x42
  obtain ⟨x44, hx44⟩ : ∃ x44, x43.setCells g8 0 (cellsB M) = x44 := ⟨_, rfl⟩
  have HBx44 : Hid (Below w1.heap.size w1 x44) := below_put HBx43.out Lg8.out hx44
  have Tg8x44 : Hid (x44.there g8 0 32) := there_else Tg8x43.out hx44
  have Dg8x44 : Hid (DAt x44 g8 0 M) := dat_put Tg8x43.out lM hx44
  go_wp2_with (refine wpList_storeD (by rfl) (.tmp 8) (.tmp 22) (by rfl) g8 M (by rfl) (by rfl) lM Tg8x43.out x44 hx44 ?_)
  clear Dg8x43 Tg8x43 hx44 
  refine (HRT.out x44 HBx44.out).mono ?_
  rintro r x45 ⟨rfl, hbx45⟩
  have HBx45 : Hid (Below w1.heap.size w1 x45) := HBx44.out.trans (hbx45.mono HBx44.out.size)
  have Dg8x45 : Hid (DAt x45 g8 0 M) := dat_b Dg8x44.out lM hbx45
  have Tg8x45 : Hid (x45.there g8 0 32) := there_b Tg8x44.out hbx45
  clear hbx45 Dg8x44 Tg8x44
  obtain ⟨g9, hg9⟩ : ∃ g9, x45.heap.size = g9 := ⟨_, rfl⟩
  obtain ⟨x46, hx46⟩ : ∃ x46, x45.alloc (.cells (cellsB zD).toArray 24) = x46 := ⟨_, rfl⟩
  have qx46 := new_var hg9 hx46
  have HBx46 : Hid (Below w1.heap.size w1 x46) := HBx45.out.trans (qx46.2.2.mono HBx45.out.size)
  have Lg9 : Hid (w1.heap.size ≤ g9) := by rw [← hg9]; exact HBx45.out.size
  have Ng8g9 : Hid (g8 ≠ g9) := by have := dat_size Dg8x45.out lM; unfold Hid; omega
  have Dg8x46 : Hid (DAt x46 g8 0 M) := dat_b Dg8x45.out lM qx46.2.2
  have Tg8x46 : Hid (x46.there g8 0 32) := there_b Tg8x45.out qx46.2.2
  have Dg9x46 : Hid (DAt x46 g9 0 zD) := qx46.2.1
  have Tg9x46 : Hid (x46.there g9 0 32) := qx46.1
  clear qx46
  obtain ⟨x47, hx47⟩ : ∃ x47, x46.setCells g9 0 (cellsB M) = x47 := ⟨_, rfl⟩
  have HBx47 : Hid (Below w1.heap.size w1 x47) := below_put HBx46.out Lg9.out hx47
  have Dg8x47 : Hid (DAt x47 g8 0 M) := dat_else Dg8x46.out Ng8g9.out hx47
  have Tg8x47 : Hid (x47.there g8 0 32) := there_else Tg8x46.out hx47
  have Tg9x47 : Hid (x47.there g9 0 32) := there_else Tg9x46.out hx47
  have Dg9x47 : Hid (DAt x47 g9 0 M) := dat_put Tg9x46.out lM hx47
  go_wp2_with (first
    | (refine wpList_allocD (by rfl) (by rfl) g9 hg9 x46 hx46 ?_)
    | (refine wpList_storeD (by rfl) (.tmp 9) (.tmp 26) (by rfl) g9 M (by rfl) (by rfl) lM Tg9x46.out x47 hx47 ?_))
  clear Dg8x45 Tg8x45 hg9 hx46 Dg8x46 Dg9x46 Tg8x46 Tg9x46 hx47 
  refine (error_nil 0 x47).mono ?_
  rintro r x48 ⟨rfl, hbx48⟩
  have HBx48 : Hid (Below w1.heap.size w1 x48) := HBx47.out.trans (hbx48.mono HBx47.out.size)
  have Dg8x48 : Hid (DAt x48 g8 0 M) := dat_b Dg8x47.out lM hbx48
  have Dg9x48 : Hid (DAt x48 g9 0 M) := dat_b Dg9x47.out lM hbx48
  have Tg8x48 : Hid (x48.there g8 0 32) := there_b Tg8x47.out hbx48
  have Tg9x48 : Hid (x48.there g9 0 32) := there_b Tg9x47.out hbx48
  clear hbx48 Dg8x47 Dg9x47 Tg8x47 Tg9x47
  rw [show decide ((0 : Int) = 0) = true from rfl]
  go_wp2_with (first
    | (refine wpList_loadDG (by rfl) (.tmp 9) (by rfl) g9 M (by rfl) lM Dg9x48.out ?_)
    | (refine wpList_loadDG (by rfl) (.tmp 8) (by rfl) g8 M (by rfl) lM Dg8x48.out ?_)
    | (refine wpList_neqD (.tmp 34) (.tmp 35) (by rfl) (by rfl) M M lM lM (by rfl) (by rfl) false (by simp) ?_))
  refine (HIK.out x48).mono ?_
  rintro r x49 ⟨rfl, hq⟩
  have hq' : x48 = x49 := hq.symm
  subst hq'
  go_wp2_with fail
  refine (HPT.out x48 HBx48.out).mono ?_
  rintro r x50 ⟨⟨a9, c9, rfl⟩, hbx50⟩
  have HBx50 : Hid (Below w1.heap.size w1 x50) := HBx48.out.trans (hbx50.mono HBx48.out.size)
  have Dg8x50 : Hid (DAt x50 g8 0 M) := dat_b Dg8x48.out lM hbx50
  have Dg9x50 : Hid (DAt x50 g9 0 M) := dat_b Dg9x48.out lM hbx50
  have Tg8x50 : Hid (x50.there g8 0 32) := there_b Tg8x48.out hbx50
  have Tg9x50 : Hid (x50.there g9 0 32) := there_b Tg9x48.out hbx50
  clear hbx50 Dg8x48 Dg9x48 Tg8x48 Tg9x48
  go_wp2_with fail
  refine (error_errno (2) (2) x50 (HALL.out _ HBx50.out).2.1).mono ?_
  rintro r x51 ⟨rfl, hbx51⟩
  have HBx51 : Hid (Below w1.heap.size w1 x51) := HBx50.out.trans (hbx51.mono HBx50.out.size)
  have Dg8x51 : Hid (DAt x51 g8 0 M) := dat_b Dg8x50.out lM hbx51
  have Dg9x51 : Hid (DAt x51 g9 0 M) := dat_b Dg9x50.out lM hbx51
  have Tg8x51 : Hid (x51.there g8 0 32) := there_b Tg8x50.out hbx51
  have Tg9x51 : Hid (x51.there g9 0 32) := there_b Tg9x50.out hbx51
  clear hbx51 Dg8x50 Dg9x50 Tg8x50 Tg9x50
  rw [show decide ((2 : Int) = 2) = true from decide_eq_true rfl]
  go_wp2_with fail
  refine (sdigests_any a9 none 0 0 c9 0 [] [] x51 (drow_nil0 _ _) (drow_nil0 _ _) (by omega)).mono ?_
  rintro r x52 ⟨rfl, hbx52⟩
  have HBx52 : Hid (Below w1.heap.size w1 x52) := HBx51.out.trans (hbx52.mono HBx51.out.size)
  have Dg8x52 : Hid (DAt x52 g8 0 M) := dat_b Dg8x51.out lM hbx52
  have Dg9x52 : Hid (DAt x52 g9 0 M) := dat_b Dg9x51.out lM hbx52
  have Tg8x52 : Hid (x52.there g8 0 32) := there_b Tg8x51.out hbx52
  have Tg9x52 : Hid (x52.there g9 0 32) := there_b Tg9x51.out hbx52
  clear hbx52 Dg8x51 Dg9x51 Tg8x51 Tg9x51
  rw [show decide (([] : List (List UInt8)) = []) = true from rfl]
  obtain ⟨g15, hg15⟩ : ∃ g15, x52.heap.size = g15 := ⟨_, rfl⟩
  obtain ⟨x53, hx53⟩ : ∃ x53, x52.alloc (.cells (cellsB zD).toArray 24) = x53 := ⟨_, rfl⟩
  have qx53 := new_var hg15 hx53
  have HBx53 : Hid (Below w1.heap.size w1 x53) := HBx52.out.trans (qx53.2.2.mono HBx52.out.size)
  have Lg15 : Hid (w1.heap.size ≤ g15) := by rw [← hg15]; exact HBx52.out.size
  have Ng8g15 : Hid (g8 ≠ g15) := by have := dat_size Dg8x52.out lM; unfold Hid; omega
  have Dg8x53 : Hid (DAt x53 g8 0 M) := dat_b Dg8x52.out lM qx53.2.2
  have Ng9g15 : Hid (g9 ≠ g15) := by have := dat_size Dg9x52.out lM; unfold Hid; omega
  have Dg9x53 : Hid (DAt x53 g9 0 M) := dat_b Dg9x52.out lM qx53.2.2
  have Tg8x53 : Hid (x53.there g8 0 32) := there_b Tg8x52.out qx53.2.2
  have Tg9x53 : Hid (x53.there g9 0 32) := there_b Tg9x52.out qx53.2.2
  have Dg15x53 : Hid (DAt x53 g15 0 zD) := qx53.2.1
  have Tg15x53 : Hid (x53.there g15 0 32) := qx53.1
  clear qx53
  have k0 : x53.cell? ⟨w.heap.size, 0, none⟩ = some (.int .i64 e1) := by have h := (HALL.out _ HBx53.out).2.2.2.1 0 _ rfl; rw [HE1.out] at h; exact h
  go_wp2_with (refine wpList_allocD (by rfl) (by rfl) g15 hg15 x53 hx53 ?_)
  clear Dg8x52 Dg9x52 Tg8x52 Tg9x52 hg15 hx53 
  clear k0
  refine (HIE.out x53).mono ?_
  rintro r x54 ⟨rfl, hq⟩
  have hq' : x53 = x54 := hq.symm
  subst hq'
  go_wp2_with (refine wpList_load_mid (by rfl) 26 (.tmp 5) (by rfl) w.heap.size 0 (by rfl) (entC e) _ (HALL.out _ HBx53.out).2.2.2.1 Tryd.underlying26 (by rfl) (by rw [entC_length HOK.out]; exact Tryd.sizeEn) ?_)
  refine (HEL.out x53).mono ?_
  rintro r x55 ⟨rfl, hbx55⟩
  have HBx55 : Hid (Below w1.heap.size w1 x55) := HBx53.out.trans (hbx55.mono HBx53.out.size)
  have Dg8x55 : Hid (DAt x55 g8 0 M) := dat_b Dg8x53.out lM hbx55
  have Dg9x55 : Hid (DAt x55 g9 0 M) := dat_b Dg9x53.out lM hbx55
  have Dg15x55 : Hid (DAt x55 g15 0 zD) := dat_b Dg15x53.out rfl hbx55
  have Tg8x55 : Hid (x55.there g8 0 32) := there_b Tg8x53.out hbx55
  have Tg9x55 : Hid (x55.there g9 0 32) := there_b Tg9x53.out hbx55
  have Tg15x55 : Hid (x55.there g15 0 32) := there_b Tg15x53.out hbx55
  clear hbx55 Dg8x53 Dg9x53 Dg15x53 Tg8x53 Tg9x53 Tg15x53
  obtain ⟨x56, hx56⟩ : ∃ x56, x55.setCells g15 0 (cellsB L) = x56 := ⟨_, rfl⟩
  have HBx56 : Hid (Below w1.heap.size w1 x56) := below_put HBx55.out Lg15.out hx56
  have Dg8x56 : Hid (DAt x56 g8 0 M) := dat_else Dg8x55.out Ng8g15.out hx56
  have Dg9x56 : Hid (DAt x56 g9 0 M) := dat_else Dg9x55.out Ng9g15.out hx56
  have Tg8x56 : Hid (x56.there g8 0 32) := there_else Tg8x55.out hx56
  have Tg9x56 : Hid (x56.there g9 0 32) := there_else Tg9x55.out hx56
  have Tg15x56 : Hid (x56.there g15 0 32) := there_else Tg15x55.out hx56
  have Dg15x56 : Hid (DAt x56 g15 0 L) := dat_put Tg15x55.out lL hx56
  go_wp2_with (first
    | (refine wpList_storeD (by rfl) (.tmp 15) (.tmp 72) (by rfl) g15 L (by rfl) (by rfl) lL Tg15x55.out x56 hx56 ?_)
    | (refine wpList_load_mid (by rfl) 26 (.tmp 5) (by rfl) w.heap.size 0 (by rfl) (entC e) _ (HALL.out _ HBx56.out).2.2.2.1 Tryd.underlying26 (by rfl) (by rw [entC_length HOK.out]; exact Tryd.sizeEn) ?_))
  clear Dg8x55 Dg9x55 Dg15x55 Tg8x55 Tg9x55 Tg15x55 hx56 
  refine (HLF.out x56 (HALL.out _ HBx56.out).1).mono ?_
  rintro r x57 ⟨rfl, hbx57⟩
  have HBx57 : Hid (Below w1.heap.size w1 x57) := HBx56.out.trans (hbx57.mono HBx56.out.size)
  have Dg8x57 : Hid (DAt x57 g8 0 M) := dat_b Dg8x56.out lM hbx57
  have Dg9x57 : Hid (DAt x57 g9 0 M) := dat_b Dg9x56.out lM hbx57
  have Dg15x57 : Hid (DAt x57 g15 0 L) := dat_b Dg15x56.out lL hbx57
  have Tg8x57 : Hid (x57.there g8 0 32) := there_b Tg8x56.out hbx57
  have Tg9x57 : Hid (x57.there g9 0 32) := there_b Tg9x56.out hbx57
  have Tg15x57 : Hid (x57.there g15 0 32) := there_b Tg15x56.out hbx57
  clear hbx57 Dg8x56 Dg9x56 Dg15x56 Tg8x56 Tg9x56 Tg15x56
  obtain ⟨g16, hg16⟩ : ∃ g16, x57.heap.size = g16 := ⟨_, rfl⟩
  obtain ⟨x58, hx58⟩ : ∃ x58, x57.alloc (.cells (cellsB zD).toArray 24) = x58 := ⟨_, rfl⟩
  have qx58 := new_var hg16 hx58
  have HBx58 : Hid (Below w1.heap.size w1 x58) := HBx57.out.trans (qx58.2.2.mono HBx57.out.size)
  have Lg16 : Hid (w1.heap.size ≤ g16) := by rw [← hg16]; exact HBx57.out.size
  have Ng8g16 : Hid (g8 ≠ g16) := by have := dat_size Dg8x57.out lM; unfold Hid; omega
  have Dg8x58 : Hid (DAt x58 g8 0 M) := dat_b Dg8x57.out lM qx58.2.2
  have Ng9g16 : Hid (g9 ≠ g16) := by have := dat_size Dg9x57.out lM; unfold Hid; omega
  have Dg9x58 : Hid (DAt x58 g9 0 M) := dat_b Dg9x57.out lM qx58.2.2
  have Ng15g16 : Hid (g15 ≠ g16) := by have := dat_size Dg15x57.out lL; unfold Hid; omega
  have Dg15x58 : Hid (DAt x58 g15 0 L) := dat_b Dg15x57.out lL qx58.2.2
  have Tg8x58 : Hid (x58.there g8 0 32) := there_b Tg8x57.out qx58.2.2
  have Tg9x58 : Hid (x58.there g9 0 32) := there_b Tg9x57.out qx58.2.2
  have Tg15x58 : Hid (x58.there g15 0 32) := there_b Tg15x57.out qx58.2.2
  have Dg16x58 : Hid (DAt x58 g16 0 zD) := qx58.2.1
  have Tg16x58 : Hid (x58.there g16 0 32) := qx58.1
  clear qx58
  obtain ⟨x59, hx59⟩ : ∃ x59, x58.setCells g16 0 (cellsB L) = x59 := ⟨_, rfl⟩
  have HBx59 : Hid (Below w1.heap.size w1 x59) := below_put HBx58.out Lg16.out hx59
  have Dg8x59 : Hid (DAt x59 g8 0 M) := dat_else Dg8x58.out Ng8g16.out hx59
  have Dg9x59 : Hid (DAt x59 g9 0 M) := dat_else Dg9x58.out Ng9g16.out hx59
  have Dg15x59 : Hid (DAt x59 g15 0 L) := dat_else Dg15x58.out Ng15g16.out hx59
  have Tg8x59 : Hid (x59.there g8 0 32) := there_else Tg8x58.out hx59
  have Tg9x59 : Hid (x59.there g9 0 32) := there_else Tg9x58.out hx59
  have Tg15x59 : Hid (x59.there g15 0 32) := there_else Tg15x58.out hx59
  have Tg16x59 : Hid (x59.there g16 0 32) := there_else Tg16x58.out hx59
  have Dg16x59 : Hid (DAt x59 g16 0 L) := dat_put Tg16x58.out lL hx59
  go_wp2_with (first
    | (refine wpList_allocD (by rfl) (by rfl) g16 hg16 x58 hx58 ?_)
    | (refine wpList_storeD (by rfl) (.tmp 16) (.tmp 76) (by rfl) g16 L (by rfl) (by rfl) lL Tg16x58.out x59 hx59 ?_))
  clear Dg8x57 Dg9x57 Dg15x57 Tg8x57 Tg9x57 Tg15x57 hg16 hx58 Dg8x58 Dg9x58 Dg15x58 Dg16x58 Tg8x58 Tg9x58 Tg15x58 Tg16x58 hx59 
  refine (error_nil 0 x59).mono ?_
  rintro r x60 ⟨rfl, hbx60⟩
  have HBx60 : Hid (Below w1.heap.size w1 x60) := HBx59.out.trans (hbx60.mono HBx59.out.size)
  have Dg8x60 : Hid (DAt x60 g8 0 M) := dat_b Dg8x59.out lM hbx60
  have Dg9x60 : Hid (DAt x60 g9 0 M) := dat_b Dg9x59.out lM hbx60
  have Dg15x60 : Hid (DAt x60 g15 0 L) := dat_b Dg15x59.out lL hbx60
  have Dg16x60 : Hid (DAt x60 g16 0 L) := dat_b Dg16x59.out lL hbx60
  have Tg8x60 : Hid (x60.there g8 0 32) := there_b Tg8x59.out hbx60
  have Tg9x60 : Hid (x60.there g9 0 32) := there_b Tg9x59.out hbx60
  have Tg15x60 : Hid (x60.there g15 0 32) := there_b Tg15x59.out hbx60
  have Tg16x60 : Hid (x60.there g16 0 32) := there_b Tg16x59.out hbx60
  clear hbx60 Dg8x59 Dg9x59 Dg15x59 Dg16x59 Tg8x59 Tg9x59 Tg15x59 Tg16x59
  rw [show decide ((0 : Int) = 0) = true from rfl]
  go_upto_region 26 with fail
  try simp only [Act.put, List.setIfInBounds_toArray, List.set_cons_zero, List.set_cons_succ]
  have HKK : Hid (∀ wx, Below x60.heap.size x60 wx → (wx.rangeAt g16 0 (cellsB L) ∧ wx.rangeAt g15 0 (cellsB L) ∧ wx.rangeAt g8 0 (cellsB M)) ∧ Env wx ∧ Below w.heap.size w wx) := fun wx hx => by
    have q := HALL.out wx (HBx60.out.trans (hx.mono HBx60.out.size))
    exact ⟨⟨dat_b Dg16x60.out lL hx, dat_b Dg15x60.out lL hx, dat_b Dg8x60.out lM hx⟩, q.1, q.2.2.2.2⟩
  refine wp_region_noPanic ?_
  refine wp_region_held_drew (S := fun wx => wx.rangeAt g16 0 (cellsB L) ∧ wx.rangeAt g15 0 (cellsB L) ∧ wx.rangeAt g8 0 (cellsB M)) (by kernel_rfl) (HKK.out _ (below_drewN x60 1)).1 (fun hHeld => ?_)
  try simp only [Act.put, List.setIfInBounds_toArray, List.set_cons_zero, List.set_cons_succ]
  have HBd : Hid (Below x60.heap.size x60 x60.drew) := below_drewN x60 1
  generalize x60.drew = wd at *
  refine wpAnyH_take (i := 0) (v := ?_) (by simp only [List.getElem?_toArray, List.getElem?_cons_zero, List.getElem?_cons_succ]; rfl) (by kernel_rfl) (by kernel_rfl) (by kernel_rfl) (fun _ _ _ h => h) (Or.inl ⟨by rfl, ?_⟩) hHeld ?_
  rotate_left
  · intro w hSw
    obtain ⟨hSw0, hSw1, hSw2⟩ := hSw
    go_simp
    try with_reducible rfl
  try simp only [Act.put, List.setIfInBounds_toArray, List.set_cons_zero, List.set_cons_succ]
  refine wpAnyH_take (i := 1) (v := ?_) (by simp only [List.getElem?_toArray, List.getElem?_cons_zero, List.getElem?_cons_succ]; rfl) (by kernel_rfl) (by kernel_rfl) (by kernel_rfl) (fun _ _ _ h => h) (Or.inl ⟨by rfl, ?_⟩) hHeld ?_
  rotate_left
  · intro w hSw
    obtain ⟨hSw0, hSw1, hSw2⟩ := hSw
    go_simp
    try with_reducible rfl
  try simp only [Act.put, List.setIfInBounds_toArray, List.set_cons_zero, List.set_cons_succ]
  refine wpAnyH_take (i := 2) (v := .agg (cellsB L).toArray) (by simp only [List.getElem?_toArray, List.getElem?_cons_zero, List.getElem?_cons_succ]; rfl) (by kernel_rfl) (by kernel_rfl) (by kernel_rfl) (fun _ _ _ h => h)
    (yieldsIf_load_mid (by rfl) _ _ rfl _ _ rfl _ _ (fun w hw => hw.1) Tryd.underlying24 rfl (by rw [cellsB_length, lL]; exact Tryd.sizeDg)) hHeld ?_
  try simp only [Act.put, List.setIfInBounds_toArray, List.set_cons_zero, List.set_cons_succ]
  refine wpAnyH_take (i := 3) (v := .agg (cellsB L).toArray) (by simp only [List.getElem?_toArray, List.getElem?_cons_zero, List.getElem?_cons_succ]; rfl) (by kernel_rfl) (by kernel_rfl) (by kernel_rfl) (fun _ _ _ h => h)
    (yieldsIf_load_mid (by rfl) _ _ rfl _ _ rfl _ _ (fun w hw => hw.2.1) Tryd.underlying24 rfl (by rw [cellsB_length, lL]; exact Tryd.sizeDg)) hHeld ?_
  try simp only [Act.put, List.setIfInBounds_toArray, List.set_cons_zero, List.set_cons_succ]
  refine wpAnyH_take (i := 4) (v := .bool true) (by simp only [List.getElem?_toArray, List.getElem?_cons_zero, List.getElem?_cons_succ]; rfl) (by kernel_rfl) (by kernel_rfl) (by kernel_rfl) (fun _ _ _ h => h)
    (yieldsIf_eqD (by rfl) _ _ rfl L L lL lL rfl rfl true (decide_eq_true rfl)) hHeld ?_
  try simp only [Act.put, List.setIfInBounds_toArray, List.set_cons_zero, List.set_cons_succ]
  refine wpAnyH_take (i := 5) (v := ?_) (by simp only [List.getElem?_toArray, List.getElem?_cons_zero, List.getElem?_cons_succ]; rfl) (by kernel_rfl) (by kernel_rfl) (by kernel_rfl) (fun _ _ _ h => h) (Or.inl ⟨by rfl, ?_⟩) hHeld ?_
  rotate_left
  · intro w hSw
    obtain ⟨hSw0, hSw1, hSw2⟩ := hSw
    go_simp
    try with_reducible rfl
  try simp only [Act.put, List.setIfInBounds_toArray, List.set_cons_zero, List.set_cons_succ]
  refine wpAnyH_take (i := 6) (v := ?_) (by simp only [List.getElem?_toArray, List.getElem?_cons_zero, List.getElem?_cons_succ]; rfl) (by kernel_rfl) (by kernel_rfl) (by kernel_rfl) (fun _ _ _ h => h) (Or.inl ⟨by rfl, ?_⟩) hHeld ?_
  rotate_left
  · intro w hSw
    obtain ⟨hSw0, hSw1, hSw2⟩ := hSw
    go_simp
    try with_reducible rfl
  try simp only [Act.put, List.setIfInBounds_toArray, List.set_cons_zero, List.set_cons_succ]
  refine wpAnyH_take (i := 7) (v := .agg (cellsB L).toArray) (by simp only [List.getElem?_toArray, List.getElem?_cons_zero, List.getElem?_cons_succ]; rfl) (by kernel_rfl) (by kernel_rfl) (by kernel_rfl) (fun _ _ _ h => h)
    (yieldsIf_load_mid (by rfl) _ _ rfl _ _ rfl _ _ (fun w hw => hw.1) Tryd.underlying24 rfl (by rw [cellsB_length, lL]; exact Tryd.sizeDg)) hHeld ?_
  try simp only [Act.put, List.setIfInBounds_toArray, List.set_cons_zero, List.set_cons_succ]
  refine wpAnyH_take (i := 8) (v := .agg (cellsB M).toArray) (by simp only [List.getElem?_toArray, List.getElem?_cons_zero, List.getElem?_cons_succ]; rfl) (by kernel_rfl) (by kernel_rfl) (by kernel_rfl) (fun _ _ _ h => h)
    (yieldsIf_load_mid (by rfl) _ _ rfl _ _ rfl _ _ (fun w hw => hw.2.2) Tryd.underlying24 rfl (by rw [cellsB_length, lM]; exact Tryd.sizeDg)) hHeld ?_
  try simp only [Act.put, List.setIfInBounds_toArray, List.set_cons_zero, List.set_cons_succ]
  refine wpAnyH_take (i := 10) (v := .agg (cellsB L).toArray) (by simp only [List.getElem?_toArray, List.getElem?_cons_zero, List.getElem?_cons_succ]; rfl) (by kernel_rfl) (by kernel_rfl) (by kernel_rfl) (fun _ _ _ h => h)
    (yieldsIf_load_mid (by rfl) _ _ rfl _ _ rfl _ _ (fun w hw => hw.2.1) Tryd.underlying24 rfl (by rw [cellsB_length, lL]; exact Tryd.sizeDg)) hHeld ?_
  try simp only [Act.put, List.setIfInBounds_toArray, List.set_cons_zero, List.set_cons_succ]
  refine wpAnyH_take (i := 11) (v := .agg (cellsB M).toArray) (by simp only [List.getElem?_toArray, List.getElem?_cons_zero, List.getElem?_cons_succ]; rfl) (by kernel_rfl) (by kernel_rfl) (by kernel_rfl) (fun _ _ _ h => h)
    (yieldsIf_load_mid (by rfl) _ _ rfl _ _ rfl _ _ (fun w hw => hw.2.2) Tryd.underlying24 rfl (by rw [cellsB_length, lM]; exact Tryd.sizeDg)) hHeld ?_
  try simp only [Act.put, List.setIfInBounds_toArray, List.set_cons_zero, List.set_cons_succ]
  refine wpAnyH_ready (rs := [9]) (by kernel_rfl) (by simp) ?_
  refine AllReadyH.cons (by simp only [List.getElem?_toArray, List.getElem?_cons_zero, List.getElem?_cons_succ]; rfl) (fun K hK => ?_) AllReadyH.nil
  rw [if_pos (by rfl)]
  go_simp
  refine (HNL.out wd (HKK.out _ HBd.out).2.1).mono ?_
  rintro e wn ⟨rfl, hbn⟩
  have HBn : Hid (Below x60.heap.size x60 wn) := HBd.out.trans (hbn.mono HBd.out.size)
  clear hbn HBd
  go_wp2_with fail
  refine hK.out _ _ (HKK.out _ HBn.out).1 (fun hHeld => ?_)
  clear hK K
  try simp only [Act.put, List.setIfInBounds_toArray, List.set_cons_zero, List.set_cons_succ]
  refine wpAnyH_ready (rs := [12]) (by kernel_rfl) (by simp) ?_
  refine AllReadyH.cons (by simp only [List.getElem?_toArray, List.getElem?_cons_zero, List.getElem?_cons_succ]; rfl) (fun K hK => ?_) AllReadyH.nil
  rw [if_pos (by rfl)]
  go_simp
  refine (HMN.out wn).mono ?_
  rintro e wo ⟨rfl, hbo⟩
  have HBo : Hid (Below x60.heap.size x60 wo) := HBn.out.trans (hbo.mono HBn.out.size)
  clear hbo HBn
  go_wp2_with fail
  refine hK.out _ _ (HKK.out _ HBo.out).1 (fun hHeld => ?_)
  clear hK K
  try simp only [Act.put, List.setIfInBounds_toArray, List.set_cons_zero, List.set_cons_succ]
  refine wpAnyH_take (i := 13) (v := .bool true) (by simp only [List.getElem?_toArray, List.getElem?_cons_zero, List.getElem?_cons_succ]; rfl) (by kernel_rfl) (by kernel_rfl) (by kernel_rfl) (fun _ _ _ h => h)
    (yieldsIf_eqD (by rfl) _ _ rfl N N lN lN rfl rfl true (decide_eq_true rfl)) hHeld ?_
  try simp only [Act.put, List.setIfInBounds_toArray, List.set_cons_zero, List.set_cons_succ]
  refine wpAnyH_take (i := 14) (v := ?_) (by simp only [List.getElem?_toArray, List.getElem?_cons_zero, List.getElem?_cons_succ]; rfl) (by kernel_rfl) (by kernel_rfl) (by kernel_rfl) (fun _ _ _ h => h) (Or.inl ⟨by rfl, ?_⟩) hHeld ?_
  rotate_left
  · intro w hSw
    obtain ⟨hSw0, hSw1, hSw2⟩ := hSw
    go_simp
    try with_reducible rfl
  try simp only [Act.put, List.setIfInBounds_toArray, List.set_cons_zero, List.set_cons_succ]
  refine wpAnyH_take (i := 15) (v := ?_) (by simp only [List.getElem?_toArray, List.getElem?_cons_zero, List.getElem?_cons_succ]; rfl) (by kernel_rfl) (by kernel_rfl) (by kernel_rfl) (fun _ _ _ h => h) (Or.inl ⟨by rfl, ?_⟩) hHeld ?_
  rotate_left
  · intro w hSw
    obtain ⟨hSw0, hSw1, hSw2⟩ := hSw
    go_simp
    try with_reducible rfl
  try simp only [Act.put, List.setIfInBounds_toArray, List.set_cons_zero, List.set_cons_succ]
  refine wpAnyH_done (by kernel_rfl) (NoPanic.normal ?_) _
  have HW : Hid (Below w.heap.size w wo) := (HKK.out _ HBo.out).2.2
  clear hHeld HKK HBo
  go_wp2_with fail
  go_ret
  exact ⟨rfl, HW.out⟩
set_option maxRecDepth 100000 in
set_option maxHeartbeats 2000000 in
theorem iroots_nokeynot (a : Option Addr) (n c : Nat) (es : List Ent) (k : Int) (e : Ent) (w : World) (G : Env w) (HH : Handle w) (R : ERow w a n es) (hc : n ≤ c) (hn : 40 * n ≤ 140737488351232) (k1 : -9223372036854775808 ≤ k) (k2 : k ≤ 9223372036854775807) (he : okE e) (hf : faultE es = 0) (hk : isKey k = false) (hk2 : isKey e.1 = false) :
    Calls Tryd.prog 3 #[.slice a n c, .int .i64 k, entV e] w fun r w' => r = .returned (.bool true) ∧ Below w.heap.size w w' := by
  obtain ⟨w1, hw1⟩ : ∃ w1, w.alloc (.cells (entC e).toArray 26) = w1 := ⟨_, rfl⟩
  have HALL : Hid (∀ wx, Below w1.heap.size w1 wx → Env wx ∧ Handle wx ∧ ERow wx a n es ∧ wx.rangeAt w.heap.size 0 (entC e) ∧ Below w.heap.size w wx) := fun wx hx => by
    have b1 : Below w.heap.size w w1 := by rw [← hw1]; exact (Below.refl _ _).alloc (Nat.le_refl _) _
    have b : Below w.heap.size w wx := b1.trans (hx.mono b1.size)
    have hr : w1.rangeAt w.heap.size 0 (entC e) := by rw [← hw1]; exact box_range w (entC e) _
    exact ⟨G.below b, HH.below b, R.below b, ent_below hr hx (ent_block hr), b⟩
  have HBw1 : Hid (Below w1.heap.size w1 w1) := Below.refl _ _
  have HOK : Hid (okE e) := he
  have b1 := he.2.1
  have b2 := he.2.2
  clear G HH R he
  have lZD : zD.length = 32 := rfl
  have lM : (mapL (gE es) 0 32).length = 32 := mapL_length (gE_length es) 32 0
  have hn64 : n ≤ 64 := by have := (faultE_ok hf).1; rw [(HALL.out w1 HBw1.out).2.2.1.1] at this; exact this
  have HMR : Hid (∀ wx, Below w1.heap.size w1 wx → Calls Tryd.prog 10 #[.slice a n c, .int .i64 0, .int .i64 4294967296] wx fun r w' => r = .returned (digestV (mapL (gE es) 0 32)) ∧ Below wx.heap.size wx w') := fun wx hx => rmaproot_any 32 a n c es 0 wx (HALL.out wx hx).2.2.1 hc (by omega) (by decide)
  have HRT : Hid (∀ wx, Below w1.heap.size w1 wx → Calls Tryd.prog 11 #[.slice a n c] wx fun r w' => r = .returned (.tuple #[digestV (mapL (gE es) 0 32), .nilIface]) ∧ Below wx.heap.size wx w') := fun wx hx => wtrie_root a n c es wx (HALL.out wx hx).1 (HALL.out wx hx).2.2.1 hc hn hf
  have HMF : Hid (∀ wx, Below w1.heap.size w1 wx → Calls Tryd.prog 9 #[.slice a n c] wx fun r w' => r = .returned (.int .i64 0) ∧ Below wx.heap.size wx w') := fun wx hx => by
    have := rmapfault_any a n c es wx (HALL.out wx hx).2.2.1 hc (by omega)
    rw [hf] at this
    exact this
  have hp : pathE es k = 2 := by unfold pathE; rw [if_neg (by simp [hf]), if_pos hk]
  have HPT : Hid (∀ wx, Below w1.heap.size w1 wx → Calls Tryd.prog 15 #[.slice a n c, .int .i64 k] wx fun r w' => (∃ a' c', r = .returned (.tuple #[.slice a' 0 c', .iface 27 (.int .i64 (2))])) ∧ Below wx.heap.size wx w') := fun wx hx => wtrie_pathout a n c es k _ wx (HALL.out wx hx).1 (HALL.out wx hx).2.2.1 hc hn k1 k2 hp (by omega)
  clear hp
  have HIK : Hid (∀ wx : World, Calls Tryd.prog 13 #[.int .i64 k] wx fun e w' => e = .returned (.bool false) ∧ w' = wx) := fun wx => by
    have := riskey_any k wx k1 k2
    rw [hk] at this
    exact this
  clear hk
  clear hf
  generalize mapL (gE es) 0 32 = M at *
  have HLF : Hid (∀ wx, Env wx → Calls Tryd.prog 18 #[entV e] wx fun r w' => r = .returned (.tuple #[digestV zD, .iface 27 (.int .i64 2)]) ∧ Below wx.heap.size wx w') := fun wx hx => wtrie_leafout e wx hx HOK.out hk2
  have HIE : Hid (∀ wx : World, Calls Tryd.prog 13 #[.int .i64 e.1] wx fun e w' => e = .returned (.bool false) ∧ w' = wx) := fun wx => by
    have := riskey_any e.1 wx b1 b2
    rw [hk2] at this
    exact this
  have HNL : Hid (∀ wx, Env wx → Calls Tryd.prog 19 #[digestV zD, digestV M] wx fun q w' => q = .returned (digestV (mnode zD M)) ∧ Below wx.heap.size wx w') := fun wx hx => wtrie_node zD M wx hx lZD lM
  have HMN : Hid (∀ wx : World, Calls Tryd.prog 20 #[digestV zD, digestV M] wx fun q w' => q = .returned (digestV (mnode zD M)) ∧ Below wx.heap.size wx w') := fun wx => rmapnode_any zD M wx lZD lM
  have lN := mnode_length zD M
  generalize mnode zD M = N at *
  clear hk2
  obtain ⟨e1, he1⟩ : ∃ e1, e.1 = e1 := ⟨_, rfl⟩
  have HE1 : Hid (e.1 = e1) := he1
  rw [he1] at b1 b2 HIE
  clear he1
  go_enter Tryd.func3, Tryd.ntmps3
  unfold entV
  go_wp2_with fail
  try rw [hw1]
  clear hw1
  refine (HMF.out w1 HBw1.out).mono ?_
  rintro r x61 ⟨rfl, hbx61⟩
  have HBx61 : Hid (Below w1.heap.size w1 x61) := HBw1.out.trans (hbx61.mono HBw1.out.size)
  clear hbx61
  obtain ⟨g8, hg8⟩ : ∃ g8, x61.heap.size = g8 := ⟨_, rfl⟩
  obtain ⟨x62, hx62⟩ : ∃ x62, x61.alloc (.cells (cellsB zD).toArray 24) = x62 := ⟨_, rfl⟩
  have qx62 := new_var hg8 hx62
  have HBx62 : Hid (Below w1.heap.size w1 x62) := HBx61.out.trans (qx62.2.2.mono HBx61.out.size)
  have Lg8 : Hid (w1.heap.size ≤ g8) := by rw [← hg8]; exact HBx61.out.size
  have Dg8x62 : Hid (DAt x62 g8 0 zD) := qx62.2.1
  have Tg8x62 : Hid (x62.there g8 0 32) := qx62.1
  clear qx62
  go_wp2_with (refine wpList_allocD (by rfl) (by rfl) g8 hg8 x62 hx62 ?_)
  clear hg8 hx62 
  refine (HMR.out x62 HBx62.out).mono ?_
  rintro r x63 ⟨rfl, hbx63⟩
  have HBx63 : Hid (Below w1.heap.size w1 x63) := HBx62.out.trans (hbx63.mono HBx62.out.size)
  have Dg8x63 : Hid (DAt x63 g8 0 zD) := dat_b Dg8x62.out rfl hbx63
  have Tg8x63 : Hid (x63.there g8 0 32) := there_b Tg8x62.out hbx63
  clear hbx63 Dg8x62 Tg8x62
  obtain ⟨x64, hx64⟩ : ∃ x64, x63.setCells g8 0 (cellsB M) = x64 := ⟨_, rfl⟩
  have HBx64 : Hid (Below w1.heap.size w1 x64) := below_put HBx63.out Lg8.out hx64
  have Tg8x64 : Hid (x64.there g8 0 32) := there_else Tg8x63.out hx64
  have Dg8x64 : Hid (DAt x64 g8 0 M) := dat_put Tg8x63.out lM hx64
  go_wp2_with (refine wpList_storeD (by rfl) (.tmp 8) (.tmp 22) (by rfl) g8 M (by rfl) (by rfl) lM Tg8x63.out x64 hx64 ?_)
  clear Dg8x63 Tg8x63 hx64 
  refine (HRT.out x64 HBx64.out).mono ?_
  rintro r x65 ⟨rfl, hbx65⟩
  have HBx65 : Hid (Below w1.heap.size w1 x65) := HBx64.out.trans (hbx65.mono HBx64.out.size)
  have Dg8x65 : Hid (DAt x65 g8 0 M) := dat_b Dg8x64.out lM hbx65
  have Tg8x65 : Hid (x65.there g8 0 32) := there_b Tg8x64.out hbx65
  clear hbx65 Dg8x64 Tg8x64
  obtain ⟨g9, hg9⟩ : ∃ g9, x65.heap.size = g9 := ⟨_, rfl⟩
  obtain ⟨x66, hx66⟩ : ∃ x66, x65.alloc (.cells (cellsB zD).toArray 24) = x66 := ⟨_, rfl⟩
  have qx66 := new_var hg9 hx66
  have HBx66 : Hid (Below w1.heap.size w1 x66) := HBx65.out.trans (qx66.2.2.mono HBx65.out.size)
  have Lg9 : Hid (w1.heap.size ≤ g9) := by rw [← hg9]; exact HBx65.out.size
  have Ng8g9 : Hid (g8 ≠ g9) := by have := dat_size Dg8x65.out lM; unfold Hid; omega
  have Dg8x66 : Hid (DAt x66 g8 0 M) := dat_b Dg8x65.out lM qx66.2.2
  have Tg8x66 : Hid (x66.there g8 0 32) := there_b Tg8x65.out qx66.2.2
  have Dg9x66 : Hid (DAt x66 g9 0 zD) := qx66.2.1
  have Tg9x66 : Hid (x66.there g9 0 32) := qx66.1
  clear qx66
  obtain ⟨x67, hx67⟩ : ∃ x67, x66.setCells g9 0 (cellsB M) = x67 := ⟨_, rfl⟩
  have HBx67 : Hid (Below w1.heap.size w1 x67) := below_put HBx66.out Lg9.out hx67
  have Dg8x67 : Hid (DAt x67 g8 0 M) := dat_else Dg8x66.out Ng8g9.out hx67
  have Tg8x67 : Hid (x67.there g8 0 32) := there_else Tg8x66.out hx67
  have Tg9x67 : Hid (x67.there g9 0 32) := there_else Tg9x66.out hx67
  have Dg9x67 : Hid (DAt x67 g9 0 M) := dat_put Tg9x66.out lM hx67
  go_wp2_with (first
    | (refine wpList_allocD (by rfl) (by rfl) g9 hg9 x66 hx66 ?_)
    | (refine wpList_storeD (by rfl) (.tmp 9) (.tmp 26) (by rfl) g9 M (by rfl) (by rfl) lM Tg9x66.out x67 hx67 ?_))
  clear Dg8x65 Tg8x65 hg9 hx66 Dg8x66 Dg9x66 Tg8x66 Tg9x66 hx67 
  refine (error_nil 0 x67).mono ?_
  rintro r x68 ⟨rfl, hbx68⟩
  have HBx68 : Hid (Below w1.heap.size w1 x68) := HBx67.out.trans (hbx68.mono HBx67.out.size)
  have Dg8x68 : Hid (DAt x68 g8 0 M) := dat_b Dg8x67.out lM hbx68
  have Dg9x68 : Hid (DAt x68 g9 0 M) := dat_b Dg9x67.out lM hbx68
  have Tg8x68 : Hid (x68.there g8 0 32) := there_b Tg8x67.out hbx68
  have Tg9x68 : Hid (x68.there g9 0 32) := there_b Tg9x67.out hbx68
  clear hbx68 Dg8x67 Dg9x67 Tg8x67 Tg9x67
  rw [show decide ((0 : Int) = 0) = true from rfl]
  go_wp2_with (first
    | (refine wpList_loadDG (by rfl) (.tmp 9) (by rfl) g9 M (by rfl) lM Dg9x68.out ?_)
    | (refine wpList_loadDG (by rfl) (.tmp 8) (by rfl) g8 M (by rfl) lM Dg8x68.out ?_)
    | (refine wpList_neqD (.tmp 34) (.tmp 35) (by rfl) (by rfl) M M lM lM (by rfl) (by rfl) false (by simp) ?_))
  refine (HIK.out x68).mono ?_
  rintro r x69 ⟨rfl, hq⟩
  have hq' : x68 = x69 := hq.symm
  subst hq'
  go_wp2_with fail
  refine (HPT.out x68 HBx68.out).mono ?_
  rintro r x70 ⟨⟨a9, c9, rfl⟩, hbx70⟩
  have HBx70 : Hid (Below w1.heap.size w1 x70) := HBx68.out.trans (hbx70.mono HBx68.out.size)
  have Dg8x70 : Hid (DAt x70 g8 0 M) := dat_b Dg8x68.out lM hbx70
  have Dg9x70 : Hid (DAt x70 g9 0 M) := dat_b Dg9x68.out lM hbx70
  have Tg8x70 : Hid (x70.there g8 0 32) := there_b Tg8x68.out hbx70
  have Tg9x70 : Hid (x70.there g9 0 32) := there_b Tg9x68.out hbx70
  clear hbx70 Dg8x68 Dg9x68 Tg8x68 Tg9x68
  go_wp2_with fail
  refine (error_errno (2) (2) x70 (HALL.out _ HBx70.out).2.1).mono ?_
  rintro r x71 ⟨rfl, hbx71⟩
  have HBx71 : Hid (Below w1.heap.size w1 x71) := HBx70.out.trans (hbx71.mono HBx70.out.size)
  have Dg8x71 : Hid (DAt x71 g8 0 M) := dat_b Dg8x70.out lM hbx71
  have Dg9x71 : Hid (DAt x71 g9 0 M) := dat_b Dg9x70.out lM hbx71
  have Tg8x71 : Hid (x71.there g8 0 32) := there_b Tg8x70.out hbx71
  have Tg9x71 : Hid (x71.there g9 0 32) := there_b Tg9x70.out hbx71
  clear hbx71 Dg8x70 Dg9x70 Tg8x70 Tg9x70
  rw [show decide ((2 : Int) = 2) = true from decide_eq_true rfl]
  go_wp2_with fail
  refine (sdigests_any a9 none 0 0 c9 0 [] [] x71 (drow_nil0 _ _) (drow_nil0 _ _) (by omega)).mono ?_
  rintro r x72 ⟨rfl, hbx72⟩
  have HBx72 : Hid (Below w1.heap.size w1 x72) := HBx71.out.trans (hbx72.mono HBx71.out.size)
  have Dg8x72 : Hid (DAt x72 g8 0 M) := dat_b Dg8x71.out lM hbx72
  have Dg9x72 : Hid (DAt x72 g9 0 M) := dat_b Dg9x71.out lM hbx72
  have Tg8x72 : Hid (x72.there g8 0 32) := there_b Tg8x71.out hbx72
  have Tg9x72 : Hid (x72.there g9 0 32) := there_b Tg9x71.out hbx72
  clear hbx72 Dg8x71 Dg9x71 Tg8x71 Tg9x71
  rw [show decide (([] : List (List UInt8)) = []) = true from rfl]
  obtain ⟨g15, hg15⟩ : ∃ g15, x72.heap.size = g15 := ⟨_, rfl⟩
  obtain ⟨x73, hx73⟩ : ∃ x73, x72.alloc (.cells (cellsB zD).toArray 24) = x73 := ⟨_, rfl⟩
  have qx73 := new_var hg15 hx73
  have HBx73 : Hid (Below w1.heap.size w1 x73) := HBx72.out.trans (qx73.2.2.mono HBx72.out.size)
  have Lg15 : Hid (w1.heap.size ≤ g15) := by rw [← hg15]; exact HBx72.out.size
  have Ng8g15 : Hid (g8 ≠ g15) := by have := dat_size Dg8x72.out lM; unfold Hid; omega
  have Dg8x73 : Hid (DAt x73 g8 0 M) := dat_b Dg8x72.out lM qx73.2.2
  have Ng9g15 : Hid (g9 ≠ g15) := by have := dat_size Dg9x72.out lM; unfold Hid; omega
  have Dg9x73 : Hid (DAt x73 g9 0 M) := dat_b Dg9x72.out lM qx73.2.2
  have Tg8x73 : Hid (x73.there g8 0 32) := there_b Tg8x72.out qx73.2.2
  have Tg9x73 : Hid (x73.there g9 0 32) := there_b Tg9x72.out qx73.2.2
  have Dg15x73 : Hid (DAt x73 g15 0 zD) := qx73.2.1
  have Tg15x73 : Hid (x73.there g15 0 32) := qx73.1
  clear qx73
  have k0 : x73.cell? ⟨w.heap.size, 0, none⟩ = some (.int .i64 e1) := by have h := (HALL.out _ HBx73.out).2.2.2.1 0 _ rfl; rw [HE1.out] at h; exact h
  go_wp2_with (refine wpList_allocD (by rfl) (by rfl) g15 hg15 x73 hx73 ?_)
  clear Dg8x72 Dg9x72 Tg8x72 Tg9x72 hg15 hx73 
  clear k0
  refine (HIE.out x73).mono ?_
  rintro r x74 ⟨rfl, hq⟩
  have hq' : x73 = x74 := hq.symm
  subst hq'
  go_wp2_with (refine wpList_load_mid (by rfl) 26 (.tmp 5) (by rfl) w.heap.size 0 (by rfl) (entC e) _ (HALL.out _ HBx73.out).2.2.2.1 Tryd.underlying26 (by rfl) (by rw [entC_length HOK.out]; exact Tryd.sizeEn) ?_)
  refine (HLF.out x73 (HALL.out _ HBx73.out).1).mono ?_
  rintro r x75 ⟨rfl, hbx75⟩
  have HBx75 : Hid (Below w1.heap.size w1 x75) := HBx73.out.trans (hbx75.mono HBx73.out.size)
  have Dg8x75 : Hid (DAt x75 g8 0 M) := dat_b Dg8x73.out lM hbx75
  have Dg9x75 : Hid (DAt x75 g9 0 M) := dat_b Dg9x73.out lM hbx75
  have Dg15x75 : Hid (DAt x75 g15 0 zD) := dat_b Dg15x73.out rfl hbx75
  have Tg8x75 : Hid (x75.there g8 0 32) := there_b Tg8x73.out hbx75
  have Tg9x75 : Hid (x75.there g9 0 32) := there_b Tg9x73.out hbx75
  have Tg15x75 : Hid (x75.there g15 0 32) := there_b Tg15x73.out hbx75
  clear hbx75 Dg8x73 Dg9x73 Dg15x73 Tg8x73 Tg9x73 Tg15x73
  obtain ⟨g16, hg16⟩ : ∃ g16, x75.heap.size = g16 := ⟨_, rfl⟩
  obtain ⟨x76, hx76⟩ : ∃ x76, x75.alloc (.cells (cellsB zD).toArray 24) = x76 := ⟨_, rfl⟩
  have qx76 := new_var hg16 hx76
  have HBx76 : Hid (Below w1.heap.size w1 x76) := HBx75.out.trans (qx76.2.2.mono HBx75.out.size)
  have Lg16 : Hid (w1.heap.size ≤ g16) := by rw [← hg16]; exact HBx75.out.size
  have Ng8g16 : Hid (g8 ≠ g16) := by have := dat_size Dg8x75.out lM; unfold Hid; omega
  have Dg8x76 : Hid (DAt x76 g8 0 M) := dat_b Dg8x75.out lM qx76.2.2
  have Ng9g16 : Hid (g9 ≠ g16) := by have := dat_size Dg9x75.out lM; unfold Hid; omega
  have Dg9x76 : Hid (DAt x76 g9 0 M) := dat_b Dg9x75.out lM qx76.2.2
  have Ng15g16 : Hid (g15 ≠ g16) := by have := dat_size Dg15x75.out rfl; unfold Hid; omega
  have Dg15x76 : Hid (DAt x76 g15 0 zD) := dat_b Dg15x75.out rfl qx76.2.2
  have Tg8x76 : Hid (x76.there g8 0 32) := there_b Tg8x75.out qx76.2.2
  have Tg9x76 : Hid (x76.there g9 0 32) := there_b Tg9x75.out qx76.2.2
  have Tg15x76 : Hid (x76.there g15 0 32) := there_b Tg15x75.out qx76.2.2
  have Dg16x76 : Hid (DAt x76 g16 0 zD) := qx76.2.1
  have Tg16x76 : Hid (x76.there g16 0 32) := qx76.1
  clear qx76
  obtain ⟨x77, hx77⟩ : ∃ x77, x76.setCells g16 0 (cellsB zD) = x77 := ⟨_, rfl⟩
  have HBx77 : Hid (Below w1.heap.size w1 x77) := below_put HBx76.out Lg16.out hx77
  have Dg8x77 : Hid (DAt x77 g8 0 M) := dat_else Dg8x76.out Ng8g16.out hx77
  have Dg9x77 : Hid (DAt x77 g9 0 M) := dat_else Dg9x76.out Ng9g16.out hx77
  have Dg15x77 : Hid (DAt x77 g15 0 zD) := dat_else Dg15x76.out Ng15g16.out hx77
  have Tg8x77 : Hid (x77.there g8 0 32) := there_else Tg8x76.out hx77
  have Tg9x77 : Hid (x77.there g9 0 32) := there_else Tg9x76.out hx77
  have Tg15x77 : Hid (x77.there g15 0 32) := there_else Tg15x76.out hx77
  have Tg16x77 : Hid (x77.there g16 0 32) := there_else Tg16x76.out hx77
  have Dg16x77 : Hid (DAt x77 g16 0 zD) := dat_put Tg16x76.out lZD hx77
  go_wp2_with (first
    | (refine wpList_allocD (by rfl) (by rfl) g16 hg16 x76 hx76 ?_)
    | (refine wpList_storeD (by rfl) (.tmp 16) (.tmp 76) (by rfl) g16 zD (by rfl) (by rfl) lZD Tg16x76.out x77 hx77 ?_))
  clear Dg8x75 Dg9x75 Dg15x75 Tg8x75 Tg9x75 Tg15x75 hg16 hx76 Dg8x76 Dg9x76 Dg15x76 Dg16x76 Tg8x76 Tg9x76 Tg15x76 Tg16x76 hx77 
  refine (error_errno 2 2 x77 (HALL.out _ HBx77.out).2.1).mono ?_
  rintro r x78 ⟨rfl, hbx78⟩
  have HBx78 : Hid (Below w1.heap.size w1 x78) := HBx77.out.trans (hbx78.mono HBx77.out.size)
  have Dg8x78 : Hid (DAt x78 g8 0 M) := dat_b Dg8x77.out lM hbx78
  have Dg9x78 : Hid (DAt x78 g9 0 M) := dat_b Dg9x77.out lM hbx78
  have Dg15x78 : Hid (DAt x78 g15 0 zD) := dat_b Dg15x77.out rfl hbx78
  have Dg16x78 : Hid (DAt x78 g16 0 zD) := dat_b Dg16x77.out lZD hbx78
  have Tg8x78 : Hid (x78.there g8 0 32) := there_b Tg8x77.out hbx78
  have Tg9x78 : Hid (x78.there g9 0 32) := there_b Tg9x77.out hbx78
  have Tg15x78 : Hid (x78.there g15 0 32) := there_b Tg15x77.out hbx78
  have Tg16x78 : Hid (x78.there g16 0 32) := there_b Tg16x77.out hbx78
  clear hbx78 Dg8x77 Dg9x77 Dg15x77 Dg16x77 Tg8x77 Tg9x77 Tg15x77 Tg16x77
  rw [show decide ((2 : Int) = 2) = true from rfl]
  go_upto_region 26 with fail
  try simp only [Act.put, List.setIfInBounds_toArray, List.set_cons_zero, List.set_cons_succ]
  have HKK : Hid (∀ wx, Below x78.heap.size x78 wx → (wx.rangeAt g16 0 (cellsB zD) ∧ wx.rangeAt g15 0 (cellsB zD) ∧ wx.rangeAt g8 0 (cellsB M)) ∧ Env wx ∧ Below w.heap.size w wx) := fun wx hx => by
    have q := HALL.out wx (HBx78.out.trans (hx.mono HBx78.out.size))
    exact ⟨⟨dat_b Dg16x78.out lZD hx, dat_b Dg15x78.out lZD hx, dat_b Dg8x78.out lM hx⟩, q.1, q.2.2.2.2⟩
  refine wp_region_noPanic ?_
  refine wp_region_held_drew (S := fun wx => wx.rangeAt g16 0 (cellsB zD) ∧ wx.rangeAt g15 0 (cellsB zD) ∧ wx.rangeAt g8 0 (cellsB M)) (by kernel_rfl) (HKK.out _ (below_drewN x78 1)).1 (fun hHeld => ?_)
  try simp only [Act.put, List.setIfInBounds_toArray, List.set_cons_zero, List.set_cons_succ]
  have HBd : Hid (Below x78.heap.size x78 x78.drew) := below_drewN x78 1
  generalize x78.drew = wd at *
  refine wpAnyH_take (i := 0) (v := ?_) (by simp only [List.getElem?_toArray, List.getElem?_cons_zero, List.getElem?_cons_succ]; rfl) (by kernel_rfl) (by kernel_rfl) (by kernel_rfl) (fun _ _ _ h => h) (Or.inl ⟨by rfl, ?_⟩) hHeld ?_
  rotate_left
  · intro w hSw
    obtain ⟨hSw0, hSw1, hSw2⟩ := hSw
    go_simp
    try with_reducible rfl
  try simp only [Act.put, List.setIfInBounds_toArray, List.set_cons_zero, List.set_cons_succ]
  refine wpAnyH_take (i := 1) (v := ?_) (by simp only [List.getElem?_toArray, List.getElem?_cons_zero, List.getElem?_cons_succ]; rfl) (by kernel_rfl) (by kernel_rfl) (by kernel_rfl) (fun _ _ _ h => h) (Or.inl ⟨by rfl, ?_⟩) hHeld ?_
  rotate_left
  · intro w hSw
    obtain ⟨hSw0, hSw1, hSw2⟩ := hSw
    go_simp
    try with_reducible rfl
  try simp only [Act.put, List.setIfInBounds_toArray, List.set_cons_zero, List.set_cons_succ]
  refine wpAnyH_take (i := 2) (v := .agg (cellsB zD).toArray) (by simp only [List.getElem?_toArray, List.getElem?_cons_zero, List.getElem?_cons_succ]; rfl) (by kernel_rfl) (by kernel_rfl) (by kernel_rfl) (fun _ _ _ h => h)
    (yieldsIf_load_mid (by rfl) _ _ rfl _ _ rfl _ _ (fun w hw => hw.1) Tryd.underlying24 rfl (by rw [cellsB_length, lZD]; exact Tryd.sizeDg)) hHeld ?_
  try simp only [Act.put, List.setIfInBounds_toArray, List.set_cons_zero, List.set_cons_succ]
  refine wpAnyH_take (i := 3) (v := .agg (cellsB zD).toArray) (by simp only [List.getElem?_toArray, List.getElem?_cons_zero, List.getElem?_cons_succ]; rfl) (by kernel_rfl) (by kernel_rfl) (by kernel_rfl) (fun _ _ _ h => h)
    (yieldsIf_load_mid (by rfl) _ _ rfl _ _ rfl _ _ (fun w hw => hw.2.1) Tryd.underlying24 rfl (by rw [cellsB_length, lZD]; exact Tryd.sizeDg)) hHeld ?_
  try simp only [Act.put, List.setIfInBounds_toArray, List.set_cons_zero, List.set_cons_succ]
  refine wpAnyH_take (i := 4) (v := .bool true) (by simp only [List.getElem?_toArray, List.getElem?_cons_zero, List.getElem?_cons_succ]; rfl) (by kernel_rfl) (by kernel_rfl) (by kernel_rfl) (fun _ _ _ h => h)
    (yieldsIf_eqD (by rfl) _ _ rfl zD zD lZD lZD rfl rfl true (decide_eq_true rfl)) hHeld ?_
  try simp only [Act.put, List.setIfInBounds_toArray, List.set_cons_zero, List.set_cons_succ]
  refine wpAnyH_take (i := 5) (v := ?_) (by simp only [List.getElem?_toArray, List.getElem?_cons_zero, List.getElem?_cons_succ]; rfl) (by kernel_rfl) (by kernel_rfl) (by kernel_rfl) (fun _ _ _ h => h) (Or.inl ⟨by rfl, ?_⟩) hHeld ?_
  rotate_left
  · intro w hSw
    obtain ⟨hSw0, hSw1, hSw2⟩ := hSw
    go_simp
    try with_reducible rfl
  try simp only [Act.put, List.setIfInBounds_toArray, List.set_cons_zero, List.set_cons_succ]
  refine wpAnyH_take (i := 6) (v := ?_) (by simp only [List.getElem?_toArray, List.getElem?_cons_zero, List.getElem?_cons_succ]; rfl) (by kernel_rfl) (by kernel_rfl) (by kernel_rfl) (fun _ _ _ h => h) (Or.inl ⟨by rfl, ?_⟩) hHeld ?_
  rotate_left
  · intro w hSw
    obtain ⟨hSw0, hSw1, hSw2⟩ := hSw
    go_simp
    try with_reducible rfl
  try simp only [Act.put, List.setIfInBounds_toArray, List.set_cons_zero, List.set_cons_succ]
  refine wpAnyH_take (i := 7) (v := .agg (cellsB zD).toArray) (by simp only [List.getElem?_toArray, List.getElem?_cons_zero, List.getElem?_cons_succ]; rfl) (by kernel_rfl) (by kernel_rfl) (by kernel_rfl) (fun _ _ _ h => h)
    (yieldsIf_load_mid (by rfl) _ _ rfl _ _ rfl _ _ (fun w hw => hw.1) Tryd.underlying24 rfl (by rw [cellsB_length, lZD]; exact Tryd.sizeDg)) hHeld ?_
  try simp only [Act.put, List.setIfInBounds_toArray, List.set_cons_zero, List.set_cons_succ]
  refine wpAnyH_take (i := 8) (v := .agg (cellsB M).toArray) (by simp only [List.getElem?_toArray, List.getElem?_cons_zero, List.getElem?_cons_succ]; rfl) (by kernel_rfl) (by kernel_rfl) (by kernel_rfl) (fun _ _ _ h => h)
    (yieldsIf_load_mid (by rfl) _ _ rfl _ _ rfl _ _ (fun w hw => hw.2.2) Tryd.underlying24 rfl (by rw [cellsB_length, lM]; exact Tryd.sizeDg)) hHeld ?_
  try simp only [Act.put, List.setIfInBounds_toArray, List.set_cons_zero, List.set_cons_succ]
  refine wpAnyH_take (i := 10) (v := .agg (cellsB zD).toArray) (by simp only [List.getElem?_toArray, List.getElem?_cons_zero, List.getElem?_cons_succ]; rfl) (by kernel_rfl) (by kernel_rfl) (by kernel_rfl) (fun _ _ _ h => h)
    (yieldsIf_load_mid (by rfl) _ _ rfl _ _ rfl _ _ (fun w hw => hw.2.1) Tryd.underlying24 rfl (by rw [cellsB_length, lZD]; exact Tryd.sizeDg)) hHeld ?_
  try simp only [Act.put, List.setIfInBounds_toArray, List.set_cons_zero, List.set_cons_succ]
  refine wpAnyH_take (i := 11) (v := .agg (cellsB M).toArray) (by simp only [List.getElem?_toArray, List.getElem?_cons_zero, List.getElem?_cons_succ]; rfl) (by kernel_rfl) (by kernel_rfl) (by kernel_rfl) (fun _ _ _ h => h)
    (yieldsIf_load_mid (by rfl) _ _ rfl _ _ rfl _ _ (fun w hw => hw.2.2) Tryd.underlying24 rfl (by rw [cellsB_length, lM]; exact Tryd.sizeDg)) hHeld ?_
  try simp only [Act.put, List.setIfInBounds_toArray, List.set_cons_zero, List.set_cons_succ]
  refine wpAnyH_ready (rs := [9]) (by kernel_rfl) (by simp) ?_
  refine AllReadyH.cons (by simp only [List.getElem?_toArray, List.getElem?_cons_zero, List.getElem?_cons_succ]; rfl) (fun K hK => ?_) AllReadyH.nil
  rw [if_pos (by rfl)]
  go_simp
  refine (HNL.out wd (HKK.out _ HBd.out).2.1).mono ?_
  rintro e wn ⟨rfl, hbn⟩
  have HBn : Hid (Below x78.heap.size x78 wn) := HBd.out.trans (hbn.mono HBd.out.size)
  clear hbn HBd
  go_wp2_with fail
  refine hK.out _ _ (HKK.out _ HBn.out).1 (fun hHeld => ?_)
  clear hK K
  try simp only [Act.put, List.setIfInBounds_toArray, List.set_cons_zero, List.set_cons_succ]
  refine wpAnyH_ready (rs := [12]) (by kernel_rfl) (by simp) ?_
  refine AllReadyH.cons (by simp only [List.getElem?_toArray, List.getElem?_cons_zero, List.getElem?_cons_succ]; rfl) (fun K hK => ?_) AllReadyH.nil
  rw [if_pos (by rfl)]
  go_simp
  refine (HMN.out wn).mono ?_
  rintro e wo ⟨rfl, hbo⟩
  have HBo : Hid (Below x78.heap.size x78 wo) := HBn.out.trans (hbo.mono HBn.out.size)
  clear hbo HBn
  go_wp2_with fail
  refine hK.out _ _ (HKK.out _ HBo.out).1 (fun hHeld => ?_)
  clear hK K
  try simp only [Act.put, List.setIfInBounds_toArray, List.set_cons_zero, List.set_cons_succ]
  refine wpAnyH_take (i := 13) (v := .bool true) (by simp only [List.getElem?_toArray, List.getElem?_cons_zero, List.getElem?_cons_succ]; rfl) (by kernel_rfl) (by kernel_rfl) (by kernel_rfl) (fun _ _ _ h => h)
    (yieldsIf_eqD (by rfl) _ _ rfl N N lN lN rfl rfl true (decide_eq_true rfl)) hHeld ?_
  try simp only [Act.put, List.setIfInBounds_toArray, List.set_cons_zero, List.set_cons_succ]
  refine wpAnyH_take (i := 14) (v := ?_) (by simp only [List.getElem?_toArray, List.getElem?_cons_zero, List.getElem?_cons_succ]; rfl) (by kernel_rfl) (by kernel_rfl) (by kernel_rfl) (fun _ _ _ h => h) (Or.inl ⟨by rfl, ?_⟩) hHeld ?_
  rotate_left
  · intro w hSw
    obtain ⟨hSw0, hSw1, hSw2⟩ := hSw
    go_simp
    try with_reducible rfl
  try simp only [Act.put, List.setIfInBounds_toArray, List.set_cons_zero, List.set_cons_succ]
  refine wpAnyH_take (i := 15) (v := ?_) (by simp only [List.getElem?_toArray, List.getElem?_cons_zero, List.getElem?_cons_succ]; rfl) (by kernel_rfl) (by kernel_rfl) (by kernel_rfl) (fun _ _ _ h => h) (Or.inl ⟨by rfl, ?_⟩) hHeld ?_
  rotate_left
  · intro w hSw
    obtain ⟨hSw0, hSw1, hSw2⟩ := hSw
    go_simp
    try with_reducible rfl
  try simp only [Act.put, List.setIfInBounds_toArray, List.set_cons_zero, List.set_cons_succ]
  refine wpAnyH_done (by kernel_rfl) (NoPanic.normal ?_) _
  have HW : Hid (Below w.heap.size w wo) := (HKK.out _ HBo.out).2.2
  clear hHeld HKK HBo
  go_wp2_with fail
  go_ret
  exact ⟨rfl, HW.out⟩
set_option maxRecDepth 100000 in
set_option maxHeartbeats 2000000 in
theorem iroots_faultkey (a : Option Addr) (n c : Nat) (es : List Ent) (k : Int) (e : Ent) (w : World) (G : Env w) (HH : Handle w) (R : ERow w a n es) (hc : n ≤ c) (hn : 40 * n ≤ 140737488351232) (k1 : -9223372036854775808 ≤ k) (k2 : k ≤ 9223372036854775807) (he : okE e) (hf : faultE es ≠ 0) (hk2 : isKey e.1 = true) :
    Calls Tryd.prog 3 #[.slice a n c, .int .i64 k, entV e] w fun r w' => r = .returned (.bool true) ∧ Below w.heap.size w w' := by
  obtain ⟨w1, hw1⟩ : ∃ w1, w.alloc (.cells (entC e).toArray 26) = w1 := ⟨_, rfl⟩
  have HALL : Hid (∀ wx, Below w1.heap.size w1 wx → Env wx ∧ Handle wx ∧ ERow wx a n es ∧ wx.rangeAt w.heap.size 0 (entC e) ∧ Below w.heap.size w wx) := fun wx hx => by
    have b1 : Below w.heap.size w w1 := by rw [← hw1]; exact (Below.refl _ _).alloc (Nat.le_refl _) _
    have b : Below w.heap.size w wx := b1.trans (hx.mono b1.size)
    have hr : w1.rangeAt w.heap.size 0 (entC e) := by rw [← hw1]; exact box_range w (entC e) _
    exact ⟨G.below b, HH.below b, R.below b, ent_below hr hx (ent_block hr), b⟩
  have HBw1 : Hid (Below w1.heap.size w1 w1) := Below.refl _ _
  have HOK : Hid (okE e) := he
  have b1 := he.2.1
  have b2 := he.2.2
  clear G HH R he
  have lZD : zD.length = 32 := rfl
  have HRT : Hid (∀ wx, Below w1.heap.size w1 wx → Calls Tryd.prog 11 #[.slice a n c] wx fun r w' => r = .returned (.tuple #[digestV zD, .iface 27 (.int .i64 (faultE es))]) ∧ Below wx.heap.size wx w') := fun wx hx => wtrie_rootout a n c es _ wx (HALL.out wx hx).1 (HALL.out wx hx).2.2.1 hc hn rfl hf
  have HMF : Hid (∀ wx, Below w1.heap.size w1 wx → Calls Tryd.prog 9 #[.slice a n c] wx fun r w' => r = .returned (.int .i64 (faultE es)) ∧ Below wx.heap.size wx w') := fun wx hx => rmapfault_any a n c es wx (HALL.out wx hx).2.2.1 hc (by omega)
  have hp : pathE es k = faultE es := by unfold pathE; rw [if_pos hf]
  have HPT : Hid (∀ wx, Below w1.heap.size w1 wx → Calls Tryd.prog 15 #[.slice a n c, .int .i64 k] wx fun r w' => (∃ a' c', r = .returned (.tuple #[.slice a' 0 c', .iface 27 (.int .i64 (faultE es))])) ∧ Below wx.heap.size wx w') := fun wx hx => wtrie_pathout a n c es k _ wx (HALL.out wx hx).1 (HALL.out wx hx).2.2.1 hc hn k1 k2 hp hf
  clear hp
  generalize faultE es = q at *
  have hq0 : (q == 0) = false := beq_eq_false_iff_ne.2 hf
  have hq1 : ¬ q = 0 := hf
  clear hf
  have hk2b := of_decide_eq_true hk2
  have lL := leafE_length e
  have HEL : Hid (∀ wx : World, Calls Tryd.prog 17 #[entV e] wx fun r w' => r = .returned (digestV (leafE e)) ∧ Below wx.heap.size wx w') := fun wx => rentryleaf_any e wx HOK.out hk2b.1 hk2b.2
  have HLF : Hid (∀ wx, Env wx → Calls Tryd.prog 18 #[entV e] wx fun r w' => r = .returned (.tuple #[digestV (leafE e), .nilIface]) ∧ Below wx.heap.size wx w') := fun wx hx => wtrie_leaf e wx hx HOK.out hk2
  generalize leafE e = L at *
  clear hk2b
  have HIE : Hid (∀ wx : World, Calls Tryd.prog 13 #[.int .i64 e.1] wx fun e w' => e = .returned (.bool true) ∧ w' = wx) := fun wx => by
    have := riskey_any e.1 wx b1 b2
    rw [hk2] at this
    exact this
  have HNL : Hid (∀ wx, Env wx → Calls Tryd.prog 19 #[digestV L, digestV zD] wx fun q w' => q = .returned (digestV (mnode L zD)) ∧ Below wx.heap.size wx w') := fun wx hx => wtrie_node L zD wx hx lL lZD
  have HMN : Hid (∀ wx : World, Calls Tryd.prog 20 #[digestV L, digestV zD] wx fun q w' => q = .returned (digestV (mnode L zD)) ∧ Below wx.heap.size wx w') := fun wx => rmapnode_any L zD wx lL lZD
  have lN := mnode_length L zD
  generalize mnode L zD = N at *
  clear hk2
  obtain ⟨e1, he1⟩ : ∃ e1, e.1 = e1 := ⟨_, rfl⟩
  have HE1 : Hid (e.1 = e1) := he1
  rw [he1] at b1 b2 HIE
  clear he1
  go_enter Tryd.func3, Tryd.ntmps3
  unfold entV
  go_wp2_with fail
  try rw [hw1]
  clear hw1
  refine (HMF.out w1 HBw1.out).mono ?_
  rintro r x79 ⟨rfl, hbx79⟩
  have HBx79 : Hid (Below w1.heap.size w1 x79) := HBw1.out.trans (hbx79.mono HBw1.out.size)
  clear hbx79
  obtain ⟨g8, hg8⟩ : ∃ g8, x79.heap.size = g8 := ⟨_, rfl⟩
  obtain ⟨x80, hx80⟩ : ∃ x80, x79.alloc (.cells (cellsB zD).toArray 24) = x80 := ⟨_, rfl⟩
  have qx80 := new_var hg8 hx80
  have HBx80 : Hid (Below w1.heap.size w1 x80) := HBx79.out.trans (qx80.2.2.mono HBx79.out.size)
  have Lg8 : Hid (w1.heap.size ≤ g8) := by rw [← hg8]; exact HBx79.out.size
  have Dg8x80 : Hid (DAt x80 g8 0 zD) := qx80.2.1
  have Tg8x80 : Hid (x80.there g8 0 32) := qx80.1
  clear qx80
  go_wp2_with (refine wpList_allocD (by rfl) (by rfl) g8 hg8 x80 hx80 ?_)
  clear hg8 hx80 
  refine (HRT.out x80 HBx80.out).mono ?_
  rintro r x81 ⟨rfl, hbx81⟩
  have HBx81 : Hid (Below w1.heap.size w1 x81) := HBx80.out.trans (hbx81.mono HBx80.out.size)
  have Dg8x81 : Hid (DAt x81 g8 0 zD) := dat_b Dg8x80.out rfl hbx81
  have Tg8x81 : Hid (x81.there g8 0 32) := there_b Tg8x80.out hbx81
  clear hbx81 Dg8x80 Tg8x80
  obtain ⟨g9, hg9⟩ : ∃ g9, x81.heap.size = g9 := ⟨_, rfl⟩
  obtain ⟨x82, hx82⟩ : ∃ x82, x81.alloc (.cells (cellsB zD).toArray 24) = x82 := ⟨_, rfl⟩
  have qx82 := new_var hg9 hx82
  have HBx82 : Hid (Below w1.heap.size w1 x82) := HBx81.out.trans (qx82.2.2.mono HBx81.out.size)
  have Lg9 : Hid (w1.heap.size ≤ g9) := by rw [← hg9]; exact HBx81.out.size
  have Ng8g9 : Hid (g8 ≠ g9) := by have := dat_size Dg8x81.out rfl; unfold Hid; omega
  have Dg8x82 : Hid (DAt x82 g8 0 zD) := dat_b Dg8x81.out rfl qx82.2.2
  have Tg8x82 : Hid (x82.there g8 0 32) := there_b Tg8x81.out qx82.2.2
  have Dg9x82 : Hid (DAt x82 g9 0 zD) := qx82.2.1
  have Tg9x82 : Hid (x82.there g9 0 32) := qx82.1
  clear qx82
  obtain ⟨x83, hx83⟩ : ∃ x83, x82.setCells g9 0 (cellsB zD) = x83 := ⟨_, rfl⟩
  have HBx83 : Hid (Below w1.heap.size w1 x83) := below_put HBx82.out Lg9.out hx83
  have Dg8x83 : Hid (DAt x83 g8 0 zD) := dat_else Dg8x82.out Ng8g9.out hx83
  have Tg8x83 : Hid (x83.there g8 0 32) := there_else Tg8x82.out hx83
  have Tg9x83 : Hid (x83.there g9 0 32) := there_else Tg9x82.out hx83
  have Dg9x83 : Hid (DAt x83 g9 0 zD) := dat_put Tg9x82.out lZD hx83
  go_wp2_with (first
    | (refine wpList_allocD (by rfl) (by rfl) g9 hg9 x82 hx82 ?_)
    | (refine wpList_storeD (by rfl) (.tmp 9) (.tmp 26) (by rfl) g9 zD (by rfl) (by rfl) lZD Tg9x82.out x83 hx83 ?_))
  clear Dg8x81 Tg8x81 hg9 hx82 Dg8x82 Dg9x82 Tg8x82 Tg9x82 hx83 
  refine (error_errno q q x83 (HALL.out _ HBx83.out).2.1).mono ?_
  rintro r x84 ⟨rfl, hbx84⟩
  have HBx84 : Hid (Below w1.heap.size w1 x84) := HBx83.out.trans (hbx84.mono HBx83.out.size)
  have Dg8x84 : Hid (DAt x84 g8 0 zD) := dat_b Dg8x83.out rfl hbx84
  have Dg9x84 : Hid (DAt x84 g9 0 zD) := dat_b Dg9x83.out lZD hbx84
  have Tg8x84 : Hid (x84.there g8 0 32) := there_b Tg8x83.out hbx84
  have Tg9x84 : Hid (x84.there g9 0 32) := there_b Tg9x83.out hbx84
  clear hbx84 Dg8x83 Dg9x83 Tg8x83 Tg9x83
  rw [show decide (q = q) = true from decide_eq_true rfl]
  go_wp2_with (first
    | (refine wpList_loadDG (by rfl) (.tmp 9) (by rfl) g9 zD (by rfl) lZD Dg9x84.out ?_)
    | (refine wpList_loadDG (by rfl) (.tmp 8) (by rfl) g8 zD (by rfl) rfl Dg8x84.out ?_)
    | (refine wpList_neqD (.tmp 34) (.tmp 35) (by rfl) (by rfl) zD zD lZD lZD (by rfl) (by rfl) false (by simp) ?_))
  refine (HPT.out x84 HBx84.out).mono ?_
  rintro r x85 ⟨⟨a9, c9, rfl⟩, hbx85⟩
  have HBx85 : Hid (Below w1.heap.size w1 x85) := HBx84.out.trans (hbx85.mono HBx84.out.size)
  have Dg8x85 : Hid (DAt x85 g8 0 zD) := dat_b Dg8x84.out rfl hbx85
  have Dg9x85 : Hid (DAt x85 g9 0 zD) := dat_b Dg9x84.out lZD hbx85
  have Tg8x85 : Hid (x85.there g8 0 32) := there_b Tg8x84.out hbx85
  have Tg9x85 : Hid (x85.there g9 0 32) := there_b Tg9x84.out hbx85
  clear hbx85 Dg8x84 Dg9x84 Tg8x84 Tg9x84
  go_wp2_with fail
  refine (error_errno (q) (q) x85 (HALL.out _ HBx85.out).2.1).mono ?_
  rintro r x86 ⟨rfl, hbx86⟩
  have HBx86 : Hid (Below w1.heap.size w1 x86) := HBx85.out.trans (hbx86.mono HBx85.out.size)
  have Dg8x86 : Hid (DAt x86 g8 0 zD) := dat_b Dg8x85.out rfl hbx86
  have Dg9x86 : Hid (DAt x86 g9 0 zD) := dat_b Dg9x85.out lZD hbx86
  have Tg8x86 : Hid (x86.there g8 0 32) := there_b Tg8x85.out hbx86
  have Tg9x86 : Hid (x86.there g9 0 32) := there_b Tg9x85.out hbx86
  clear hbx86 Dg8x85 Dg9x85 Tg8x85 Tg9x85
  rw [show decide ((q : Int) = q) = true from decide_eq_true rfl]
  go_wp2_with fail
  refine (sdigests_any a9 none 0 0 c9 0 [] [] x86 (drow_nil0 _ _) (drow_nil0 _ _) (by omega)).mono ?_
  rintro r x87 ⟨rfl, hbx87⟩
  have HBx87 : Hid (Below w1.heap.size w1 x87) := HBx86.out.trans (hbx87.mono HBx86.out.size)
  have Dg8x87 : Hid (DAt x87 g8 0 zD) := dat_b Dg8x86.out rfl hbx87
  have Dg9x87 : Hid (DAt x87 g9 0 zD) := dat_b Dg9x86.out lZD hbx87
  have Tg8x87 : Hid (x87.there g8 0 32) := there_b Tg8x86.out hbx87
  have Tg9x87 : Hid (x87.there g9 0 32) := there_b Tg9x86.out hbx87
  clear hbx87 Dg8x86 Dg9x86 Tg8x86 Tg9x86
  rw [show decide (([] : List (List UInt8)) = []) = true from rfl]
  obtain ⟨g15, hg15⟩ : ∃ g15, x87.heap.size = g15 := ⟨_, rfl⟩
  obtain ⟨x88, hx88⟩ : ∃ x88, x87.alloc (.cells (cellsB zD).toArray 24) = x88 := ⟨_, rfl⟩
  have qx88 := new_var hg15 hx88
  have HBx88 : Hid (Below w1.heap.size w1 x88) := HBx87.out.trans (qx88.2.2.mono HBx87.out.size)
  have Lg15 : Hid (w1.heap.size ≤ g15) := by rw [← hg15]; exact HBx87.out.size
  have Ng8g15 : Hid (g8 ≠ g15) := by have := dat_size Dg8x87.out rfl; unfold Hid; omega
  have Dg8x88 : Hid (DAt x88 g8 0 zD) := dat_b Dg8x87.out rfl qx88.2.2
  have Ng9g15 : Hid (g9 ≠ g15) := by have := dat_size Dg9x87.out lZD; unfold Hid; omega
  have Dg9x88 : Hid (DAt x88 g9 0 zD) := dat_b Dg9x87.out lZD qx88.2.2
  have Tg8x88 : Hid (x88.there g8 0 32) := there_b Tg8x87.out qx88.2.2
  have Tg9x88 : Hid (x88.there g9 0 32) := there_b Tg9x87.out qx88.2.2
  have Dg15x88 : Hid (DAt x88 g15 0 zD) := qx88.2.1
  have Tg15x88 : Hid (x88.there g15 0 32) := qx88.1
  clear qx88
  have k0 : x88.cell? ⟨w.heap.size, 0, none⟩ = some (.int .i64 e1) := by have h := (HALL.out _ HBx88.out).2.2.2.1 0 _ rfl; rw [HE1.out] at h; exact h
  go_wp2_with (refine wpList_allocD (by rfl) (by rfl) g15 hg15 x88 hx88 ?_)
  clear Dg8x87 Dg9x87 Tg8x87 Tg9x87 hg15 hx88 
  clear k0
  refine (HIE.out x88).mono ?_
  rintro r x89 ⟨rfl, hq⟩
  have hq' : x88 = x89 := hq.symm
  subst hq'
  go_wp2_with (refine wpList_load_mid (by rfl) 26 (.tmp 5) (by rfl) w.heap.size 0 (by rfl) (entC e) _ (HALL.out _ HBx88.out).2.2.2.1 Tryd.underlying26 (by rfl) (by rw [entC_length HOK.out]; exact Tryd.sizeEn) ?_)
  refine (HEL.out x88).mono ?_
  rintro r x90 ⟨rfl, hbx90⟩
  have HBx90 : Hid (Below w1.heap.size w1 x90) := HBx88.out.trans (hbx90.mono HBx88.out.size)
  have Dg8x90 : Hid (DAt x90 g8 0 zD) := dat_b Dg8x88.out rfl hbx90
  have Dg9x90 : Hid (DAt x90 g9 0 zD) := dat_b Dg9x88.out lZD hbx90
  have Dg15x90 : Hid (DAt x90 g15 0 zD) := dat_b Dg15x88.out rfl hbx90
  have Tg8x90 : Hid (x90.there g8 0 32) := there_b Tg8x88.out hbx90
  have Tg9x90 : Hid (x90.there g9 0 32) := there_b Tg9x88.out hbx90
  have Tg15x90 : Hid (x90.there g15 0 32) := there_b Tg15x88.out hbx90
  clear hbx90 Dg8x88 Dg9x88 Dg15x88 Tg8x88 Tg9x88 Tg15x88
  obtain ⟨x91, hx91⟩ : ∃ x91, x90.setCells g15 0 (cellsB L) = x91 := ⟨_, rfl⟩
  have HBx91 : Hid (Below w1.heap.size w1 x91) := below_put HBx90.out Lg15.out hx91
  have Dg8x91 : Hid (DAt x91 g8 0 zD) := dat_else Dg8x90.out Ng8g15.out hx91
  have Dg9x91 : Hid (DAt x91 g9 0 zD) := dat_else Dg9x90.out Ng9g15.out hx91
  have Tg8x91 : Hid (x91.there g8 0 32) := there_else Tg8x90.out hx91
  have Tg9x91 : Hid (x91.there g9 0 32) := there_else Tg9x90.out hx91
  have Tg15x91 : Hid (x91.there g15 0 32) := there_else Tg15x90.out hx91
  have Dg15x91 : Hid (DAt x91 g15 0 L) := dat_put Tg15x90.out lL hx91
  go_wp2_with (first
    | (refine wpList_storeD (by rfl) (.tmp 15) (.tmp 72) (by rfl) g15 L (by rfl) (by rfl) lL Tg15x90.out x91 hx91 ?_)
    | (refine wpList_load_mid (by rfl) 26 (.tmp 5) (by rfl) w.heap.size 0 (by rfl) (entC e) _ (HALL.out _ HBx91.out).2.2.2.1 Tryd.underlying26 (by rfl) (by rw [entC_length HOK.out]; exact Tryd.sizeEn) ?_))
  clear Dg8x90 Dg9x90 Dg15x90 Tg8x90 Tg9x90 Tg15x90 hx91 
  refine (HLF.out x91 (HALL.out _ HBx91.out).1).mono ?_
  rintro r x92 ⟨rfl, hbx92⟩
  have HBx92 : Hid (Below w1.heap.size w1 x92) := HBx91.out.trans (hbx92.mono HBx91.out.size)
  have Dg8x92 : Hid (DAt x92 g8 0 zD) := dat_b Dg8x91.out rfl hbx92
  have Dg9x92 : Hid (DAt x92 g9 0 zD) := dat_b Dg9x91.out lZD hbx92
  have Dg15x92 : Hid (DAt x92 g15 0 L) := dat_b Dg15x91.out lL hbx92
  have Tg8x92 : Hid (x92.there g8 0 32) := there_b Tg8x91.out hbx92
  have Tg9x92 : Hid (x92.there g9 0 32) := there_b Tg9x91.out hbx92
  have Tg15x92 : Hid (x92.there g15 0 32) := there_b Tg15x91.out hbx92
  clear hbx92 Dg8x91 Dg9x91 Dg15x91 Tg8x91 Tg9x91 Tg15x91
  obtain ⟨g16, hg16⟩ : ∃ g16, x92.heap.size = g16 := ⟨_, rfl⟩
  obtain ⟨x93, hx93⟩ : ∃ x93, x92.alloc (.cells (cellsB zD).toArray 24) = x93 := ⟨_, rfl⟩
  have qx93 := new_var hg16 hx93
  have HBx93 : Hid (Below w1.heap.size w1 x93) := HBx92.out.trans (qx93.2.2.mono HBx92.out.size)
  have Lg16 : Hid (w1.heap.size ≤ g16) := by rw [← hg16]; exact HBx92.out.size
  have Ng8g16 : Hid (g8 ≠ g16) := by have := dat_size Dg8x92.out rfl; unfold Hid; omega
  have Dg8x93 : Hid (DAt x93 g8 0 zD) := dat_b Dg8x92.out rfl qx93.2.2
  have Ng9g16 : Hid (g9 ≠ g16) := by have := dat_size Dg9x92.out lZD; unfold Hid; omega
  have Dg9x93 : Hid (DAt x93 g9 0 zD) := dat_b Dg9x92.out lZD qx93.2.2
  have Ng15g16 : Hid (g15 ≠ g16) := by have := dat_size Dg15x92.out lL; unfold Hid; omega
  have Dg15x93 : Hid (DAt x93 g15 0 L) := dat_b Dg15x92.out lL qx93.2.2
  have Tg8x93 : Hid (x93.there g8 0 32) := there_b Tg8x92.out qx93.2.2
  have Tg9x93 : Hid (x93.there g9 0 32) := there_b Tg9x92.out qx93.2.2
  have Tg15x93 : Hid (x93.there g15 0 32) := there_b Tg15x92.out qx93.2.2
  have Dg16x93 : Hid (DAt x93 g16 0 zD) := qx93.2.1
  have Tg16x93 : Hid (x93.there g16 0 32) := qx93.1
  clear qx93
  obtain ⟨x94, hx94⟩ : ∃ x94, x93.setCells g16 0 (cellsB L) = x94 := ⟨_, rfl⟩
  have HBx94 : Hid (Below w1.heap.size w1 x94) := below_put HBx93.out Lg16.out hx94
  have Dg8x94 : Hid (DAt x94 g8 0 zD) := dat_else Dg8x93.out Ng8g16.out hx94
  have Dg9x94 : Hid (DAt x94 g9 0 zD) := dat_else Dg9x93.out Ng9g16.out hx94
  have Dg15x94 : Hid (DAt x94 g15 0 L) := dat_else Dg15x93.out Ng15g16.out hx94
  have Tg8x94 : Hid (x94.there g8 0 32) := there_else Tg8x93.out hx94
  have Tg9x94 : Hid (x94.there g9 0 32) := there_else Tg9x93.out hx94
  have Tg15x94 : Hid (x94.there g15 0 32) := there_else Tg15x93.out hx94
  have Tg16x94 : Hid (x94.there g16 0 32) := there_else Tg16x93.out hx94
  have Dg16x94 : Hid (DAt x94 g16 0 L) := dat_put Tg16x93.out lL hx94
  go_wp2_with (first
    | (refine wpList_allocD (by rfl) (by rfl) g16 hg16 x93 hx93 ?_)
    | (refine wpList_storeD (by rfl) (.tmp 16) (.tmp 76) (by rfl) g16 L (by rfl) (by rfl) lL Tg16x93.out x94 hx94 ?_))
  clear Dg8x92 Dg9x92 Dg15x92 Tg8x92 Tg9x92 Tg15x92 hg16 hx93 Dg8x93 Dg9x93 Dg15x93 Dg16x93 Tg8x93 Tg9x93 Tg15x93 Tg16x93 hx94 
  refine (error_nil 0 x94).mono ?_
  rintro r x95 ⟨rfl, hbx95⟩
  have HBx95 : Hid (Below w1.heap.size w1 x95) := HBx94.out.trans (hbx95.mono HBx94.out.size)
  have Dg8x95 : Hid (DAt x95 g8 0 zD) := dat_b Dg8x94.out rfl hbx95
  have Dg9x95 : Hid (DAt x95 g9 0 zD) := dat_b Dg9x94.out lZD hbx95
  have Dg15x95 : Hid (DAt x95 g15 0 L) := dat_b Dg15x94.out lL hbx95
  have Dg16x95 : Hid (DAt x95 g16 0 L) := dat_b Dg16x94.out lL hbx95
  have Tg8x95 : Hid (x95.there g8 0 32) := there_b Tg8x94.out hbx95
  have Tg9x95 : Hid (x95.there g9 0 32) := there_b Tg9x94.out hbx95
  have Tg15x95 : Hid (x95.there g15 0 32) := there_b Tg15x94.out hbx95
  have Tg16x95 : Hid (x95.there g16 0 32) := there_b Tg16x94.out hbx95
  clear hbx95 Dg8x94 Dg9x94 Dg15x94 Dg16x94 Tg8x94 Tg9x94 Tg15x94 Tg16x94
  rw [show decide ((0 : Int) = 0) = true from rfl]
  go_upto_region 26 with fail
  try simp only [Act.put, List.setIfInBounds_toArray, List.set_cons_zero, List.set_cons_succ]
  have HKK : Hid (∀ wx, Below x95.heap.size x95 wx → (wx.rangeAt g16 0 (cellsB L) ∧ wx.rangeAt g15 0 (cellsB L) ∧ wx.rangeAt g8 0 (cellsB zD)) ∧ Env wx ∧ Below w.heap.size w wx) := fun wx hx => by
    have q := HALL.out wx (HBx95.out.trans (hx.mono HBx95.out.size))
    exact ⟨⟨dat_b Dg16x95.out lL hx, dat_b Dg15x95.out lL hx, dat_b Dg8x95.out lZD hx⟩, q.1, q.2.2.2.2⟩
  refine wp_region_noPanic ?_
  refine wp_region_held_drew (S := fun wx => wx.rangeAt g16 0 (cellsB L) ∧ wx.rangeAt g15 0 (cellsB L) ∧ wx.rangeAt g8 0 (cellsB zD)) (by kernel_rfl) (HKK.out _ (below_drewN x95 1)).1 (fun hHeld => ?_)
  try simp only [Act.put, List.setIfInBounds_toArray, List.set_cons_zero, List.set_cons_succ]
  have HBd : Hid (Below x95.heap.size x95 x95.drew) := below_drewN x95 1
  generalize x95.drew = wd at *
  refine wpAnyH_take (i := 0) (v := ?_) (by simp only [List.getElem?_toArray, List.getElem?_cons_zero, List.getElem?_cons_succ]; rfl) (by kernel_rfl) (by kernel_rfl) (by kernel_rfl) (fun _ _ _ h => h) (Or.inl ⟨by rfl, ?_⟩) hHeld ?_
  rotate_left
  · intro w hSw
    obtain ⟨hSw0, hSw1, hSw2⟩ := hSw
    go_simp
    try with_reducible rfl
  try simp only [Act.put, List.setIfInBounds_toArray, List.set_cons_zero, List.set_cons_succ]
  refine wpAnyH_take (i := 1) (v := ?_) (by simp only [List.getElem?_toArray, List.getElem?_cons_zero, List.getElem?_cons_succ]; rfl) (by kernel_rfl) (by kernel_rfl) (by kernel_rfl) (fun _ _ _ h => h) (Or.inl ⟨by rfl, ?_⟩) hHeld ?_
  rotate_left
  · intro w hSw
    obtain ⟨hSw0, hSw1, hSw2⟩ := hSw
    go_simp
    try with_reducible rfl
  try simp only [Act.put, List.setIfInBounds_toArray, List.set_cons_zero, List.set_cons_succ]
  refine wpAnyH_take (i := 2) (v := .agg (cellsB L).toArray) (by simp only [List.getElem?_toArray, List.getElem?_cons_zero, List.getElem?_cons_succ]; rfl) (by kernel_rfl) (by kernel_rfl) (by kernel_rfl) (fun _ _ _ h => h)
    (yieldsIf_load_mid (by rfl) _ _ rfl _ _ rfl _ _ (fun w hw => hw.1) Tryd.underlying24 rfl (by rw [cellsB_length, lL]; exact Tryd.sizeDg)) hHeld ?_
  try simp only [Act.put, List.setIfInBounds_toArray, List.set_cons_zero, List.set_cons_succ]
  refine wpAnyH_take (i := 3) (v := .agg (cellsB L).toArray) (by simp only [List.getElem?_toArray, List.getElem?_cons_zero, List.getElem?_cons_succ]; rfl) (by kernel_rfl) (by kernel_rfl) (by kernel_rfl) (fun _ _ _ h => h)
    (yieldsIf_load_mid (by rfl) _ _ rfl _ _ rfl _ _ (fun w hw => hw.2.1) Tryd.underlying24 rfl (by rw [cellsB_length, lL]; exact Tryd.sizeDg)) hHeld ?_
  try simp only [Act.put, List.setIfInBounds_toArray, List.set_cons_zero, List.set_cons_succ]
  refine wpAnyH_take (i := 4) (v := .bool true) (by simp only [List.getElem?_toArray, List.getElem?_cons_zero, List.getElem?_cons_succ]; rfl) (by kernel_rfl) (by kernel_rfl) (by kernel_rfl) (fun _ _ _ h => h)
    (yieldsIf_eqD (by rfl) _ _ rfl L L lL lL rfl rfl true (decide_eq_true rfl)) hHeld ?_
  try simp only [Act.put, List.setIfInBounds_toArray, List.set_cons_zero, List.set_cons_succ]
  refine wpAnyH_take (i := 5) (v := ?_) (by simp only [List.getElem?_toArray, List.getElem?_cons_zero, List.getElem?_cons_succ]; rfl) (by kernel_rfl) (by kernel_rfl) (by kernel_rfl) (fun _ _ _ h => h) (Or.inl ⟨by rfl, ?_⟩) hHeld ?_
  rotate_left
  · intro w hSw
    obtain ⟨hSw0, hSw1, hSw2⟩ := hSw
    go_simp
    try with_reducible rfl
  try simp only [Act.put, List.setIfInBounds_toArray, List.set_cons_zero, List.set_cons_succ]
  refine wpAnyH_take (i := 6) (v := ?_) (by simp only [List.getElem?_toArray, List.getElem?_cons_zero, List.getElem?_cons_succ]; rfl) (by kernel_rfl) (by kernel_rfl) (by kernel_rfl) (fun _ _ _ h => h) (Or.inl ⟨by rfl, ?_⟩) hHeld ?_
  rotate_left
  · intro w hSw
    obtain ⟨hSw0, hSw1, hSw2⟩ := hSw
    go_simp
    try with_reducible rfl
  try simp only [Act.put, List.setIfInBounds_toArray, List.set_cons_zero, List.set_cons_succ]
  refine wpAnyH_take (i := 7) (v := .agg (cellsB L).toArray) (by simp only [List.getElem?_toArray, List.getElem?_cons_zero, List.getElem?_cons_succ]; rfl) (by kernel_rfl) (by kernel_rfl) (by kernel_rfl) (fun _ _ _ h => h)
    (yieldsIf_load_mid (by rfl) _ _ rfl _ _ rfl _ _ (fun w hw => hw.1) Tryd.underlying24 rfl (by rw [cellsB_length, lL]; exact Tryd.sizeDg)) hHeld ?_
  try simp only [Act.put, List.setIfInBounds_toArray, List.set_cons_zero, List.set_cons_succ]
  refine wpAnyH_take (i := 8) (v := .agg (cellsB zD).toArray) (by simp only [List.getElem?_toArray, List.getElem?_cons_zero, List.getElem?_cons_succ]; rfl) (by kernel_rfl) (by kernel_rfl) (by kernel_rfl) (fun _ _ _ h => h)
    (yieldsIf_load_mid (by rfl) _ _ rfl _ _ rfl _ _ (fun w hw => hw.2.2) Tryd.underlying24 rfl (by rw [cellsB_length, lZD]; exact Tryd.sizeDg)) hHeld ?_
  try simp only [Act.put, List.setIfInBounds_toArray, List.set_cons_zero, List.set_cons_succ]
  refine wpAnyH_take (i := 10) (v := .agg (cellsB L).toArray) (by simp only [List.getElem?_toArray, List.getElem?_cons_zero, List.getElem?_cons_succ]; rfl) (by kernel_rfl) (by kernel_rfl) (by kernel_rfl) (fun _ _ _ h => h)
    (yieldsIf_load_mid (by rfl) _ _ rfl _ _ rfl _ _ (fun w hw => hw.2.1) Tryd.underlying24 rfl (by rw [cellsB_length, lL]; exact Tryd.sizeDg)) hHeld ?_
  try simp only [Act.put, List.setIfInBounds_toArray, List.set_cons_zero, List.set_cons_succ]
  refine wpAnyH_take (i := 11) (v := .agg (cellsB zD).toArray) (by simp only [List.getElem?_toArray, List.getElem?_cons_zero, List.getElem?_cons_succ]; rfl) (by kernel_rfl) (by kernel_rfl) (by kernel_rfl) (fun _ _ _ h => h)
    (yieldsIf_load_mid (by rfl) _ _ rfl _ _ rfl _ _ (fun w hw => hw.2.2) Tryd.underlying24 rfl (by rw [cellsB_length, lZD]; exact Tryd.sizeDg)) hHeld ?_
  try simp only [Act.put, List.setIfInBounds_toArray, List.set_cons_zero, List.set_cons_succ]
  refine wpAnyH_ready (rs := [9]) (by kernel_rfl) (by simp) ?_
  refine AllReadyH.cons (by simp only [List.getElem?_toArray, List.getElem?_cons_zero, List.getElem?_cons_succ]; rfl) (fun K hK => ?_) AllReadyH.nil
  rw [if_pos (by rfl)]
  go_simp
  refine (HNL.out wd (HKK.out _ HBd.out).2.1).mono ?_
  rintro e wn ⟨rfl, hbn⟩
  have HBn : Hid (Below x95.heap.size x95 wn) := HBd.out.trans (hbn.mono HBd.out.size)
  clear hbn HBd
  go_wp2_with fail
  refine hK.out _ _ (HKK.out _ HBn.out).1 (fun hHeld => ?_)
  clear hK K
  try simp only [Act.put, List.setIfInBounds_toArray, List.set_cons_zero, List.set_cons_succ]
  refine wpAnyH_ready (rs := [12]) (by kernel_rfl) (by simp) ?_
  refine AllReadyH.cons (by simp only [List.getElem?_toArray, List.getElem?_cons_zero, List.getElem?_cons_succ]; rfl) (fun K hK => ?_) AllReadyH.nil
  rw [if_pos (by rfl)]
  go_simp
  refine (HMN.out wn).mono ?_
  rintro e wo ⟨rfl, hbo⟩
  have HBo : Hid (Below x95.heap.size x95 wo) := HBn.out.trans (hbo.mono HBn.out.size)
  clear hbo HBn
  go_wp2_with fail
  refine hK.out _ _ (HKK.out _ HBo.out).1 (fun hHeld => ?_)
  clear hK K
  try simp only [Act.put, List.setIfInBounds_toArray, List.set_cons_zero, List.set_cons_succ]
  refine wpAnyH_take (i := 13) (v := .bool true) (by simp only [List.getElem?_toArray, List.getElem?_cons_zero, List.getElem?_cons_succ]; rfl) (by kernel_rfl) (by kernel_rfl) (by kernel_rfl) (fun _ _ _ h => h)
    (yieldsIf_eqD (by rfl) _ _ rfl N N lN lN rfl rfl true (decide_eq_true rfl)) hHeld ?_
  try simp only [Act.put, List.setIfInBounds_toArray, List.set_cons_zero, List.set_cons_succ]
  refine wpAnyH_take (i := 14) (v := ?_) (by simp only [List.getElem?_toArray, List.getElem?_cons_zero, List.getElem?_cons_succ]; rfl) (by kernel_rfl) (by kernel_rfl) (by kernel_rfl) (fun _ _ _ h => h) (Or.inl ⟨by rfl, ?_⟩) hHeld ?_
  rotate_left
  · intro w hSw
    obtain ⟨hSw0, hSw1, hSw2⟩ := hSw
    go_simp
    try with_reducible rfl
  try simp only [Act.put, List.setIfInBounds_toArray, List.set_cons_zero, List.set_cons_succ]
  refine wpAnyH_take (i := 15) (v := ?_) (by simp only [List.getElem?_toArray, List.getElem?_cons_zero, List.getElem?_cons_succ]; rfl) (by kernel_rfl) (by kernel_rfl) (by kernel_rfl) (fun _ _ _ h => h) (Or.inl ⟨by rfl, ?_⟩) hHeld ?_
  rotate_left
  · intro w hSw
    obtain ⟨hSw0, hSw1, hSw2⟩ := hSw
    go_simp
    try with_reducible rfl
  try simp only [Act.put, List.setIfInBounds_toArray, List.set_cons_zero, List.set_cons_succ]
  refine wpAnyH_done (by kernel_rfl) (NoPanic.normal ?_) _
  have HW : Hid (Below w.heap.size w wo) := (HKK.out _ HBo.out).2.2
  clear hHeld HKK HBo
  go_wp2_with fail
  go_ret
  exact ⟨rfl, HW.out⟩
set_option maxRecDepth 100000 in
set_option maxHeartbeats 2000000 in
theorem iroots_faultnot (a : Option Addr) (n c : Nat) (es : List Ent) (k : Int) (e : Ent) (w : World) (G : Env w) (HH : Handle w) (R : ERow w a n es) (hc : n ≤ c) (hn : 40 * n ≤ 140737488351232) (k1 : -9223372036854775808 ≤ k) (k2 : k ≤ 9223372036854775807) (he : okE e) (hf : faultE es ≠ 0) (hk2 : isKey e.1 = false) :
    Calls Tryd.prog 3 #[.slice a n c, .int .i64 k, entV e] w fun r w' => r = .returned (.bool true) ∧ Below w.heap.size w w' := by
  obtain ⟨w1, hw1⟩ : ∃ w1, w.alloc (.cells (entC e).toArray 26) = w1 := ⟨_, rfl⟩
  have HALL : Hid (∀ wx, Below w1.heap.size w1 wx → Env wx ∧ Handle wx ∧ ERow wx a n es ∧ wx.rangeAt w.heap.size 0 (entC e) ∧ Below w.heap.size w wx) := fun wx hx => by
    have b1 : Below w.heap.size w w1 := by rw [← hw1]; exact (Below.refl _ _).alloc (Nat.le_refl _) _
    have b : Below w.heap.size w wx := b1.trans (hx.mono b1.size)
    have hr : w1.rangeAt w.heap.size 0 (entC e) := by rw [← hw1]; exact box_range w (entC e) _
    exact ⟨G.below b, HH.below b, R.below b, ent_below hr hx (ent_block hr), b⟩
  have HBw1 : Hid (Below w1.heap.size w1 w1) := Below.refl _ _
  have HOK : Hid (okE e) := he
  have b1 := he.2.1
  have b2 := he.2.2
  clear G HH R he
  have lZD : zD.length = 32 := rfl
  have HRT : Hid (∀ wx, Below w1.heap.size w1 wx → Calls Tryd.prog 11 #[.slice a n c] wx fun r w' => r = .returned (.tuple #[digestV zD, .iface 27 (.int .i64 (faultE es))]) ∧ Below wx.heap.size wx w') := fun wx hx => wtrie_rootout a n c es _ wx (HALL.out wx hx).1 (HALL.out wx hx).2.2.1 hc hn rfl hf
  have HMF : Hid (∀ wx, Below w1.heap.size w1 wx → Calls Tryd.prog 9 #[.slice a n c] wx fun r w' => r = .returned (.int .i64 (faultE es)) ∧ Below wx.heap.size wx w') := fun wx hx => rmapfault_any a n c es wx (HALL.out wx hx).2.2.1 hc (by omega)
  have hp : pathE es k = faultE es := by unfold pathE; rw [if_pos hf]
  have HPT : Hid (∀ wx, Below w1.heap.size w1 wx → Calls Tryd.prog 15 #[.slice a n c, .int .i64 k] wx fun r w' => (∃ a' c', r = .returned (.tuple #[.slice a' 0 c', .iface 27 (.int .i64 (faultE es))])) ∧ Below wx.heap.size wx w') := fun wx hx => wtrie_pathout a n c es k _ wx (HALL.out wx hx).1 (HALL.out wx hx).2.2.1 hc hn k1 k2 hp hf
  clear hp
  generalize faultE es = q at *
  have hq0 : (q == 0) = false := beq_eq_false_iff_ne.2 hf
  have hq1 : ¬ q = 0 := hf
  clear hf
  have HLF : Hid (∀ wx, Env wx → Calls Tryd.prog 18 #[entV e] wx fun r w' => r = .returned (.tuple #[digestV zD, .iface 27 (.int .i64 2)]) ∧ Below wx.heap.size wx w') := fun wx hx => wtrie_leafout e wx hx HOK.out hk2
  have HIE : Hid (∀ wx : World, Calls Tryd.prog 13 #[.int .i64 e.1] wx fun e w' => e = .returned (.bool false) ∧ w' = wx) := fun wx => by
    have := riskey_any e.1 wx b1 b2
    rw [hk2] at this
    exact this
  have HNL : Hid (∀ wx, Env wx → Calls Tryd.prog 19 #[digestV zD, digestV zD] wx fun q w' => q = .returned (digestV (mnode zD zD)) ∧ Below wx.heap.size wx w') := fun wx hx => wtrie_node zD zD wx hx lZD lZD
  have HMN : Hid (∀ wx : World, Calls Tryd.prog 20 #[digestV zD, digestV zD] wx fun q w' => q = .returned (digestV (mnode zD zD)) ∧ Below wx.heap.size wx w') := fun wx => rmapnode_any zD zD wx lZD lZD
  have lN := mnode_length zD zD
  generalize mnode zD zD = N at *
  clear hk2
  obtain ⟨e1, he1⟩ : ∃ e1, e.1 = e1 := ⟨_, rfl⟩
  have HE1 : Hid (e.1 = e1) := he1
  rw [he1] at b1 b2 HIE
  clear he1
  go_enter Tryd.func3, Tryd.ntmps3
  unfold entV
  go_wp2_with fail
  try rw [hw1]
  clear hw1
  refine (HMF.out w1 HBw1.out).mono ?_
  rintro r x96 ⟨rfl, hbx96⟩
  have HBx96 : Hid (Below w1.heap.size w1 x96) := HBw1.out.trans (hbx96.mono HBw1.out.size)
  clear hbx96
  obtain ⟨g8, hg8⟩ : ∃ g8, x96.heap.size = g8 := ⟨_, rfl⟩
  obtain ⟨x97, hx97⟩ : ∃ x97, x96.alloc (.cells (cellsB zD).toArray 24) = x97 := ⟨_, rfl⟩
  have qx97 := new_var hg8 hx97
  have HBx97 : Hid (Below w1.heap.size w1 x97) := HBx96.out.trans (qx97.2.2.mono HBx96.out.size)
  have Lg8 : Hid (w1.heap.size ≤ g8) := by rw [← hg8]; exact HBx96.out.size
  have Dg8x97 : Hid (DAt x97 g8 0 zD) := qx97.2.1
  have Tg8x97 : Hid (x97.there g8 0 32) := qx97.1
  clear qx97
  go_wp2_with (refine wpList_allocD (by rfl) (by rfl) g8 hg8 x97 hx97 ?_)
  clear hg8 hx97 
  refine (HRT.out x97 HBx97.out).mono ?_
  rintro r x98 ⟨rfl, hbx98⟩
  have HBx98 : Hid (Below w1.heap.size w1 x98) := HBx97.out.trans (hbx98.mono HBx97.out.size)
  have Dg8x98 : Hid (DAt x98 g8 0 zD) := dat_b Dg8x97.out rfl hbx98
  have Tg8x98 : Hid (x98.there g8 0 32) := there_b Tg8x97.out hbx98
  clear hbx98 Dg8x97 Tg8x97
  obtain ⟨g9, hg9⟩ : ∃ g9, x98.heap.size = g9 := ⟨_, rfl⟩
  obtain ⟨x99, hx99⟩ : ∃ x99, x98.alloc (.cells (cellsB zD).toArray 24) = x99 := ⟨_, rfl⟩
  have qx99 := new_var hg9 hx99
  have HBx99 : Hid (Below w1.heap.size w1 x99) := HBx98.out.trans (qx99.2.2.mono HBx98.out.size)
  have Lg9 : Hid (w1.heap.size ≤ g9) := by rw [← hg9]; exact HBx98.out.size
  have Ng8g9 : Hid (g8 ≠ g9) := by have := dat_size Dg8x98.out rfl; unfold Hid; omega
  have Dg8x99 : Hid (DAt x99 g8 0 zD) := dat_b Dg8x98.out rfl qx99.2.2
  have Tg8x99 : Hid (x99.there g8 0 32) := there_b Tg8x98.out qx99.2.2
  have Dg9x99 : Hid (DAt x99 g9 0 zD) := qx99.2.1
  have Tg9x99 : Hid (x99.there g9 0 32) := qx99.1
  clear qx99
  obtain ⟨x100, hx100⟩ : ∃ x100, x99.setCells g9 0 (cellsB zD) = x100 := ⟨_, rfl⟩
  have HBx100 : Hid (Below w1.heap.size w1 x100) := below_put HBx99.out Lg9.out hx100
  have Dg8x100 : Hid (DAt x100 g8 0 zD) := dat_else Dg8x99.out Ng8g9.out hx100
  have Tg8x100 : Hid (x100.there g8 0 32) := there_else Tg8x99.out hx100
  have Tg9x100 : Hid (x100.there g9 0 32) := there_else Tg9x99.out hx100
  have Dg9x100 : Hid (DAt x100 g9 0 zD) := dat_put Tg9x99.out lZD hx100
  go_wp2_with (first
    | (refine wpList_allocD (by rfl) (by rfl) g9 hg9 x99 hx99 ?_)
    | (refine wpList_storeD (by rfl) (.tmp 9) (.tmp 26) (by rfl) g9 zD (by rfl) (by rfl) lZD Tg9x99.out x100 hx100 ?_))
  clear Dg8x98 Tg8x98 hg9 hx99 Dg8x99 Dg9x99 Tg8x99 Tg9x99 hx100 
  refine (error_errno q q x100 (HALL.out _ HBx100.out).2.1).mono ?_
  rintro r x101 ⟨rfl, hbx101⟩
  have HBx101 : Hid (Below w1.heap.size w1 x101) := HBx100.out.trans (hbx101.mono HBx100.out.size)
  have Dg8x101 : Hid (DAt x101 g8 0 zD) := dat_b Dg8x100.out rfl hbx101
  have Dg9x101 : Hid (DAt x101 g9 0 zD) := dat_b Dg9x100.out lZD hbx101
  have Tg8x101 : Hid (x101.there g8 0 32) := there_b Tg8x100.out hbx101
  have Tg9x101 : Hid (x101.there g9 0 32) := there_b Tg9x100.out hbx101
  clear hbx101 Dg8x100 Dg9x100 Tg8x100 Tg9x100
  rw [show decide (q = q) = true from decide_eq_true rfl]
  go_wp2_with (first
    | (refine wpList_loadDG (by rfl) (.tmp 9) (by rfl) g9 zD (by rfl) lZD Dg9x101.out ?_)
    | (refine wpList_loadDG (by rfl) (.tmp 8) (by rfl) g8 zD (by rfl) rfl Dg8x101.out ?_)
    | (refine wpList_neqD (.tmp 34) (.tmp 35) (by rfl) (by rfl) zD zD lZD lZD (by rfl) (by rfl) false (by simp) ?_))
  refine (HPT.out x101 HBx101.out).mono ?_
  rintro r x102 ⟨⟨a9, c9, rfl⟩, hbx102⟩
  have HBx102 : Hid (Below w1.heap.size w1 x102) := HBx101.out.trans (hbx102.mono HBx101.out.size)
  have Dg8x102 : Hid (DAt x102 g8 0 zD) := dat_b Dg8x101.out rfl hbx102
  have Dg9x102 : Hid (DAt x102 g9 0 zD) := dat_b Dg9x101.out lZD hbx102
  have Tg8x102 : Hid (x102.there g8 0 32) := there_b Tg8x101.out hbx102
  have Tg9x102 : Hid (x102.there g9 0 32) := there_b Tg9x101.out hbx102
  clear hbx102 Dg8x101 Dg9x101 Tg8x101 Tg9x101
  go_wp2_with fail
  refine (error_errno (q) (q) x102 (HALL.out _ HBx102.out).2.1).mono ?_
  rintro r x103 ⟨rfl, hbx103⟩
  have HBx103 : Hid (Below w1.heap.size w1 x103) := HBx102.out.trans (hbx103.mono HBx102.out.size)
  have Dg8x103 : Hid (DAt x103 g8 0 zD) := dat_b Dg8x102.out rfl hbx103
  have Dg9x103 : Hid (DAt x103 g9 0 zD) := dat_b Dg9x102.out lZD hbx103
  have Tg8x103 : Hid (x103.there g8 0 32) := there_b Tg8x102.out hbx103
  have Tg9x103 : Hid (x103.there g9 0 32) := there_b Tg9x102.out hbx103
  clear hbx103 Dg8x102 Dg9x102 Tg8x102 Tg9x102
  rw [show decide ((q : Int) = q) = true from decide_eq_true rfl]
  go_wp2_with fail
  refine (sdigests_any a9 none 0 0 c9 0 [] [] x103 (drow_nil0 _ _) (drow_nil0 _ _) (by omega)).mono ?_
  rintro r x104 ⟨rfl, hbx104⟩
  have HBx104 : Hid (Below w1.heap.size w1 x104) := HBx103.out.trans (hbx104.mono HBx103.out.size)
  have Dg8x104 : Hid (DAt x104 g8 0 zD) := dat_b Dg8x103.out rfl hbx104
  have Dg9x104 : Hid (DAt x104 g9 0 zD) := dat_b Dg9x103.out lZD hbx104
  have Tg8x104 : Hid (x104.there g8 0 32) := there_b Tg8x103.out hbx104
  have Tg9x104 : Hid (x104.there g9 0 32) := there_b Tg9x103.out hbx104
  clear hbx104 Dg8x103 Dg9x103 Tg8x103 Tg9x103
  rw [show decide (([] : List (List UInt8)) = []) = true from rfl]
  obtain ⟨g15, hg15⟩ : ∃ g15, x104.heap.size = g15 := ⟨_, rfl⟩
  obtain ⟨x105, hx105⟩ : ∃ x105, x104.alloc (.cells (cellsB zD).toArray 24) = x105 := ⟨_, rfl⟩
  have qx105 := new_var hg15 hx105
  have HBx105 : Hid (Below w1.heap.size w1 x105) := HBx104.out.trans (qx105.2.2.mono HBx104.out.size)
  have Lg15 : Hid (w1.heap.size ≤ g15) := by rw [← hg15]; exact HBx104.out.size
  have Ng8g15 : Hid (g8 ≠ g15) := by have := dat_size Dg8x104.out rfl; unfold Hid; omega
  have Dg8x105 : Hid (DAt x105 g8 0 zD) := dat_b Dg8x104.out rfl qx105.2.2
  have Ng9g15 : Hid (g9 ≠ g15) := by have := dat_size Dg9x104.out lZD; unfold Hid; omega
  have Dg9x105 : Hid (DAt x105 g9 0 zD) := dat_b Dg9x104.out lZD qx105.2.2
  have Tg8x105 : Hid (x105.there g8 0 32) := there_b Tg8x104.out qx105.2.2
  have Tg9x105 : Hid (x105.there g9 0 32) := there_b Tg9x104.out qx105.2.2
  have Dg15x105 : Hid (DAt x105 g15 0 zD) := qx105.2.1
  have Tg15x105 : Hid (x105.there g15 0 32) := qx105.1
  clear qx105
  have k0 : x105.cell? ⟨w.heap.size, 0, none⟩ = some (.int .i64 e1) := by have h := (HALL.out _ HBx105.out).2.2.2.1 0 _ rfl; rw [HE1.out] at h; exact h
  go_wp2_with (refine wpList_allocD (by rfl) (by rfl) g15 hg15 x105 hx105 ?_)
  clear Dg8x104 Dg9x104 Tg8x104 Tg9x104 hg15 hx105 
  clear k0
  refine (HIE.out x105).mono ?_
  rintro r x106 ⟨rfl, hq⟩
  have hq' : x105 = x106 := hq.symm
  subst hq'
  go_wp2_with (refine wpList_load_mid (by rfl) 26 (.tmp 5) (by rfl) w.heap.size 0 (by rfl) (entC e) _ (HALL.out _ HBx105.out).2.2.2.1 Tryd.underlying26 (by rfl) (by rw [entC_length HOK.out]; exact Tryd.sizeEn) ?_)
  refine (HLF.out x105 (HALL.out _ HBx105.out).1).mono ?_
  rintro r x107 ⟨rfl, hbx107⟩
  have HBx107 : Hid (Below w1.heap.size w1 x107) := HBx105.out.trans (hbx107.mono HBx105.out.size)
  have Dg8x107 : Hid (DAt x107 g8 0 zD) := dat_b Dg8x105.out rfl hbx107
  have Dg9x107 : Hid (DAt x107 g9 0 zD) := dat_b Dg9x105.out lZD hbx107
  have Dg15x107 : Hid (DAt x107 g15 0 zD) := dat_b Dg15x105.out rfl hbx107
  have Tg8x107 : Hid (x107.there g8 0 32) := there_b Tg8x105.out hbx107
  have Tg9x107 : Hid (x107.there g9 0 32) := there_b Tg9x105.out hbx107
  have Tg15x107 : Hid (x107.there g15 0 32) := there_b Tg15x105.out hbx107
  clear hbx107 Dg8x105 Dg9x105 Dg15x105 Tg8x105 Tg9x105 Tg15x105
  obtain ⟨g16, hg16⟩ : ∃ g16, x107.heap.size = g16 := ⟨_, rfl⟩
  obtain ⟨x108, hx108⟩ : ∃ x108, x107.alloc (.cells (cellsB zD).toArray 24) = x108 := ⟨_, rfl⟩
  have qx108 := new_var hg16 hx108
  have HBx108 : Hid (Below w1.heap.size w1 x108) := HBx107.out.trans (qx108.2.2.mono HBx107.out.size)
  have Lg16 : Hid (w1.heap.size ≤ g16) := by rw [← hg16]; exact HBx107.out.size
  have Ng8g16 : Hid (g8 ≠ g16) := by have := dat_size Dg8x107.out rfl; unfold Hid; omega
  have Dg8x108 : Hid (DAt x108 g8 0 zD) := dat_b Dg8x107.out rfl qx108.2.2
  have Ng9g16 : Hid (g9 ≠ g16) := by have := dat_size Dg9x107.out lZD; unfold Hid; omega
  have Dg9x108 : Hid (DAt x108 g9 0 zD) := dat_b Dg9x107.out lZD qx108.2.2
  have Ng15g16 : Hid (g15 ≠ g16) := by have := dat_size Dg15x107.out rfl; unfold Hid; omega
  have Dg15x108 : Hid (DAt x108 g15 0 zD) := dat_b Dg15x107.out rfl qx108.2.2
  have Tg8x108 : Hid (x108.there g8 0 32) := there_b Tg8x107.out qx108.2.2
  have Tg9x108 : Hid (x108.there g9 0 32) := there_b Tg9x107.out qx108.2.2
  have Tg15x108 : Hid (x108.there g15 0 32) := there_b Tg15x107.out qx108.2.2
  have Dg16x108 : Hid (DAt x108 g16 0 zD) := qx108.2.1
  have Tg16x108 : Hid (x108.there g16 0 32) := qx108.1
  clear qx108
  obtain ⟨x109, hx109⟩ : ∃ x109, x108.setCells g16 0 (cellsB zD) = x109 := ⟨_, rfl⟩
  have HBx109 : Hid (Below w1.heap.size w1 x109) := below_put HBx108.out Lg16.out hx109
  have Dg8x109 : Hid (DAt x109 g8 0 zD) := dat_else Dg8x108.out Ng8g16.out hx109
  have Dg9x109 : Hid (DAt x109 g9 0 zD) := dat_else Dg9x108.out Ng9g16.out hx109
  have Dg15x109 : Hid (DAt x109 g15 0 zD) := dat_else Dg15x108.out Ng15g16.out hx109
  have Tg8x109 : Hid (x109.there g8 0 32) := there_else Tg8x108.out hx109
  have Tg9x109 : Hid (x109.there g9 0 32) := there_else Tg9x108.out hx109
  have Tg15x109 : Hid (x109.there g15 0 32) := there_else Tg15x108.out hx109
  have Tg16x109 : Hid (x109.there g16 0 32) := there_else Tg16x108.out hx109
  have Dg16x109 : Hid (DAt x109 g16 0 zD) := dat_put Tg16x108.out lZD hx109
  go_wp2_with (first
    | (refine wpList_allocD (by rfl) (by rfl) g16 hg16 x108 hx108 ?_)
    | (refine wpList_storeD (by rfl) (.tmp 16) (.tmp 76) (by rfl) g16 zD (by rfl) (by rfl) lZD Tg16x108.out x109 hx109 ?_))
  clear Dg8x107 Dg9x107 Dg15x107 Tg8x107 Tg9x107 Tg15x107 hg16 hx108 Dg8x108 Dg9x108 Dg15x108 Dg16x108 Tg8x108 Tg9x108 Tg15x108 Tg16x108 hx109 
  refine (error_errno 2 2 x109 (HALL.out _ HBx109.out).2.1).mono ?_
  rintro r x110 ⟨rfl, hbx110⟩
  have HBx110 : Hid (Below w1.heap.size w1 x110) := HBx109.out.trans (hbx110.mono HBx109.out.size)
  have Dg8x110 : Hid (DAt x110 g8 0 zD) := dat_b Dg8x109.out rfl hbx110
  have Dg9x110 : Hid (DAt x110 g9 0 zD) := dat_b Dg9x109.out lZD hbx110
  have Dg15x110 : Hid (DAt x110 g15 0 zD) := dat_b Dg15x109.out rfl hbx110
  have Dg16x110 : Hid (DAt x110 g16 0 zD) := dat_b Dg16x109.out lZD hbx110
  have Tg8x110 : Hid (x110.there g8 0 32) := there_b Tg8x109.out hbx110
  have Tg9x110 : Hid (x110.there g9 0 32) := there_b Tg9x109.out hbx110
  have Tg15x110 : Hid (x110.there g15 0 32) := there_b Tg15x109.out hbx110
  have Tg16x110 : Hid (x110.there g16 0 32) := there_b Tg16x109.out hbx110
  clear hbx110 Dg8x109 Dg9x109 Dg15x109 Dg16x109 Tg8x109 Tg9x109 Tg15x109 Tg16x109
  rw [show decide ((2 : Int) = 2) = true from rfl]
  go_upto_region 26 with fail
  try simp only [Act.put, List.setIfInBounds_toArray, List.set_cons_zero, List.set_cons_succ]
  have HKK : Hid (∀ wx, Below x110.heap.size x110 wx → (wx.rangeAt g16 0 (cellsB zD) ∧ wx.rangeAt g15 0 (cellsB zD) ∧ wx.rangeAt g8 0 (cellsB zD)) ∧ Env wx ∧ Below w.heap.size w wx) := fun wx hx => by
    have q := HALL.out wx (HBx110.out.trans (hx.mono HBx110.out.size))
    exact ⟨⟨dat_b Dg16x110.out lZD hx, dat_b Dg15x110.out lZD hx, dat_b Dg8x110.out lZD hx⟩, q.1, q.2.2.2.2⟩
  refine wp_region_noPanic ?_
  refine wp_region_held_drew (S := fun wx => wx.rangeAt g16 0 (cellsB zD) ∧ wx.rangeAt g15 0 (cellsB zD) ∧ wx.rangeAt g8 0 (cellsB zD)) (by kernel_rfl) (HKK.out _ (below_drewN x110 1)).1 (fun hHeld => ?_)
  try simp only [Act.put, List.setIfInBounds_toArray, List.set_cons_zero, List.set_cons_succ]
  have HBd : Hid (Below x110.heap.size x110 x110.drew) := below_drewN x110 1
  generalize x110.drew = wd at *
  refine wpAnyH_take (i := 0) (v := ?_) (by simp only [List.getElem?_toArray, List.getElem?_cons_zero, List.getElem?_cons_succ]; rfl) (by kernel_rfl) (by kernel_rfl) (by kernel_rfl) (fun _ _ _ h => h) (Or.inl ⟨by rfl, ?_⟩) hHeld ?_
  rotate_left
  · intro w hSw
    obtain ⟨hSw0, hSw1, hSw2⟩ := hSw
    go_simp
    try with_reducible rfl
  try simp only [Act.put, List.setIfInBounds_toArray, List.set_cons_zero, List.set_cons_succ]
  refine wpAnyH_take (i := 1) (v := ?_) (by simp only [List.getElem?_toArray, List.getElem?_cons_zero, List.getElem?_cons_succ]; rfl) (by kernel_rfl) (by kernel_rfl) (by kernel_rfl) (fun _ _ _ h => h) (Or.inl ⟨by rfl, ?_⟩) hHeld ?_
  rotate_left
  · intro w hSw
    obtain ⟨hSw0, hSw1, hSw2⟩ := hSw
    go_simp
    try with_reducible rfl
  try simp only [Act.put, List.setIfInBounds_toArray, List.set_cons_zero, List.set_cons_succ]
  refine wpAnyH_take (i := 2) (v := .agg (cellsB zD).toArray) (by simp only [List.getElem?_toArray, List.getElem?_cons_zero, List.getElem?_cons_succ]; rfl) (by kernel_rfl) (by kernel_rfl) (by kernel_rfl) (fun _ _ _ h => h)
    (yieldsIf_load_mid (by rfl) _ _ rfl _ _ rfl _ _ (fun w hw => hw.1) Tryd.underlying24 rfl (by rw [cellsB_length, lZD]; exact Tryd.sizeDg)) hHeld ?_
  try simp only [Act.put, List.setIfInBounds_toArray, List.set_cons_zero, List.set_cons_succ]
  refine wpAnyH_take (i := 3) (v := .agg (cellsB zD).toArray) (by simp only [List.getElem?_toArray, List.getElem?_cons_zero, List.getElem?_cons_succ]; rfl) (by kernel_rfl) (by kernel_rfl) (by kernel_rfl) (fun _ _ _ h => h)
    (yieldsIf_load_mid (by rfl) _ _ rfl _ _ rfl _ _ (fun w hw => hw.2.1) Tryd.underlying24 rfl (by rw [cellsB_length, lZD]; exact Tryd.sizeDg)) hHeld ?_
  try simp only [Act.put, List.setIfInBounds_toArray, List.set_cons_zero, List.set_cons_succ]
  refine wpAnyH_take (i := 4) (v := .bool true) (by simp only [List.getElem?_toArray, List.getElem?_cons_zero, List.getElem?_cons_succ]; rfl) (by kernel_rfl) (by kernel_rfl) (by kernel_rfl) (fun _ _ _ h => h)
    (yieldsIf_eqD (by rfl) _ _ rfl zD zD lZD lZD rfl rfl true (decide_eq_true rfl)) hHeld ?_
  try simp only [Act.put, List.setIfInBounds_toArray, List.set_cons_zero, List.set_cons_succ]
  refine wpAnyH_take (i := 5) (v := ?_) (by simp only [List.getElem?_toArray, List.getElem?_cons_zero, List.getElem?_cons_succ]; rfl) (by kernel_rfl) (by kernel_rfl) (by kernel_rfl) (fun _ _ _ h => h) (Or.inl ⟨by rfl, ?_⟩) hHeld ?_
  rotate_left
  · intro w hSw
    obtain ⟨hSw0, hSw1, hSw2⟩ := hSw
    go_simp
    try with_reducible rfl
  try simp only [Act.put, List.setIfInBounds_toArray, List.set_cons_zero, List.set_cons_succ]
  refine wpAnyH_take (i := 6) (v := ?_) (by simp only [List.getElem?_toArray, List.getElem?_cons_zero, List.getElem?_cons_succ]; rfl) (by kernel_rfl) (by kernel_rfl) (by kernel_rfl) (fun _ _ _ h => h) (Or.inl ⟨by rfl, ?_⟩) hHeld ?_
  rotate_left
  · intro w hSw
    obtain ⟨hSw0, hSw1, hSw2⟩ := hSw
    go_simp
    try with_reducible rfl
  try simp only [Act.put, List.setIfInBounds_toArray, List.set_cons_zero, List.set_cons_succ]
  refine wpAnyH_take (i := 7) (v := .agg (cellsB zD).toArray) (by simp only [List.getElem?_toArray, List.getElem?_cons_zero, List.getElem?_cons_succ]; rfl) (by kernel_rfl) (by kernel_rfl) (by kernel_rfl) (fun _ _ _ h => h)
    (yieldsIf_load_mid (by rfl) _ _ rfl _ _ rfl _ _ (fun w hw => hw.1) Tryd.underlying24 rfl (by rw [cellsB_length, lZD]; exact Tryd.sizeDg)) hHeld ?_
  try simp only [Act.put, List.setIfInBounds_toArray, List.set_cons_zero, List.set_cons_succ]
  refine wpAnyH_take (i := 8) (v := .agg (cellsB zD).toArray) (by simp only [List.getElem?_toArray, List.getElem?_cons_zero, List.getElem?_cons_succ]; rfl) (by kernel_rfl) (by kernel_rfl) (by kernel_rfl) (fun _ _ _ h => h)
    (yieldsIf_load_mid (by rfl) _ _ rfl _ _ rfl _ _ (fun w hw => hw.2.2) Tryd.underlying24 rfl (by rw [cellsB_length, lZD]; exact Tryd.sizeDg)) hHeld ?_
  try simp only [Act.put, List.setIfInBounds_toArray, List.set_cons_zero, List.set_cons_succ]
  refine wpAnyH_take (i := 10) (v := .agg (cellsB zD).toArray) (by simp only [List.getElem?_toArray, List.getElem?_cons_zero, List.getElem?_cons_succ]; rfl) (by kernel_rfl) (by kernel_rfl) (by kernel_rfl) (fun _ _ _ h => h)
    (yieldsIf_load_mid (by rfl) _ _ rfl _ _ rfl _ _ (fun w hw => hw.2.1) Tryd.underlying24 rfl (by rw [cellsB_length, lZD]; exact Tryd.sizeDg)) hHeld ?_
  try simp only [Act.put, List.setIfInBounds_toArray, List.set_cons_zero, List.set_cons_succ]
  refine wpAnyH_take (i := 11) (v := .agg (cellsB zD).toArray) (by simp only [List.getElem?_toArray, List.getElem?_cons_zero, List.getElem?_cons_succ]; rfl) (by kernel_rfl) (by kernel_rfl) (by kernel_rfl) (fun _ _ _ h => h)
    (yieldsIf_load_mid (by rfl) _ _ rfl _ _ rfl _ _ (fun w hw => hw.2.2) Tryd.underlying24 rfl (by rw [cellsB_length, lZD]; exact Tryd.sizeDg)) hHeld ?_
  try simp only [Act.put, List.setIfInBounds_toArray, List.set_cons_zero, List.set_cons_succ]
  refine wpAnyH_ready (rs := [9]) (by kernel_rfl) (by simp) ?_
  refine AllReadyH.cons (by simp only [List.getElem?_toArray, List.getElem?_cons_zero, List.getElem?_cons_succ]; rfl) (fun K hK => ?_) AllReadyH.nil
  rw [if_pos (by rfl)]
  go_simp
  refine (HNL.out wd (HKK.out _ HBd.out).2.1).mono ?_
  rintro e wn ⟨rfl, hbn⟩
  have HBn : Hid (Below x110.heap.size x110 wn) := HBd.out.trans (hbn.mono HBd.out.size)
  clear hbn HBd
  go_wp2_with fail
  refine hK.out _ _ (HKK.out _ HBn.out).1 (fun hHeld => ?_)
  clear hK K
  try simp only [Act.put, List.setIfInBounds_toArray, List.set_cons_zero, List.set_cons_succ]
  refine wpAnyH_ready (rs := [12]) (by kernel_rfl) (by simp) ?_
  refine AllReadyH.cons (by simp only [List.getElem?_toArray, List.getElem?_cons_zero, List.getElem?_cons_succ]; rfl) (fun K hK => ?_) AllReadyH.nil
  rw [if_pos (by rfl)]
  go_simp
  refine (HMN.out wn).mono ?_
  rintro e wo ⟨rfl, hbo⟩
  have HBo : Hid (Below x110.heap.size x110 wo) := HBn.out.trans (hbo.mono HBn.out.size)
  clear hbo HBn
  go_wp2_with fail
  refine hK.out _ _ (HKK.out _ HBo.out).1 (fun hHeld => ?_)
  clear hK K
  try simp only [Act.put, List.setIfInBounds_toArray, List.set_cons_zero, List.set_cons_succ]
  refine wpAnyH_take (i := 13) (v := .bool true) (by simp only [List.getElem?_toArray, List.getElem?_cons_zero, List.getElem?_cons_succ]; rfl) (by kernel_rfl) (by kernel_rfl) (by kernel_rfl) (fun _ _ _ h => h)
    (yieldsIf_eqD (by rfl) _ _ rfl N N lN lN rfl rfl true (decide_eq_true rfl)) hHeld ?_
  try simp only [Act.put, List.setIfInBounds_toArray, List.set_cons_zero, List.set_cons_succ]
  refine wpAnyH_take (i := 14) (v := ?_) (by simp only [List.getElem?_toArray, List.getElem?_cons_zero, List.getElem?_cons_succ]; rfl) (by kernel_rfl) (by kernel_rfl) (by kernel_rfl) (fun _ _ _ h => h) (Or.inl ⟨by rfl, ?_⟩) hHeld ?_
  rotate_left
  · intro w hSw
    obtain ⟨hSw0, hSw1, hSw2⟩ := hSw
    go_simp
    try with_reducible rfl
  try simp only [Act.put, List.setIfInBounds_toArray, List.set_cons_zero, List.set_cons_succ]
  refine wpAnyH_take (i := 15) (v := ?_) (by simp only [List.getElem?_toArray, List.getElem?_cons_zero, List.getElem?_cons_succ]; rfl) (by kernel_rfl) (by kernel_rfl) (by kernel_rfl) (fun _ _ _ h => h) (Or.inl ⟨by rfl, ?_⟩) hHeld ?_
  rotate_left
  · intro w hSw
    obtain ⟨hSw0, hSw1, hSw2⟩ := hSw
    go_simp
    try with_reducible rfl
  try simp only [Act.put, List.setIfInBounds_toArray, List.set_cons_zero, List.set_cons_succ]
  refine wpAnyH_done (by kernel_rfl) (NoPanic.normal ?_) _
  have HW : Hid (Below w.heap.size w wo) := (HKK.out _ HBo.out).2.2
  clear hHeld HKK HBo
  go_wp2_with fail
  go_ret
  exact ⟨rfl, HW.out⟩
theorem iroots_walk (a : Option Addr) (n c : Nat) (es : List Ent) (k : Int) (e : Ent) (w : World) (G : Env w) (HH : Handle w) (R : ERow w a n es) (hc : n ≤ c) (hn : 40 * n ≤ 140737488351232) (k1 : -9223372036854775808 ≤ k) (k2 : k ≤ 9223372036854775807) (he : okE e) :
    Calls Tryd.prog 3 #[.slice a n c, .int .i64 k, entV e] w fun r w' => r = .returned (.bool true) ∧ Below w.heap.size w w' := by
  cases hk2 : isKey e.1 with
  | true =>
    by_cases hf : faultE es = 0
    · cases hk : isKey k with
      | true => exact iroots_okkey a n c es k e w G HH R hc hn k1 k2 he hf hk hk2
      | false => exact iroots_nokeykey a n c es k e w G HH R hc hn k1 k2 he hf hk hk2
    · exact iroots_faultkey a n c es k e w G HH R hc hn k1 k2 he hf hk2
  | false =>
    by_cases hf : faultE es = 0
    · cases hk : isKey k with
      | true => exact iroots_oknot a n c es k e w G HH R hc hn k1 k2 he hf hk hk2
      | false => exact iroots_nokeynot a n c es k e w G HH R hc hn k1 k2 he hf hk hk2
    · exact iroots_faultnot a n c es k e w G HH R hc hn k1 k2 he hf hk2
end Go.Proofs.YtbhoijnhpmkglaaDoor
