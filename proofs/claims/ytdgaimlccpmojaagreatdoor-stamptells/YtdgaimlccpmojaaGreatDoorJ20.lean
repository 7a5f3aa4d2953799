/- Texts of this claim, joined: Wstampn, Rtree, Rtree2, Rtree3. -/
import Derived.Test.YtdgaimlccpmojaaGreatDoorJ19
import Derived.Test.YtdgaimlccpmojaaGreatDoorJ18
import Derived.Test.YtdgaimlccpmojaaGreatDoorJ05
import Derived.Test.YtdgaimlccpmojaaGreatDoorJ15
import Derived.Deep.RegionHeld3
/- The contracts of stamp.Public and New. -/
namespace Go.Proofs.YtdgaimlccpmojaaGreatDoor
open Go.RowKit
set_option linter.unusedVariables false
set_option linter.unusedSimpArgs false

set_option maxRecDepth 100000 in
set_option maxHeartbeats 1000000 in
theorem wstamp_public (seed : List UInt8) (h : Nat) (w : World) (G : Env w) (hs : seed.length = 32) (hh : h ≤ 4) :
    Calls Tryz.prog 6 #[digestV seed, .int .i64 (h : Int)] w fun e w' => e = .returned (.tuple #[digestV (stampPubL seed (2 ^ h)), .nilIface]) ∧ Below w.heap.size w w' := by
  obtain ⟨w2, hw2⟩ : ∃ w2, (w.alloc (.cells (cellsB seed).toArray 23)).alloc (.cells (cellsB zD).toArray 23) = w2 := ⟨_, rfl⟩
  have hs1 : (w.alloc (.cells (cellsB seed).toArray 23)).heap.size = w.heap.size + 1 := by simp
  have HS2 : Hid (w2.heap.size = w.heap.size + 1 + 1) := by unfold Hid; rw [← hw2]; simp
  have HB2 : Hid (Below w.heap.size w w2) := by rw [← hw2]; exact ((Below.refl _ _).alloc (Nat.le_refl _) _).alloc (by simp) _
  have HD2 : Hid (DAt w2 w.heap.size 0 seed) := by rw [← hw2]; exact World.rangeAt_alloc (box_dat w seed _) _
  have HT2 : Hid (w2.there (w.heap.size + 1) 0 32) := by rw [← hw2]; exact alloc_thereAt _ _ _ 32 _ hs1 zD_size.symm
  have HG : Hid (Env w2) := G.below HB2.out
  clear G
  have hp16 := (Stm.pow hh).2
  go_enter Tryz.func6, Tryz.ntmps6
  go_wp2_with (first
    | (refine wpList_allocE (by rfl) 23 (by rfl) (cellsB zD).toArray Tryz.zeroDg (w.heap.size + 1) hs1 w2 hw2 ?_)
    | (refine wpList_load_mid (by rfl) 23 (.tmp 2) (by rfl) w.heap.size 0 (by rfl) (cellsB seed) _ HD2.out Tryz.underlying23 (by rfl) (by rw [cellsB_length, hs]; exact Tryz.sizeDg) ?_))
  clear hw2 hs1
  refine (wleaves_any seed h w2 HG.out hs hh).mono ?_
  rintro e w3 ⟨⟨g, c, rfl, hg3, hc3, hr3⟩, hb3⟩
  have HR3 : Hid (DRow w3 (some ⟨g, 0, none⟩) (2 ^ h) (stampLeavesL seed (2 ^ h)) ∧ Below w2.heap.size w2 w3) := ⟨hr3, hb3⟩
  clear hr3 hb3 hg3
  have HE : Hid (rootT (stampLeavesL seed (2 ^ h)) = stampPubL seed (2 ^ h)) := rfl
  obtain ⟨n, hn⟩ : ∃ n, 2 ^ h = n := ⟨_, rfl⟩
  have HN : Hid (2 ^ h = n) := hn
  rw [hn] at HR3 HE hc3 hp16 ⊢
  clear hn
  go_wp2_with fail
  refine (wtree_root (some ⟨g, 0, none⟩) n c (stampLeavesL seed n) w3 (HG.out.below HR3.out.2) HR3.out.1 hc3 (by omega)).mono ?_
  rintro e w4 ⟨rfl, hb4⟩
  rw [HE.out]
  have HB4 : Hid (Below w2.heap.size w2 w4) := below_trans HR3.out.2 hb4
  have HT4 : Hid (w4.there (w.heap.size + 1) 0 32) := there_below HT2.out HB4.out (by have := HS2.out; omega)
  have hlen := stampPubL_length seed n
  clear hb4 HR3 HE
  generalize hD : stampPubL seed n = D at *
  have HD : Hid (stampPubL seed n = D) := hD
  clear hD
  go_wp2_with (refine wpList_store_mid (by rfl) 23 (.tmp 4) (.tmp 20) (by rfl) (w.heap.size + 1) 0 (cellsB D).toArray (by rfl) (by rfl) (by rw [cellsB_size, hlen]; exact HT4.out) (by rw [cellsB_size, hlen]; exact Tryz.sizeDg) (all_oneCell_toArray (cellsB_one _)) ?_)
  refine bodyPost_ret (v := .tuple #[digestV D, .nilIface]) (run_results_row2 Tryz.results6 _ _ (w.heap.size + 1) 0 (by rfl) _ (by rfl) (cellsB D) (World.rangeAt_setCells_same _ _ _ _ (by rw [cellsB_length, hlen]; exact HT4.out)) _ Tryz.underlying23 (by rfl) (by rw [cellsB_length, hlen]; exact Tryz.sizeDg)) rfl ⟨by rw [HN.out, HD.out], ?_⟩
  exact below_setCells _ (by omega) _ _ _ (HB2.out.trans (HB4.out.mono (by have := HS2.out; omega)))
set_option maxRecDepth 100000 in
set_option maxHeartbeats 1000000 in
theorem wstamp_pubout (seed : List UInt8) (h : Int) (w : World) (G : Env w) (hs : seed.length = 32) (hh : h < 0 ∨ 4 < h) (h1 : -9223372036854775808 ≤ h) (h2 : h ≤ 9223372036854775807) :
    Calls Tryz.prog 6 #[digestV seed, .int .i64 h] w fun e w' => e = .returned (.tuple #[digestV zD, .iface 27 (.int .i64 2)]) ∧ Below w.heap.size w w' := by
  obtain ⟨w2, hw2⟩ : ∃ w2, (w.alloc (.cells (cellsB seed).toArray 23)).alloc (.cells (cellsB zD).toArray 23) = w2 := ⟨_, rfl⟩
  have hs1 : (w.alloc (.cells (cellsB seed).toArray 23)).heap.size = w.heap.size + 1 := by simp
  have HS2 : Hid (w2.heap.size = w.heap.size + 1 + 1) := by unfold Hid; rw [← hw2]; simp
  have HB2 : Hid (Below w.heap.size w w2) := by rw [← hw2]; exact ((Below.refl _ _).alloc (Nat.le_refl _) _).alloc (by simp) _
  have HD2 : Hid (DAt w2 w.heap.size 0 seed) := by rw [← hw2]; exact World.rangeAt_alloc (box_dat w seed _) _
  have HT2 : Hid (w2.there (w.heap.size + 1) 0 32) := by rw [← hw2]; exact alloc_thereAt _ _ _ 32 _ hs1 zD_size.symm
  clear G
  go_enter Tryz.func6, Tryz.ntmps6
  go_wp2_with (first
    | (refine wpList_allocE (by rfl) 23 (by rfl) (cellsB zD).toArray Tryz.zeroDg (w.heap.size + 1) hs1 w2 hw2 ?_)
    | (refine wpList_load_mid (by rfl) 23 (.tmp 2) (by rfl) w.heap.size 0 (by rfl) (cellsB seed) _ HD2.out Tryz.underlying23 (by rfl) (by rw [cellsB_length, hs]; exact Tryz.sizeDg) ?_))
  clear hw2 hs1
  refine (wleaves_out seed h w2 hs hh h1 h2).mono ?_
  rintro e w3 ⟨rfl, hb3⟩
  have HT3 : Hid (w3.there (w.heap.size + 1) 0 32) := there_below HT2.out hb3 (by have := HS2.out; omega)
  have HB3 : Hid (Below w.heap.size w w3) := below_trans HB2.out hb3
  clear hb3 hh
  have lZ : zD.length = 32 := rfl
  have hbu : Tryz.prog.built 23 [] = some (cellsB zD).toArray := by kernel_rfl
  obtain ⟨Z, hZ⟩ : ∃ Z, zD = Z := ⟨_, rfl⟩
  have HZ : Hid (zD = Z) := hZ
  rw [hZ] at lZ hbu
  have HBU : Hid (Tryz.prog.built 23 [] = some (cellsB Z).toArray) := hbu
  clear hZ hbu
  go_wp2_with (first
    | (refine wpList_buildC (by rfl) 23 #[] (by rfl) (cellsB Z).toArray (by simpa using HBU.out) ?_)
    | (refine wpList_store_mid (by rfl) 23 (.tmp 4) (.tmp 16) (by rfl) (w.heap.size + 1) 0 (cellsB Z).toArray (by rfl) (by rfl) (by rw [cellsB_size, lZ]; exact HT3.out) (by rw [cellsB_size, lZ]; exact Tryz.sizeDg) (all_oneCell_toArray (cellsB_one _)) ?_))
  refine bodyPost_ret (v := .tuple #[digestV Z, .iface 27 (.int .i64 2)]) (run_results_row2 Tryz.results6 _ _ (w.heap.size + 1) 0 (by rfl) _ (by rfl) (cellsB Z) (World.rangeAt_setCells_same _ _ _ _ (by rw [cellsB_length, lZ]; exact HT3.out)) _ Tryz.underlying23 (by rfl) (by rw [cellsB_length, lZ]; exact Tryz.sizeDg)) rfl ⟨by rw [HZ.out], ?_⟩
  exact below_setCells _ (by omega) _ _ _ HB3.out
/-- A Stamp as it is made. -/
def stV (seed : List UInt8) (a : Option Addr) (n c : Nat) : List Value := cellsB seed ++ [.slice a n c, .int .i64 0]
theorem Tryz.zeroSt : (Tryz.prog.info? 59).map (·.zero) = some (some (.agg (stV zD none 0 0).toArray)) := by kernel_rfl
theorem Tryz.placesSt : (match Tryz.prog.underlying 59 with | some (.struct fields) => fields.toList.mapM (fun f => (Tryz.prog.info? f.type).map fun i => (f.offset, i.size)) | _ => none) = some [(0, 32), (32, 1), (33, 1)] := by kernel_rfl
theorem fillSt (seed : List UInt8) (hs : seed.length = 32) (a : Option Addr) (n c : Nat) : Instr.fill (([(0, 32), (32, 1), (33, 1)] : List (Nat × Nat)).toArray[·]?) (stV zD none 0 0).toArray [(0, digestV seed), (1, .slice a n c)] = some (stV seed a n c).toArray := by
  have hsz : (digestV seed).cells.size = 32 := cells32 hs
  have hb : ((digestV seed).cells.zipIdx.foldl (fun (cs : Array Value) (x : Value × Nat) => cs.setIfInBounds (0 + x.2) x.1) (stV zD none 0 0).toArray) = (cellsB seed ++ [Value.slice none 0 0, Value.int .i64 0]).toArray := by
    have := fold_set 0 (cellsB seed) 0 (stV zD none 0 0).toArray (by rw [cellsB_length, hs]; decide)
    rw [cellsB_length, hs] at this
    have h2 : ((digestV seed).cells.zipIdx.foldl (fun (cs : Array Value) (x : Value × Nat) => cs.setIfInBounds (0 + x.2) x.1) (stV zD none 0 0).toArray).toList = cellsB seed ++ [Value.slice none 0 0, Value.int .i64 0] := by
      have e1 : ((digestV seed).cells.zipIdx.foldl (fun (cs : Array Value) (x : Value × Nat) => cs.setIfInBounds (0 + x.2) x.1) (stV zD none 0 0).toArray) = ((cellsB seed).zipIdx.foldl (fun (cs : Array Value) (x : Value × Nat) => cs.setIfInBounds (0 + x.2) x.1) (stV zD none 0 0).toArray) := by
        show ((cellsB seed).toArray.zipIdx.foldl _ _) = _
        rw [← Array.foldl_toList, Array.toList_zipIdx]
      rw [e1, this]
      have e0 : (stV zD none 0 0).toArray.toList.drop (0 + 0 + 32) = [Value.slice none 0 0, Value.int .i64 0] := by rfl
      rw [e0]
      simp
    rw [← h2]
  unfold Instr.fill
  simp only [List.getElem?_toArray, List.getElem?_cons_zero]
  rw [if_neg (by simp only [hsz]; simp [stV, cellsB_length, zD])]
  unfold Instr.fill
  simp only [List.getElem?_toArray, List.getElem?_cons_succ, List.getElem?_cons_zero]
  rw [hb]
  rw [if_neg (by simp [Value.cells, cellsB_length, hs])]
  unfold Instr.fill
  congr 1
  have h3 : (cellsB seed).length = 32 := by rw [cellsB_length, hs]
  simp [stV, Value.cells, h3]
theorem Tryz.builtSt (seed : List UInt8) (hs : seed.length = 32) (a : Option Addr) (n c : Nat) : Tryz.prog.built 59 [(0, digestV seed), (1, .slice a n c)] = some (stV seed a n c).toArray := by
  unfold Program.built
  cases hi : Tryz.prog.info? 59 with
  | none => have := Tryz.zeroSt; rw [hi] at this; cases this
  | some it =>
    have hz : it.zero = some (.agg (stV zD none 0 0).toArray) := by have := Tryz.zeroSt; rw [hi] at this; simpa using this
    have hp := Tryz.placesSt
    cases hu : Tryz.prog.underlying 59 with
    | none => rw [hu] at hp; cases hp
    | some d =>
      rw [hu] at hp
      cases d <;> try (cases hp; done)
      case struct fs =>
        have hp' : fs.toList.mapM (fun f => (Tryz.prog.info? f.type).map fun i => (f.offset, i.size)) = some [(0, 32), (32, 1), (33, 1)] := hp
        show (match it.zero, fs.toList.mapM (fun f => (Tryz.prog.info? f.type).map fun i => (f.offset, i.size)) with | some z, some places => Instr.fill (places.toArray[·]?) z.cells [(0, digestV seed), (1, .slice a n c)] | _, _ => none) = _
        rw [hz, hp']
        exact fillSt seed hs a n c
theorem stm_new (w : World) (seed : List UInt8) (h g c : Nat) (hs : seed.length = 32) (hh : h ≤ 4) (hc : 2 ^ h ≤ c) (R : DRow w (some ⟨g, 0, none⟩) (2 ^ h) (stampLeavesL seed (2 ^ h))) (hg : g < w.heap.size) (t : TypeId) :
    Stm (w.alloc (.cells (stV seed (some ⟨g, 0, none⟩) (2 ^ h) c).toArray t)) w.heap.size seed h 0 := by
  have hb : Below w.heap.size w (w.alloc (.cells (stV seed (some ⟨g, 0, none⟩) (2 ^ h) c).toArray t)) := (Below.refl _ _).alloc (Nat.le_refl _) _
  have hr := box_range w (stV seed (some ⟨g, 0, none⟩) (2 ^ h) c) t
  have hl : (cellsB seed).length = 32 := by rw [cellsB_length, hs]
  have hsz : (stV seed (some ⟨g, 0, none⟩) (2 ^ h) c).toArray.size = 34 := by simp [stV, hl]
  refine ⟨g, c, hh, Nat.zero_le _, hs, fun j v hj => hr j v ?_, ?_, hc, ?_, alloc_there _ _ _ 34 (by rw [hsz]; omega), R.below hb, by omega⟩
  · unfold stV
    rw [List.getElem?_append_left (by have := (List.getElem?_eq_some_iff.1 hj).1; exact this)]
    exact hj
  · have := hr 32 (.slice (some ⟨g, 0, none⟩) (2 ^ h) c) (by unfold stV; rw [List.getElem?_append_right (by omega), hl]; rfl)
    exact this
  · have := hr 33 (.int .i64 0) (by unfold stV; rw [List.getElem?_append_right (by omega), hl]; rfl)
    exact this
set_option maxRecDepth 100000 in
set_option maxHeartbeats 1000000 in
theorem wstamp_newout (seed : List UInt8) (h : Int) (w : World) (G : Env w) (hs : seed.length = 32) (hh : h < 0 ∨ 4 < h) (h1 : -9223372036854775808 ≤ h) (h2 : h ≤ 9223372036854775807) :
    Calls Tryz.prog 8 #[digestV seed, .int .i64 h] w fun e w' => e = .returned (.tuple #[.pointer none, .iface 27 (.int .i64 2)]) ∧ Below w.heap.size w w' := by
  obtain ⟨w2, hw2⟩ : ∃ w2, w.alloc (.cells (cellsB seed).toArray 23) = w2 := ⟨_, rfl⟩
  have HS2 : Hid (w2.heap.size = w.heap.size + 1) := by unfold Hid; rw [← hw2]; simp
  have HD2 : Hid (DAt w2 w.heap.size 0 seed) := by rw [← hw2]; exact box_dat w seed _
  have HB2 : Hid (Below w.heap.size w w2) := by rw [← hw2]; exact (Below.refl _ _).alloc (Nat.le_refl _) _
  clear G
  go_enter Tryz.func8, Tryz.ntmps8
  go_wp2_with (refine wpList_load_mid (by rfl) 23 (.tmp 2) (by rfl) w.heap.size 0 (by rfl) (cellsB seed) _ (by first | exact HD2.out | (rw [hw2]; exact HD2.out)) Tryz.underlying23 (by rfl) (by rw [cellsB_length, hs]; exact Tryz.sizeDg) ?_)
  try rw [hw2]
  clear hw2
  refine (wleaves_out seed h w2 hs hh h1 h2).mono ?_
  rintro e w3 ⟨rfl, hb3⟩
  have HB3 : Hid (Below w.heap.size w w3) := below_trans HB2.out hb3
  clear hb3 hh
  go_wp2_with fail
  go_ret2
  exact ⟨rfl, HB3.out⟩
set_option maxRecDepth 100000 in
set_option maxHeartbeats 1000000 in
theorem wstamp_new (seed : List UInt8) (h : Nat) (w : World) (G : Env w) (hs : seed.length = 32) (hh : h ≤ 4) :
    Calls Tryz.prog 8 #[digestV seed, .int .i64 (h : Int)] w fun e w' => (∃ g, e = .returned (.tuple #[.pointer (some ⟨g, 0, none⟩), .nilIface]) ∧ w.heap.size ≤ g ∧ Stm w' g seed h 0) ∧ Below w.heap.size w w' := by
  obtain ⟨w2, hw2⟩ : ∃ w2, w.alloc (.cells (cellsB seed).toArray 23) = w2 := ⟨_, rfl⟩
  have HS2 : Hid (w2.heap.size = w.heap.size + 1) := by unfold Hid; rw [← hw2]; simp
  have HD2 : Hid (DAt w2 w.heap.size 0 seed) := by rw [← hw2]; exact box_dat w seed _
  have HB2 : Hid (Below w.heap.size w w2) := by rw [← hw2]; exact (Below.refl _ _).alloc (Nat.le_refl _) _
  have HG : Hid (Env w2) := G.below HB2.out
  clear G
  go_enter Tryz.func8, Tryz.ntmps8
  go_wp2_with (refine wpList_load_mid (by rfl) 23 (.tmp 2) (by rfl) w.heap.size 0 (by rfl) (cellsB seed) _ (by first | exact HD2.out | (rw [hw2]; exact HD2.out)) Tryz.underlying23 (by rfl) (by rw [cellsB_length, hs]; exact Tryz.sizeDg) ?_)
  try rw [hw2]
  clear hw2
  refine (wleaves_any seed h w2 HG.out hs hh).mono ?_
  rintro e w3 ⟨⟨g, c, rfl, hg3, hc3, hr3⟩, hb3⟩
  have HD3 : Hid (DAt w3 w.heap.size 0 seed) := HD2.out.below hb3 (by have := HS2.out; omega)
  have hgl : g < w3.heap.size := cell_block ((hr3.at 0 (Stm.pow hh).1).cell 0 (by rw [hr3.len 0 (Stm.pow hh).1]; omega))
  have HN3 : Hid (Stm (w3.alloc (.cells (stV seed (some ⟨g, 0, none⟩) (2 ^ h) c).toArray 59)) w3.heap.size seed h 0) := stm_new w3 seed h g c hs hh hc3 hr3 hgl _
  have HB3 : Hid (Below w.heap.size w (w3.alloc (.cells (stV seed (some ⟨g, 0, none⟩) (2 ^ h) c).toArray 59)) ∧ w.heap.size ≤ w3.heap.size) := ⟨(below_trans HB2.out hb3).alloc (by have := hb3.size; have := HS2.out; omega) _, by have := hb3.size; have := HS2.out; omega⟩
  clear hr3 hb3 hg3 HG hgl
  obtain ⟨nn, hnn⟩ : ∃ nn, 2 ^ h = nn := ⟨_, rfl⟩
  have HNN : Hid (2 ^ h = nn) := hnn
  rw [hnn] at HN3 HB3 hc3 ⊢
  clear hnn
  obtain ⟨SV, hSV⟩ : ∃ SV, stV seed (some ⟨g, 0, none⟩) nn c = SV := ⟨_, rfl⟩
  have hbs : Hid (Tryz.prog.built 59 [(0, digestV seed), (1, .slice (some ⟨g, 0, none⟩) nn c)] = some SV.toArray) := by rw [← hSV]; exact Tryz.builtSt seed hs _ _ _
  rw [hSV] at HN3 HB3
  clear hSV
  go_wp2_with (first
    | (refine wpList_load_mid (by rfl) 23 (.tmp 2) (by rfl) w.heap.size 0 (by rfl) (cellsB seed) _ HD3.out Tryz.underlying23 (by rfl) (by rw [cellsB_length, hs]; exact Tryz.sizeDg) ?_)
    | (refine wpList_buildC (by rfl) 59 _ (by rfl) SV.toArray (by simp only [List.map_toArray, List.map_cons, List.map_nil, Act.eval]; exact hbs.out) ?_))
  go_ret2
  exact ⟨⟨_, rfl, HB3.out.2, HN3.out⟩, HB3.out.1⟩
end Go.Proofs.YtdgaimlccpmojaaGreatDoor
/- The contracts of oathbookref1.Leaf, Node, Half and Long. -/
namespace Go.Proofs.YtdgaimlccpmojaaGreatDoor
open Go.RowKit
set_option linter.unusedVariables false
set_option linter.unusedSimpArgs false

theorem Tryz.infoTu8 : (Tryz.prog.info? 5).map (fun i => (i.zero, i.size, i.bytes)) = some (some (.int .u8 0), 1, 1) := by kernel_rfl
set_option maxRecDepth 100000 in
set_option maxHeartbeats 1000000 in
theorem rnode_any (l r : List UInt8) (w : World) (hl : l.length = 32) (hr : r.length = 32) :
    Calls Tryz.prog 22 #[digestV l, digestV r] w fun e w' => e = .returned (digestV (nodeT l r)) ∧ Below w.heap.size w w' := by
  obtain ⟨iD, hiD, hzD0, hzD1, hzD2⟩ := info_parts Tryz.infoDg
  obtain ⟨w2, hw2⟩ : ∃ w2, ((w.alloc (.cells (cellsB l).toArray 23)).alloc (.cells (cellsB r).toArray 23)).alloc (.cells (cellsB zD).toArray 23) = w2 := ⟨_, rfl⟩
  have hs0 : (w.alloc (.cells (cellsB l).toArray 23)).heap.size = w.heap.size + 1 := by simp
  have hs1 : ((w.alloc (.cells (cellsB l).toArray 23)).alloc (.cells (cellsB r).toArray 23)).heap.size = w.heap.size + 1 + 1 := by simp
  have hs2 : w2.heap.size = w.heap.size + 1 + 1 + 1 := by rw [← hw2]; simp
  have HD2 : Hid (DAt w2 w.heap.size 0 l ∧ DAt w2 (w.heap.size + 1) 0 r) := by rw [← hw2]; exact ⟨World.rangeAt_alloc (World.rangeAt_alloc (box_dat w l _) _) _, World.rangeAt_alloc (box_rangeAt _ _ _ _ hs0) _⟩
  have HT2 : Hid (w2.there (w.heap.size + 1 + 1) 0 32) := by rw [← hw2]; exact alloc_thereAt _ _ _ 32 _ hs1 zD_size.symm
  have HB2 : Hid (Below w.heap.size w w2) := by rw [← hw2]; exact (((Below.refl _ _).alloc (Nat.le_refl _) _).alloc (by simp) _).alloc (by simp; omega) _
  have hb3 : Below w2.heap.size w2 (w2.alloc (.cells (cellsB (l ++ r)).toArray 23)) := (Below.refl _ _).alloc (Nat.le_refl _) _
  have HR3 : Hid (DRow (w2.alloc (.cells (cellsB (l ++ r)).toArray 23)) (some ⟨w.heap.size + 1 + 1 + 1, 0, none⟩) 2 [l, r]) := by rw [← hs2]; exact DRow.lit2 w2 l r _ hl hr
  have HB3 : Hid (Below w.heap.size w (w2.alloc (.cells (cellsB (l ++ r)).toArray 23))) := below_trans HB2.out hb3
  have HT3 : Hid ((w2.alloc (.cells (cellsB (l ++ r)).toArray 23)).there (w.heap.size + 1 + 1) 0 32) := there_below HT2.out hb3 (by omega)
  have HS3 : Hid ((w2.alloc (.cells (cellsB (l ++ r)).toArray 23)).heap.size = w.heap.size + 1 + 1 + 1 + 1) := by unfold Hid; simp [hs2]
  clear hb3
  go_enter Tryz.func22, Tryz.ntmps22
  go_wp2_with (first
    | (refine wpList_allocE (by rfl) 23 (by rfl) (cellsB zD).toArray Tryz.zeroDg (w.heap.size + 1 + 1) hs1 w2 hw2 ?_)
    | (refine wpList_load_mid (by rfl) 23 (.tmp 2) (by rfl) w.heap.size 0 (by rfl) (cellsB l) _ HD2.out.1 Tryz.underlying23 (by rfl) (by rw [cellsB_length, hl]; exact Tryz.sizeDg) ?_)
    | (refine wpList_load_mid (by rfl) 23 (.tmp 3) (by rfl) (w.heap.size + 1) 0 (by rfl) (cellsB r) _ HD2.out.2 Tryz.underlying23 (by rfl) (by rw [cellsB_length, hr]; exact Tryz.sizeDg) ?_)
    | (refine wpList_build2 (by rfl) (.tmp 5) (.tmp 6) 24 (by rfl) 23 (.agg zeros32) iD l r hl hr (by rfl) (by rfl) Tryz.underlying24 hiD hzD0 (by rfl) hzD1 ?_))
  try rw [hs2]
  refine (rof_any 1 _ 2 2 [l, r] _ HR3.out (by omega)).mono ?_
  rintro e w4 ⟨rfl, hb4⟩
  have hE : shaL (1 :: [l, r].flatten) = nodeT l r := by simp [nodeT]
  rw [hE]
  have HB4 : Hid (Below w.heap.size w w4) := below_trans HB3.out hb4
  have HT4 : Hid (w4.there (w.heap.size + 1 + 1) 0 32) := there_below HT3.out hb4 (by have := HS3.out; omega)
  have hlen := nodeT_length l r
  clear hb4 HB2 HT2 HD2 hw2 hs2 hs1 hs0 HR3 HB3 HT3 hE HS3
  generalize hD : nodeT l r = D at *
  have HD : Hid (nodeT l r = D) := hD
  clear hD
  go_wp2_with (refine wpList_store_mid (by rfl) 23 (.tmp 4) (.tmp 8) (by rfl) (w.heap.size + 1 + 1) 0 (cellsB D).toArray (by rfl) (by rfl) (by rw [cellsB_size, hlen]; exact HT4.out) (by rw [cellsB_size, hlen]; exact Tryz.sizeDg) (all_oneCell_toArray (cellsB_one _)) ?_)
  refine bodyPost_ret (v := digestV D) (run_results_row Tryz.results22 _ _ (w.heap.size + 1 + 1) 0 (by rfl) (cellsB D) (World.rangeAt_setCells_same _ _ _ _ (by rw [cellsB_length, hlen]; exact HT4.out)) _ Tryz.underlying23 (by rfl) (by rw [cellsB_length, hlen]; exact Tryz.sizeDg)) rfl ⟨by rw [HD.out], ?_⟩
  exact below_setCells _ (by omega) _ _ _ HB4.out

set_option maxRecDepth 100000 in
set_option maxHeartbeats 1000000 in
theorem rhalf_any (n : Nat) (w : World) (hn : 2 ≤ n) (hn2 : n ≤ 1000000) :
    Calls Tryz.prog 21 #[.int .i64 (n : Int)] w fun e w' => e = .returned (.int .i64 (halfT n : Int)) ∧ w' = w := by
  go_enter Tryz.func21, Tryz.ntmps21
  go_wp2_with fail
  go_loopw [3] (fun v wr => ∃ k f : Nat, v = .int .i64 (k : Int) ∧ 0 < k ∧ k < n ∧ n ≤ k + f ∧ Hid (halfF f k n = halfT n) ∧ Hid (wr = w)) (fun v _ => n - (intOf v).toNat)
  case atStart => exact ⟨1, n, rfl, by omega, by omega, by omega, rfl, rfl⟩
  case round =>
    obtain ⟨k, f, rfl, h0, h1, h2, HE, HW⟩ := hrel
    by_cases hlt : 2 * k < n
    · have g1 : (2 : Int) * (k : Int) < (n : Int) := by omega
      cases f with
      | zero => omega
      | succ f =>
        go_wp2_with fail
        go_roundw
        case rel => exact ⟨2 * k, f, by go_num, by omega, hlt, by omega, (by have := HE.out; rw [halfF, if_pos hlt] at this; exact this), HW⟩
        case measure => simp [intOf]; omega
    · have g1 : ¬ (2 : Int) * (k : Int) < (n : Int) := by omega
      have hk : halfT n = k := by
        have := HE.out
        cases f with
        | zero => exact this.symm
        | succ f => rw [halfF, if_neg hlt] at this; exact this.symm
      have HK : Hid (halfT n = k) := hk
      clear hk
      go_wp2_with fail
      go_ret
      exact ⟨by rw [HK.out]; rfl, HW.out⟩
end Go.Proofs.YtdgaimlccpmojaaGreatDoor
/- The contracts of oathbookref1.Long and Root: they call themselves. -/
namespace Go.Proofs.YtdgaimlccpmojaaGreatDoor
open Go.RowKit
set_option linter.unusedVariables false
set_option linter.unusedSimpArgs false

set_option maxRecDepth 100000 in
set_option maxHeartbeats 1000000 in
theorem rlong_any : ∀ (n i : Nat) (w : World), 1 ≤ n → n ≤ 1000000 → i < n →
    Calls Tryz.prog 15 #[.int .i64 (i : Int), .int .i64 (n : Int)] w fun e w' => e = .returned (.int .i64 (longT i n : Int)) ∧ w' = w := by
  intro n
  induction n using Nat.strongRecOn with
  | ind n ih =>
    intro i w h1 hn hi
    have HI : Hid (∀ m, m < n → ∀ (i : Nat) (w : World), 1 ≤ m → m ≤ 1000000 → i < m → Calls Tryz.prog 15 #[.int .i64 (i : Int), .int .i64 (m : Int)] w fun e w' => e = .returned (.int .i64 (longT i m : Int)) ∧ w' = w) := ih
    clear ih
    go_enter Tryz.func15, Tryz.ntmps15
    by_cases h2 : 2 ≤ n
    · have e1 : ((n : Int) == 1) = false := by simp; omega
      go_wp2_with fail
      refine (rhalf_any n w h2 hn).mono ?_
      rintro e w' ⟨rfl, rfl⟩
      have hk1 := halfT_lt h2
      have hk2 := halfT_pos n
      by_cases c : i < halfT n
      · have HL : Hid (longT i n = 1 + longT i (halfT n)) := longT_lo h2 c
        have hlb := longT_le (halfT n) i
        have HC : Hid (Calls Tryz.prog 15 #[.int .i64 (i : Int), .int .i64 (halfT n : Int)] w' fun e w'' => e = .returned (.int .i64 (longT i (halfT n) : Int)) ∧ w'' = w') := HI.out (halfT n) hk1 i w' (by omega) (by omega) c
        generalize halfT n = k at *
        have g1 : (i : Int) < (k : Int) := by omega
        go_wp2_with fail
        refine HC.out.mono ?_
        rintro e w3 ⟨rfl, rfl⟩
        generalize longT i k = y at *
        go_wp2_with fail
        go_ret
        refine ⟨ret_int ?_, rfl⟩
        rw [HL.out]
        omega
      · have HL : Hid (longT i n = 1 + longT (i - halfT n) (n - halfT n)) := longT_hi h2 c
        have hlb := longT_le (n - halfT n) (i - halfT n)
        have HC : Hid (Calls Tryz.prog 15 #[.int .i64 ((i - halfT n : Nat) : Int), .int .i64 ((n - halfT n : Nat) : Int)] w' fun e w'' => e = .returned (.int .i64 (longT (i - halfT n) (n - halfT n) : Int)) ∧ w'' = w') := HI.out (n - halfT n) (by omega) (i - halfT n) w' (by omega) (by omega) (by omega)
        generalize halfT n = k at *
        have g1 : ¬ (i : Int) < (k : Int) := by omega
        have s1 : (i : Int) - (k : Int) = ((i - k : Nat) : Int) := by omega
        have s2 : (n : Int) - (k : Int) = ((n - k : Nat) : Int) := by omega
        have b1 : i - k ≤ 1000000 := by omega
        have b2 : n - k ≤ 1000000 := by omega
        generalize longT (i - k) (n - k) = y at *
        generalize i - k = i' at *
        generalize n - k = n' at *
        go_wp2_with fail
        refine HC.out.mono ?_
        rintro e w3 ⟨rfl, rfl⟩
        go_wp2_with fail
        go_ret
        refine ⟨ret_int ?_, rfl⟩
        rw [HL.out]
        omega
    · obtain rfl : n = 1 := by omega
      have HL : Hid (longT i 1 = 0) := longT_one h2
      go_wp2_with fail
      go_ret
      refine ⟨ret_int ?_, rfl⟩
      rw [HL.out]
      rfl

set_option maxRecDepth 100000 in
set_option maxHeartbeats 1000000 in
theorem rroot_any : ∀ (n : Nat) (a : Option Addr) (c : Nat) (ls : List (List UInt8)) (w : World), DRow w a n ls → n ≤ c → n ≤ 100000 →
    Calls Tryz.prog 5 #[.slice a n c] w fun e w' => e = .returned (digestV (rootT ls)) ∧ Below w.heap.size w w' := by
  intro n
  induction n using Nat.strongRecOn with
  | ind n ih =>
    intro a c ls w R hc hn
    have HI : Hid (∀ m, m < n → ∀ (a : Option Addr) (c : Nat) (ls : List (List UInt8)) (w : World), DRow w a m ls → m ≤ c → m ≤ 100000 → Calls Tryz.prog 5 #[.slice a m c] w fun e w' => e = .returned (digestV (rootT ls)) ∧ Below w.heap.size w w') := ih
    clear ih
    obtain ⟨w2, hw2⟩ : ∃ w2, w.alloc (.cells (cellsB zD).toArray 23) = w2 := ⟨_, rfl⟩
    have HS2 : Hid (w2.heap.size = w.heap.size + 1) := by unfold Hid; rw [← hw2]; simp
    have HB2 : Hid (Below w.heap.size w w2) := by rw [← hw2]; exact (Below.refl _ _).alloc (Nat.le_refl _) _
    have HT2 : Hid (w2.there w.heap.size 0 32) := by rw [← hw2]; exact alloc_thereAt _ _ _ 32 _ rfl zD_size.symm
    have HR2 : Hid (DRow w2 a n ls) := R.below HB2.out
    have HLEN : Hid (ls.length = n) := R.1
    have HKT : Hid (∀ wx, Below w2.heap.size w2 wx → DRow wx a n ls ∧ wx.there w.heap.size 0 32 ∧ Below w.heap.size w wx) := fun wx hx => ⟨HR2.out.below hx, there_below HT2.out hx (by have := HS2.out; omega), HB2.out.trans (hx.mono (by have := HS2.out; omega))⟩
    clear R
    have hlen := rootT_length HR2.out.2.1
    go_enter Tryz.func5, Tryz.ntmps5
    by_cases h2 : 2 ≤ n
    · have e0 : ((n : Int) == 0) = false := by simp; omega
      have e1 : ((n : Int) == 1) = false := by simp; omega
      go_wp2_with (refine wpList_allocE (by rfl) 23 (by rfl) (cellsB zD).toArray Tryz.zeroDg w.heap.size rfl w2 hw2 ?_)
      refine (rhalf_any n w2 h2 (by omega)).mono ?_
      rintro e w' ⟨rfl, rfl⟩
      clear hw2
      have hk1 := halfT_lt h2
      have hk2 := halfT_pos n
      have HE : Hid (rootT ls = nodeT (rootT (ls.take (halfT n))) (rootT (ls.drop (halfT n)))) := by
        have := rootT_two (ls := ls) (by rw [HLEN.out]; exact h2)
        rw [HLEN.out] at this
        exact this
      obtain ⟨b, o, rfl⟩ := HR2.out.addr (by omega)
      have HKL : Hid (∀ wx, Below w'.heap.size w' wx → DRow wx (some ⟨b, o, none⟩) (halfT n) (ls.take (halfT n)) ∧ DRow wx (some ⟨b, o + halfT n * 32, none⟩) (n - halfT n) (ls.drop (halfT n))) := fun wx hx => ⟨(HKT.out wx hx).1.take _ (by omega), (HKT.out wx hx).1.drop _ (by omega)⟩
      have HC1 : Hid (∀ wx, DRow wx (some ⟨b, o, none⟩) (halfT n) (ls.take (halfT n)) → Calls Tryz.prog 5 #[.slice (some ⟨b, o, none⟩) (halfT n) c] wx fun e w' => e = .returned (digestV (rootT (ls.take (halfT n)))) ∧ Below wx.heap.size wx w') := fun wx hr => HI.out (halfT n) hk1 _ c _ wx hr (by omega) (by omega)
      have HC2 : Hid (∀ wx, DRow wx (some ⟨b, o + halfT n * 32, none⟩) (n - halfT n) (ls.drop (halfT n)) → Calls Tryz.prog 5 #[.slice (some ⟨b, o + halfT n * 32, none⟩) (n - halfT n) (c - halfT n)] wx fun e w' => e = .returned (digestV (rootT (ls.drop (halfT n)))) ∧ Below wx.heap.size wx w') := fun wx hr => HI.out (n - halfT n) (by omega) _ (c - halfT n) _ wx hr (by omega) (by omega)
      have lA := rootT_length (HKL.out w' (Below.refl _ _)).1.2.1
      have lB := rootT_length (HKL.out w' (Below.refl _ _)).2.2.1
      rw [HE.out] at hlen
      generalize halfT n = k at *
      generalize rootT (ls.take k) = X at *
      generalize rootT (ls.drop k) = Y at *
      have k0 : (0 : Int) ≤ (k : Int) := by omega
      have k1 : (k : Int) ≤ (n : Int) := by omega
      have k2 : (k : Int) ≤ (c : Int) := by omega
      have n1 : (n : Int) ≤ (c : Int) := by omega
      go_wp2_with fail
      refine wp_region_noPanic ?_
      refine wp_region_held_drew (S := fun _ => True) (by kernel_rfl) True.intro (fun hHeld => ?_)
      try simp only [Act.put, List.setIfInBounds_toArray, List.set_cons_zero, List.set_cons_succ]
      have HBd : Hid (Below w'.heap.size w' w'.drew) := below_drewN w' 1
      generalize w'.drew = wd at *
      refine wpAnyH_take (i := 0) (v := ?_) (by simp only [List.getElem?_toArray, List.getElem?_cons_zero, List.getElem?_cons_succ]; rfl) (by kernel_rfl) (by kernel_rfl) (by kernel_rfl) (fun _ _ _ h => h) (Or.inl ⟨by rfl, ?_⟩) hHeld ?_
      rotate_left
      · intro w hSw
        go_simp
        try with_reducible rfl
      try simp only [Act.put, List.setIfInBounds_toArray, List.set_cons_zero, List.set_cons_succ]
      refine wpAnyH_take (i := 1) (v := ?_) (by simp only [List.getElem?_toArray, List.getElem?_cons_zero, List.getElem?_cons_succ]; rfl) (by kernel_rfl) (by kernel_rfl) (by kernel_rfl) (fun _ _ _ h => h) (Or.inl ⟨by rfl, ?_⟩) hHeld ?_
      rotate_left
      · intro w hSw
        go_simp
        try with_reducible rfl
      try simp only [Act.put, List.setIfInBounds_toArray, List.set_cons_zero, List.set_cons_succ]
      refine wpAnyH_take (i := 2) (v := .slice (some ⟨b, o, none⟩) k c) (by simp only [List.getElem?_toArray, List.getElem?_cons_zero, List.getElem?_cons_succ]; rfl) (by kernel_rfl) (by kernel_rfl) (by kernel_rfl) (fun _ _ _ h => h) (Or.inl ⟨by rfl, ?_⟩) hHeld ?_
      · intro w hSw
        go_simp
      try simp only [Act.put, List.setIfInBounds_toArray, List.set_cons_zero, List.set_cons_succ]
      refine wpAnyH_take (i := 4) (v := ?_) (by simp only [List.getElem?_toArray, List.getElem?_cons_zero, List.getElem?_cons_succ]; rfl) (by kernel_rfl) (by kernel_rfl) (by kernel_rfl) (fun _ _ _ h => h) (Or.inl ⟨by rfl, ?_⟩) hHeld ?_
      rotate_left
      · intro w hSw
        go_simp
        try with_reducible rfl
      try simp only [Act.put, List.setIfInBounds_toArray, List.set_cons_zero, List.set_cons_succ]
      refine wpAnyH_take (i := 5) (v := ?_) (by simp only [List.getElem?_toArray, List.getElem?_cons_zero, List.getElem?_cons_succ]; rfl) (by kernel_rfl) (by kernel_rfl) (by kernel_rfl) (fun _ _ _ h => h) (Or.inl ⟨by rfl, ?_⟩) hHeld ?_
      rotate_left
      · intro w hSw
        go_simp
        try with_reducible rfl
      try simp only [Act.put, List.setIfInBounds_toArray, List.set_cons_zero, List.set_cons_succ]
      refine wpAnyH_take (i := 6) (v := .slice (some ⟨b, o + k * 32, none⟩) (n - k) (c - k)) (by simp only [List.getElem?_toArray, List.getElem?_cons_zero, List.getElem?_cons_succ]; rfl) (by kernel_rfl) (by kernel_rfl) (by kernel_rfl) (fun _ _ _ h => h) (Or.inl ⟨by rfl, ?_⟩) hHeld ?_
      · intro w hSw
        go_simp
        omega
      try simp only [Act.put, List.setIfInBounds_toArray, List.set_cons_zero, List.set_cons_succ]
      refine wpAnyH_ready (rs := [3]) (by kernel_rfl) (by simp) ?_
      refine AllReadyH.cons (by simp only [List.getElem?_toArray, List.getElem?_cons_zero, List.getElem?_cons_succ]; rfl) (fun K hK => ?_) AllReadyH.nil
      rw [if_pos (by rfl)]
      go_simp
      refine (HC1.out wd (HKL.out _ HBd.out).1).mono ?_
      rintro e w3 ⟨rfl, hb3⟩
      have HB3 : Hid (Below w'.heap.size w' w3) := HBd.out.trans (hb3.mono HBd.out.size)
      clear hb3 HBd HC1
      go_wp2_with fail
      refine hK.out _ _ True.intro (fun hHeld => ?_)
      clear hK K
      try simp only [Act.put, List.setIfInBounds_toArray, List.set_cons_zero, List.set_cons_succ]
      refine wpAnyH_ready (rs := [7]) (by kernel_rfl) (by simp) ?_
      refine AllReadyH.cons (by simp only [List.getElem?_toArray, List.getElem?_cons_zero, List.getElem?_cons_succ]; rfl) (fun K hK => ?_) AllReadyH.nil
      rw [if_pos (by rfl)]
      go_simp
      refine (HC2.out w3 (HKL.out _ HB3.out).2).mono ?_
      rintro e w4 ⟨rfl, hb4⟩
      have HB4 : Hid (Below w'.heap.size w' w4) := HB3.out.trans (hb4.mono HB3.out.size)
      clear hb4 HB3 HC2
      go_wp2_with fail
      refine hK.out _ _ True.intro (fun hHeld => ?_)
      clear hK K
      try simp only [Act.put, List.setIfInBounds_toArray, List.set_cons_zero, List.set_cons_succ]
      refine wpAnyH_ready (rs := [8]) (by kernel_rfl) (by simp) ?_
      refine AllReadyH.cons (by simp only [List.getElem?_toArray, List.getElem?_cons_zero, List.getElem?_cons_succ]; rfl) (fun K hK => ?_) AllReadyH.nil
      rw [if_pos (by rfl)]
      go_simp
      refine (rnode_any X Y w4 lA lB).mono ?_
      rintro e w5 ⟨rfl, hb5⟩
      have HB5 : Hid (Below w'.heap.size w' w5) := HB4.out.trans (hb5.mono HB4.out.size)
      clear hb5 HB4
      generalize nodeT X Y = D at *
      go_wp2_with fail
      refine hK.out _ _ True.intro (fun hHeld => ?_)
      clear hK K
      try simp only [Act.put, List.setIfInBounds_toArray, List.set_cons_zero, List.set_cons_succ]
      refine wpAnyH_ready (rs := [9]) (by kernel_rfl) (by simp) ?_
      refine AllReadyH.cons (by simp only [List.getElem?_toArray, List.getElem?_cons_zero, List.getElem?_cons_succ]; rfl) (fun K hK => ?_) AllReadyH.nil
      rw [if_pos (by rfl)]
      refine wp_store_mid _ _ _ rfl w.heap.size 0 (cellsB D).toArray rfl rfl (by rw [cellsB_size, hlen]; exact (HKT.out _ HB5.out).2.1) (by rw [cellsB_size, hlen]; exact Tryz.sizeDg) (all_oneCell_toArray (cellsB_one _)) ?_
      refine hK.out _ _ True.intro (fun hHeld => ?_)
      clear hK K
      try simp only [Act.put, List.setIfInBounds_toArray, List.set_cons_zero, List.set_cons_succ]
      refine wpAnyH_done (by kernel_rfl) (NoPanic.normal ?_) _
      clear hHeld
      go_wp2_with fail
      refine bodyPost_ret (v := digestV D) (run_results_row Tryz.results5 _ _ w.heap.size 0 (by rfl) (cellsB D) (World.rangeAt_setCells_same _ _ _ _ (by rw [cellsB_length, hlen]; exact (HKT.out _ HB5.out).2.1)) _ Tryz.underlying23 (by rfl) (by rw [cellsB_length, hlen]; exact Tryz.sizeDg)) rfl ⟨by rw [HE.out], ?_⟩
      exact below_setCells _ (Nat.le_refl _) _ _ _ (HKT.out _ HB5.out).2.2
    · by_cases h0 : n = 0
      · subst h0
        have HE : Hid (rootT ls = shaL []) := rootT_none HLEN.out
        rw [HE.out] at hlen
        go_wp2_with (refine wpList_allocE (by rfl) 23 (by rfl) (cellsB zD).toArray Tryz.zeroDg w.heap.size rfl w2 hw2 ?_)
        refine (rsum_any none 0 0 [] w2 (Row.nil _) (by omega)).mono ?_
        rintro e w3 ⟨rfl, hb3⟩
        have HB3 : Hid (Below w2.heap.size w2 w3) := hb3
        clear hb3
        generalize shaL [] = D at *
        go_wp2_with (refine wpList_store_mid (by rfl) 23 (.tmp 2) (.tmp 7) (by rfl) w.heap.size 0 (cellsB D).toArray (by rfl) (by rfl) (by rw [cellsB_size, hlen]; exact (HKT.out _ HB3.out).2.1) (by rw [cellsB_size, hlen]; exact Tryz.sizeDg) (all_oneCell_toArray (cellsB_one _)) ?_)
        refine bodyPost_ret (v := digestV D) (run_results_row Tryz.results5 _ _ w.heap.size 0 (by rfl) (cellsB D) (World.rangeAt_setCells_same _ _ _ _ (by rw [cellsB_length, hlen]; exact (HKT.out _ HB3.out).2.1)) _ Tryz.underlying23 (by rfl) (by rw [cellsB_length, hlen]; exact Tryz.sizeDg)) rfl ⟨by rw [HE.out], ?_⟩
        exact below_setCells _ (Nat.le_refl _) _ _ _ (HKT.out _ HB3.out).2.2
      · obtain rfl : n = 1 := by omega
        have HE : Hid (rootT ls = ls.getD 0 []) := rootT_one HLEN.out
        rw [HE.out] at hlen
        obtain ⟨b, o, rfl⟩ := HR2.out.addr (by omega)
        have HX : Hid (DAt w2 b o (ls.getD 0 [])) := by have := HR2.out.at 0 (by omega); rwa [Nat.zero_mul, Nat.add_zero] at this
        generalize ls.getD 0 [] = D at *
        go_wp2_with (first
          | (refine wpList_allocE (by rfl) 23 (by rfl) (cellsB zD).toArray Tryz.zeroDg w.heap.size rfl w2 hw2 ?_)
          | (refine wpList_load_mid (by rfl) 23 (.tmp 12) (by rfl) b o (by rfl) (cellsB D) _ HX.out Tryz.underlying23 (by rfl) (by rw [cellsB_length, hlen]; exact Tryz.sizeDg) ?_)
          | (refine wpList_store_mid (by rfl) 23 (.tmp 2) (.tmp 13) (by rfl) w.heap.size 0 (cellsB D).toArray (by rfl) (by rfl) (by rw [cellsB_size, hlen]; exact HT2.out) (by rw [cellsB_size, hlen]; exact Tryz.sizeDg) (all_oneCell_toArray (cellsB_one _)) ?_))
        refine bodyPost_ret (v := digestV D) (run_results_row Tryz.results5 _ _ w.heap.size 0 (by rfl) (cellsB D) (World.rangeAt_setCells_same _ _ _ _ (by rw [cellsB_length, hlen]; exact HT2.out)) _ Tryz.underlying23 (by rfl) (by rw [cellsB_length, hlen]; exact Tryz.sizeDg)) rfl ⟨by rw [HE.out], ?_⟩
        exact below_setCells _ (Nat.le_refl _) _ _ _ HB2.out
end Go.Proofs.YtdgaimlccpmojaaGreatDoor
/- The contracts of oathbookref1.Path and Folded: they call themselves. -/
namespace Go.Proofs.YtdgaimlccpmojaaGreatDoor
open Go.RowKit
set_option linter.unusedVariables false
set_option linter.unusedSimpArgs false

theorem wrapT (n : Nat) (h : n < 9223372036854775808) : IntKind.i64.wrap (n : Int) = n := by
  simp only [IntKind.wrap, IntKind.bits, IntKind.signed, Bool.true_and]
  rw [if_neg (by simp; omega)]
  omega
theorem OwnD.lower {w : World} {B B' : Nat} {v : Value} {ls : List (List UInt8)} (h : OwnD w B v ls) (hb : B' ≤ B) : OwnD w B' v ls := by
  refine ⟨h.1, ?_⟩
  have h := h.2
  rcases h.2 with ⟨h1, h0⟩ | ⟨g, cap, cur, e1, e2, e3, e4⟩
  · exact ⟨h.1, .inl ⟨h1, h0⟩⟩
  · exact ⟨h.1, .inr ⟨g, cap, cur, e1, Nat.le_trans hb e2, e3, e4⟩⟩

set_option maxRecDepth 100000 in
set_option maxHeartbeats 1000000 in
theorem rpath_any : ∀ (n : Nat), ∀ (a : Option Addr) (c i : Nat) (ls : List (List UInt8)) (w : World), DRow w a n ls → n ≤ c → 1 ≤ n → n ≤ 100000 → i < n →
    Calls Tryz.prog 11 #[.slice a n c, .int .i64 (i : Int)] w fun e w' => (∃ v, e = .returned v ∧ OwnD w' w.heap.size v (pathT ls i)) ∧ Below w.heap.size w w' := by
  intro n
  induction n using Nat.strongRecOn with
  | ind n ih =>
    intro a c i ls w R hc h1 hn hi
    have HI : Hid (∀ m, m < n → ∀ (a : Option Addr) (c i : Nat) (ls : List (List UInt8)) (w : World), DRow w a m ls → m ≤ c → 1 ≤ m → m ≤ 100000 → i < m → Calls Tryz.prog 11 #[.slice a m c, .int .i64 (i : Int)] w fun e w' => (∃ v, e = .returned v ∧ OwnD w' w.heap.size v (pathT ls i)) ∧ Below w.heap.size w w') := ih
    clear ih
    have HLEN : Hid (ls.length = n) := R.1
    have HR : Hid (∀ wx, Below w.heap.size w wx → DRow wx a n ls) := fun wx hx => R.below hx
    have H0 : Hid (Below w.heap.size w w) := Below.refl _ _
    clear R
    go_enter Tryz.func11, Tryz.ntmps11
    by_cases h2 : 2 ≤ n
    · have e1 : ((n : Int) == 1) = false := by simp; omega
      go_wp2_with fail
      refine (rhalf_any n w h2 (by omega)).mono ?_
      rintro e w' ⟨rfl, rfl⟩
      have hk1 := halfT_lt h2
      have hk2 := halfT_pos n
      obtain ⟨b, o, rfl⟩ := (HR.out _ H0.out).addr (by omega)
      have HKL : Hid (∀ wx, Below w'.heap.size w' wx → DRow wx (some ⟨b, o, none⟩) (halfT n) (ls.take (halfT n)) ∧ DRow wx (some ⟨b, o + halfT n * 32, none⟩) (n - halfT n) (ls.drop (halfT n))) := fun wx hx => ⟨(HR.out wx hx).take _ (by omega), (HR.out wx hx).drop _ (by omega)⟩
      have lA := rootT_length (HKL.out w' (Below.refl _ _)).1.2.1
      have lB := rootT_length (HKL.out w' (Below.refl _ _)).2.2.1
      have h2' : 2 ≤ ls.length := by rw [HLEN.out]; exact h2
      have HR1 : Hid (∀ wx, DRow wx (some ⟨b, o, none⟩) (halfT n) (ls.take (halfT n)) → Calls Tryz.prog 5 #[.slice (some ⟨b, o, none⟩) (halfT n) c] wx fun e w' => e = .returned (digestV (rootT (ls.take (halfT n)))) ∧ Below wx.heap.size wx w') := fun wx hr => rroot_any (halfT n) _ c _ wx hr (by omega) (by omega)
      have HR2 : Hid (∀ wx, DRow wx (some ⟨b, o + halfT n * 32, none⟩) (n - halfT n) (ls.drop (halfT n)) → Calls Tryz.prog 5 #[.slice (some ⟨b, o + halfT n * 32, none⟩) (n - halfT n) (c - halfT n)] wx fun e w' => e = .returned (digestV (rootT (ls.drop (halfT n)))) ∧ Below wx.heap.size wx w') := fun wx hr => rroot_any (n - halfT n) _ (c - halfT n) _ wx hr (by omega) (by omega)
      by_cases hik : i < halfT n
      · have HE : Hid (pathT ls i = pathT (ls.take (halfT n)) i ++ [rootT (ls.drop (halfT n))]) := by
          have := pathT_lo (ls := ls) (i := i) h2' (by rw [HLEN.out]; exact hik)
          rw [HLEN.out] at this
          exact this
        have HPL : Hid ((pathT (ls.take (halfT n)) i).length ≤ 100000) := by
          unfold Hid
          rw [(fold_path (halfT n) (ls.take (halfT n)) i (by rw [List.length_take, HLEN.out]; omega) hik).2]
          have := longT_le (halfT n) i
          omega
        have HCP : Hid (∀ wx, DRow wx (some ⟨b, o, none⟩) (halfT n) (ls.take (halfT n)) → Calls Tryz.prog 11 #[.slice (some ⟨b, o, none⟩) (halfT n) c, .int .i64 (i : Int)] wx fun e w' => (∃ v, e = .returned v ∧ OwnD w' wx.heap.size v (pathT (ls.take (halfT n)) i)) ∧ Below wx.heap.size wx w') := fun wx hr => HI.out (halfT n) hk1 _ c i _ wx hr (by omega) (by omega) (by omega) hik
        generalize halfT n = k at *
        generalize rootT (ls.take k) = X at *
        generalize rootT (ls.drop k) = Y at *
        generalize pathT (ls.take k) i = PP at *
        have g1 : (i : Int) < (k : Int) := by omega
        clear HI h2'
        have k0 : (0 : Int) ≤ (k : Int) := by omega
        have k1 : (k : Int) ≤ (n : Int) := by omega
        have k2 : (k : Int) ≤ (c : Int) := by omega
        have n1 : (n : Int) ≤ (c : Int) := by omega
        go_wp2_with fail
        refine wp_region_noPanic ?_
        refine wp_region_held_drew (S := fun _ => True) (by kernel_rfl) True.intro (fun hHeld => ?_)
        try simp only [Act.put, List.setIfInBounds_toArray, List.set_cons_zero, List.set_cons_succ]
        have HBd : Hid (Below w'.heap.size w' w'.drew) := below_drewN w' 1
        generalize w'.drew = wd at *
        refine wpAnyH_take (i := 0) (v := ?_) (by simp only [List.getElem?_toArray, List.getElem?_cons_zero, List.getElem?_cons_succ]; rfl) (by kernel_rfl) (by kernel_rfl) (by kernel_rfl) (fun _ _ _ h => h) (Or.inl ⟨by rfl, ?_⟩) hHeld ?_
        rotate_left
        · intro w hSw
          go_simp
          try with_reducible rfl
        try simp only [Act.put, List.setIfInBounds_toArray, List.set_cons_zero, List.set_cons_succ]
        refine wpAnyH_take (i := 1) (v := ?_) (by simp only [List.getElem?_toArray, List.getElem?_cons_zero, List.getElem?_cons_succ]; rfl) (by kernel_rfl) (by kernel_rfl) (by kernel_rfl) (fun _ _ _ h => h) (Or.inl ⟨by rfl, ?_⟩) hHeld ?_
        rotate_left
        · intro w hSw
          go_simp
          try with_reducible rfl
        try simp only [Act.put, List.setIfInBounds_toArray, List.set_cons_zero, List.set_cons_succ]
        refine wpAnyH_take (i := 2) (v := .slice (some ⟨b, o, none⟩) k c) (by simp only [List.getElem?_toArray, List.getElem?_cons_zero, List.getElem?_cons_succ]; rfl) (by kernel_rfl) (by kernel_rfl) (by kernel_rfl) (fun _ _ _ h => h) (Or.inl ⟨by rfl, ?_⟩) hHeld ?_
        · intro w hSw
          go_simp
        try simp only [Act.put, List.setIfInBounds_toArray, List.set_cons_zero, List.set_cons_succ]
        refine wpAnyH_take (i := 3) (v := ?_) (by simp only [List.getElem?_toArray, List.getElem?_cons_zero, List.getElem?_cons_succ]; rfl) (by kernel_rfl) (by kernel_rfl) (by kernel_rfl) (fun _ _ _ h => h) (Or.inl ⟨by rfl, ?_⟩) hHeld ?_
        rotate_left
        · intro w hSw
          go_simp
          try with_reducible rfl
        try simp only [Act.put, List.setIfInBounds_toArray, List.set_cons_zero, List.set_cons_succ]
        refine wpAnyH_take (i := 5) (v := ?_) (by simp only [List.getElem?_toArray, List.getElem?_cons_zero, List.getElem?_cons_succ]; rfl) (by kernel_rfl) (by kernel_rfl) (by kernel_rfl) (fun _ _ _ h => h) (Or.inl ⟨by rfl, ?_⟩) hHeld ?_
        rotate_left
        · intro w hSw
          go_simp
          try with_reducible rfl
        try simp only [Act.put, List.setIfInBounds_toArray, List.set_cons_zero, List.set_cons_succ]
        refine wpAnyH_take (i := 6) (v := ?_) (by simp only [List.getElem?_toArray, List.getElem?_cons_zero, List.getElem?_cons_succ]; rfl) (by kernel_rfl) (by kernel_rfl) (by kernel_rfl) (fun _ _ _ h => h) (Or.inl ⟨by rfl, ?_⟩) hHeld ?_
        rotate_left
        · intro w hSw
          go_simp
          try with_reducible rfl
        try simp only [Act.put, List.setIfInBounds_toArray, List.set_cons_zero, List.set_cons_succ]
        refine wpAnyH_take (i := 7) (v := .slice (some ⟨b, o + k * 32, none⟩) (n - k) (c - k)) (by simp only [List.getElem?_toArray, List.getElem?_cons_zero, List.getElem?_cons_succ]; rfl) (by kernel_rfl) (by kernel_rfl) (by kernel_rfl) (fun _ _ _ h => h) (Or.inl ⟨by rfl, ?_⟩) hHeld ?_
        · intro w hSw
          go_simp
          omega
        try simp only [Act.put, List.setIfInBounds_toArray, List.set_cons_zero, List.set_cons_succ]
        refine wpAnyH_ready (rs := [4]) (by kernel_rfl) (by simp) ?_
        refine AllReadyH.cons (by simp only [List.getElem?_toArray, List.getElem?_cons_zero, List.getElem?_cons_succ]; rfl) (fun K hK => ?_) AllReadyH.nil
        rw [if_pos (by rfl)]
        go_simp
        refine (HCP.out wd (HKL.out _ HBd.out).1).mono ?_
        rintro e w3 ⟨⟨v3, rfl, ho3⟩, hb3⟩
        have HB3 : Hid (Below w'.heap.size w' w3) := HBd.out.trans (hb3.mono HBd.out.size)
        have HO3 : Hid (OwnD w3 w'.heap.size v3 PP) := ho3.lower HBd.out.size
        clear hb3 HBd HCP ho3
        go_wp2_with fail
        refine hK.out _ _ True.intro (fun hHeld => ?_)
        clear hK K
        try simp only [Act.put, List.setIfInBounds_toArray, List.set_cons_zero, List.set_cons_succ]
        refine wpAnyH_ready (rs := [8]) (by kernel_rfl) (by simp) ?_
        refine AllReadyH.cons (by simp only [List.getElem?_toArray, List.getElem?_cons_zero, List.getElem?_cons_succ]; rfl) (fun K hK => ?_) AllReadyH.nil
        rw [if_pos (by rfl)]
        go_simp
        refine (HR2.out w3 (HKL.out _ HB3.out).2).mono ?_
        rintro e w4 ⟨rfl, hb4⟩
        have HB4 : Hid (Below w'.heap.size w' w4) := HB3.out.trans (hb4.mono HB3.out.size)
        have HO4 : Hid (OwnD w4 w'.heap.size v3 PP) := OwnD.below HO3.out hb4
        clear hb4 HB3 HO3
        go_wp2_with fail
        refine hK.out _ _ True.intro (fun hHeld => ?_)
        clear hK K
        try simp only [Act.put, List.setIfInBounds_toArray, List.set_cons_zero, List.set_cons_succ]
        refine wpAnyH_ready (rs := [9]) (by kernel_rfl) (by simp) ?_
        refine AllReadyH.cons (by simp only [List.getElem?_toArray, List.getElem?_cons_zero, List.getElem?_cons_succ]; rfl) (fun K hK => ?_) AllReadyH.nil
        rw [if_pos (by rfl)]
        refine wp_buildD1 _ rfl Y lB rfl ?_
        have hs5 := HB4.out.size
        have HO5 : Hid (OwnD (w4.alloc (.cells (cellsB Y).toArray 23)) w'.heap.size v3 PP) := OwnD.alloc HO4.out _
        have HB5 : Hid (Below w'.heap.size w' (w4.alloc (.cells (cellsB Y).toArray 23))) := Below.alloc HB4.out hs5 _
        have HY5 : Hid (DRow (w4.alloc (.cells (cellsB Y).toArray 23)) (some ⟨w4.heap.size, 0, none⟩) 1 [Y]) := DRow.lit1 w4 Y _ lB
        refine hK.out _ _ True.intro (fun hHeld => ?_)
        clear HO4 HB4 hs5
        generalize w4.alloc (.cells (cellsB Y).toArray 23) = w5 at *
        clear hK K
        try simp only [Act.put, List.setIfInBounds_toArray, List.set_cons_zero, List.set_cons_succ]
        refine wpAnyH_ready (rs := [10]) (by kernel_rfl) (by simp) ?_
        refine AllReadyH.cons (by simp only [List.getElem?_toArray, List.getElem?_cons_zero, List.getElem?_cons_succ]; rfl) (fun K hK => ?_) AllReadyH.nil
        rw [if_pos (by rfl)]
        refine wp_appendD _ _ rfl w'.heap.size v3 PP rfl HO5.out ⟨w4.heap.size, 0, none⟩ 1 1 [Y] rfl HY5.out (by omega) (by have := HPL.out; omega) HB5.out.size ?_
        intro v7 w7 ho7 hg7 _
        have HB7 : Hid (Below w'.heap.size w' w7) := OwnD.grown HO5.out HB5.out hg7 (Nat.le_refl _) HB5.out.size
        have HO7 : Hid (OwnD w7 w'.heap.size v7 (PP ++ [Y])) := ho7
        refine hK.out _ _ True.intro (fun hHeld => ?_)
        clear HO5 HB5 HY5 hg7 ho7
        clear hK K
        try simp only [Act.put, List.setIfInBounds_toArray, List.set_cons_zero, List.set_cons_succ]
        refine wpAnyH_take (i := 11) (v := ?_) (by simp only [List.getElem?_toArray, List.getElem?_cons_zero, List.getElem?_cons_succ]; rfl) (by kernel_rfl) (by kernel_rfl) (by kernel_rfl) (fun _ _ _ h => h) (Or.inl ⟨by rfl, ?_⟩) hHeld ?_
        rotate_left
        · intro w hSw
          go_simp
          try with_reducible rfl
        try simp only [Act.put, List.setIfInBounds_toArray, List.set_cons_zero, List.set_cons_succ]
        refine wpAnyH_done (by kernel_rfl) (NoPanic.normal ?_) _
        clear hHeld
        go_wp2_with fail
        go_ret
        exact ⟨⟨_, rfl, by rw [HE.out]; exact HO7.out⟩, HB7.out⟩
      · have HE : Hid (pathT ls i = pathT (ls.drop (halfT n)) (i - halfT n) ++ [rootT (ls.take (halfT n))]) := by
          have := pathT_hi (ls := ls) (i := i) h2' (by rw [HLEN.out]; exact hik)
          rw [HLEN.out] at this
          exact this
        have HPL : Hid ((pathT (ls.drop (halfT n)) (i - halfT n)).length ≤ 100000) := by
          unfold Hid
          rw [(fold_path (n - halfT n) (ls.drop (halfT n)) (i - halfT n) (by rw [List.length_drop, HLEN.out]) (by omega)).2]
          have := longT_le (n - halfT n) (i - halfT n)
          omega
        have HCP : Hid (∀ wx, DRow wx (some ⟨b, o + halfT n * 32, none⟩) (n - halfT n) (ls.drop (halfT n)) → Calls Tryz.prog 11 #[.slice (some ⟨b, o + halfT n * 32, none⟩) (n - halfT n) (c - halfT n), .int .i64 ((i - halfT n : Nat) : Int)] wx fun e w' => (∃ v, e = .returned v ∧ OwnD w' wx.heap.size v (pathT (ls.drop (halfT n)) (i - halfT n))) ∧ Below wx.heap.size wx w') := fun wx hr => HI.out (n - halfT n) (by omega) _ (c - halfT n) (i - halfT n) _ wx hr (by omega) (by omega) (by omega) (by omega)
        generalize halfT n = k at *
        generalize rootT (ls.take k) = X at *
        generalize rootT (ls.drop k) = Y at *
        have s1 : (i : Int) - (k : Int) = ((i - k : Nat) : Int) := by omega
        have b1 : i - k ≤ 100000 := by omega
        have HIK : Hid (i - k = i - k) := rfl
        generalize pathT (ls.drop k) (i - k) = PP at *
        generalize i - k = i' at *
        have wi : IntKind.i64.wrap (i' : Int) = (i' : Int) := wrapT i' (by omega)
        have g1 : ¬ (i : Int) < (k : Int) := by omega
        clear HI h2'
        have k0 : (0 : Int) ≤ (k : Int) := by omega
        have k1 : (k : Int) ≤ (n : Int) := by omega
        have k2 : (k : Int) ≤ (c : Int) := by omega
        have n1 : (n : Int) ≤ (c : Int) := by omega
        go_wp2_with fail
        refine wp_region_noPanic ?_
        refine wp_region_held_drew (S := fun _ => True) (by kernel_rfl) True.intro (fun hHeld => ?_)
        try simp only [Act.put, List.setIfInBounds_toArray, List.set_cons_zero, List.set_cons_succ]
        have HBd : Hid (Below w'.heap.size w' w'.drew) := below_drewN w' 1
        generalize w'.drew = wd at *
        refine wpAnyH_take (i := 0) (v := ?_) (by simp only [List.getElem?_toArray, List.getElem?_cons_zero, List.getElem?_cons_succ]; rfl) (by kernel_rfl) (by kernel_rfl) (by kernel_rfl) (fun _ _ _ h => h) (Or.inl ⟨by rfl, ?_⟩) hHeld ?_
        rotate_left
        · intro w hSw
          go_simp
          try with_reducible rfl
        try simp only [Act.put, List.setIfInBounds_toArray, List.set_cons_zero, List.set_cons_succ]
        refine wpAnyH_take (i := 1) (v := ?_) (by simp only [List.getElem?_toArray, List.getElem?_cons_zero, List.getElem?_cons_succ]; rfl) (by kernel_rfl) (by kernel_rfl) (by kernel_rfl) (fun _ _ _ h => h) (Or.inl ⟨by rfl, ?_⟩) hHeld ?_
        rotate_left
        · intro w hSw
          go_simp
          try with_reducible rfl
        try simp only [Act.put, List.setIfInBounds_toArray, List.set_cons_zero, List.set_cons_succ]
        refine wpAnyH_take (i := 2) (v := .slice (some ⟨b, o + k * 32, none⟩) (n - k) (c - k)) (by simp only [List.getElem?_toArray, List.getElem?_cons_zero, List.getElem?_cons_succ]; rfl) (by kernel_rfl) (by kernel_rfl) (by kernel_rfl) (fun _ _ _ h => h) (Or.inl ⟨by rfl, ?_⟩) hHeld ?_
        · intro w hSw
          go_simp
          omega
        try simp only [Act.put, List.setIfInBounds_toArray, List.set_cons_zero, List.set_cons_succ]
        refine wpAnyH_take (i := 3) (v := ?_) (by simp only [List.getElem?_toArray, List.getElem?_cons_zero, List.getElem?_cons_succ]; rfl) (by kernel_rfl) (by kernel_rfl) (by kernel_rfl) (fun _ _ _ h => h) (Or.inl ⟨by rfl, ?_⟩) hHeld ?_
        rotate_left
        · intro w hSw
          go_simp
          try with_reducible rfl
        try simp only [Act.put, List.setIfInBounds_toArray, List.set_cons_zero, List.set_cons_succ]
        refine wpAnyH_take (i := 4) (v := ?_) (by simp only [List.getElem?_toArray, List.getElem?_cons_zero, List.getElem?_cons_succ]; rfl) (by kernel_rfl) (by kernel_rfl) (by kernel_rfl) (fun _ _ _ h => h) (Or.inl ⟨by rfl, ?_⟩) hHeld ?_
        rotate_left
        · intro w hSw
          go_simp
          try with_reducible rfl
        try simp only [Act.put, List.setIfInBounds_toArray, List.set_cons_zero, List.set_cons_succ]
        refine wpAnyH_take (i := 5) (v := .int .i64 (i' : Int)) (by simp only [List.getElem?_toArray, List.getElem?_cons_zero, List.getElem?_cons_succ]; rfl) (by kernel_rfl) (by kernel_rfl) (by kernel_rfl) (fun _ _ _ h => h) (Or.inl ⟨by rfl, ?_⟩) hHeld ?_
        · intro w hSw
          go_simp
        try simp only [Act.put, List.setIfInBounds_toArray, List.set_cons_zero, List.set_cons_succ]
        refine wpAnyH_take (i := 7) (v := ?_) (by simp only [List.getElem?_toArray, List.getElem?_cons_zero, List.getElem?_cons_succ]; rfl) (by kernel_rfl) (by kernel_rfl) (by kernel_rfl) (fun _ _ _ h => h) (Or.inl ⟨by rfl, ?_⟩) hHeld ?_
        rotate_left
        · intro w hSw
          go_simp
          try with_reducible rfl
        try simp only [Act.put, List.setIfInBounds_toArray, List.set_cons_zero, List.set_cons_succ]
        refine wpAnyH_take (i := 8) (v := ?_) (by simp only [List.getElem?_toArray, List.getElem?_cons_zero, List.getElem?_cons_succ]; rfl) (by kernel_rfl) (by kernel_rfl) (by kernel_rfl) (fun _ _ _ h => h) (Or.inl ⟨by rfl, ?_⟩) hHeld ?_
        rotate_left
        · intro w hSw
          go_simp
          try with_reducible rfl
        try simp only [Act.put, List.setIfInBounds_toArray, List.set_cons_zero, List.set_cons_succ]
        refine wpAnyH_take (i := 9) (v := .slice (some ⟨b, o, none⟩) k c) (by simp only [List.getElem?_toArray, List.getElem?_cons_zero, List.getElem?_cons_succ]; rfl) (by kernel_rfl) (by kernel_rfl) (by kernel_rfl) (fun _ _ _ h => h) (Or.inl ⟨by rfl, ?_⟩) hHeld ?_
        · intro w hSw
          go_simp
        try simp only [Act.put, List.setIfInBounds_toArray, List.set_cons_zero, List.set_cons_succ]
        refine wpAnyH_ready (rs := [6]) (by kernel_rfl) (by simp) ?_
        refine AllReadyH.cons (by simp only [List.getElem?_toArray, List.getElem?_cons_zero, List.getElem?_cons_succ]; rfl) (fun K hK => ?_) AllReadyH.nil
        rw [if_pos (by rfl)]
        go_simp
        refine (HCP.out wd (HKL.out _ HBd.out).2).mono ?_
        rintro e w3 ⟨⟨v3, rfl, ho3⟩, hb3⟩
        have HB3 : Hid (Below w'.heap.size w' w3) := HBd.out.trans (hb3.mono HBd.out.size)
        have HO3 : Hid (OwnD w3 w'.heap.size v3 PP) := ho3.lower HBd.out.size
        clear hb3 HBd HCP ho3
        go_wp2_with fail
        refine hK.out _ _ True.intro (fun hHeld => ?_)
        clear hK K
        try simp only [Act.put, List.setIfInBounds_toArray, List.set_cons_zero, List.set_cons_succ]
        refine wpAnyH_ready (rs := [10]) (by kernel_rfl) (by simp) ?_
        refine AllReadyH.cons (by simp only [List.getElem?_toArray, List.getElem?_cons_zero, List.getElem?_cons_succ]; rfl) (fun K hK => ?_) AllReadyH.nil
        rw [if_pos (by rfl)]
        go_simp
        refine (HR1.out w3 (HKL.out _ HB3.out).1).mono ?_
        rintro e w4 ⟨rfl, hb4⟩
        have HB4 : Hid (Below w'.heap.size w' w4) := HB3.out.trans (hb4.mono HB3.out.size)
        have HO4 : Hid (OwnD w4 w'.heap.size v3 PP) := OwnD.below HO3.out hb4
        clear hb4 HB3 HO3
        go_wp2_with fail
        refine hK.out _ _ True.intro (fun hHeld => ?_)
        clear hK K
        try simp only [Act.put, List.setIfInBounds_toArray, List.set_cons_zero, List.set_cons_succ]
        refine wpAnyH_ready (rs := [11]) (by kernel_rfl) (by simp) ?_
        refine AllReadyH.cons (by simp only [List.getElem?_toArray, List.getElem?_cons_zero, List.getElem?_cons_succ]; rfl) (fun K hK => ?_) AllReadyH.nil
        rw [if_pos (by rfl)]
        refine wp_buildD1 _ rfl X lA rfl ?_
        have hs5 := HB4.out.size
        have HO5 : Hid (OwnD (w4.alloc (.cells (cellsB X).toArray 23)) w'.heap.size v3 PP) := OwnD.alloc HO4.out _
        have HB5 : Hid (Below w'.heap.size w' (w4.alloc (.cells (cellsB X).toArray 23))) := Below.alloc HB4.out hs5 _
        have HY5 : Hid (DRow (w4.alloc (.cells (cellsB X).toArray 23)) (some ⟨w4.heap.size, 0, none⟩) 1 [X]) := DRow.lit1 w4 X _ lA
        refine hK.out _ _ True.intro (fun hHeld => ?_)
        clear HO4 HB4 hs5
        generalize w4.alloc (.cells (cellsB X).toArray 23) = w5 at *
        clear hK K
        try simp only [Act.put, List.setIfInBounds_toArray, List.set_cons_zero, List.set_cons_succ]
        refine wpAnyH_ready (rs := [12]) (by kernel_rfl) (by simp) ?_
        refine AllReadyH.cons (by simp only [List.getElem?_toArray, List.getElem?_cons_zero, List.getElem?_cons_succ]; rfl) (fun K hK => ?_) AllReadyH.nil
        rw [if_pos (by rfl)]
        refine wp_appendD _ _ rfl w'.heap.size v3 PP rfl HO5.out ⟨w4.heap.size, 0, none⟩ 1 1 [X] rfl HY5.out (by omega) (by have := HPL.out; omega) HB5.out.size ?_
        intro v7 w7 ho7 hg7 _
        have HB7 : Hid (Below w'.heap.size w' w7) := OwnD.grown HO5.out HB5.out hg7 (Nat.le_refl _) HB5.out.size
        have HO7 : Hid (OwnD w7 w'.heap.size v7 (PP ++ [X])) := ho7
        refine hK.out _ _ True.intro (fun hHeld => ?_)
        clear HO5 HB5 HY5 hg7 ho7
        clear hK K
        try simp only [Act.put, List.setIfInBounds_toArray, List.set_cons_zero, List.set_cons_succ]
        refine wpAnyH_take (i := 13) (v := ?_) (by simp only [List.getElem?_toArray, List.getElem?_cons_zero, List.getElem?_cons_succ]; rfl) (by kernel_rfl) (by kernel_rfl) (by kernel_rfl) (fun _ _ _ h => h) (Or.inl ⟨by rfl, ?_⟩) hHeld ?_
        rotate_left
        · intro w hSw
          go_simp
          try with_reducible rfl
        try simp only [Act.put, List.setIfInBounds_toArray, List.set_cons_zero, List.set_cons_succ]
        refine wpAnyH_done (by kernel_rfl) (NoPanic.normal ?_) _
        clear hHeld
        go_wp2_with fail
        go_ret
        exact ⟨⟨_, rfl, by rw [HE.out]; exact HO7.out⟩, HB7.out⟩
    · obtain rfl : n = 1 := by omega
      have HE : Hid (pathT ls i = []) := pathT_one (by rw [HLEN.out]; omega)
      go_wp2_with fail
      go_ret
      exact ⟨⟨_, rfl, by rw [HE.out]; exact OwnD.nil _ _⟩, H0.out⟩

set_option maxRecDepth 100000 in
set_option maxHeartbeats 1000000 in
theorem rfold_any : ∀ (n : Nat), ∀ (l : List UInt8) (i p c : Nat) (a : Option Addr) (path : List (List UInt8)) (w : World), l.length = 32 → DRow w a p path → p = longT i n → p ≤ c → 1 ≤ n → n ≤ 100000 → i < n →
    Calls Tryz.prog 16 #[digestV l, .int .i64 (i : Int), .int .i64 (n : Int), .slice a p c] w fun e w' => e = .returned (digestV (foldT l i n path)) ∧ Below w.heap.size w w' := by
  intro n
  induction n using Nat.strongRecOn with
  | ind n ih =>
    intro l i p c a path w hl R hp hc h1 hn hi
    have HI : Hid (∀ m, m < n → ∀ (l : List UInt8) (i p c : Nat) (a : Option Addr) (path : List (List UInt8)) (w : World), l.length = 32 → DRow w a p path → p = longT i m → p ≤ c → 1 ≤ m → m ≤ 100000 → i < m → Calls Tryz.prog 16 #[digestV l, .int .i64 (i : Int), .int .i64 (m : Int), .slice a p c] w fun e w' => e = .returned (digestV (foldT l i m path)) ∧ Below w.heap.size w w') := ih
    clear ih
    obtain ⟨w2, hw2⟩ : ∃ w2, (w.alloc (.cells (cellsB l).toArray 23)).alloc (.cells (cellsB zD).toArray 23) = w2 := ⟨_, rfl⟩
    have hs1 : (w.alloc (.cells (cellsB l).toArray 23)).heap.size = w.heap.size + 1 := by simp
    have HS2 : Hid (w2.heap.size = w.heap.size + 1 + 1) := by unfold Hid; rw [← hw2]; simp
    have HB2 : Hid (Below w.heap.size w w2) := by rw [← hw2]; exact ((Below.refl _ _).alloc (Nat.le_refl _) _).alloc (by simp) _
    have HL2 : Hid (DAt w2 w.heap.size 0 l) := by rw [← hw2]; exact World.rangeAt_alloc (box_dat w l _) _
    have HT2 : Hid (w2.there (w.heap.size + 1) 0 32) := by rw [← hw2]; exact alloc_thereAt _ _ _ 32 _ hs1 zD_size.symm
    have HKT : Hid (∀ wx, Below w2.heap.size w2 wx → wx.rangeAt w.heap.size 0 (cellsB l) ∧ DRow wx a p path ∧ wx.there (w.heap.size + 1) 0 32 ∧ Below w.heap.size w wx) := fun wx hx => by
      have s := HS2.out
      have b : Below w.heap.size w wx := HB2.out.trans (hx.mono (by omega))
      exact ⟨HL2.out.below hx (by omega), R.below b, there_below HT2.out hx (by omega), b⟩
    have HPL : Hid (path.length = p) := R.1
    have HP32 : Hid (∀ j, j < p → (path.getD j []).length = 32) := R.len
    have HP : Hid (p = longT i n) := hp
    clear R hp
    go_enter Tryz.func16, Tryz.ntmps16
    by_cases h2 : 2 ≤ n
    · have e1 : ((n : Int) == 1) = false := by simp; omega
      have hfl := foldT_length hl i n path
      go_wp2_with (refine wpList_allocE (by rfl) 23 (by rfl) (cellsB zD).toArray Tryz.zeroDg (w.heap.size + 1) hs1 w2 hw2 ?_)
      refine (rhalf_any n w2 h2 (by omega)).mono ?_
      rintro e w' ⟨rfl, rfl⟩
      clear hw2 hs1 HL2 HT2
      have hk1 := halfT_lt h2
      have hk2 := halfT_pos n
      have H0 : Hid (Below w'.heap.size w' w') := Below.refl _ _
      have hp1 : 1 ≤ p := by
        rw [HP.out]
        by_cases hik : i < halfT n
        · rw [longT_lo h2 hik]; omega
        · rw [longT_hi h2 hik]; omega
      obtain ⟨b, o, rfl⟩ := (HKT.out _ H0.out).2.1.addr (by omega)
      obtain ⟨q, hq⟩ : ∃ q : Nat, p - 1 = q := ⟨_, rfl⟩
      have hpq : (p : Int) - 1 = (q : Int) := by omega
      have lP := HP32.out q (by omega)
      have HX : Hid (DAt w' b (o + q * 32) (path.getD q [])) := (HKT.out _ H0.out).2.1.at q (by omega)
      have hqp : q < p := by omega
      have hqb : q ≤ 100000 := by have := longT_le n i; have := HP.out; omega
      have HRQ : Hid (∀ wx, Below w'.heap.size w' wx → DRow wx (some ⟨b, o, none⟩) q (path.take q)) := fun wx hx => (HKT.out wx hx).2.1.take q (by omega)
      have HFL : Hid (∀ k, halfT n = k → i < k → foldT l i n path = nodeT (foldT l i k (path.take q)) (path.getD q [])) := fun k hk h => by
        have := foldT_lo (l := l) (path := path) h2 (by rw [hk]; exact h)
        rw [HPL.out, hq, hk] at this
        exact this
      have HFH : Hid (∀ k, halfT n = k → ¬ i < k → foldT l i n path = nodeT (path.getD q []) (foldT l (i - k) (n - k) (path.take q))) := fun k hk h => by
        have := foldT_hi (l := l) (path := path) h2 (by rw [hk]; exact h)
        rw [HPL.out, hq, hk] at this
        exact this
      have HQL : Hid (∀ k, halfT n = k → i < k → q = longT i k) := fun k hk h => by
        have := longT_lo (n := n) h2 (by rw [hk]; exact h)
        rw [hk] at this
        have := HP.out
        omega
      have HQH : Hid (∀ k, halfT n = k → ¬ i < k → q = longT (i - k) (n - k)) := fun k hk h => by
        have := longT_hi (n := n) h2 (by rw [hk]; exact h)
        rw [hk] at this
        have := HP.out
        omega
      generalize path.getD q [] = P at *
      generalize path.take q = PT at *
      generalize halfT n = k at *
      have GFL : Hid (i < k → foldT l i n path = nodeT (foldT l i k PT) P) := HFL.out k rfl
      have GFH : Hid (¬ i < k → foldT l i n path = nodeT P (foldT l (i - k) (n - k) PT)) := HFH.out k rfl
      have GQL : Hid (i < k → q = longT i k) := HQL.out k rfl
      have GQH : Hid (¬ i < k → q = longT (i - k) (n - k)) := HQH.out k rfl
      clear HFL HFH HQL HQH
      clear hq
      have q0 : (0 : Int) ≤ (q : Int) := by omega
      have q1 : (q : Int) < (p : Int) := by omega
      have q2 : (q : Int) ≤ (c : Int) := by omega
      obtain ⟨w3, hw3⟩ : ∃ w3, w'.alloc (.cells (cellsB zD).toArray 23) = w3 := ⟨_, rfl⟩
      have HT3 : Hid (w3.there w'.heap.size 0 32) := by rw [← hw3]; exact alloc_thereAt _ _ _ 32 _ rfl zD_size.symm
      have hb4 : Below w'.heap.size w' (w3.setCells w'.heap.size 0 (cellsB P)) := by rw [← hw3]; exact new_stored _ _ _
      have HX4 : Hid (DAt (w3.setCells w'.heap.size 0 (cellsB P)) w'.heap.size 0 P) := dat_stored HT3.out lP
      obtain ⟨w4, hw4⟩ : ∃ w4, w3.setCells w'.heap.size 0 (cellsB P) = w4 := ⟨_, rfl⟩
      rw [hw4] at hb4 HX4
      have hg4 : w'.heap.size < w4.heap.size := cell_block (HX4.out.cell 0 (by omega))
      have HKQ : Hid (∀ wx, Below w4.heap.size w4 wx → (wx.rangeAt w.heap.size 0 (cellsB l) ∧ wx.rangeAt w'.heap.size 0 (cellsB P)) ∧ DRow wx (some ⟨b, o, none⟩) q PT ∧ wx.there (w.heap.size + 1) 0 32 ∧ Below w.heap.size w wx) := fun wx hx => by
        have b1 : Below w'.heap.size w' wx := hb4.trans (hx.mono hb4.size)
        have k := HKT.out _ b1
        exact ⟨⟨k.1, HX4.out.below hx hg4⟩, HRQ.out _ b1, k.2.2.1, k.2.2.2⟩
      clear hb4 hg4 HX4 H0 HRQ HKT HP HPL HP32
      by_cases hik : i < k
      · have HFL := GFL.out hik
        have HQL := GQL.out hik
        have HC : Hid (∀ wx, DRow wx (some ⟨b, o, none⟩) q PT → Calls Tryz.prog 16 #[digestV l, .int .i64 (i : Int), .int .i64 (k : Int), .slice (some ⟨b, o, none⟩) q c] wx fun e w' => e = .returned (digestV (foldT l i k PT)) ∧ Below wx.heap.size wx w') := fun wx hr => HI.out k hk1 l i q c _ PT wx hl hr HQL (by omega) (by omega) (by omega) hik
        have lF := foldT_length hl i k PT
        have HE : Hid (foldT l i n path = nodeT (foldT l i k PT) P) := HFL
        rw [HFL] at hfl
        clear HFL HQL GFL GQL GFH GQH HI
        generalize foldT l i k PT = F at *
        have g1 : (i : Int) < (k : Int) := by omega
        go_wp2_with (first
          | (refine wpList_load_mid (by rfl) 23 (.tmp 21) (by rfl) b (o + q * 32) (by rfl) (cellsB P) _ HX.out Tryz.underlying23 (by rfl) (by rw [cellsB_length, lP]; exact Tryz.sizeDg) ?_)
          | (refine wpList_allocE (by rfl) 23 (by rfl) (cellsB zD).toArray Tryz.zeroDg w'.heap.size rfl w3 hw3 ?_)
          | (refine wpList_store_mid (by rfl) 23 (.tmp 10) (.tmp 22) (by rfl) w'.heap.size 0 (cellsB P).toArray (by rfl) (by rfl) (by rw [cellsB_size, lP]; exact HT3.out) (by rw [cellsB_size, lP]; exact Tryz.sizeDg) (all_oneCell_toArray (cellsB_one _)) ?_; rw [show (cellsB P).toArray.toList = cellsB P from rfl, hw4]))
        clear hw3 hw4 HT3 HX
        refine wp_region_noPanic ?_
        refine wp_region_held_drew (S := fun wx => wx.rangeAt w.heap.size 0 (cellsB l) ∧ wx.rangeAt w'.heap.size 0 (cellsB P)) (by kernel_rfl) ((HKQ.out _ (below_drewN w4 1)).1) (fun hHeld => ?_)
        try simp only [Act.put, List.setIfInBounds_toArray, List.set_cons_zero, List.set_cons_succ]
        have HBd : Hid (Below w4.heap.size w4 w4.drew) := below_drewN w4 1
        generalize w4.drew = wd at *
        refine wpAnyH_take (i := 0) (v := .agg (cellsB l).toArray) (by simp only [List.getElem?_toArray, List.getElem?_cons_zero, List.getElem?_cons_succ]; rfl) (by kernel_rfl) (by kernel_rfl) (by kernel_rfl) (fun _ _ _ h => h)
          (yieldsIf_load_mid (by rfl) _ _ rfl _ _ rfl _ _ (fun w hw => hw.1) Tryz.underlying23 rfl (by rw [cellsB_length, hl]; exact Tryz.sizeDg)) hHeld ?_
        try simp only [Act.put, List.setIfInBounds_toArray, List.set_cons_zero, List.set_cons_succ]
        refine wpAnyH_take (i := 1) (v := ?_) (by simp only [List.getElem?_toArray, List.getElem?_cons_zero, List.getElem?_cons_succ]; rfl) (by kernel_rfl) (by kernel_rfl) (by kernel_rfl) (fun _ _ _ h => h) (Or.inl ⟨by rfl, ?_⟩) hHeld ?_
        rotate_left
        · intro w hSw
          obtain ⟨hSw0, hSw1⟩ := hSw
          go_simp
          try with_reducible rfl
        try simp only [Act.put, List.setIfInBounds_toArray, List.set_cons_zero, List.set_cons_succ]
        refine wpAnyH_take (i := 2) (v := ?_) (by simp only [List.getElem?_toArray, List.getElem?_cons_zero, List.getElem?_cons_succ]; rfl) (by kernel_rfl) (by kernel_rfl) (by kernel_rfl) (fun _ _ _ h => h) (Or.inl ⟨by rfl, ?_⟩) hHeld ?_
        rotate_left
        · intro w hSw
          obtain ⟨hSw0, hSw1⟩ := hSw
          go_simp
          try with_reducible rfl
        try simp only [Act.put, List.setIfInBounds_toArray, List.set_cons_zero, List.set_cons_succ]
        refine wpAnyH_take (i := 3) (v := ?_) (by simp only [List.getElem?_toArray, List.getElem?_cons_zero, List.getElem?_cons_succ]; rfl) (by kernel_rfl) (by kernel_rfl) (by kernel_rfl) (fun _ _ _ h => h) (Or.inl ⟨by rfl, ?_⟩) hHeld ?_
        rotate_left
        · intro w hSw
          obtain ⟨hSw0, hSw1⟩ := hSw
          go_simp
          try with_reducible rfl
        try simp only [Act.put, List.setIfInBounds_toArray, List.set_cons_zero, List.set_cons_succ]
        refine wpAnyH_take (i := 5) (v := .agg (cellsB P).toArray) (by simp only [List.getElem?_toArray, List.getElem?_cons_zero, List.getElem?_cons_succ]; rfl) (by kernel_rfl) (by kernel_rfl) (by kernel_rfl) (fun _ _ _ h => h)
          (yieldsIf_load_mid (by rfl) _ _ rfl _ _ rfl _ _ (fun w hw => hw.2) Tryz.underlying23 rfl (by rw [cellsB_length, lP]; exact Tryz.sizeDg)) hHeld ?_
        try simp only [Act.put, List.setIfInBounds_toArray, List.set_cons_zero, List.set_cons_succ]
        refine wpAnyH_ready (rs := [4]) (by kernel_rfl) (by simp) ?_
        refine AllReadyH.cons (by simp only [List.getElem?_toArray, List.getElem?_cons_zero, List.getElem?_cons_succ]; rfl) (fun K hK => ?_) AllReadyH.nil
        rw [if_pos (by rfl)]
        go_simp
        refine (HC.out wd (HKQ.out _ HBd.out).2.1).mono ?_
        rintro e w5 ⟨rfl, hb5⟩
        have HB5 : Hid (Below w4.heap.size w4 w5) := HBd.out.trans (hb5.mono HBd.out.size)
        clear hb5 HBd HC
        go_wp2_with fail
        refine hK.out _ _ (HKQ.out _ HB5.out).1 (fun hHeld => ?_)
        clear hK K
        try simp only [Act.put, List.setIfInBounds_toArray, List.set_cons_zero, List.set_cons_succ]
        refine wpAnyH_ready (rs := [6]) (by kernel_rfl) (by simp) ?_
        refine AllReadyH.cons (by simp only [List.getElem?_toArray, List.getElem?_cons_zero, List.getElem?_cons_succ]; rfl) (fun K hK => ?_) AllReadyH.nil
        rw [if_pos (by rfl)]
        go_simp
        refine (rnode_any F P w5 lF lP).mono ?_
        rintro e w6 ⟨rfl, hb6⟩
        have HB6 : Hid (Below w4.heap.size w4 w6) := HB5.out.trans (hb6.mono HB5.out.size)
        clear hb6 HB5
        generalize nodeT F P = D at *
        go_wp2_with fail
        refine hK.out _ _ (HKQ.out _ HB6.out).1 (fun hHeld => ?_)
        clear hK K
        try simp only [Act.put, List.setIfInBounds_toArray, List.set_cons_zero, List.set_cons_succ]
        refine wpAnyH_ready (rs := [7]) (by kernel_rfl) (by simp) ?_
        refine AllReadyH.cons (by simp only [List.getElem?_toArray, List.getElem?_cons_zero, List.getElem?_cons_succ]; rfl) (fun K hK => ?_) AllReadyH.nil
        rw [if_pos (by rfl)]
        have HT6 : Hid (w6.there (w.heap.size + 1) 0 32) := (HKQ.out _ HB6.out).2.2.1
        refine wp_store_mid _ _ _ rfl (w.heap.size + 1) 0 (cellsB D).toArray rfl rfl (by rw [cellsB_size, hfl]; exact HT6.out) (by rw [cellsB_size, hfl]; exact Tryz.sizeDg) (all_oneCell_toArray (cellsB_one _)) ?_
        have hr : (w6.setCells (w.heap.size + 1) 0 (cellsB D)).rangeAt w.heap.size 0 (cellsB l) ∧ (w6.setCells (w.heap.size + 1) 0 (cellsB D)).rangeAt w'.heap.size 0 (cellsB P) := ⟨World.rangeAt_setCells_apart (HKQ.out _ HB6.out).1.1 _ _ _ (.inl (by omega)), World.rangeAt_setCells_apart (HKQ.out _ HB6.out).1.2 _ _ _ (.inl (by have := HS2.out; omega))⟩
        refine hK.out _ _ hr (fun hHeld => ?_)
        clear hr
        clear hK K
        try simp only [Act.put, List.setIfInBounds_toArray, List.set_cons_zero, List.set_cons_succ]
        refine wpAnyH_done (by kernel_rfl) (NoPanic.normal ?_) _
        clear hHeld
        go_wp2_with fail
        refine bodyPost_ret (v := digestV D) (run_results_row Tryz.results16 _ _ (w.heap.size + 1) 0 (by rfl) (cellsB D) (World.rangeAt_setCells_same _ _ _ _ (by rw [cellsB_length, hfl]; exact HT6.out)) _ Tryz.underlying23 (by rfl) (by rw [cellsB_length, hfl]; exact Tryz.sizeDg)) rfl ⟨by rw [HE.out], ?_⟩
        exact below_setCells _ (by omega) _ _ _ (HKQ.out _ HB6.out).2.2.2
      · have HFH := GFH.out hik
        have HQH := GQH.out hik
        have HC : Hid (∀ wx, DRow wx (some ⟨b, o, none⟩) q PT → Calls Tryz.prog 16 #[digestV l, .int .i64 ((i - k : Nat) : Int), .int .i64 ((n - k : Nat) : Int), .slice (some ⟨b, o, none⟩) q c] wx fun e w' => e = .returned (digestV (foldT l (i - k) (n - k) PT)) ∧ Below wx.heap.size wx w') := fun wx hr => HI.out (n - k) (by omega) l (i - k) q c _ PT wx hl hr HQH (by omega) (by omega) (by omega) (by omega)
        have lF := foldT_length hl (i - k) (n - k) PT
        have HE : Hid (foldT l i n path = nodeT P (foldT l (i - k) (n - k) PT)) := HFH
        rw [HFH] at hfl
        clear HFH HQH GFL GQL GFH GQH HI
        generalize foldT l (i - k) (n - k) PT = F at *
        have s1 : (i : Int) - (k : Int) = ((i - k : Nat) : Int) := by omega
        have s2 : (n : Int) - (k : Int) = ((n - k : Nat) : Int) := by omega
        have b1 : i - k ≤ 100000 := by omega
        have b2 : n - k ≤ 100000 := by omega
        generalize i - k = i' at *
        generalize n - k = n' at *
        have wi : IntKind.i64.wrap (i' : Int) = (i' : Int) := wrapT i' (by omega)
        have wn : IntKind.i64.wrap (n' : Int) = (n' : Int) := wrapT n' (by omega)
        have g1 : ¬ (i : Int) < (k : Int) := by omega
        go_wp2_with (first
          | (refine wpList_load_mid (by rfl) 23 (.tmp 21) (by rfl) b (o + q * 32) (by rfl) (cellsB P) _ HX.out Tryz.underlying23 (by rfl) (by rw [cellsB_length, lP]; exact Tryz.sizeDg) ?_)
          | (refine wpList_allocE (by rfl) 23 (by rfl) (cellsB zD).toArray Tryz.zeroDg w'.heap.size rfl w3 hw3 ?_)
          | (refine wpList_store_mid (by rfl) 23 (.tmp 10) (.tmp 22) (by rfl) w'.heap.size 0 (cellsB P).toArray (by rfl) (by rfl) (by rw [cellsB_size, lP]; exact HT3.out) (by rw [cellsB_size, lP]; exact Tryz.sizeDg) (all_oneCell_toArray (cellsB_one _)) ?_; rw [show (cellsB P).toArray.toList = cellsB P from rfl, hw4]))
        clear hw3 hw4 HT3 HX
        refine wp_region_noPanic ?_
        refine wp_region_held_drew (S := fun wx => wx.rangeAt w.heap.size 0 (cellsB l) ∧ wx.rangeAt w'.heap.size 0 (cellsB P)) (by kernel_rfl) ((HKQ.out _ (below_drewN w4 1)).1) (fun hHeld => ?_)
        try simp only [Act.put, List.setIfInBounds_toArray, List.set_cons_zero, List.set_cons_succ]
        have HBd : Hid (Below w4.heap.size w4 w4.drew) := below_drewN w4 1
        generalize w4.drew = wd at *
        refine wpAnyH_take (i := 0) (v := .agg (cellsB P).toArray) (by simp only [List.getElem?_toArray, List.getElem?_cons_zero, List.getElem?_cons_succ]; rfl) (by kernel_rfl) (by kernel_rfl) (by kernel_rfl) (fun _ _ _ h => h)
          (yieldsIf_load_mid (by rfl) _ _ rfl _ _ rfl _ _ (fun w hw => hw.2) Tryz.underlying23 rfl (by rw [cellsB_length, lP]; exact Tryz.sizeDg)) hHeld ?_
        try simp only [Act.put, List.setIfInBounds_toArray, List.set_cons_zero, List.set_cons_succ]
        refine wpAnyH_take (i := 1) (v := .agg (cellsB l).toArray) (by simp only [List.getElem?_toArray, List.getElem?_cons_zero, List.getElem?_cons_succ]; rfl) (by kernel_rfl) (by kernel_rfl) (by kernel_rfl) (fun _ _ _ h => h)
          (yieldsIf_load_mid (by rfl) _ _ rfl _ _ rfl _ _ (fun w hw => hw.1) Tryz.underlying23 rfl (by rw [cellsB_length, hl]; exact Tryz.sizeDg)) hHeld ?_
        try simp only [Act.put, List.setIfInBounds_toArray, List.set_cons_zero, List.set_cons_succ]
        refine wpAnyH_take (i := 2) (v := ?_) (by simp only [List.getElem?_toArray, List.getElem?_cons_zero, List.getElem?_cons_succ]; rfl) (by kernel_rfl) (by kernel_rfl) (by kernel_rfl) (fun _ _ _ h => h) (Or.inl ⟨by rfl, ?_⟩) hHeld ?_
        rotate_left
        · intro w hSw
          obtain ⟨hSw0, hSw1⟩ := hSw
          go_simp
          try with_reducible rfl
        try simp only [Act.put, List.setIfInBounds_toArray, List.set_cons_zero, List.set_cons_succ]
        refine wpAnyH_take (i := 3) (v := ?_) (by simp only [List.getElem?_toArray, List.getElem?_cons_zero, List.getElem?_cons_succ]; rfl) (by kernel_rfl) (by kernel_rfl) (by kernel_rfl) (fun _ _ _ h => h) (Or.inl ⟨by rfl, ?_⟩) hHeld ?_
        rotate_left
        · intro w hSw
          obtain ⟨hSw0, hSw1⟩ := hSw
          go_simp
          try with_reducible rfl
        try simp only [Act.put, List.setIfInBounds_toArray, List.set_cons_zero, List.set_cons_succ]
        refine wpAnyH_take (i := 4) (v := .int .i64 (i' : Int)) (by simp only [List.getElem?_toArray, List.getElem?_cons_zero, List.getElem?_cons_succ]; rfl) (by kernel_rfl) (by kernel_rfl) (by kernel_rfl) (fun _ _ _ h => h) (Or.inl ⟨by rfl, ?_⟩) hHeld ?_
        · intro w hSw
          obtain ⟨hSw0, hSw1⟩ := hSw
          go_simp
        try simp only [Act.put, List.setIfInBounds_toArray, List.set_cons_zero, List.set_cons_succ]
        refine wpAnyH_take (i := 5) (v := ?_) (by simp only [List.getElem?_toArray, List.getElem?_cons_zero, List.getElem?_cons_succ]; rfl) (by kernel_rfl) (by kernel_rfl) (by kernel_rfl) (fun _ _ _ h => h) (Or.inl ⟨by rfl, ?_⟩) hHeld ?_
        rotate_left
        · intro w hSw
          obtain ⟨hSw0, hSw1⟩ := hSw
          go_simp
          try with_reducible rfl
        try simp only [Act.put, List.setIfInBounds_toArray, List.set_cons_zero, List.set_cons_succ]
        refine wpAnyH_take (i := 6) (v := ?_) (by simp only [List.getElem?_toArray, List.getElem?_cons_zero, List.getElem?_cons_succ]; rfl) (by kernel_rfl) (by kernel_rfl) (by kernel_rfl) (fun _ _ _ h => h) (Or.inl ⟨by rfl, ?_⟩) hHeld ?_
        rotate_left
        · intro w hSw
          obtain ⟨hSw0, hSw1⟩ := hSw
          go_simp
          try with_reducible rfl
        try simp only [Act.put, List.setIfInBounds_toArray, List.set_cons_zero, List.set_cons_succ]
        refine wpAnyH_take (i := 7) (v := .int .i64 (n' : Int)) (by simp only [List.getElem?_toArray, List.getElem?_cons_zero, List.getElem?_cons_succ]; rfl) (by kernel_rfl) (by kernel_rfl) (by kernel_rfl) (fun _ _ _ h => h) (Or.inl ⟨by rfl, ?_⟩) hHeld ?_
        · intro w hSw
          obtain ⟨hSw0, hSw1⟩ := hSw
          go_simp
        try simp only [Act.put, List.setIfInBounds_toArray, List.set_cons_zero, List.set_cons_succ]
        refine wpAnyH_take (i := 8) (v := ?_) (by simp only [List.getElem?_toArray, List.getElem?_cons_zero, List.getElem?_cons_succ]; rfl) (by kernel_rfl) (by kernel_rfl) (by kernel_rfl) (fun _ _ _ h => h) (Or.inl ⟨by rfl, ?_⟩) hHeld ?_
        rotate_left
        · intro w hSw
          obtain ⟨hSw0, hSw1⟩ := hSw
          go_simp
          try with_reducible rfl
        try simp only [Act.put, List.setIfInBounds_toArray, List.set_cons_zero, List.set_cons_succ]
        refine wpAnyH_ready (rs := [9]) (by kernel_rfl) (by simp) ?_
        refine AllReadyH.cons (by simp only [List.getElem?_toArray, List.getElem?_cons_zero, List.getElem?_cons_succ]; rfl) (fun K hK => ?_) AllReadyH.nil
        rw [if_pos (by rfl)]
        go_simp
        refine (HC.out wd (HKQ.out _ HBd.out).2.1).mono ?_
        rintro e w5 ⟨rfl, hb5⟩
        have HB5 : Hid (Below w4.heap.size w4 w5) := HBd.out.trans (hb5.mono HBd.out.size)
        clear hb5 HBd HC
        go_wp2_with fail
        refine hK.out _ _ (HKQ.out _ HB5.out).1 (fun hHeld => ?_)
        clear hK K
        try simp only [Act.put, List.setIfInBounds_toArray, List.set_cons_zero, List.set_cons_succ]
        refine wpAnyH_ready (rs := [10]) (by kernel_rfl) (by simp) ?_
        refine AllReadyH.cons (by simp only [List.getElem?_toArray, List.getElem?_cons_zero, List.getElem?_cons_succ]; rfl) (fun K hK => ?_) AllReadyH.nil
        rw [if_pos (by rfl)]
        go_simp
        refine (rnode_any P F w5 lP lF).mono ?_
        rintro e w6 ⟨rfl, hb6⟩
        have HB6 : Hid (Below w4.heap.size w4 w6) := HB5.out.trans (hb6.mono HB5.out.size)
        clear hb6 HB5
        generalize nodeT P F = D at *
        go_wp2_with fail
        refine hK.out _ _ (HKQ.out _ HB6.out).1 (fun hHeld => ?_)
        clear hK K
        try simp only [Act.put, List.setIfInBounds_toArray, List.set_cons_zero, List.set_cons_succ]
        refine wpAnyH_ready (rs := [11]) (by kernel_rfl) (by simp) ?_
        refine AllReadyH.cons (by simp only [List.getElem?_toArray, List.getElem?_cons_zero, List.getElem?_cons_succ]; rfl) (fun K hK => ?_) AllReadyH.nil
        rw [if_pos (by rfl)]
        have HT6 : Hid (w6.there (w.heap.size + 1) 0 32) := (HKQ.out _ HB6.out).2.2.1
        refine wp_store_mid _ _ _ rfl (w.heap.size + 1) 0 (cellsB D).toArray rfl rfl (by rw [cellsB_size, hfl]; exact HT6.out) (by rw [cellsB_size, hfl]; exact Tryz.sizeDg) (all_oneCell_toArray (cellsB_one _)) ?_
        have hr : (w6.setCells (w.heap.size + 1) 0 (cellsB D)).rangeAt w.heap.size 0 (cellsB l) ∧ (w6.setCells (w.heap.size + 1) 0 (cellsB D)).rangeAt w'.heap.size 0 (cellsB P) := ⟨World.rangeAt_setCells_apart (HKQ.out _ HB6.out).1.1 _ _ _ (.inl (by omega)), World.rangeAt_setCells_apart (HKQ.out _ HB6.out).1.2 _ _ _ (.inl (by have := HS2.out; omega))⟩
        refine hK.out _ _ hr (fun hHeld => ?_)
        clear hr
        clear hK K
        try simp only [Act.put, List.setIfInBounds_toArray, List.set_cons_zero, List.set_cons_succ]
        refine wpAnyH_done (by kernel_rfl) (NoPanic.normal ?_) _
        clear hHeld
        go_wp2_with fail
        refine bodyPost_ret (v := digestV D) (run_results_row Tryz.results16 _ _ (w.heap.size + 1) 0 (by rfl) (cellsB D) (World.rangeAt_setCells_same _ _ _ _ (by rw [cellsB_length, hfl]; exact HT6.out)) _ Tryz.underlying23 (by rfl) (by rw [cellsB_length, hfl]; exact Tryz.sizeDg)) rfl ⟨by rw [HE.out], ?_⟩
        exact below_setCells _ (by omega) _ _ _ (HKQ.out _ HB6.out).2.2.2
    · obtain rfl : n = 1 := by omega
      have HE : Hid (foldT l i 1 path = l) := foldT_one h2
      go_wp2_with (first
        | (refine wpList_allocE (by rfl) 23 (by rfl) (cellsB zD).toArray Tryz.zeroDg (w.heap.size + 1) hs1 w2 hw2 ?_)
        | (refine wpList_load_mid (by rfl) 23 (.tmp 4) (by rfl) w.heap.size 0 (by rfl) (cellsB l) _ HL2.out Tryz.underlying23 (by rfl) (by rw [cellsB_length, hl]; exact Tryz.sizeDg) ?_)
        | (refine wpList_store_mid (by rfl) 23 (.tmp 8) (.tmp 14) (by rfl) (w.heap.size + 1) 0 (cellsB l).toArray (by rfl) (by rfl) (by rw [cellsB_size, hl]; exact HT2.out) (by rw [cellsB_size, hl]; exact Tryz.sizeDg) (all_oneCell_toArray (cellsB_one _)) ?_))
      refine bodyPost_ret (v := digestV l) (run_results_row Tryz.results16 _ _ (w.heap.size + 1) 0 (by rfl) (cellsB l) (World.rangeAt_setCells_same _ _ _ _ (by rw [cellsB_length, hl]; exact HT2.out)) _ Tryz.underlying23 (by rfl) (by rw [cellsB_length, hl]; exact Tryz.sizeDg)) rfl ⟨by rw [HE.out], ?_⟩
      exact below_setCells _ (by omega) _ _ _ HB2.out
end Go.Proofs.YtdgaimlccpmojaaGreatDoor
