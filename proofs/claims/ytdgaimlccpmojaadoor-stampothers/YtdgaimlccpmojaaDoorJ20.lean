/- Texts of this claim, joined: Wstampn, Rtree, Rtree2, Rtree3. -/
import Derived.Test.YtdgaimlccpmojaaDoorJ19
import Derived.Test.YtdgaimlccpmojaaDoorJ18
import Derived.Test.YtdgaimlccpmojaaDoorJ05
import Derived.Test.YtdgaimlccpmojaaDoorJ15
import Derived.Deep.RegionHeld3
/- The contracts of stamp.Public and New. -/
namespace Go.Proofs.YtdgaimlccpmojaaDoor
open Go.RowKit
set_option linter.unusedVariables false
set_option linter.unusedSimpArgs false

set_option maxRecDepth 100000 in
set_option maxHeartbeats 1000000 in
theorem wstamp_public (seed : List UInt8) (h : Nat) (w : World) (G : Env w) (hs : seed.length = 32) (hh : h ≤ 4) :
    Calls Tryd.prog 5 #[digestV seed, .int .i64 (h : Int)] w fun e w' => e = .returned (.tuple #[digestV (stampPubL seed (2 ^ h)), .nilIface]) ∧ Below w.heap.size w w' := by
  obtain ⟨w2, hw2⟩ : ∃ w2, (w.alloc (.cells (cellsB seed).toArray 23)).alloc (.cells (cellsB zD).toArray 23) = w2 := ⟨_, rfl⟩
  have hs1 : (w.alloc (.cells (cellsB seed).toArray 23)).heap.size = w.heap.size + 1 := by simp
  have HS2 : Hid (w2.heap.size = w.heap.size + 1 + 1) := by unfold Hid; rw [← hw2]; simp
  have HB2 : Hid (Below w.heap.size w w2) := by rw [← hw2]; exact ((Below.refl _ _).alloc (Nat.le_refl _) _).alloc (by simp) _
  have HD2 : Hid (DAt w2 w.heap.size 0 seed) := by rw [← hw2]; exact World.rangeAt_alloc (box_dat w seed _) _
  have HT2 : Hid (w2.there (w.heap.size + 1) 0 32) := by rw [← hw2]; exact alloc_thereAt _ _ _ 32 _ hs1 zD_size.symm
  have HG : Hid (Env w2) := G.below HB2.out
  clear G
  have hp16 := (Stm.pow hh).2
  go_enter Tryd.func5, Tryd.ntmps5
  go_wp2_with (first
    | (refine wpList_allocE (by rfl) 23 (by rfl) (cellsB zD).toArray Tryd.zeroDg (w.heap.size + 1) hs1 w2 hw2 ?_)
    | (refine wpList_load_mid (by rfl) 23 (.tmp 2) (by rfl) w.heap.size 0 (by rfl) (cellsB seed) _ HD2.out Tryd.underlying23 (by rfl) (by rw [cellsB_length, hs]; exact Tryd.sizeDg) ?_))
  clear hw2 hs1
  refine (wleaves_any seed h w2 HG.out hs hh).mono ?_
  rintro e w3 ⟨⟨g, c, rfl, hg3, hc3, hr3⟩, hb3⟩
  have HR3 : Hid (DRow w3 (some ⟨g, 0, none⟩) (2 ^ h) (stampLeavesL seed (2 ^ h)) ∧ Below w2.heap.size w2 w3) := ⟨hr3, hb3⟩
  clear hr3 hb3 hg3
  have HE : Hid (rootT (stampLeavesL seed (2 ^ h)) = stampPubL seed (2 ^ h)) := rfl
  obtain ⟨n, hn⟩ : ∃ n, 2 ^ h = n := ⟨_, rfl⟩
  have HN : Hid (2 ^ h = n) := hn
  rw [hn] at HR3 HE hc3 hp16 ⊢
  clear hn
  go_wp2_with fail
  refine (wtree_root (some ⟨g, 0, none⟩) n c (stampLeavesL seed n) w3 (HG.out.below HR3.out.2) HR3.out.1 hc3 (by omega)).mono ?_
  rintro e w4 ⟨rfl, hb4⟩
  rw [HE.out]
  have HB4 : Hid (Below w2.heap.size w2 w4) := below_trans HR3.out.2 hb4
  have HT4 : Hid (w4.there (w.heap.size + 1) 0 32) := there_below HT2.out HB4.out (by have := HS2.out; omega)
  have hlen := stampPubL_length seed n
  clear hb4 HR3 HE
  generalize hD : stampPubL seed n = D at *
  have HD : Hid (stampPubL seed n = D) := hD
  clear hD
  go_wp2_with (refine wpList_store_mid (by rfl) 23 (.tmp 4) (.tmp 20) (by rfl) (w.heap.size + 1) 0 (cellsB D).toArray (by rfl) (by rfl) (by rw [cellsB_size, hlen]; exact HT4.out) (by rw [cellsB_size, hlen]; exact Tryd.sizeDg) (all_oneCell_toArray (cellsB_one _)) ?_)
  refine bodyPost_ret (v := .tuple #[digestV D, .nilIface]) (run_results_row2 Tryd.results5 _ _ (w.heap.size + 1) 0 (by rfl) _ (by rfl) (cellsB D) (World.rangeAt_setCells_same _ _ _ _ (by rw [cellsB_length, hlen]; exact HT4.out)) _ Tryd.underlying23 (by rfl) (by rw [cellsB_length, hlen]; exact Tryd.sizeDg)) rfl ⟨by rw [HN.out, HD.out], ?_⟩
  exact below_setCells _ (by omega) _ _ _ (HB2.out.trans (HB4.out.mono (by have := HS2.out; omega)))
set_option maxRecDepth 100000 in
set_option maxHeartbeats 1000000 in
theorem wstamp_pubout (seed : List UInt8) (h : Int) (w : World) (G : Env w) (hs : seed.length = 32) (hh : h < 0 ∨ 4 < h) (h1 : -9223372036854775808 ≤ h) (h2 : h ≤ 9223372036854775807) :
    Calls Tryd.prog 5 #[digestV seed, .int .i64 h] w fun e w' => e = .returned (.tuple #[digestV zD, .iface 30 (.int .i64 2)]) ∧ Below w.heap.size w w' := by
  obtain ⟨w2, hw2⟩ : ∃ w2, (w.alloc (.cells (cellsB seed).toArray 23)).alloc (.cells (cellsB zD).toArray 23) = w2 := ⟨_, rfl⟩
  have hs1 : (w.alloc (.cells (cellsB seed).toArray 23)).heap.size = w.heap.size + 1 := by simp
  have HS2 : Hid (w2.heap.size = w.heap.size + 1 + 1) := by unfold Hid; rw [← hw2]; simp
  have HB2 : Hid (Below w.heap.size w w2) := by rw [← hw2]; exact ((Below.refl _ _).alloc (Nat.le_refl _) _).alloc (by simp) _
  have HD2 : Hid (DAt w2 w.heap.size 0 seed) := by rw [← hw2]; exact World.rangeAt_alloc (box_dat w seed _) _
  have HT2 : Hid (w2.there (w.heap.size + 1) 0 32) := by rw [← hw2]; exact alloc_thereAt _ _ _ 32 _ hs1 zD_size.symm
  clear G
  go_enter Tryd.func5, Tryd.ntmps5
  go_wp2_with (first
    | (refine wpList_allocE (by rfl) 23 (by rfl) (cellsB zD).toArray Tryd.zeroDg (w.heap.size + 1) hs1 w2 hw2 ?_)
    | (refine wpList_load_mid (by rfl) 23 (.tmp 2) (by rfl) w.heap.size 0 (by rfl) (cellsB seed) _ HD2.out Tryd.underlying23 (by rfl) (by rw [cellsB_length, hs]; exact Tryd.sizeDg) ?_))
  clear hw2 hs1
  refine (wleaves_out seed h w2 hs hh h1 h2).mono ?_
  rintro e w3 ⟨rfl, hb3⟩
  have HT3 : Hid (w3.there (w.heap.size + 1) 0 32) := there_below HT2.out hb3 (by have := HS2.out; omega)
  have HB3 : Hid (Below w.heap.size w w3) := below_trans HB2.out hb3
  clear hb3 hh
  have lZ : zD.length = 32 := rfl
  have hbu : Tryd.prog.built 23 [] = some (cellsB zD).toArray := by kernel_rfl
  obtain ⟨Z, hZ⟩ : ∃ Z, zD = Z := ⟨_, rfl⟩
  have HZ : Hid (zD = Z) := hZ
  rw [hZ] at lZ hbu
  have HBU : Hid (Tryd.prog.built 23 [] = some (cellsB Z).toArray) := hbu
  clear hZ hbu
  go_wp2_with (first
    | (refine wpList_buildC (by rfl) 23 #[] (by rfl) (cellsB Z).toArray (by simpa using HBU.out) ?_)
    | (refine wpList_store_mid (by rfl) 23 (.tmp 4) (.tmp 16) (by rfl) (w.heap.size + 1) 0 (cellsB Z).toArray (by rfl) (by rfl) (by rw [cellsB_size, lZ]; exact HT3.out) (by rw [cellsB_size, lZ]; exact Tryd.sizeDg) (all_oneCell_toArray (cellsB_one _)) ?_))
  refine bodyPost_ret (v := .tuple #[digestV Z, .iface 30 (.int .i64 2)]) (run_results_row2 Tryd.results5 _ _ (w.heap.size + 1) 0 (by rfl) _ (by rfl) (cellsB Z) (World.rangeAt_setCells_same _ _ _ _ (by rw [cellsB_length, lZ]; exact HT3.out)) _ Tryd.underlying23 (by rfl) (by rw [cellsB_length, lZ]; exact Tryd.sizeDg)) rfl ⟨by rw [HZ.out], ?_⟩
  exact below_setCells _ (by omega) _ _ _ HB3.out
/-- A Stamp as it is made. -/
def stV (seed : List UInt8) (a : Option Addr) (n c : Nat) : List Value := cellsB seed ++ [.slice a n c, .int .i64 0]
theorem Tryd.zeroSt : (Tryd.prog.info? 50).map (·.zero) = some (some (.agg (stV zD none 0 0).toArray)) := by kernel_rfl
theorem Tryd.placesSt : (match Tryd.prog.underlying 50 with | some (.struct fields) => fields.toList.mapM (fun f => (Tryd.prog.info? f.type).map fun i => (f.offset, i.size)) | _ => none) = some [(0, 32), (32, 1), (33, 1)] := by kernel_rfl
theorem fillSt (seed : List UInt8) (hs : seed.length = 32) (a : Option Addr) (n c : Nat) : Instr.fill (([(0, 32), (32, 1), (33, 1)] : List (Nat × Nat)).toArray[·]?) (stV zD none 0 0).toArray [(0, digestV seed), (1, .slice a n c)] = some (stV seed a n c).toArray := by
  have hsz : (digestV seed).cells.size = 32 := cells32 hs
  have hb : ((digestV seed).cells.zipIdx.foldl (fun (cs : Array Value) (x : Value × Nat) => cs.setIfInBounds (0 + x.2) x.1) (stV zD none 0 0).toArray) = (cellsB seed ++ [Value.slice none 0 0, Value.int .i64 0]).toArray := by
    have := fold_set 0 (cellsB seed) 0 (stV zD none 0 0).toArray (by rw [cellsB_length, hs]; decide)
    rw [cellsB_length, hs] at this
    have h2 : ((digestV seed).cells.zipIdx.foldl (fun (cs : Array Value) (x : Value × Nat) => cs.setIfInBounds (0 + x.2) x.1) (stV zD none 0 0).toArray).toList = cellsB seed ++ [Value.slice none 0 0, Value.int .i64 0] := by
      have e1 : ((digestV seed).cells.zipIdx.foldl (fun (cs : Array Value) (x : Value × Nat) => cs.setIfInBounds (0 + x.2) x.1) (stV zD none 0 0).toArray) = ((cellsB seed).zipIdx.foldl (fun (cs : Array Value) (x : Value × Nat) => cs.setIfInBounds (0 + x.2) x.1) (stV zD none 0 0).toArray) := by
        show ((cellsB seed).toArray.zipIdx.foldl _ _) = _
        rw [← Array.foldl_toList, Array.toList_zipIdx]
      rw [e1, this]
      have e0 : (stV zD none 0 0).toArray.toList.drop (0 + 0 + 32) = [Value.slice none 0 0, Value.int .i64 0] := by rfl
      rw [e0]
      simp
    rw [← h2]
  unfold Instr.fill
  simp only [List.getElem?_toArray, List.getElem?_cons_zero]
  rw [if_neg (by simp only [hsz]; simp [stV, cellsB_length, zD])]
  unfold Instr.fill
  simp only [List.getElem?_toArray, List.getElem?_cons_succ, List.getElem?_cons_zero]
  rw [hb]
  rw [if_neg (by simp [Value.cells, cellsB_length, hs])]
  unfold Instr.fill
  congr 1
  have h3 : (cellsB seed).length = 32 := by rw [cellsB_length, hs]
  simp [stV, Value.cells, h3]
theorem Tryd.builtSt (seed : List UInt8) (hs : seed.length = 32) (a : Option Addr) (n c : Nat) : Tryd.prog.built 50 [(0, digestV seed), (1, .slice a n c)] = some (stV seed a n c).toArray := by
  unfold Program.built
  cases hi : Tryd.prog.info? 50 with
  | none => have := Tryd.zeroSt; rw [hi] at this; cases this
  | some it =>
    have hz : it.zero = some (.agg (stV zD none 0 0).toArray) := by have := Tryd.zeroSt; rw [hi] at this; simpa using this
    have hp := Tryd.placesSt
    cases hu : Tryd.prog.underlying 50 with
    | none => rw [hu] at hp; cases hp
    | some d =>
      rw [hu] at hp
      cases d <;> try (cases hp; done)
      case struct fs =>
        have hp' : fs.toList.mapM (fun f => (Tryd.prog.info? f.type).map fun i => (f.offset, i.size)) = some [(0, 32), (32, 1), (33, 1)] := hp
        show (match it.zero, fs.toList.mapM (fun f => (Tryd.prog.info? f.type).map fun i => (f.offset, i.size)) with | some z, some places => Instr.fill (places.toArray[·]?) z.cells [(0, digestV seed), (1, .slice a n c)] | _, _ => none) = _
        rw [hz, hp']
        exact fillSt seed hs a n c
theorem stm_new (w : World) (seed : List UInt8) (h g c : Nat) (hs : seed.length = 32) (hh : h ≤ 4) (hc : 2 ^ h ≤ c) (R : DRow w (some ⟨g, 0, none⟩) (2 ^ h) (stampLeavesL seed (2 ^ h))) (hg : g < w.heap.size) (t : TypeId) :
    Stm (w.alloc (.cells (stV seed (some ⟨g, 0, none⟩) (2 ^ h) c).toArray t)) w.heap.size seed h 0 := by
  have hb : Below w.heap.size w (w.alloc (.cells (stV seed (some ⟨g, 0, none⟩) (2 ^ h) c).toArray t)) := (Below.refl _ _).alloc (Nat.le_refl _) _
  have hr := box_range w (stV seed (some ⟨g, 0, none⟩) (2 ^ h) c) t
  have hl : (cellsB seed).length = 32 := by rw [cellsB_length, hs]
  have hsz : (stV seed (some ⟨g, 0, none⟩) (2 ^ h) c).toArray.size = 34 := by simp [stV, hl]
  refine ⟨g, c, hh, Nat.zero_le _, hs, fun j v hj => hr j v ?_, ?_, hc, ?_, alloc_there _ _ _ 34 (by rw [hsz]; omega), R.below hb, by omega⟩
  · unfold stV
    rw [List.getElem?_append_left (by have := (List.getElem?_eq_some_iff.1 hj).1; exact this)]
    exact hj
  · have := hr 32 (.slice (some ⟨g, 0, none⟩) (2 ^ h) c) (by unfold stV; rw [List.getElem?_append_right (by omega), hl]; rfl)
    exact this
  · have := hr 33 (.int .i64 0) (by unfold stV; rw [List.getElem?_append_right (by omega), hl]; rfl)
    exact this
set_option maxRecDepth 100000 in
set_option maxHeartbeats 1000000 in
theorem wstamp_newout (seed : List UInt8) (h : Int) (w : World) (G : Env w) (hs : seed.length = 32) (hh : h < 0 ∨ 4 < h) (h1 : -9223372036854775808 ≤ h) (h2 : h ≤ 9223372036854775807) :
    Calls Tryd.prog 7 #[digestV seed, .int .i64 h] w fun e w' => e = .returned (.tuple #[.pointer none, .iface 30 (.int .i64 2)]) ∧ Below w.heap.size w w' := by
  obtain ⟨w2, hw2⟩ : ∃ w2, w.alloc (.cells (cellsB seed).toArray 23) = w2 := ⟨_, rfl⟩
  have HS2 : Hid (w2.heap.size = w.heap.size + 1) := by unfold Hid; rw [← hw2]; simp
  have HD2 : Hid (DAt w2 w.heap.size 0 seed) := by rw [← hw2]; exact box_dat w seed _
  have HB2 : Hid (Below w.heap.size w w2) := by rw [← hw2]; exact (Below.refl _ _).alloc (Nat.le_refl _) _
  clear G
  go_enter Tryd.func7, Tryd.ntmps7
  go_wp2_with (refine wpList_load_mid (by rfl) 23 (.tmp 2) (by rfl) w.heap.size 0 (by rfl) (cellsB seed) _ (by first | exact HD2.out | (rw [hw2]; exact HD2.out)) Tryd.underlying23 (by rfl) (by rw [cellsB_length, hs]; exact Tryd.sizeDg) ?_)
  try rw [hw2]
  clear hw2
  refine (wleaves_out seed h w2 hs hh h1 h2).mono ?_
  rintro e w3 ⟨rfl, hb3⟩
  have HB3 : Hid (Below w.heap.size w w3) := below_trans HB2.out hb3
  clear hb3 hh
  go_wp2_with fail
  go_ret2
  exact ⟨rfl, HB3.out⟩
set_option maxRecDepth 100000 in
set_option maxHeartbeats 1000000 in
theorem wstamp_new (seed : List UInt8) (h : Nat) (w : World) (G : Env w) (hs : seed.length = 32) (hh : h ≤ 4) :
    Calls Tryd.prog 7 #[digestV seed, .int .i64 (h : Int)] w fun e w' => (∃ g, e = .returned (.tuple #[.pointer (some ⟨g, 0, none⟩), .nilIface]) ∧ w.heap.size ≤ g ∧ Stm w' g seed h 0) ∧ Below w.heap.size w w' := by
  obtain ⟨w2, hw2⟩ : ∃ w2, w.alloc (.cells (cellsB seed).toArray 23) = w2 := ⟨_, rfl⟩
  have HS2 : Hid (w2.heap.size = w.heap.size + 1) := by unfold Hid; rw [← hw2]; simp
  have HD2 : Hid (DAt w2 w.heap.size 0 seed) := by rw [← hw2]; exact box_dat w seed _
  have HB2 : Hid (Below w.heap.size w w2) := by rw [← hw2]; exact (Below.refl _ _).alloc (Nat.le_refl _) _
  have HG : Hid (Env w2) := G.below HB2.out
  clear G
  go_enter Tryd.func7, Tryd.ntmps7
  go_wp2_with (refine wpList_load_mid (by rfl) 23 (.tmp 2) (by rfl) w.heap.size 0 (by rfl) (cellsB seed) _ (by first | exact HD2.out | (rw [hw2]; exact HD2.out)) Tryd.underlying23 (by rfl) (by rw [cellsB_length, hs]; exact Tryd.sizeDg) ?_)
  try rw [hw2]
  clear hw2
  refine (wleaves_any seed h w2 HG.out hs hh).mono ?_
  rintro e w3 ⟨⟨g, c, rfl, hg3, hc3, hr3⟩, hb3⟩
  have HD3 : Hid (DAt w3 w.heap.size 0 seed) := HD2.out.below hb3 (by have := HS2.out; omega)
  have hgl : g < w3.heap.size := cell_block ((hr3.at 0 (Stm.pow hh).1).cell 0 (by rw [hr3.len 0 (Stm.pow hh).1]; omega))
  have HN3 : Hid (Stm (w3.alloc (.cells (stV seed (some ⟨g, 0, none⟩) (2 ^ h) c).toArray 50)) w3.heap.size seed h 0) := stm_new w3 seed h g c hs hh hc3 hr3 hgl _
  have HB3 : Hid (Below w.heap.size w (w3.alloc (.cells (stV seed (some ⟨g, 0, none⟩) (2 ^ h) c).toArray 50)) ∧ w.heap.size ≤ w3.heap.size) := ⟨(below_trans HB2.out hb3).alloc (by have := hb3.size; have := HS2.out; omega) _, by have := hb3.size; have := HS2.out; omega⟩
  clear hr3 hb3 hg3 HG hgl
  obtain ⟨nn, hnn⟩ : ∃ nn, 2 ^ h = nn := ⟨_, rfl⟩
  have HNN : Hid (2 ^ h = nn) := hnn
  rw [hnn] at HN3 HB3 hc3 ⊢
  clear hnn
  obtain ⟨SV, hSV⟩ : ∃ SV, stV seed (some ⟨g, 0, none⟩) nn c = SV := ⟨_, rfl⟩
  have hbs : Hid (Tryd.prog.built 50 [(0, digestV seed), (1, .slice (some ⟨g, 0, none⟩) nn c)] = some SV.toArray) := by rw [← hSV]; exact Tryd.builtSt seed hs _ _ _
  rw [hSV] at HN3 HB3
  clear hSV
  go_wp2_with (first
    | (refine wpList_load_mid (by rfl) 23 (.tmp 2) (by rfl) w.heap.size 0 (by rfl) (cellsB seed) _ HD3.out Tryd.underlying23 (by rfl) (by rw [cellsB_length, hs]; exact Tryd.sizeDg) ?_)
    | (refine wpList_buildC (by rfl) 50 _ (by rfl) SV.toArray (by simp only [List.map_toArray, List.map_cons, List.map_nil, Act.eval]; exact hbs.out) ?_))
  go_ret2
  exact ⟨⟨_, rfl, HB3.out.2, HN3.out⟩, HB3.out.1⟩
end Go.Proofs.YtdgaimlccpmojaaDoor
/- The contracts of oathbookref1.Leaf, Node, Half and Long. -/
namespace Go.Proofs.YtdgaimlccpmojaaDoor
open Go.RowKit
set_option linter.unusedVariables false
set_option linter.unusedSimpArgs false

theorem Tryd.infoTu8 : (Tryd.prog.info? 5).map (fun i => (i.zero, i.size, i.bytes)) = some (some (.int .u8 0), 1, 1) := by kernel_rfl
set_option maxRecDepth 100000 in
set_option maxHeartbeats 1000000 in
theorem rnode_any (l r : List UInt8) (w : World) (hl : l.length = 32) (hr : r.length = 32) :
    Calls Tryd.prog 13 #[digestV l, digestV r] w fun e w' => e = .returned (digestV (nodeT l r)) ∧ Below w.heap.size w w' := by
  obtain ⟨iD, hiD, hzD0, hzD1, hzD2⟩ := info_parts Tryd.infoDg
  obtain ⟨w2, hw2⟩ : ∃ w2, ((w.alloc (.cells (cellsB l).toArray 23)).alloc (.cells (cellsB r).toArray 23)).alloc (.cells (cellsB zD).toArray 23) = w2 := ⟨_, rfl⟩
  have hs0 : (w.alloc (.cells (cellsB l).toArray 23)).heap.size = w.heap.size + 1 := by simp
  have hs1 : ((w.alloc (.cells (cellsB l).toArray 23)).alloc (.cells (cellsB r).toArray 23)).heap.size = w.heap.size + 1 + 1 := by simp
  have hs2 : w2.heap.size = w.heap.size + 1 + 1 + 1 := by rw [← hw2]; simp
  have HD2 : Hid (DAt w2 w.heap.size 0 l ∧ DAt w2 (w.heap.size + 1) 0 r) := by rw [← hw2]; exact ⟨World.rangeAt_alloc (World.rangeAt_alloc (box_dat w l _) _) _, World.rangeAt_alloc (box_rangeAt _ _ _ _ hs0) _⟩
  have HT2 : Hid (w2.there (w.heap.size + 1 + 1) 0 32) := by rw [← hw2]; exact alloc_thereAt _ _ _ 32 _ hs1 zD_size.symm
  have HB2 : Hid (Below w.heap.size w w2) := by rw [← hw2]; exact (((Below.refl _ _).alloc (Nat.le_refl _) _).alloc (by simp) _).alloc (by simp; omega) _
  have hb3 : Below w2.heap.size w2 (w2.alloc (.cells (cellsB (l ++ r)).toArray 23)) := (Below.refl _ _).alloc (Nat.le_refl _) _
  have HR3 : Hid (DRow (w2.alloc (.cells (cellsB (l ++ r)).toArray 23)) (some ⟨w.heap.size + 1 + 1 + 1, 0, none⟩) 2 [l, r]) := by rw [← hs2]; exact DRow.lit2 w2 l r _ hl hr
  have HB3 : Hid (Below w.heap.size w (w2.alloc (.cells (cellsB (l ++ r)).toArray 23))) := below_trans HB2.out hb3
  have HT3 : Hid ((w2.alloc (.cells (cellsB (l ++ r)).toArray 23)).there (w.heap.size + 1 + 1) 0 32) := there_below HT2.out hb3 (by omega)
  have HS3 : Hid ((w2.alloc (.cells (cellsB (l ++ r)).toArray 23)).heap.size = w.heap.size + 1 + 1 + 1 + 1) := by unfold Hid; simp [hs2]
  clear hb3
  go_enter Tryd.func13, Tryd.ntmps13
  go_wp2_with (first
    | (refine wpList_allocE (by rfl) 23 (by rfl) (cellsB zD).toArray Tryd.zeroDg (w.heap.size + 1 + 1) hs1 w2 hw2 ?_)
    | (refine wpList_load_mid (by rfl) 23 (.tmp 2) (by rfl) w.heap.size 0 (by rfl) (cellsB l) _ HD2.out.1 Tryd.underlying23 (by rfl) (by rw [cellsB_length, hl]; exact Tryd.sizeDg) ?_)
    | (refine wpList_load_mid (by rfl) 23 (.tmp 3) (by rfl) (w.heap.size + 1) 0 (by rfl) (cellsB r) _ HD2.out.2 Tryd.underlying23 (by rfl) (by rw [cellsB_length, hr]; exact Tryd.sizeDg) ?_)
    | (refine wpList_build2 (by rfl) (.tmp 5) (.tmp 6) 24 (by rfl) 23 (.agg zeros32) iD l r hl hr (by rfl) (by rfl) Tryd.underlying24 hiD hzD0 (by rfl) hzD1 ?_))
  try rw [hs2]
  refine (rof_any 1 _ 2 2 [l, r] _ HR3.out (by omega)).mono ?_
  rintro e w4 ⟨rfl, hb4⟩
  have hE : shaL (1 :: [l, r].flatten) = nodeT l r := by simp [nodeT]
  rw [hE]
  have HB4 : Hid (Below w.heap.size w w4) := below_trans HB3.out hb4
  have HT4 : Hid (w4.there (w.heap.size + 1 + 1) 0 32) := there_below HT3.out hb4 (by have := HS3.out; omega)
  have hlen := nodeT_length l r
  clear hb4 HB2 HT2 HD2 hw2 hs2 hs1 hs0 HR3 HB3 HT3 hE HS3
  generalize hD : nodeT l r = D at *
  have HD : Hid (nodeT l r = D) := hD
  clear hD
  go_wp2_with (refine wpList_store_mid (by rfl) 23 (.tmp 4) (.tmp 8) (by rfl) (w.heap.size + 1 + 1) 0 (cellsB D).toArray (by rfl) (by rfl) (by rw [cellsB_size, hlen]; exact HT4.out) (by rw [cellsB_size, hlen]; exact Tryd.sizeDg) (all_oneCell_toArray (cellsB_one _)) ?_)
  refine bodyPost_ret (v := digestV D) (run_results_row Tryd.results13 _ _ (w.heap.size + 1 + 1) 0 (by rfl) (cellsB D) (World.rangeAt_setCells_same _ _ _ _ (by rw [cellsB_length, hlen]; exact HT4.out)) _ Tryd.underlying23 (by rfl) (by rw [cellsB_length, hlen]; exact Tryd.sizeDg)) rfl ⟨by rw [HD.out], ?_⟩
  exact below_setCells _ (by omega) _ _ _ HB4.out

end Go.Proofs.YtdgaimlccpmojaaDoor
/- The contracts of oathbookref1.Long and Root: they call themselves. -/
namespace Go.Proofs.YtdgaimlccpmojaaDoor
open Go.RowKit
set_option linter.unusedVariables false
set_option linter.unusedSimpArgs false

end Go.Proofs.YtdgaimlccpmojaaDoor
/- The contracts of oathbookref1.Path and Folded: they call themselves. -/
namespace Go.Proofs.YtdgaimlccpmojaaDoor
open Go.RowKit
set_option linter.unusedVariables false
set_option linter.unusedSimpArgs false

theorem wrapT (n : Nat) (h : n < 9223372036854775808) : IntKind.i64.wrap (n : Int) = n := by
  simp only [IntKind.wrap, IntKind.bits, IntKind.signed, Bool.true_and]
  rw [if_neg (by simp; omega)]
  omega
theorem OwnD.lower {w : World} {B B' : Nat} {v : Value} {ls : List (List UInt8)} (h : OwnD w B v ls) (hb : B' ≤ B) : OwnD w B' v ls := by
  refine ⟨h.1, ?_⟩
  have h := h.2
  rcases h.2 with ⟨h1, h0⟩ | ⟨g, cap, cur, e1, e2, e3, e4⟩
  · exact ⟨h.1, .inl ⟨h1, h0⟩⟩
  · exact ⟨h.1, .inr ⟨g, cap, cur, e1, Nat.le_trans hb e2, e3, e4⟩⟩

end Go.Proofs.YtdgaimlccpmojaaDoor
