/- Texts of this claim, joined: Wjoins, Wshare, Enoughp, OwnI. -/
import Derived.Test.YtghiniaijobonaaDoorJ13
import Derived.Test.YtghiniaijobonaaDoorJ07
import Derived.Test.YtghiniaijobonaaDoorJ12
import Derived.Test.YtghiniaijobonaaDoorJ09
import Derived.Test.YtghiniaijobonaaDoorJ02
/- The contracts of share.Join. -/
namespace Go.Proofs.YtghiniaijobonaaDoor
open Go.RowKit
set_option linter.unusedVariables false
set_option linter.unusedSimpArgs false

set_option maxRecDepth 100000 in
set_option maxHeartbeats 2000000 in
theorem wjoin_out (a : Option Addr) (n c : Nat) (ss : List Shr) (q : Int) (w : World) (R : SRow w a n ss) (hc : n ≤ c) (hn : n ≤ 140737488351232) (hf : joinE ss = q) (hq : q ≠ 0) :
    Calls Tryd.prog 6 #[.slice a n c] w fun r w' => (∃ a' c', r = .returned (.tuple #[.slice a' 0 c', .iface 51 (.int .i64 q)])) ∧ Below w.heap.size w w' := by
  have hcall := wcanjoin_any a n c ss q w R hc hn hf
  have e : errV q = .iface 51 (.int .i64 q) := if_neg hq
  rw [e] at hcall
  have HCL : Hid (Calls Tryd.prog 14 #[.slice a n c] w fun e w' => e = .returned (.iface 51 (.int .i64 q)) ∧ Below w.heap.size w w') := hcall
  clear hcall e R hf hq
  go_enter Tryd.func6, Tryd.ntmps6
  go_wp2_with fail
  refine HCL.out.mono ?_
  rintro e w1 ⟨rfl, hb1⟩
  go_wp2_with fail
  go_ret2
  exact ⟨⟨none, 0, rfl⟩, hb1⟩

set_option maxRecDepth 100000 in
set_option maxHeartbeats 2000000 in
theorem wjoin_in (a : Option Addr) (n c : Nat) (ss : List Shr) (w : World) (R : SRow w a n ss) (hc : n ≤ c) (hf : joinE ss = 0) :
    Calls Tryd.prog 6 #[.slice a n c] w fun r w' => (∃ a' c' l, r = .returned (.tuple #[.slice a' l.length c', .nilIface]) ∧ l.length ≤ c' ∧ Row w' a' l.length l ∧ joinedP ss 0 l) ∧ Below w.heap.size w w' := by
  obtain ⟨hp0, hl20, hsf⟩ := joinE_ok hf
  obtain ⟨hall, hnd⟩ := sfault_ok hsf
  have hl := R.1
  rw [hl] at hp0 hl20
  have HCL : Hid (Calls Tryd.prog 14 #[.slice a n c] w fun e w' => e = .returned .nilIface ∧ Below w.heap.size w w') := wcanjoin_any a n c ss 0 w R hc (by omega) hf
  have HAT : Hid (∀ wx, Below w.heap.size w wx → Calls Tryd.prog 15 #[.slice a n c, .int .u8 0] wx fun r w' => (∃ d F, r = .returned (.slice (some ⟨d, 0, none⟩) F F) ∧ wx.heap.size ≤ d ∧ d < w'.heap.size ∧ F = (ss.getD 0 noS).2.length ∧ F ≤ 140737488351232 ∧ Row w' (some ⟨d, 0, none⟩) F (mixL ss 0 F n 0) ∧ joinedP ss 0 (mixL ss 0 F n 0)) ∧ Below wx.heap.size wx w') := fun wx hx => wat_any a n c ss 0 wx (R.below hx) hp0 hl20 (by omega) hnd (fun s hs => (hall s hs).2.2)
  clear hall hnd hsf hf R hl hp0 hl20
  go_enter Tryd.func6, Tryd.ntmps6
  go_wp2_with fail
  refine HCL.out.mono ?_
  rintro e w1 ⟨rfl, hb1⟩
  have HA1 := HAT.out w1 hb1
  have HA1 : Hid (Calls Tryd.prog 15 #[.slice a n c, .int .u8 0] w1 fun r w' => (∃ d F, r = .returned (.slice (some ⟨d, 0, none⟩) F F) ∧ w1.heap.size ≤ d ∧ d < w'.heap.size ∧ F = (ss.getD 0 noS).2.length ∧ F ≤ 140737488351232 ∧ Row w' (some ⟨d, 0, none⟩) F (mixL ss 0 F n 0) ∧ joinedP ss 0 (mixL ss 0 F n 0)) ∧ Below w1.heap.size w1 w') := HA1
  have HB1 : Hid (Below w.heap.size w w1) := hb1
  clear hb1 HCL HAT
  go_wp2_with fail
  refine HA1.out.mono ?_
  rintro e w2 ⟨⟨d, F, rfl, hd1, hd2, hF, _, hr, hj⟩, hb2⟩
  have HR2 : Hid (Row w2 (some ⟨d, 0, none⟩) F (mixL ss 0 F n 0)) := hr
  have HJP : Hid (joinedP ss 0 (mixL ss 0 F n 0)) := hj
  have HML : Hid ((mixL ss 0 F n 0).length = F) := mixL_length _ _ _ _ _
  have HB2 : Hid (Below w.heap.size w w2) := HB1.out.trans (hb2.mono HB1.out.size)
  clear hr hj hb2 hd1 hd2 hF HA1
  go_wp2_with fail
  go_ret2
  exact ⟨⟨some ⟨d, 0, none⟩, F, mixL ss 0 F n 0, by rw [HML.out]; rfl, by rw [HML.out]; exact Nat.le_refl _, by rw [HML.out]; exact HR2.out, HJP.out⟩, HB2.out⟩
theorem wshare_join (a : Option Addr) (n c : Nat) (ss : List Shr) (w : World) (G : Env w) (R : SRow w a n ss) (hc : n ≤ c) (hf : joinE ss = 0) :
    Calls Tryd.prog 6 #[.slice a n c] w fun r w' => (∃ a' c' l, r = .returned (.tuple #[.slice a' l.length c', .nilIface]) ∧ l.length ≤ c' ∧ Row w' a' l.length l ∧ joinedP ss 0 l) ∧ Below w.heap.size w w' :=
  wjoin_in a n c ss w R hc hf
theorem wshare_joinout (a : Option Addr) (n c : Nat) (ss : List Shr) (q : Int) (w : World) (G : Env w) (R : SRow w a n ss) (hc : n ≤ c) (hn : n ≤ 140737488351232) (hf : joinE ss = q) (hq : q ≠ 0) :
    Calls Tryd.prog 6 #[.slice a n c] w fun r w' => (∃ a' c', r = .returned (.tuple #[.slice a' 0 c', .iface 51 (.int .i64 q)])) ∧ Below w.heap.size w w' :=
  wjoin_out a n c ss q w R hc hn hf hq
end Go.Proofs.YtghiniaijobonaaDoor
/- The contracts of package share, as landed at 5f1e105. -/
/- Plain facts: so many shares are enough. -/
namespace Go.Proofs.YtghiniaijobonaaDoor
open Go.RowKit
set_option linter.unusedVariables false
set_option linter.unusedSimpArgs false

theorem split_eleven : splitL [9] [[1]] 2 = [(1, [8]), (2, [11])] := by decide +kernel
theorem splitE_eleven : splitE 1 2 [[1]] = 0 := by decide
theorem dataS_at (secret : List UInt8) (ls : List (List UInt8)) (k m i : Nat) (h : i < m) : ((dataS secret ls k m).getD i 0).toNat = shareN secret ls k i := by
  unfold dataS
  rw [List.getD_eq_getElem?_getD, List.getElem?_map, List.getElem?_range h]
  show (UInt8.ofNat (shareN secret ls k i)).toNat = _
  rw [UInt8.toNat_ofNat']
  have := shareN_lt secret ls k i
  omega
/-- Shares of one secret, more than there are rows. -/
theorem enough {secret : List UInt8} {ls : List (List UInt8)} {ss : List Shr} {l : List UInt8} (h1 : ∀ s ∈ ss, s.1 < 256 ∧ s = (s.1, dataS secret ls s.1 secret.length)) (h2 : (ss.map (·.1)).Nodup) (h3 : ls.length + 1 ≤ ss.length) (h : joinedP ss 0 l) : l = secret := by
  have h0 : 0 < ss.length := by omega
  have hg : ∀ i, i < ss.length → ss.getD i noS ∈ ss := fun i hi => by
    rw [List.getD_eq_getElem?_getD, List.getElem?_eq_getElem hi]
    exact List.getElem_mem _
  have hl : l.length = secret.length := by
    rw [h.1, (h1 _ (hg 0 h0)).2]
    exact dataS_length _ _ _ _
  refine nb_inj ?_
  apply List.ext_getElem
  · rw [nb_len, nb_len, hl]
  · intro k a b
    have hk : k < l.length := by rwa [nb_len] at a
    have hi := h.2 k hk
    have hr := shamir (at' := ss.map (·.1)) (v := colN ss k) (c := nb (polyC secret ls k)) (x := 0) (places_bys fun s hs => (h1 s hs).1) h2 (by omega) (nb_bys _) (by rw [nb_len, polyC_length, List.length_map]; exact h3) (fun i hi => by
      rw [List.length_map] at hi
      have hs := (h1 _ (hg i hi)).2
      have e1 : (colN ss k).getD i 0 = ((ss.getD i noS).2.getD k 0).toNat := by
        unfold colN
        simp [List.getD_eq_getElem?_getD, List.getElem?_eq_getElem hi]
      have e2 : (ss.map (·.1)).getD i 0 = (ss.getD i noS).1 := by
        simp [List.getD_eq_getElem?_getD, List.getElem?_eq_getElem hi]
      rw [e1, e2, hs]
      exact dataS_at secret ls _ _ _ (by omega)) hi
    have e3 : polyv (nb (polyC secret ls k)) 0 = (secret.getD k 0).toNat := by
      unfold polyC nb
      rw [List.map_cons, polyv_0]
    rw [e3] at hr
    have e4 : (nb secret).getD k 0 = (secret.getD k 0).toNat := nb_at secret k
    rw [← e4, List.getD_eq_getElem?_getD, List.getD_eq_getElem?_getD, List.getElem?_eq_getElem a, List.getElem?_eq_getElem b] at hr
    exact hr
/-- The shares at the places of an order. -/
def pickS (ss : List Shr) (l : List Int) (i : Nat) : List Shr := (List.range i).map fun j => ss.getD (l.getD j 0).toNat noS
theorem pickS_len (ss : List Shr) (l : List Int) (i : Nat) : (pickS ss l i).length = i := by simp [pickS]
theorem pickS_succ (ss : List Shr) (l : List Int) (i : Nat) : pickS ss l (i + 1) = pickS ss l i ++ [ss.getD (l.getD i 0).toNat noS] := by
  unfold pickS
  rw [List.range_succ, List.map_append]
  rfl
theorem pickS_all {secret : List UInt8} {ls : List (List UInt8)} {N n : Nat} {l : List Int} (hN : N ≤ 20) (hr : ∀ j, j < n → 0 ≤ l.getD j 0 ∧ l.getD j 0 < (N : Int)) (hd : ∀ i j, i < n → j < i → l.getD j 0 ≠ l.getD i 0) :
    (∀ s ∈ pickS (splitL secret ls N) l n, (1 ≤ s.1 ∧ s.1 ≤ 20) ∧ s = (s.1, dataS secret ls s.1 secret.length)) ∧ ((pickS (splitL secret ls N) l n).map (·.1)).Nodup := by
  have at' : ∀ j, j < n → (splitL secret ls N).getD (l.getD j 0).toNat noS = ((l.getD j 0).toNat + 1, dataS secret ls ((l.getD j 0).toNat + 1) secret.length) := fun j hj => splitL_at secret ls N _ (by have := hr j hj; omega)
  refine ⟨fun s hs => ?_, ?_⟩
  · obtain ⟨j, hj, rfl⟩ := List.mem_map.1 hs
    have hj' := List.mem_range.1 hj
    rw [at' j hj']
    have := hr j hj'
    exact ⟨⟨by show 1 ≤ (l.getD j 0).toNat + 1; omega, by show (l.getD j 0).toNat + 1 ≤ 20; omega⟩, rfl⟩
  · unfold pickS
    rw [List.map_map]
    refine List.pairwise_map.2 ?_
    refine List.Pairwise.imp_of_mem ?_ (List.pairwise_lt_range (n := n))
    intro i j hi hj hij e
    have hi' := List.mem_range.1 hi
    have hj' := List.mem_range.1 hj
    have e' : ((splitL secret ls N).getD (l.getD i 0).toNat noS).1 = ((splitL secret ls N).getD (l.getD j 0).toNat noS).1 := e
    rw [at' i hi', at' j hj'] at e'
    have e2 : (l.getD i 0).toNat + 1 = (l.getD j 0).toNat + 1 := e'
    have h1 := hr i hi'
    have h2 := hr j hj'
    exact hd j i hj' hij (by omega)
theorem sfaultG_none {least most first : Nat} : ∀ (r seen : List Shr), (∀ s ∈ r, least ≤ s.1 ∧ s.1 ≤ most ∧ s.2.length = first) → ((seen ++ r).map (·.1)).Nodup → sfaultG least most first seen r = 0
  | [], _, _, _ => rfl
  | s :: r, seen, h, hn => by
    have hs := h s (List.mem_cons_self ..)
    unfold sfaultG
    rw [if_neg (by omega), if_neg ?_, if_neg (by omega)]
    · exact sfaultG_none r (seen ++ [s]) (fun t ht => h t (List.mem_cons_of_mem _ ht)) (by rw [List.append_assoc]; exact hn)
    · intro c
      obtain ⟨z, hz, e⟩ := List.any_eq_true.1 c
      have e : z.1 = s.1 := by simpa using e
      rw [List.map_append, List.nodup_append] at hn
      exact hn.2.2 z.1 (List.mem_map.2 ⟨z, hz, rfl⟩) s.1 (List.mem_map.2 ⟨s, List.mem_cons_self .., rfl⟩) e
theorem joinE_none {ss : List Shr} {F : Nat} (h1 : 1 ≤ ss.length) (h2 : ss.length ≤ 20) (h : ∀ s ∈ ss, (1 ≤ s.1 ∧ s.1 ≤ 255) ∧ s.2.length = F) (hn : (ss.map (·.1)).Nodup) : joinE ss = 0 := by
  unfold joinE
  rw [if_neg (by omega)]
  have hF : (ss.getD 0 noS).2.length = F := by
    refine (h _ ?_).2
    rw [List.getD_eq_getElem?_getD, List.getElem?_eq_getElem (show 0 < ss.length by omega)]
    exact List.getElem_mem _
  unfold sfault
  rw [hF]
  exact sfaultG_none ss [] (fun s hs => ⟨(h s hs).1.1, (h s hs).1.2, (h s hs).2⟩) (by simpa using hn)
end Go.Proofs.YtghiniaijobonaaDoor
/- Slices of ints: read, and rows that a call itself made and appends to. -/
namespace Go.Proofs.YtghiniaijobonaaDoor
open Go.RowKit
set_option linter.unusedVariables false
set_option linter.unusedSimpArgs false

def cellsI (l : List Int) : List Value := l.map fun x => Value.int .i64 x
theorem cellsI_length (l : List Int) : (cellsI l).length = l.length := by simp [cellsI]
theorem cellsI_append (l r : List Int) : cellsI (l ++ r) = cellsI l ++ cellsI r := by simp [cellsI]
theorem cellsI_at (l : List Int) (i : Nat) (h : i < l.length) : (cellsI l)[i]? = some (.int .i64 (l.getD i 0)) := by
  unfold cellsI
  simp [List.getElem?_eq_getElem h, List.getD_eq_getElem?_getD]
theorem cellsI_one (l : List Int) : ∀ u ∈ cellsI l, u.oneCell' = true := by
  intro u hu
  obtain ⟨i, _, rfl⟩ := List.mem_map.1 hu
  rfl
/-- A slice of n ints at a reads as the list l. -/
def IRow (w : World) (a : Option Addr) (n : Nat) (l : List Int) : Prop :=
  l.length = n ∧ (n = 0 ∨ ∃ b o, a = some ⟨b, o, none⟩ ∧ ∀ i, i < n → w.cell? ⟨b, o + i, none⟩ = some (.int .i64 (l.getD i 0)))
theorem IRow.nil (w : World) : IRow w none 0 [] := ⟨rfl, .inl rfl⟩
theorem IRow.below {w w' : World} {a : Option Addr} {n : Nat} {l : List Int} (h : IRow w a n l) (hb : Below w.heap.size w w') : IRow w' a n l := by
  obtain ⟨h1, h2⟩ := h
  refine ⟨h1, ?_⟩
  rcases h2 with h2 | ⟨b, o, ha, hc⟩
  · exact .inl h2
  · exact .inr ⟨b, o, ha, fun i hi => (hb.cell (p := ⟨b, o + i, none⟩) (cell_block (hc i hi))).trans (hc i hi)⟩
theorem IRow.lit (w : World) (cs : Array Value) (t : TypeId) (l : List Int) (h : cs.toList = cellsI l) (n : Nat) (hn : l.length = n) : IRow (w.alloc (.cells cs t)) (some ⟨w.heap.size, 0, none⟩) n l := by
  refine ⟨hn, .inr ⟨w.heap.size, 0, rfl, fun i hi => ?_⟩⟩
  have hb : (w.alloc (.cells cs t)).heap[w.heap.size]? = some (.cells cs t) := by
    show (w.heap.push _)[w.heap.size]? = _
    simp
  have := cellsI_at l i (by omega)
  rw [← h] at this
  unfold World.cell?
  rw [hb, Nat.zero_add]
  simpa using this
/-- The call's own slice of ints v reads as l. -/
def OwnI (w : World) (B : Nat) (v : Value) (l : List Int) : Prop := w.ownsRow B 3 1 v l.length (cellsI l)
theorem OwnI.nil (w : World) (B : Nat) : OwnI w B (.slice none 0 0) [] := World.ownsRow_nil _ _ _ _
theorem OwnI.form {w : World} {B : Nat} {v : Value} {l : List Int} (h : OwnI w B v l) : ∃ a cap, v = .slice a l.length cap ∧ IRow w a l.length l ∧ l.length ≤ cap := by
  rcases h.2 with ⟨rfl, h0⟩ | ⟨g, cap, cur, rfl, h1, h2, h3, _⟩
  · exact ⟨none, 0, by rw [h0], ⟨rfl, .inl h0⟩, by omega⟩
  · refine ⟨_, cap, rfl, ⟨rfl, .inr ⟨g, 0, rfl, fun i hi => ?_⟩⟩, h3⟩
    rw [Nat.zero_add, World.ownsRow.cellAt h i (by omega), cellsI_at l i hi]
theorem OwnI.below {w w' : World} {B : Nat} {v : Value} {l : List Int} (h : OwnI w B v l) (hb : Below w.heap.size w w') : OwnI w' B v l := by
  rcases h.2 with ⟨h1, h0⟩ | ⟨g, cap, cur, e1, e2, e3, e4⟩
  · exact ⟨h.1, .inl ⟨h1, h0⟩⟩
  · have hg : g < w.heap.size := (World.ownsRow.lt h g (by rw [e1]; rfl)).2
    exact ⟨h.1, .inr ⟨g, cap, cur, e1, e2, (hb.block g hg).trans e3, e4⟩⟩
theorem OwnI.grown {w w0 w' : World} {B B0 : Nat} {v : Value} {l : List Int} (h : OwnI w B v l) (hb : Below B0 w0 w) (hg : w.grownBy w' v.ownBlock) (h0 : B0 ≤ B) (hs : B0 ≤ w.heap.size) : Below B0 w0 w' :=
  hb.grown hg hs (fun k hk => Nat.le_trans h0 (World.ownsRow.lt h k hk).1)
theorem OwnI.alloc {w : World} {B : Nat} {v : Value} {l : List Int} (h : OwnI w B v l) (o : Obj) : OwnI (w.alloc o) B v l := h.below ((Below.refl _ _).alloc (Nat.le_refl _) _)
theorem Tryd.infoIntO : (Tryd.prog.info? 3).map (fun i => (i.zero, i.size, i.bytes)) = some (some (.int .i64 0), 1, 8) := by kernel_rfl
/-- 'append(v, x...)', v the call's own row of ints, x a slice of some. -/
theorem wpList_append_ints {w : World} {ops : Array Oper} {rest : List Oper} {o : Oper} {a : Act} {Q : Exit → Act → World → Prop} (hgd : o.guard = none) (s x : Operand)
    (ho : o.op = .call { callee := .builtin .append, args := #[s, x], argTypes := #[25, 25] })
    (base : Nat) (v : Value) (l : List Int) (hs : a.eval s = v) (hown : OwnI w base v l)
    (ad : Addr) (n c : Nat) (r : List Int) (hx : a.eval x = .slice (some ad) n c) (hr : IRow w (some ad) n r) (hn0 : 0 < n) (h47 : (l.length + n) * 8 ≤ 140737488355328) (hbase : base ≤ w.heap.size)
    (h : ∀ v' w', OwnI w' base v' (l ++ r) → w.grownBy w' v.ownBlock → (v'.ownBlock = v.ownBlock ∨ v'.ownBlock = some w.heap.size) → wpList Tryd.prog ops Q rest (a.put o.dst v') w') : wpList Tryd.prog ops Q (o :: rest) a w := by
  obtain ⟨i0, hi, hz0, hz1, hz2⟩ := info_parts Tryd.infoIntO
  obtain ⟨hl, h1 | ⟨b, off, e1, hc⟩⟩ := hr
  · omega
  cases e1
  refine wpList_append_own_at w hgd s x 25 ho base 3 i0 (.int .i64 0) 1 8 Tryd.underlying25 hi hz0 hz1 hz2 rfl (by decide) v l.length (cellsI l) hs hown ⟨b, off, none⟩ n c (cellsI r) hx (by rw [cellsI_length, hl]; omega) ?_ (cellsI_one _) (by unfold maxLen; omega) h47 hbase ?_
  · intro j u hj
    have hj' : j < r.length := by have := (List.getElem?_eq_some_iff.1 hj).1; rwa [cellsI_length] at this
    rw [Go.WideShapes.add_plain, hc j (by omega), ← hj, cellsI_at r j hj']
  · intro v' w' hown' hgrow _ hat
    refine h v' w' ?_ hgrow hat
    unfold OwnI
    rw [List.length_append, cellsI_append, hl]
    exact hown'
end Go.Proofs.YtghiniaijobonaaDoor
