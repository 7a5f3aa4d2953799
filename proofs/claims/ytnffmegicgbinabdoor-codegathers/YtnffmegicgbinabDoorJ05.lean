/- Texts of this claim, joined: Till, Rthrough, Rjoined, Joinp. -/
import Derived.Test.YtnffmegicgbinabDoorJ04
import Derived.Deep.RegionHeld
import Derived.Test.YtnffmegicgbinabDoorJ03
import Derived.Deep.RegionHeld3
import Derived.Deep.DeepCutAuto
import Derived.Laws.BitsAllLaws
import Derived.Test.YtnffmegicgbinabDoorJ01
/- A region that draws its order, and whose last operation (it waits for all others) writes what was loaded: a condition on the world that holds behind each operation but the last. No theorem of the program. -/
namespace Go.Proofs.YtnffmegicgbinabDoor
open Go.RowKit
set_option linter.unusedVariables false
set_option linter.unusedSimpArgs false
section
variable {P : Program} {ops : Array Oper} {Q : Exit → Act → World → Prop} {md : Region.Mode} {S : World → Prop} {last : Nat}

def wpAnyT (P : Program) (md : Region.Mode) (ops : Array Oper) (Q : Exit → Act → World → Prop) (S : World → Prop) (last : Nat) : Nat → Array Bool → Act → World → Prop
  | 0, listed, a, w => Region.ready md ops listed = [] ∧ Q .normal a w
  | fuel + 1, listed, a, w =>
    (Region.ready md ops listed = [] → Q .normal a w) ∧
    ∀ i ∈ Region.ready md ops listed, wpOp P ops Q i (fun a' w' => (i ≠ last → S w') ∧ wpAnyT P md ops Q S last fuel (listed.setIfInBounds i true) a' w') a w
theorem wpAny_of_till : ∀ (fuel : Nat) (listed : Array Bool) (a : Act) (w : World), wpAnyT P md ops Q S last fuel listed a w → wpAny P md ops Q fuel listed a w
  | 0, _, _, _, h => h
  | fuel + 1, _, _, _, h => ⟨h.1, fun i hi => wpOp_mono (fun a' w' h' => wpAny_of_till fuel _ a' w' h'.2) (h.2 i hi)⟩
/-- The last one waits for i. -/
def lastWaits (md : Region.Mode) (ops : Array Oper) (last i : Nat) : Bool := match ops[last]? with
  | none => false
  | some o => o.after.toList.any fun e => Region.binds md e && e.on == i
theorem lastWaits_spec {i : Nat} {listed : Array Bool} (h : lastWaits md ops last i = true) (hi : listed.getD i true = false) : last ∉ Region.ready md ops listed := by
  intro hl
  obtain ⟨_, o, ho, hall⟩ := mem_ready.1 hl
  unfold lastWaits at h
  rw [ho] at h
  obtain ⟨e, he, hb⟩ := List.any_eq_true.1 h
  simp only [Bool.and_eq_true, beq_iff_eq] at hb
  have := hall e (Array.mem_toList_iff.1 he) hb.1
  rw [hb.2] at this
  rcases Nat.lt_or_ge i listed.size with h' | h'
  · simp [h'] at hi this; rw [hi] at this; cases this
  · simp [Array.getElem?_eq_none h'] at this
theorem wpAnyT_first {i : Nat} {oi : Oper} {v : Value} (hi : ops[i]? = some oi) (hsel : ∀ (j : Nat) (o : Oper) cs b, ops[j]? = some o → o.op ≠ .select cs b)
    (hQ : ∀ c a w, Q (.panic c) (a.put oi.dst v) w → Q (.panic c) a w) (hw8 : lastWaits md ops last i = true) :
    ∀ (fuel : Nat) (listed : Array Bool) (a : Act) (w : World),
      (∀ j oj, ops[j]? = some oj → j ≠ i → listed.getD j true = false → (∀ e ∈ oj.after, Region.binds md e = true → e.on ≠ i) → oi.apart ops oj = true) →
      i ∈ Region.ready md ops listed → YieldsIf P ops S oi v a → S w →
      wpAnyT P md ops Q S last fuel (listed.setIfInBounds i true) (a.put oi.dst v) w → wpAnyT P md ops Q S last (fuel + 1) listed a w := by
  intro fuel
  induction fuel with
  | zero =>
    intro listed a w _ hr hy hS H
    refine ⟨fun h => (by rw [h] at hr; cases hr), fun j hj => ?_⟩
    by_cases hji : j = i
    · subst hji; exact hy.wpOp hi hS ⟨fun _ => hS, H⟩
    · have := ready_mono hj hji
      rw [H.1] at this
      cases this
  | succ fuel ih =>
    intro listed a w hfree hr hy hS H
    refine ⟨fun h => (by rw [h] at hr; cases hr), fun j hj => ?_⟩
    by_cases hji : j = i
    · subst hji; exact hy.wpOp hi hS ⟨fun _ => hS, H⟩
    · have hjl : j ≠ last := fun e => lastWaits_spec hw8 (mem_ready.1 hr).1 (e ▸ hj)
      have h1 := H.2 j (ready_mono hj hji)
      obtain ⟨hjun, oj, hoj, hall⟩ := mem_ready.1 hj
      have hnot : ∀ e ∈ oj.after, Region.binds md e = true → e.on ≠ i := fun e he hb heq => by
        have h1 := hall e he hb
        have h0 := (mem_ready.1 hr).1
        rw [heq] at h1
        rcases Nat.lt_or_ge i listed.size with h' | h'
        · simp [h'] at h0 h1; rw [h0] at h1; cases h1
        · simp [Array.getElem?_eq_none h'] at h1
      have h2 := wpOp_putIf hoj (hfree j oj hoj hji hjun hnot) (fun cs b => hsel i oi cs b hi) (fun cs b => hsel j oj cs b hoj) hQ hy h1
      have hfree' : ∀ k ok, ops[k]? = some ok → k ≠ i → (listed.setIfInBounds j true).getD k true = false →
          (∀ e ∈ ok.after, Region.binds md e = true → e.on ≠ i) → oi.apart ops ok = true := fun k ok hk hki hun hno => by
        refine hfree k ok hk hki ?_ hno
        by_cases hjk : j = k
        · subst hjk; exact hjun
        · rw [getD_set_ne true hjk] at hun; exact hun
      refine wpOp_mono (fun a' w' h3 => ⟨h3.2.1, ih (listed.setIfInBounds j true) a' w' hfree' (ready_mono hr (Ne.symm hji)) h3.1 (h3.2.1 hjl) ?_⟩) h2
      rw [Array.setIfInBounds_comm _ _ hji]
      exact h3.2.2
theorem wpAnyT_take {i : Nat} {oi : Oper} {v : Value} {fuel : Nat} {listed : Array Bool} {a : Act} {w : World} (hi : ops[i]? = some oi)
    (hs : Region.noSelect ops = true) (hf : Region.free md ops listed i = true) (hr : (Region.ready md ops listed).contains i = true) (hw8 : lastWaits md ops last i = true)
    (hQ : ∀ c a w, Q (.panic c) (a.put oi.dst v) w → Q (.panic c) a w) (hy : YieldsIf P ops S oi v a) (hS : S w)
    (h : wpAnyT P md ops Q S last fuel (listed.setIfInBounds i true) (a.put oi.dst v) w) : wpAnyT P md ops Q S last (fuel + 1) listed a w :=
  wpAnyT_first hi (Region.noSelect_spec hs) hQ hw8 fuel listed a w (Region.free_spec hi hf) (by simpa using hr) hy hS h
def AllReadyT (P : Program) (md : Region.Mode) (ops : Array Oper) (Q : Exit → Act → World → Prop) (S : World → Prop) (last : Nat) (fuel : Nat) (listed : Array Bool) (a : Act) (w : World) (rs : List Nat) : Prop :=
  ∀ i ∈ rs, wpOp P ops Q i (fun a' w' => (i ≠ last → S w') ∧ wpAnyT P md ops Q S last fuel (listed.setIfInBounds i true) a' w') a w
theorem AllReadyT.nil {fuel : Nat} {listed : Array Bool} {a : Act} {w : World} : AllReadyT P md ops Q S last fuel listed a w [] := fun _ h => by cases h
theorem AllReadyT.cons {fuel : Nat} {listed : Array Bool} {a : Act} {w : World} {i : Nat} {o : Oper} {rs : List Nat} (ho : ops[i]? = some o)
    (h : ∀ K' : Act → World → Prop, Shut (∀ a w, S w → (S w → wpAnyT P md ops Q S last fuel (listed.setIfInBounds i true) a w) → K' a w) → if Region.wanted o (yielded ops a.tmps) = true then Oper.wp P o a w K' Q else K' (a.put o.dst undef) w)
    (hs : AllReadyT P md ops Q S last fuel listed a w rs) : AllReadyT P md ops Q S last fuel listed a w (i :: rs) := fun j hj => by
  rcases List.mem_cons.1 hj with rfl | hj
  · exact wpOp_step ho (fun K' hK => h K' (fun a w hS hW => hK a w ⟨fun _ => hS, hW hS⟩))
  · exact hs j hj
/-- The last one: behind it nothing is asked of the world. -/
theorem AllReadyT.lastly {fuel : Nat} {listed : Array Bool} {a : Act} {w : World} {i : Nat} {o : Oper} {rs : List Nat} (ho : ops[i]? = some o) (hl : last = i)
    (h : ∀ K' : Act → World → Prop, Shut (∀ a w, wpAnyT P md ops Q S last fuel (listed.setIfInBounds i true) a w → K' a w) → if Region.wanted o (yielded ops a.tmps) = true then Oper.wp P o a w K' Q else K' (a.put o.dst undef) w)
    (hs : AllReadyT P md ops Q S last fuel listed a w rs) : AllReadyT P md ops Q S last fuel listed a w (i :: rs) := fun j hj => by
  rcases List.mem_cons.1 hj with rfl | hj
  · exact wpOp_step ho (fun K' hK => h K' (fun a w hW => hK a w ⟨fun hn => absurd hl.symm hn, hW⟩))
  · exact hs j hj
theorem wpAnyT_ready {rs : List Nat} {fuel : Nat} {listed : Array Bool} {a : Act} {w : World} (hr : Region.ready md ops listed = rs) (hne : rs ≠ [])
    (h : AllReadyT P md ops Q S last fuel listed a w rs) : wpAnyT P md ops Q S last (fuel + 1) listed a w := ⟨fun h0 => absurd (hr ▸ h0) hne, hr ▸ h⟩
theorem wpAnyT_done {listed : Array Bool} {a : Act} {w : World} (hr : Region.ready md ops listed = []) (h : Q .normal a w) :
    ∀ fuel, wpAnyT P md ops Q S last fuel listed a w
  | 0 => ⟨hr, h⟩
  | _ + 1 => ⟨fun _ => h, by rw [hr]; simp⟩
theorem wp_region_till {id : Nat} {a : Act} {w : World} (last : Nat) (hm : P.follows .mixedOrders = true) (hS : S w.drew)
    (h : S w.drew → wpAnyT P .any ops Q S last ops.size (Array.replicate ops.size false) a w.drew) : (Code.region id ops true).wp P Q a w :=
  wp_region_any hm (wpAny_of_till _ _ _ _ (h hS))
theorem wpIn_round_till {id : Nat} {a : Act} {w : World} (last : Nat) (l n : Nat) (hm : P.follows .mixedOrders = true) (hd : noDefer ops = true) (hQ : ¬ LetsOut Q) (hS : S w.drew)
    (h : S w.drew → wpAnyT P .any ops Q S last ops.size (Array.replicate ops.size false) a w.drew) : (Code.region id ops true).wpIn (Fence.wide.inRound l) n P Q a w :=
  wpIn_region_draw fun t => by
    refine wpOps_round l n hd hQ _ _ _ ?_
    simp only [Region.schedule, hm, Bool.true_or, if_true]
    exact wpAny_sound ops.size t _ a _ (wpAny_of_till _ _ _ _ (h hS))
end
end Go.Proofs.YtnffmegicgbinabDoor
/- The contract of oathbookref2.Through. -/
namespace Go.Proofs.YtnffmegicgbinabDoor
open Go.RowKit
set_option linter.unusedVariables false
set_option linter.unusedSimpArgs false

theorem Tryd.infoSh8 : (Tryd.prog.info? 5).map (fun i => (i.zero, i.size, i.bytes)) = some (some (.int .u8 0), 1, 1) := by kernel_rfl
theorem own_kl {w : World} {B g n cap : Nat} {l : List UInt8} (h : OwnL w B (.slice (some ⟨g, 0, none⟩) n cap) l) (hl : l.length = n) : OwnK .u8 5 w B g n cap (fun i => nth l i) := by
  unfold OwnL at h
  unfold OwnK
  have e : ((List.range n).map fun i => Value.int .u8 (nth l i)) = cellsB l := by
    apply List.ext_getElem?
    intro i
    by_cases hi : i < n
    · rw [cellsB_at l i (by omega), List.getElem?_map, List.getElem?_range hi]
      rfl
    · rw [List.getElem?_eq_none (by simp; omega), List.getElem?_eq_none (by rw [cellsB_length]; omega)]
  rw [e]
  rw [hl] at h
  exact h
/-- The row while round k + 1 goes down to i. -/
def rowd (A V : Nat → Nat) (k i : Nat) : Nat → Nat := fun j => if i < j then ddm A V (k + 1) j else ddm A V k j
theorem rowd_top (A V : Nat → Nat) (k n : Nat) (hn : 0 < n) : ∀ j, j < n → ((rowd A V k (n - 1) j : Nat) : Int) = ((ddm A V k j : Nat) : Int) := fun j hj => by
  unfold rowd
  rw [if_neg (by omega)]
theorem rowd_end (A V : Nat → Nat) (k : Nat) : ∀ j, ((rowd A V k k j : Nat) : Int) = ((ddm A V (k + 1) j : Nat) : Int) := fun j => by
  unfold rowd
  by_cases c : k < j
  · rw [if_pos c]
  · rw [if_neg c]
    simp only [ddm]
    rw [if_pos (by omega)]
theorem rowd_step (A V : Nat → Nat) (k i : Nat) (hk : k < i) : ∀ j, ((rowd A V k (i - 1) j : Nat) : Int) = if j = i then ((gm (ddm A V k i ^^^ ddm A V k (i - 1)) (ginv (A i ^^^ A (i - (k + 1)))) : Nat) : Int) else ((rowd A V k i j : Nat) : Int) := fun j => by
  unfold rowd
  by_cases c : j = i
  · subst c
    rw [if_pos rfl, if_pos (by omega)]
    simp only [ddm]
    rw [if_neg (by omega)]
  · rw [if_neg c]
    by_cases d : i < j
    · rw [if_pos (by omega), if_pos d]
    · rw [if_neg (by omega), if_neg d]
set_option maxRecDepth 100000 in
set_option maxHeartbeats 2000000 in
theorem rthrough_any (a1 : Option Addr) (c1 : Nat) (at' : List UInt8) (a2 : Option Addr) (c2 : Nat) (v : List UInt8) (n x : Nat) (w : World) (R1 : Row w a1 n at') (R2 : Row w a2 n v) (h1 : n ≤ c1) (h2 : n ≤ c2) (hn0 : 0 < n) (hn : n ≤ 1000) (hx : x < 256) (hd : (nb at').Nodup) :
    Calls Tryd.prog 9 #[.slice a1 n c1, .slice a2 n c2, .int .u8 (x : Int)] w fun e w' => e = .returned (.int .u8 ((hsum (fun i => (nb at').getD i 0) (fun i => ddm (fun i => (nb at').getD i 0) (fun i => (nb v).getD i 0) (n - 1) i) x n 0 : Nat) : Int)) ∧ Below w.heap.size w w' := by
  obtain ⟨iU, hiU, hzU0, hzU1, hzU2⟩ := info_parts Tryd.infoSh8
  have HL : Hid (at'.length = n ∧ v.length = n) := ⟨R1.1, R2.1⟩
  have HNE : Hid (∀ i j, i < n → j < n → i ≠ j → (nb at').getD i 0 ≠ (nb at').getD j 0) := fun i j hi hj hij => by
    have e1 := HL.out.1
    have hl : (nb at').length = n := by rw [nb_len, e1]
    rw [List.getD_eq_getElem?_getD, List.getD_eq_getElem?_getD, List.getElem?_eq_getElem (by omega), List.getElem?_eq_getElem (by omega)]
    have hp := List.pairwise_iff_getElem.1 (List.nodup_iff_pairwise_ne.1 hd)
    intro e
    rcases Nat.lt_or_gt_of_ne hij with q | q
    · exact hp i j (by omega) (by omega) q e
    · exact hp j i (by omega) (by omega) q e.symm
  have HV0 : Hid (∀ j, nth v j = ((((nb v).getD j 0) : Nat) : Int)) := fun j => nth_nb v j
  have HAN : Hid (∀ j, nth at' j = ((((nb at').getD j 0) : Nat) : Int)) := fun j => nth_nb at' j
  obtain ⟨A, hA⟩ : ∃ A, (fun i => (nb at').getD i 0) = A := ⟨_, rfl⟩
  obtain ⟨V, hV⟩ : ∃ V, (fun i => (nb v).getD i 0) = V := ⟨_, rfl⟩
  have HA : Hid (∀ i, (nb at').getD i 0 = A i) := fun i => by rw [← hA]
  have HVV : Hid (∀ i, (nb v).getD i 0 = V i) := fun i => by rw [← hV]
  have HAB : Hid ((∀ i, A i < 256) ∧ (∀ i, V i < 256)) := ⟨fun i => by rw [← hA]; exact getD_bys (nb_bys at') i, fun i => by rw [← hV]; exact getD_bys (nb_bys v) i⟩
  have HNA : Hid (∀ i j, i < n → j < n → i ≠ j → A i ≠ A j) := fun i j hi hj hij => by rw [← HA.out, ← HA.out]; exact HNE.out i j hi hj hij
  rw [hA, hV]
  clear hA hV hd HNE
  obtain ⟨b, ob, ha1, hc1⟩ := R1.2.resolve_left (by omega)
  subst ha1
  have hbw : b < w.heap.size := cell_block (hc1 0 hn0)
  have HC1 : Hid (∀ wx, Below w.heap.size w wx → ∀ i, i < n → wx.cell? ⟨b, ob + i, none⟩ = some (.int .u8 ((A i : Nat) : Int))) := fun wx hx i hi => by
    rw [(hx.cell (p := ⟨b, ob + i, none⟩) hbw).trans (hc1 i hi), HAN.out, HA.out]
  have HRV : Hid (Row w a2 n v) := R2
  have HBW : Hid (b < w.heap.size) := hbw
  clear R1 R2 hc1 hbw HAN
  have HO0 : Hid (OwnL (w.alloc (.cells #[] 5)) w.heap.size (.slice (some ⟨w.heap.size, 0, none⟩) 0 0) []) := OwnL.lit0 w w.heap.size (Nat.le_refl _)
  have HBa : Hid (Below w.heap.size w (w.alloc (.cells #[] 5))) := (Below.refl _ _).alloc (Nat.le_refl _) _
  have HRa : Hid (Row (w.alloc (.cells #[] 5)) a2 n v) := HRV.out.below HBa.out
  go_enter Tryd.func9, Tryd.ntmps9
  go_wp2_with (first
    | (at_builtin; go_loud (refine wpList_append_bytes (by rfl) (.tmp 12) (.tmp 13) 26 (by rfl) w.heap.size iU Tryd.underlying26 hiU hzU0 hzU1 hzU2 (.slice (some ⟨w.heap.size, 0, none⟩) 0 0) [] (by rfl) HO0.out a2 n c2 v (by rfl) HRa.out (by simp; omega) HBa.out.size ?_); intro v4 w4 ho4 hg4; have HO4 : Hid (OwnL w4 w.heap.size v4 v) := ho4; have HB4 : Hid (Below w.heap.size w w4) := OwnL.grown HO0.out HBa.out hg4 (Nat.le_refl _) HBa.out.size; clear ho4 hg4))
  obtain ⟨g, cap, hv4, _⟩ := HO4.out.formSome (by rw [HL.out.2]; exact hn0)
  rw [HL.out.2] at hv4
  subst hv4
  have HK4 : Hid (OwnK .u8 5 w4 w.heap.size g n cap (fun i => ((ddm A V 0 i : Nat) : Int))) := OwnK.congr (own_kl HO4.out HL.out.2) (fun i hi => by rw [HV0.out, HVV.out]; rfl)
  clear HO4 HO0 HBa HRa HRV HV0 HVV HA
  have hnn : (0 : Int) < (n : Int) := by omega
  go_wp2_with fail
  go_loopw [8] (fun kv wr => ∃ k : Nat, kv = .int .i64 ((k : Int) + 1) ∧ k + 1 ≤ n ∧ Hid (OwnK .u8 5 wr w.heap.size g n cap (fun i => ((ddm A V k i : Nat) : Int)) ∧ Below w.heap.size w wr)) (fun kv _ => n - (intOf kv).toNat)
  case atStart => exact ⟨0, rfl, by omega, HK4.out, HB4.out⟩
  case round =>
    clear HK4 HB4
    obtain ⟨k, rfl, hk, HK⟩ := hrel
    by_cases hlt : k + 1 < n
    · have g1 : (k : Int) + 1 < (n : Int) := by omega
      have HKN : Hid (k + 1 < n) := hlt
      have e1 : (n : Int) - 1 = ((n - 1 : Nat) : Int) := by omega
      have b1 : n - 1 ≤ 1000 := by omega
      have HI0 : Hid (n - 1 < n ∧ k ≤ n - 1 ∧ OwnK .u8 5 wr w.heap.size g n cap (fun i => ((rowd A V k (n - 1) i : Nat) : Int)) ∧ Below w.heap.size w wr) := ⟨by omega, by omega, OwnK.congr HK.out.1 (fun i hi => (rowd_top A V k n hn0 i hi).symm), HK.out.2⟩
      clear HK
      generalize n - 1 = i0 at *
      go_wp2_with fail
      go_loopw [9] (fun iv wq => ∃ i : Nat, iv = .int .i64 (i : Int) ∧ k ≤ i ∧ i < n ∧ Hid (OwnK .u8 5 wq w.heap.size g n cap (fun j => ((rowd A V k i j : Nat) : Int)) ∧ Below w.heap.size w wq)) (fun iv _ => (intOf iv).toNat)
      case atStart => exact ⟨i0, rfl, HI0.out.2.1, HI0.out.1, HI0.out.2.2⟩
      case round =>
        clear HI0 e1 b1
        obtain ⟨i, rfl, hki, hin, HR⟩ := hrel
        by_cases hik : k < i
        · have g2 : (k : Int) + 1 ≤ (i : Int) := by omega
          have HST : Hid (∀ j, ((rowd A V k (i - 1) j : Nat) : Int) = if j = i then ((gm (ddm A V k i ^^^ ddm A V k (i - 1)) (ginv (A i ^^^ A (i - (k + 1)))) : Nat) : Int) else ((rowd A V k i j : Nat) : Int)) := rowd_step A V k i hik
          have HCI : Hid (∀ wx, Below wr.heap.size wr wx → wx.cell? ⟨g, i, none⟩ = some (.int .u8 ((ddm A V k i : Nat) : Int)) ∧ wx.cell? ⟨g, i - 1, none⟩ = some (.int .u8 ((ddm A V k (i - 1) : Nat) : Int)) ∧ wx.cell? ⟨b, ob + i, none⟩ = some (.int .u8 ((A i : Nat) : Int)) ∧ wx.cell? ⟨b, ob + (i - (k + 1)), none⟩ = some (.int .u8 ((A (i - (k + 1)) : Nat) : Int)) ∧ OwnK .u8 5 wx w.heap.size g n cap (fun j => ((rowd A V k i j : Nat) : Int)) ∧ Below w.heap.size w wx) := fun wx hx => by
            have hb := HR.out.2.trans (hx.mono HR.out.2.size)
            have ho := HR.out.1.keptBelow hx HR.out.1.base.2
            have q1 := ho.cell i hin
            have q2 := ho.cell (i - 1) (by omega)
            have r1 : rowd A V k i i = ddm A V k i := by unfold rowd; rw [if_neg (by omega)]
            have r2 : rowd A V k i (i - 1) = ddm A V k (i - 1) := by unfold rowd; rw [if_neg (by omega)]
            rw [r1] at q1
            rw [r2] at q2
            exact ⟨q1, q2, HC1.out wx hb i hin, HC1.out wx hb (i - (k + 1)) (by omega), ho, hb⟩
          have hsne : A i ^^^ A (i - (k + 1)) ≠ 0 := xor_ne (HNA.out i (i - (k + 1)) hin (by omega) (by omega))
          have hs8 := xor_lt256 (HAB.out.1 i) (HAB.out.1 (i - (k + 1)))
          have hp8 := xor_lt256 (ddm_lt (A := A) HAB.out.2 k i) (ddm_lt (A := A) HAB.out.2 k (i - 1))
          have hx1 : bits .xor .u8 ((ddm A V k i : Nat) : Int) ((ddm A V k (i - 1) : Nat) : Int) = ((ddm A V k i ^^^ ddm A V k (i - 1) : Nat) : Int) := u8_xor_nat _ _ (ddm_lt HAB.out.2 k i) (ddm_lt HAB.out.2 k (i - 1))
          have hx2 : bits .xor .u8 ((A i : Nat) : Int) ((A (i - (k + 1)) : Nat) : Int) = ((A i ^^^ A (i - (k + 1)) : Nat) : Int) := u8_xor_nat _ _ (HAB.out.1 i) (HAB.out.1 _)
          have HIV : Hid (∀ wx, Calls Tryd.prog 15 #[.int .u8 ((A i ^^^ A (i - (k + 1)) : Nat) : Int)] wx fun e w' => e = .returned (.int .u8 ((ginv (A i ^^^ A (i - (k + 1))) : Nat) : Int)) ∧ w' = wx) := fun wx => rinv_any _ wx hs8 hsne
          have HML : Hid (∀ wx, Calls Tryd.prog 14 #[.int .u8 ((ddm A V k i ^^^ ddm A V k (i - 1) : Nat) : Int), .int .u8 ((ginv (A i ^^^ A (i - (k + 1))) : Nat) : Int)] wx fun e w' => e = .returned (.int .u8 ((gm (ddm A V k i ^^^ ddm A V k (i - 1)) (ginv (A i ^^^ A (i - (k + 1)))) : Nat) : Int)) ∧ w' = wx) := fun wx => rmul_any _ _ wx hp8 (ginv_lt _)
          have lm := gm_lt (ddm A V k i ^^^ ddm A V k (i - 1)) (ginv (A i ^^^ A (i - (k + 1))))
          have e3 : (i : Int) - 1 = ((i - 1 : Nat) : Int) := by omega
          have e4 : (i : Int) - ((k : Int) + 1) = ((i - (k + 1) : Nat) : Int) := by omega
          have HIB : Hid (k ≤ i - 1 ∧ i - 1 < n ∧ i - 1 < i) := by unfold Hid; omega
          have i1n : i - 1 < n := by omega
          have imn : i - (k + 1) < n := by omega
          clear HR hsne hs8 hp8
          generalize gm (ddm A V k i ^^^ ddm A V k (i - 1)) (ginv (A i ^^^ A (i - (k + 1)))) = D at *
          generalize ginv (A i ^^^ A (i - (k + 1))) = iv at *
          generalize A i ^^^ A (i - (k + 1)) = s at *
          generalize ddm A V k i ^^^ ddm A V k (i - 1) = p at *
          generalize ddm A V k i = p1 at *
          generalize ddm A V k (i - 1) = p2 at *
          generalize A (i - (k + 1)) = s2 at *
          generalize A i = s1 at *
          generalize i - 1 = i1 at *
          generalize i - (k + 1) = im at *
          go_upto_region 8 with fail
          have z0 : (0 : Int) ≤ (i : Int) := by omega
          have z1 : (i : Int) < (n : Int) := by omega
          have z2 : (0 : Int) ≤ (i1 : Int) := by omega
          have z3 : (i1 : Int) < (n : Int) := by omega
          have z4 : (0 : Int) ≤ (im : Int) := by omega
          have z5 : (im : Int) < (n : Int) := by omega
          have y1 : IntKind.i64.wrap (i1 : Int) = (i1 : Int) := by rw [IntKind.wrap_i64]; omega
          have y2 : IntKind.i64.wrap (im : Int) = (im : Int) := by rw [IntKind.wrap_i64]; omega
          refine wp_region_noPanic ?_
          refine wp_region_till (S := fun wx => wx.cell? ⟨g, i, none⟩ = some (.int .u8 ((p1 : Nat) : Int)) ∧ wx.cell? ⟨g, i1, none⟩ = some (.int .u8 ((p2 : Nat) : Int)) ∧ wx.cell? ⟨b, ob + i, none⟩ = some (.int .u8 ((s1 : Nat) : Int)) ∧ wx.cell? ⟨b, ob + im, none⟩ = some (.int .u8 ((s2 : Nat) : Int))) 26 (by kernel_rfl) (by have q := HCI.out _ (below_drewN wr 1); exact ⟨q.1, q.2.1, q.2.2.1, q.2.2.2.1⟩) (fun hHeld => ?_)
          try simp only [Act.put, List.setIfInBounds_toArray, List.set_cons_zero, List.set_cons_succ]
          have HCW : Hid (wr.drew.cell? ⟨g, i, none⟩ = some (.int .u8 ((p1 : Nat) : Int)) ∧ wr.drew.cell? ⟨g, i1, none⟩ = some (.int .u8 ((p2 : Nat) : Int)) ∧ wr.drew.cell? ⟨b, ob + i, none⟩ = some (.int .u8 ((s1 : Nat) : Int)) ∧ wr.drew.cell? ⟨b, ob + im, none⟩ = some (.int .u8 ((s2 : Nat) : Int)) ∧ OwnK .u8 5 wr.drew w.heap.size g n cap (fun j => ((rowd A V k i j : Nat) : Int)) ∧ Below w.heap.size w wr.drew) := HCI.out _ (below_drewN wr 1)
          generalize wr.drew = wd at *
          have HGB : Hid (w.heap.size ≤ g) := HCW.out.2.2.2.2.1.base.1
          refine wpAnyT_take (i := 0) (v := ?_) (by simp only [List.getElem?_toArray, List.getElem?_cons_zero, List.getElem?_cons_succ]; rfl) (by kernel_rfl) (by kernel_rfl) (by kernel_rfl) (by kernel_rfl) (fun _ _ _ h => h) (Or.inl ⟨by rfl, ?_⟩) hHeld ?_
          rotate_left
          · intro w hSw
            obtain ⟨hSw0, hSw1, hSw2, hSw3⟩ := hSw
            go_simp
            try with_reducible rfl
          try simp only [Act.put, List.setIfInBounds_toArray, List.set_cons_zero, List.set_cons_succ]
          refine wpAnyT_take (i := 1) (v := ?_) (by simp only [List.getElem?_toArray, List.getElem?_cons_zero, List.getElem?_cons_succ]; rfl) (by kernel_rfl) (by kernel_rfl) (by kernel_rfl) (by kernel_rfl) (fun _ _ _ h => h) (Or.inl ⟨by rfl, ?_⟩) hHeld ?_
          rotate_left
          · intro w hSw
            obtain ⟨hSw0, hSw1, hSw2, hSw3⟩ := hSw
            go_simp
            try with_reducible rfl
          try simp only [Act.put, List.setIfInBounds_toArray, List.set_cons_zero, List.set_cons_succ]
          refine wpAnyT_take (i := 2) (v := ?_) (by simp only [List.getElem?_toArray, List.getElem?_cons_zero, List.getElem?_cons_succ]; rfl) (by kernel_rfl) (by kernel_rfl) (by kernel_rfl) (by kernel_rfl) (fun _ _ _ h => h) (Or.inl ⟨by rfl, ?_⟩) hHeld ?_
          rotate_left
          · intro w hSw
            obtain ⟨hSw0, hSw1, hSw2, hSw3⟩ := hSw
            go_simp
            try with_reducible rfl
          try simp only [Act.put, List.setIfInBounds_toArray, List.set_cons_zero, List.set_cons_succ]
          refine wpAnyT_take (i := 3) (v := ?_) (by simp only [List.getElem?_toArray, List.getElem?_cons_zero, List.getElem?_cons_succ]; rfl) (by kernel_rfl) (by kernel_rfl) (by kernel_rfl) (by kernel_rfl) (fun _ _ _ h => h) (Or.inl ⟨by rfl, ?_⟩) hHeld ?_
          rotate_left
          · intro w hSw
            obtain ⟨hSw0, hSw1, hSw2, hSw3⟩ := hSw
            go_simp
            try with_reducible rfl
          try simp only [Act.put, List.setIfInBounds_toArray, List.set_cons_zero, List.set_cons_succ]
          refine wpAnyT_take (i := 4) (v := ?_) (by simp only [List.getElem?_toArray, List.getElem?_cons_zero, List.getElem?_cons_succ]; rfl) (by kernel_rfl) (by kernel_rfl) (by kernel_rfl) (by kernel_rfl) (fun _ _ _ h => h) (Or.inl ⟨by rfl, ?_⟩) hHeld ?_
          rotate_left
          · intro w hSw
            obtain ⟨hSw0, hSw1, hSw2, hSw3⟩ := hSw
            go_simp
            try with_reducible rfl
          try simp only [Act.put, List.setIfInBounds_toArray, List.set_cons_zero, List.set_cons_succ]
          refine wpAnyT_take (i := 5) (v := ?_) (by simp only [List.getElem?_toArray, List.getElem?_cons_zero, List.getElem?_cons_succ]; rfl) (by kernel_rfl) (by kernel_rfl) (by kernel_rfl) (by kernel_rfl) (fun _ _ _ h => h) (Or.inl ⟨by rfl, ?_⟩) hHeld ?_
          rotate_left
          · intro w hSw
            obtain ⟨hSw0, hSw1, hSw2, hSw3⟩ := hSw
            go_simp
            try with_reducible rfl
          try simp only [Act.put, List.setIfInBounds_toArray, List.set_cons_zero, List.set_cons_succ]
          refine wpAnyT_take (i := 6) (v := ?_) (by simp only [List.getElem?_toArray, List.getElem?_cons_zero, List.getElem?_cons_succ]; rfl) (by kernel_rfl) (by kernel_rfl) (by kernel_rfl) (by kernel_rfl) (fun _ _ _ h => h) (Or.inl ⟨by rfl, ?_⟩) hHeld ?_
          rotate_left
          · intro w hSw
            obtain ⟨hSw0, hSw1, hSw2, hSw3⟩ := hSw
            go_simp
            try with_reducible rfl
          try simp only [Act.put, List.setIfInBounds_toArray, List.set_cons_zero, List.set_cons_succ]
          refine wpAnyT_take (i := 7) (v := ?_) (by simp only [List.getElem?_toArray, List.getElem?_cons_zero, List.getElem?_cons_succ]; rfl) (by kernel_rfl) (by kernel_rfl) (by kernel_rfl) (by kernel_rfl) (fun _ _ _ h => h) (Or.inl ⟨by rfl, ?_⟩) hHeld ?_
          rotate_left
          · intro w hSw
            obtain ⟨hSw0, hSw1, hSw2, hSw3⟩ := hSw
            go_simp
            try with_reducible rfl
          try simp only [Act.put, List.setIfInBounds_toArray, List.set_cons_zero, List.set_cons_succ]
          refine wpAnyT_take (i := 8) (v := ?_) (by simp only [List.getElem?_toArray, List.getElem?_cons_zero, List.getElem?_cons_succ]; rfl) (by kernel_rfl) (by kernel_rfl) (by kernel_rfl) (by kernel_rfl) (fun _ _ _ h => h) (Or.inl ⟨by rfl, ?_⟩) hHeld ?_
          rotate_left
          · intro w hSw
            obtain ⟨hSw0, hSw1, hSw2, hSw3⟩ := hSw
            go_simp
            try with_reducible rfl
          try simp only [Act.put, List.setIfInBounds_toArray, List.set_cons_zero, List.set_cons_succ]
          refine wpAnyT_take (i := 9) (v := ?_) (by simp only [List.getElem?_toArray, List.getElem?_cons_zero, List.getElem?_cons_succ]; rfl) (by kernel_rfl) (by kernel_rfl) (by kernel_rfl) (by kernel_rfl) (fun _ _ _ h => h) (Or.inl ⟨by rfl, ?_⟩) hHeld ?_
          rotate_left
          · intro w hSw
            obtain ⟨hSw0, hSw1, hSw2, hSw3⟩ := hSw
            go_simp
            try with_reducible rfl
          try simp only [Act.put, List.setIfInBounds_toArray, List.set_cons_zero, List.set_cons_succ]
          refine wpAnyT_take (i := 10) (v := ?_) (by simp only [List.getElem?_toArray, List.getElem?_cons_zero, List.getElem?_cons_succ]; rfl) (by kernel_rfl) (by kernel_rfl) (by kernel_rfl) (by kernel_rfl) (fun _ _ _ h => h) (Or.inl ⟨by rfl, ?_⟩) hHeld ?_
          rotate_left
          · intro w hSw
            obtain ⟨hSw0, hSw1, hSw2, hSw3⟩ := hSw
            go_simp
            try with_reducible rfl
          try simp only [Act.put, List.setIfInBounds_toArray, List.set_cons_zero, List.set_cons_succ]
          refine wpAnyT_take (i := 11) (v := ?_) (by simp only [List.getElem?_toArray, List.getElem?_cons_zero, List.getElem?_cons_succ]; rfl) (by kernel_rfl) (by kernel_rfl) (by kernel_rfl) (by kernel_rfl) (fun _ _ _ h => h) (Or.inl ⟨by rfl, ?_⟩) hHeld ?_
          rotate_left
          · intro w hSw
            obtain ⟨hSw0, hSw1, hSw2, hSw3⟩ := hSw
            go_simp
            try with_reducible rfl
          try simp only [Act.put, List.setIfInBounds_toArray, List.set_cons_zero, List.set_cons_succ]
          refine wpAnyT_take (i := 12) (v := ?_) (by simp only [List.getElem?_toArray, List.getElem?_cons_zero, List.getElem?_cons_succ]; rfl) (by kernel_rfl) (by kernel_rfl) (by kernel_rfl) (by kernel_rfl) (fun _ _ _ h => h) (Or.inl ⟨by rfl, ?_⟩) hHeld ?_
          rotate_left
          · intro w hSw
            obtain ⟨hSw0, hSw1, hSw2, hSw3⟩ := hSw
            go_simp
            try with_reducible rfl
          try simp only [Act.put, List.setIfInBounds_toArray, List.set_cons_zero, List.set_cons_succ]
          refine wpAnyT_take (i := 13) (v := ?_) (by simp only [List.getElem?_toArray, List.getElem?_cons_zero, List.getElem?_cons_succ]; rfl) (by kernel_rfl) (by kernel_rfl) (by kernel_rfl) (by kernel_rfl) (fun _ _ _ h => h) (Or.inl ⟨by rfl, ?_⟩) hHeld ?_
          rotate_left
          · intro w hSw
            obtain ⟨hSw0, hSw1, hSw2, hSw3⟩ := hSw
            go_simp
            try with_reducible rfl
          try simp only [Act.put, List.setIfInBounds_toArray, List.set_cons_zero, List.set_cons_succ]
          refine wpAnyT_take (i := 14) (v := ?_) (by simp only [List.getElem?_toArray, List.getElem?_cons_zero, List.getElem?_cons_succ]; rfl) (by kernel_rfl) (by kernel_rfl) (by kernel_rfl) (by kernel_rfl) (fun _ _ _ h => h) (Or.inl ⟨by rfl, ?_⟩) hHeld ?_
          rotate_left
          · intro w hSw
            obtain ⟨hSw0, hSw1, hSw2, hSw3⟩ := hSw
            go_simp
            try with_reducible rfl
          try simp only [Act.put, List.setIfInBounds_toArray, List.set_cons_zero, List.set_cons_succ]
          refine wpAnyT_take (i := 15) (v := ?_) (by simp only [List.getElem?_toArray, List.getElem?_cons_zero, List.getElem?_cons_succ]; rfl) (by kernel_rfl) (by kernel_rfl) (by kernel_rfl) (by kernel_rfl) (fun _ _ _ h => h) (Or.inl ⟨by rfl, ?_⟩) hHeld ?_
          rotate_left
          · intro w hSw
            obtain ⟨hSw0, hSw1, hSw2, hSw3⟩ := hSw
            go_simp
            try with_reducible rfl
          try simp only [Act.put, List.setIfInBounds_toArray, List.set_cons_zero, List.set_cons_succ]
          refine wpAnyT_take (i := 16) (v := ?_) (by simp only [List.getElem?_toArray, List.getElem?_cons_zero, List.getElem?_cons_succ]; rfl) (by kernel_rfl) (by kernel_rfl) (by kernel_rfl) (by kernel_rfl) (fun _ _ _ h => h) (Or.inl ⟨by rfl, ?_⟩) hHeld ?_
          rotate_left
          · intro w hSw
            obtain ⟨hSw0, hSw1, hSw2, hSw3⟩ := hSw
            go_simp
            try with_reducible rfl
          try simp only [Act.put, List.setIfInBounds_toArray, List.set_cons_zero, List.set_cons_succ]
          refine wpAnyT_take (i := 17) (v := ?_) (by simp only [List.getElem?_toArray, List.getElem?_cons_zero, List.getElem?_cons_succ]; rfl) (by kernel_rfl) (by kernel_rfl) (by kernel_rfl) (by kernel_rfl) (fun _ _ _ h => h) (Or.inl ⟨by rfl, ?_⟩) hHeld ?_
          rotate_left
          · intro w hSw
            obtain ⟨hSw0, hSw1, hSw2, hSw3⟩ := hSw
            go_simp
            try with_reducible rfl
          try simp only [Act.put, List.setIfInBounds_toArray, List.set_cons_zero, List.set_cons_succ]
          refine wpAnyT_take (i := 18) (v := ?_) (by simp only [List.getElem?_toArray, List.getElem?_cons_zero, List.getElem?_cons_succ]; rfl) (by kernel_rfl) (by kernel_rfl) (by kernel_rfl) (by kernel_rfl) (fun _ _ _ h => h) (Or.inl ⟨by rfl, ?_⟩) hHeld ?_
          rotate_left
          · intro w hSw
            obtain ⟨hSw0, hSw1, hSw2, hSw3⟩ := hSw
            go_simp
            try with_reducible rfl
          try simp only [Act.put, List.setIfInBounds_toArray, List.set_cons_zero, List.set_cons_succ]
          refine wpAnyT_take (i := 19) (v := ?_) (by simp only [List.getElem?_toArray, List.getElem?_cons_zero, List.getElem?_cons_succ]; rfl) (by kernel_rfl) (by kernel_rfl) (by kernel_rfl) (by kernel_rfl) (fun _ _ _ h => h) (Or.inl ⟨by rfl, ?_⟩) hHeld ?_
          rotate_left
          · intro w hSw
            obtain ⟨hSw0, hSw1, hSw2, hSw3⟩ := hSw
            go_simp
            try with_reducible rfl
          try simp only [Act.put, List.setIfInBounds_toArray, List.set_cons_zero, List.set_cons_succ]
          refine wpAnyT_take (i := 20) (v := ?_) (by simp only [List.getElem?_toArray, List.getElem?_cons_zero, List.getElem?_cons_succ]; rfl) (by kernel_rfl) (by kernel_rfl) (by kernel_rfl) (by kernel_rfl) (fun _ _ _ h => h) (Or.inl ⟨by rfl, ?_⟩) hHeld ?_
          rotate_left
          · intro w hSw
            obtain ⟨hSw0, hSw1, hSw2, hSw3⟩ := hSw
            go_simp
            try with_reducible rfl
          try simp only [Act.put, List.setIfInBounds_toArray, List.set_cons_zero, List.set_cons_succ]
          refine wpAnyT_take (i := 21) (v := ?_) (by simp only [List.getElem?_toArray, List.getElem?_cons_zero, List.getElem?_cons_succ]; rfl) (by kernel_rfl) (by kernel_rfl) (by kernel_rfl) (by kernel_rfl) (fun _ _ _ h => h) (Or.inl ⟨by rfl, ?_⟩) hHeld ?_
          rotate_left
          · intro w hSw
            obtain ⟨hSw0, hSw1, hSw2, hSw3⟩ := hSw
            go_simp
            try with_reducible rfl
          try simp only [Act.put, List.setIfInBounds_toArray, List.set_cons_zero, List.set_cons_succ]
          refine wpAnyT_take (i := 22) (v := ?_) (by simp only [List.getElem?_toArray, List.getElem?_cons_zero, List.getElem?_cons_succ]; rfl) (by kernel_rfl) (by kernel_rfl) (by kernel_rfl) (by kernel_rfl) (fun _ _ _ h => h) (Or.inl ⟨by rfl, ?_⟩) hHeld ?_
          rotate_left
          · intro w hSw
            obtain ⟨hSw0, hSw1, hSw2, hSw3⟩ := hSw
            go_simp
            try with_reducible rfl
          try simp only [Act.put, List.setIfInBounds_toArray, List.set_cons_zero, List.set_cons_succ]
          refine wpAnyT_ready (rs := [23]) (by kernel_rfl) (by simp) ?_
          refine AllReadyT.cons (by simp only [List.getElem?_toArray, List.getElem?_cons_zero, List.getElem?_cons_succ]; rfl) (fun K hK => ?_) AllReadyT.nil
          rw [if_pos (by rfl)]
          go_simp
          refine (HIV.out wd).mono ?_
          rintro e wn ⟨rfl, hq⟩
          have hq' : wd = wn := hq.symm
          subst hq'
          go_wp2_with fail
          refine hK.out _ _ hHeld (fun hHeld => ?_)
          clear hK K
          try simp only [Act.put, List.setIfInBounds_toArray, List.set_cons_zero, List.set_cons_succ]
          refine wpAnyT_ready (rs := [24]) (by kernel_rfl) (by simp) ?_
          refine AllReadyT.cons (by simp only [List.getElem?_toArray, List.getElem?_cons_zero, List.getElem?_cons_succ]; rfl) (fun K hK => ?_) AllReadyT.nil
          rw [if_pos (by rfl)]
          go_simp
          refine (HML.out wd).mono ?_
          rintro e wn ⟨rfl, hq⟩
          have hq' : wd = wn := hq.symm
          subst hq'
          go_wp2_with fail
          refine hK.out _ _ hHeld (fun hHeld => ?_)
          clear hK K
          try simp only [Act.put, List.setIfInBounds_toArray, List.set_cons_zero, List.set_cons_succ]
          refine wpAnyT_take (i := 25) (v := ?_) (by simp only [List.getElem?_toArray, List.getElem?_cons_zero, List.getElem?_cons_succ]; rfl) (by kernel_rfl) (by kernel_rfl) (by kernel_rfl) (by kernel_rfl) (fun _ _ _ h => h) (Or.inl ⟨by rfl, ?_⟩) hHeld ?_
          rotate_left
          · intro w hSw
            obtain ⟨hSw0, hSw1, hSw2, hSw3⟩ := hSw
            go_simp
            try with_reducible rfl
          try simp only [Act.put, List.setIfInBounds_toArray, List.set_cons_zero, List.set_cons_succ]
          refine wpAnyT_ready (rs := [26]) (by kernel_rfl) (by simp) ?_
          refine AllReadyT.lastly (by simp only [List.getElem?_toArray, List.getElem?_cons_zero, List.getElem?_cons_succ]; rfl) rfl (fun K hK => ?_) AllReadyT.nil
          rw [if_pos (by rfl)]
          have hc0 := HCW.out.1
          have hf0 := HCW.out.2.2.2.2.1.frozen i
          go_simp
          refine hK.out _ _ ?_
          clear hK K
          try simp only [Act.put, List.setIfInBounds_toArray, List.set_cons_zero, List.set_cons_succ]
          refine wpAnyT_done (by kernel_rfl) (NoPanic.normal ?_) _
          have HKN2 := OwnK.store HCW.out.2.2.2.2.1 i ((D : Nat) : Int)
          have HK2 : Hid (OwnK .u8 5 (wd.setCell ⟨g, i, none⟩ (.int .u8 (D : Int))) w.heap.size g n cap (fun j => ((rowd A V k i1 j : Nat) : Int)) ∧ Below w.heap.size w (wd.setCell ⟨g, i, none⟩ (.int .u8 (D : Int)))) := ⟨OwnK.congr HKN2 (fun j hj => (HST.out j).symm), HCW.out.2.2.2.2.2.setCell HGB.out _⟩
          clear HCW HKN2 HST HCI hx1 hx2 HIV HML
          generalize wd.setCell ⟨g, i, none⟩ (.int .u8 (D : Int)) = w9 at *
          go_wp2_with fail
          go_roundw
          case rel => exact ⟨i1, by go_num, HIB.out.1, HIB.out.2.1, HK2.out⟩
          case measure => have := HIB.out; simp [intOf]; omega
        · obtain rfl : i = k := by omega
          have HK2 : Hid (OwnK .u8 5 wr w.heap.size g n cap (fun j => ((ddm A V (i + 1) j : Nat) : Int)) ∧ Below w.heap.size w wr) := ⟨OwnK.congr HR.out.1 (fun j hj => rowd_end A V i j), HR.out.2⟩
          clear HR
          have g2 : ¬ (i : Int) + 1 ≤ (i : Int) := by omega
          go_wp2_with fail
          go_roundw
          case rel => exact ⟨i + 1, by go_num, HKN.out, HK2.out⟩
          case measure => have := HKN.out; simp [intOf]; omega
    · have hkn : k + 1 = n := by omega
      have HK3 : Hid (OwnK .u8 5 wr w.heap.size g n cap (fun i => ((ddm A V (n - 1) i : Nat) : Int)) ∧ Below w.heap.size w wr) := by rw [show n - 1 = k by omega]; exact HK.out
      have g1 : ¬ (k : Int) + 1 < (n : Int) := by omega
      have HD8 : Hid (∀ j, ddm A V (n - 1) j < 256) := fun j => ddm_lt HAB.out.2 _ _
      obtain ⟨D, hD⟩ : ∃ D, (fun i => ddm A V (n - 1) i) = D := ⟨_, rfl⟩
      have HDJ : Hid (∀ j, ddm A V (n - 1) j = D j) := fun j => by rw [← hD]
      have HD88 : Hid (∀ j, D j < 256) := fun j => by rw [← HDJ.out]; exact HD8.out j
      have HK4 : Hid (OwnK .u8 5 wr w.heap.size g n cap (fun i => ((D i : Nat) : Int)) ∧ Below w.heap.size w wr) := ⟨OwnK.congr HK3.out.1 (fun j hj => by rw [HDJ.out]), HK3.out.2⟩
      have HRES : Hid (hsum A (fun i => ddm A V (n - 1) i) x n 0 = hsum A D x n 0) := by unfold Hid; rw [hD]
      clear HK3 HD8 HDJ hD HK hlt
      go_wp2_with fail
      rename World => wo
      go_loopw [10, 11] (fun ov iv wq => ∃ u i : Nat, ov = .int .u8 (u : Int) ∧ iv = .int .i64 ((i : Int) - 1) ∧ u < 256 ∧ i ≤ n ∧ Hid (u = hsum A D x (n - i) i) ∧ Hid (OwnK .u8 5 wq w.heap.size g n cap (fun i => ((D i : Nat) : Int)) ∧ Below w.heap.size w wq)) (fun _ iv _ => (intOf iv + 1).toNat)
      case atStart => exact ⟨0, n, rfl, rfl, by omega, Nat.le_refl _, by rw [Nat.sub_self]; rfl, HK4.out⟩
      case round =>
        clear HK4
        obtain ⟨u, i, rfl, rfl, hu, hi, HU, HK5⟩ := hrel
        by_cases h0 : i = 0
        · subst h0
          have HF : Hid (hsum A D x n 0 = u ∧ Below w.heap.size w wr) := ⟨HU.out.symm, HK5.out.2⟩
          clear HU HK5
          go_wp2_with fail
          go_ret
          rw [HRES.out, HF.out.1]
          exact ⟨rfl, HF.out.2⟩
        · obtain ⟨j, hj⟩ : ∃ j, i = j + 1 := ⟨i - 1, by omega⟩
          subst hj
          have hjn : j < n := by omega
          have HST : Hid (gm u (x ^^^ A j) ^^^ D j = hsum A D x (n - j) j) := by
            unfold Hid
            rw [HU.out, show n - j = (n - (j + 1)) + 1 by omega]
            rfl
          have HCI : Hid (∀ wx, Below wr.heap.size wr wx → wx.cell? ⟨b, ob + j, none⟩ = some (.int .u8 ((A j : Nat) : Int)) ∧ wx.cell? ⟨g, j, none⟩ = some (.int .u8 ((D j : Nat) : Int)) ∧ OwnK .u8 5 wx w.heap.size g n cap (fun i => ((D i : Nat) : Int)) ∧ Below w.heap.size w wx) := fun wx hx => by
            have hb := HK5.out.2.trans (hx.mono HK5.out.2.size)
            have ho := HK5.out.1.keptBelow hx HK5.out.1.base.2
            exact ⟨HC1.out wx hb j hjn, ho.cell j hjn, ho, hb⟩
          have la := HAB.out.1 j
          have ld := HD88.out j
          have lx := xor_lt256 hx la
          have hx1 : bits .xor .u8 (x : Int) ((A j : Nat) : Int) = ((x ^^^ A j : Nat) : Int) := u8_xor_nat _ _ hx la
          have HML : Hid (∀ wx, Calls Tryd.prog 14 #[.int .u8 (u : Int), .int .u8 ((x ^^^ A j : Nat) : Int)] wx fun e w' => e = .returned (.int .u8 ((gm u (x ^^^ A j) : Nat) : Int)) ∧ w' = wx) := fun wx => rmul_any _ _ wx hu lx
          have lm := gm_lt u (x ^^^ A j)
          have hx2 : bits .xor .u8 ((gm u (x ^^^ A j) : Nat) : Int) ((D j : Nat) : Int) = ((gm u (x ^^^ A j) ^^^ D j : Nat) : Int) := u8_xor_nat _ _ lm ld
          have lr := xor_lt256 lm ld
          clear HU HK5
          generalize gm u (x ^^^ A j) ^^^ D j = r at *
          generalize gm u (x ^^^ A j) = m at *
          generalize x ^^^ A j = s at *
          generalize A j = aj at *
          generalize D j = dj at *
          have z0 : (0 : Int) ≤ (j : Int) := by omega
          have z1 : (j : Int) < (n : Int) := by omega
          have z2 : (j : Int) + 1 - 1 = (j : Int) := by omega
          have HJ : Hid (j ≤ n) := by unfold Hid; omega
          go_upto_region 13 with fail
          refine wp_region_noPanic ?_
          refine wp_region_held_drew (S := fun wx => wx.cell? ⟨b, ob + j, none⟩ = some (.int .u8 ((aj : Nat) : Int)) ∧ wx.cell? ⟨g, j, none⟩ = some (.int .u8 ((dj : Nat) : Int))) (by kernel_rfl) (by have q := HCI.out _ (below_drewN wr 1); exact ⟨q.1, q.2.1⟩) (fun hHeld => ?_)
          try simp only [Act.put, List.setIfInBounds_toArray, List.set_cons_zero, List.set_cons_succ]
          have HCW : Hid (wr.drew.cell? ⟨b, ob + j, none⟩ = some (.int .u8 ((aj : Nat) : Int)) ∧ wr.drew.cell? ⟨g, j, none⟩ = some (.int .u8 ((dj : Nat) : Int)) ∧ OwnK .u8 5 wr.drew w.heap.size g n cap (fun i => ((D i : Nat) : Int)) ∧ Below w.heap.size w wr.drew) := HCI.out _ (below_drewN wr 1)
          generalize wr.drew = wd at *
          refine wpAnyH_take (i := 0) (v := ?_) (by simp only [List.getElem?_toArray, List.getElem?_cons_zero, List.getElem?_cons_succ]; rfl) (by kernel_rfl) (by kernel_rfl) (by kernel_rfl) (fun _ _ _ h => h) (Or.inl ⟨by rfl, ?_⟩) hHeld ?_
          rotate_left
          · intro w hSw
            obtain ⟨hSw0, hSw1⟩ := hSw
            go_simp
            try with_reducible rfl
          try simp only [Act.put, List.setIfInBounds_toArray, List.set_cons_zero, List.set_cons_succ]
          refine wpAnyH_take (i := 1) (v := ?_) (by simp only [List.getElem?_toArray, List.getElem?_cons_zero, List.getElem?_cons_succ]; rfl) (by kernel_rfl) (by kernel_rfl) (by kernel_rfl) (fun _ _ _ h => h) (Or.inl ⟨by rfl, ?_⟩) hHeld ?_
          rotate_left
          · intro w hSw
            obtain ⟨hSw0, hSw1⟩ := hSw
            go_simp
            try with_reducible rfl
          try simp only [Act.put, List.setIfInBounds_toArray, List.set_cons_zero, List.set_cons_succ]
          refine wpAnyH_take (i := 2) (v := ?_) (by simp only [List.getElem?_toArray, List.getElem?_cons_zero, List.getElem?_cons_succ]; rfl) (by kernel_rfl) (by kernel_rfl) (by kernel_rfl) (fun _ _ _ h => h) (Or.inl ⟨by rfl, ?_⟩) hHeld ?_
          rotate_left
          · intro w hSw
            obtain ⟨hSw0, hSw1⟩ := hSw
            go_simp
            try with_reducible rfl
          try simp only [Act.put, List.setIfInBounds_toArray, List.set_cons_zero, List.set_cons_succ]
          refine wpAnyH_take (i := 3) (v := ?_) (by simp only [List.getElem?_toArray, List.getElem?_cons_zero, List.getElem?_cons_succ]; rfl) (by kernel_rfl) (by kernel_rfl) (by kernel_rfl) (fun _ _ _ h => h) (Or.inl ⟨by rfl, ?_⟩) hHeld ?_
          rotate_left
          · intro w hSw
            obtain ⟨hSw0, hSw1⟩ := hSw
            go_simp
            try with_reducible rfl
          try simp only [Act.put, List.setIfInBounds_toArray, List.set_cons_zero, List.set_cons_succ]
          refine wpAnyH_take (i := 4) (v := ?_) (by simp only [List.getElem?_toArray, List.getElem?_cons_zero, List.getElem?_cons_succ]; rfl) (by kernel_rfl) (by kernel_rfl) (by kernel_rfl) (fun _ _ _ h => h) (Or.inl ⟨by rfl, ?_⟩) hHeld ?_
          rotate_left
          · intro w hSw
            obtain ⟨hSw0, hSw1⟩ := hSw
            go_simp
            try with_reducible rfl
          try simp only [Act.put, List.setIfInBounds_toArray, List.set_cons_zero, List.set_cons_succ]
          refine wpAnyH_take (i := 5) (v := ?_) (by simp only [List.getElem?_toArray, List.getElem?_cons_zero, List.getElem?_cons_succ]; rfl) (by kernel_rfl) (by kernel_rfl) (by kernel_rfl) (fun _ _ _ h => h) (Or.inl ⟨by rfl, ?_⟩) hHeld ?_
          rotate_left
          · intro w hSw
            obtain ⟨hSw0, hSw1⟩ := hSw
            go_simp
            try with_reducible rfl
          try simp only [Act.put, List.setIfInBounds_toArray, List.set_cons_zero, List.set_cons_succ]
          refine wpAnyH_take (i := 6) (v := ?_) (by simp only [List.getElem?_toArray, List.getElem?_cons_zero, List.getElem?_cons_succ]; rfl) (by kernel_rfl) (by kernel_rfl) (by kernel_rfl) (fun _ _ _ h => h) (Or.inl ⟨by rfl, ?_⟩) hHeld ?_
          rotate_left
          · intro w hSw
            obtain ⟨hSw0, hSw1⟩ := hSw
            go_simp
            try with_reducible rfl
          try simp only [Act.put, List.setIfInBounds_toArray, List.set_cons_zero, List.set_cons_succ]
          refine wpAnyH_take (i := 8) (v := ?_) (by simp only [List.getElem?_toArray, List.getElem?_cons_zero, List.getElem?_cons_succ]; rfl) (by kernel_rfl) (by kernel_rfl) (by kernel_rfl) (fun _ _ _ h => h) (Or.inl ⟨by rfl, ?_⟩) hHeld ?_
          rotate_left
          · intro w hSw
            obtain ⟨hSw0, hSw1⟩ := hSw
            go_simp
            try with_reducible rfl
          try simp only [Act.put, List.setIfInBounds_toArray, List.set_cons_zero, List.set_cons_succ]
          refine wpAnyH_take (i := 9) (v := ?_) (by simp only [List.getElem?_toArray, List.getElem?_cons_zero, List.getElem?_cons_succ]; rfl) (by kernel_rfl) (by kernel_rfl) (by kernel_rfl) (fun _ _ _ h => h) (Or.inl ⟨by rfl, ?_⟩) hHeld ?_
          rotate_left
          · intro w hSw
            obtain ⟨hSw0, hSw1⟩ := hSw
            go_simp
            try with_reducible rfl
          try simp only [Act.put, List.setIfInBounds_toArray, List.set_cons_zero, List.set_cons_succ]
          refine wpAnyH_take (i := 10) (v := ?_) (by simp only [List.getElem?_toArray, List.getElem?_cons_zero, List.getElem?_cons_succ]; rfl) (by kernel_rfl) (by kernel_rfl) (by kernel_rfl) (fun _ _ _ h => h) (Or.inl ⟨by rfl, ?_⟩) hHeld ?_
          rotate_left
          · intro w hSw
            obtain ⟨hSw0, hSw1⟩ := hSw
            go_simp
            try with_reducible rfl
          try simp only [Act.put, List.setIfInBounds_toArray, List.set_cons_zero, List.set_cons_succ]
          refine wpAnyH_take (i := 11) (v := ?_) (by simp only [List.getElem?_toArray, List.getElem?_cons_zero, List.getElem?_cons_succ]; rfl) (by kernel_rfl) (by kernel_rfl) (by kernel_rfl) (fun _ _ _ h => h) (Or.inl ⟨by rfl, ?_⟩) hHeld ?_
          rotate_left
          · intro w hSw
            obtain ⟨hSw0, hSw1⟩ := hSw
            go_simp
            try with_reducible rfl
          try simp only [Act.put, List.setIfInBounds_toArray, List.set_cons_zero, List.set_cons_succ]
          refine wpAnyH_ready (rs := [7]) (by kernel_rfl) (by simp) ?_
          refine AllReadyH.cons (by simp only [List.getElem?_toArray, List.getElem?_cons_zero, List.getElem?_cons_succ]; rfl) (fun K hK => ?_) AllReadyH.nil
          rw [if_pos (by rfl)]
          go_simp
          refine (HML.out wd).mono ?_
          rintro e wn ⟨rfl, hq⟩
          have hq' : wd = wn := hq.symm
          subst hq'
          go_wp2_with fail
          refine hK.out _ _ hHeld (fun hHeld => ?_)
          clear hK K
          try simp only [Act.put, List.setIfInBounds_toArray, List.set_cons_zero, List.set_cons_succ]
          refine wpAnyH_take (i := 12) (v := ?_) (by simp only [List.getElem?_toArray, List.getElem?_cons_zero, List.getElem?_cons_succ]; rfl) (by kernel_rfl) (by kernel_rfl) (by kernel_rfl) (fun _ _ _ h => h) (Or.inl ⟨by rfl, ?_⟩) hHeld ?_
          rotate_left
          · intro w hSw
            obtain ⟨hSw0, hSw1⟩ := hSw
            go_simp
            try with_reducible rfl
          try simp only [Act.put, List.setIfInBounds_toArray, List.set_cons_zero, List.set_cons_succ]
          refine wpAnyH_take (i := 13) (v := ?_) (by simp only [List.getElem?_toArray, List.getElem?_cons_zero, List.getElem?_cons_succ]; rfl) (by kernel_rfl) (by kernel_rfl) (by kernel_rfl) (fun _ _ _ h => h) (Or.inl ⟨by rfl, ?_⟩) hHeld ?_
          rotate_left
          · intro w hSw
            obtain ⟨hSw0, hSw1⟩ := hSw
            go_simp
            try with_reducible rfl
          try simp only [Act.put, List.setIfInBounds_toArray, List.set_cons_zero, List.set_cons_succ]
          refine wpAnyH_done (by kernel_rfl) (NoPanic.normal ?_) _
          clear hHeld HCI
          go_wp2_with fail
          go_roundw
          case rel => exact ⟨r, j, rfl, by go_num, lr, HJ.out, HST.out, HCW.out.2.2.1, HCW.out.2.2.2⟩
          case measure => simp [intOf]
end Go.Proofs.YtnffmegicgbinabDoor
/- The contract of oathbookref2.Joined. -/
namespace Go.Proofs.YtnffmegicgbinabDoor
open Go.RowKit
set_option linter.unusedVariables false
set_option linter.unusedSimpArgs false

/-- The places of shares; what they have at a place. -/
def placesL (ss : List Shr) : List UInt8 := ss.map fun s => UInt8.ofNat s.1
def colL (ss : List Shr) (k : Nat) : List UInt8 := ss.map fun s => s.2.getD k 0
theorem placesL_length (ss : List Shr) : (placesL ss).length = ss.length := by simp [placesL]
theorem colL_length (ss : List Shr) (k : Nat) : (colL ss k).length = ss.length := by simp [colL]
theorem nb_places {ss : List Shr} (h : ∀ s ∈ ss, s.1 < 256) : nb (placesL ss) = ss.map (·.1) := by
  unfold nb placesL
  rw [List.map_map]
  refine List.map_congr_left fun s hs => ?_
  have := h s hs
  show (UInt8.ofNat s.1).toNat = s.1
  rw [UInt8.toNat_ofNat']
  omega
theorem places_take {ss : List Shr} {i : Nat} (h : i < ss.length) : (placesL ss).take i ++ [UInt8.ofNat (ss.getD i noS).1] = (placesL ss).take (i + 1) := by
  rw [List.take_succ_eq_append_getElem (by rw [placesL_length]; exact h)]
  simp [placesL, List.getD_eq_getElem?_getD, List.getElem?_eq_getElem h]
theorem col_take {ss : List Shr} {i k : Nat} (h : i < ss.length) : (colL ss k).take i ++ [(ss.getD i noS).2.getD k 0] = (colL ss k).take (i + 1) := by
  rw [List.take_succ_eq_append_getElem (by rw [colL_length]; exact h)]
  simp [colL, List.getD_eq_getElem?_getD, List.getElem?_eq_getElem h]
/-- What shares tell at x, of their place k. -/
def thrS (ss : List Shr) (x k : Nat) : Nat := hsum (fun i => (nb (placesL ss)).getD i 0) (fun i => ddm (fun i => (nb (placesL ss)).getD i 0) (fun i => (nb (colL ss k)).getD i 0) (ss.length - 1) i) x ss.length 0
theorem getD_nb_lt (l : List UInt8) (i : Nat) : (nb l).getD i 0 < 256 := by
  rw [nb_at]
  exact UInt8.toNat_lt _
theorem thrS_lt (ss : List Shr) (x k : Nat) : thrS ss x k < 256 := hsum_lt (fun i => ddm_lt (fun i => getD_nb_lt _ _) _ _) x _ _
def joinedL (ss : List Shr) (x n : Nat) : List UInt8 := (List.range n).map fun k => UInt8.ofNat (thrS ss x k)
theorem joinedL_length (ss : List Shr) (x n : Nat) : (joinedL ss x n).length = n := by simp [joinedL]
theorem joinedL_succ (ss : List Shr) (x n : Nat) : joinedL ss x n ++ [UInt8.ofNat (thrS ss x n)] = joinedL ss x (n + 1) := by
  unfold joinedL
  rw [List.range_succ, List.map_append]
  rfl
theorem byte_cast {v : Nat} (h : v < 256) : (v : Int) = (((UInt8.ofNat v).toNat : Nat) : Int) := by rw [UInt8.toNat_ofNat']; omega
theorem nth_toNat (l : List UInt8) (i : Nat) : nth l i = ((l.getD i 0).toNat : Int) := by rw [nth_nb, nb_at]
set_option maxRecDepth 100000 in
set_option maxHeartbeats 2000000 in
theorem rjoined_own (a : Option Addr) (n c : Nat) (ss : List Shr) (x F : Nat) (w : World) (R : SRow w a n ss) (hc : n ≤ c) (hn0 : 0 < n) (hn : n ≤ 1000) (hx : x < 256) (hF : ∀ s ∈ ss, s.2.length = F) (hF2 : F ≤ 140737488351232) (hd : (ss.map (·.1)).Nodup) :
    Calls Tryd.prog 5 #[.slice a n c, .int .u8 (x : Int)] w fun e w' => (∃ a' c', e = .returned (.slice a' F c') ∧ F ≤ c' ∧ Row w' a' F (joinedL ss x F) ∧ OwnL w' w.heap.size (.slice a' F c') (joinedL ss x F)) ∧ Below w.heap.size w w' := by
  obtain ⟨i0, hi, hz0, hz1, hz2⟩ := info_parts Tryd.infoSh8
  have HL : Hid (ss.length = n) := R.1
  have HPL : Hid (∀ s ∈ ss, s.1 < 256) := R.place
  have HND : Hid ((nb (placesL ss)).Nodup) := by unfold Hid; rw [nb_places R.place]; exact hd
  obtain ⟨b, o, ha⟩ := R.addr (by omega)
  subst ha
  have HC : Hid (∀ i, i < n → ∃ (ai : Option Addr) (ci : Nat), F ≤ ci ∧ (∀ k, k < F → ∃ bi oi, ai = some ⟨bi, oi, none⟩) ∧ ∀ wx, Below w.heap.size w wx → wx.cell? ⟨b, o + i * 2, none⟩ = some (.int .u8 ((ss.getD i noS).1 : Int)) ∧ wx.cell? ⟨b, o + i * 2 + 1, none⟩ = some (.slice ai F ci) ∧
      ∀ bi oi, ai = some ⟨bi, oi, none⟩ → ∀ k, k < F → wx.cell? ⟨bi, oi + k, none⟩ = some (.int .u8 (nth (ss.getD i noS).2 k))) := by
    intro i hi
    obtain ⟨hp, c0, ai, ni, ci, c1, h4, h5, hR⟩ := R.at i hi
    have hni : ni = F := by
      rw [← hR.1]
      refine hF _ ?_
      rw [List.getD_eq_getElem?_getD, List.getElem?_eq_getElem (by rw [HL.out]; exact hi)]
      exact List.getElem_mem _
    subst hni
    refine ⟨ai, ci, h4, fun k hk => ?_, fun wx hb => ⟨(hb.cell (p := ⟨b, o + i * 2, none⟩) (cell_block c0)).trans c0, (hb.cell (p := ⟨b, o + i * 2 + 1, none⟩) (cell_block c1)).trans c1, fun bi oi e k hk => ?_⟩⟩
    · rcases hR.2 with h0 | ⟨bi, oi, e, _⟩
      · omega
      · exact ⟨bi, oi, e⟩
    · rcases hR.2 with h0 | ⟨bi', oi', e', hcell⟩
      · omega
      · rw [e] at e'
        cases e'
        have ck := hcell k hk
        exact (hb.cell (p := ⟨bi, oi + k, none⟩) (cell_block ck)).trans ck
  clear R hF hd
  go_enter Tryd.func5, Tryd.ntmps5
  go_wp2_with fail
  go_loopw [5, 6] (fun ov kv wr => ∃ k : Nat, kv = .int .i64 (k : Int) ∧ k ≤ F ∧ Hid (OwnL wr w.heap.size ov (joinedL ss x k)) ∧ Hid (Below w.heap.size w wr)) (fun _ kv _ => F - (intOf kv).toNat)
  case atStart => exact ⟨0, rfl, Nat.zero_le _, OwnL.nil _ _, Below.refl _ _⟩
  case round =>
    obtain ⟨k, rfl, hk, HO, HB⟩ := hrel
    obtain ⟨a0, c0, hc0, haa, HC0⟩ := HC.out 0 (by omega)
    have q0 : wr.cell? ⟨b, o + 1, none⟩ = some (.slice a0 F c0) := by have := (HC0 wr HB.out).2.1; simpa using this
    clear HC0 haa
    have k0 : (0 : Int) ≤ (k : Int) := by omega
    have n0 : (0 : Int) < (n : Int) := by omega
    by_cases hlt : k < F
    · have HKF : Hid (k < F) := hlt
      have k1 : (k : Int) < (F : Int) := by omega
      clear hlt hk
      go_wp2_with fail
      clear q0 hc0
      generalize wr = w1 at *
      clear wr
      have HW1 : Hid (Below w1.heap.size w1 w1) := Below.refl _ _
      go_loopw [7, 8, 9] (fun av vv iv wr => ∃ i : Nat, iv = .int .i64 (i : Int) ∧ i ≤ n ∧ OwnL wr w1.heap.size av ((placesL ss).take i) ∧ OwnL wr w1.heap.size vv ((colL ss k).take i) ∧ Sep av vv ∧ Hid (Below w1.heap.size w1 wr)) (fun _ _ iv _ => n - (intOf iv).toNat)
      case atStart => exact ⟨0, rfl, Nat.zero_le _, OwnL.nil _ _, OwnL.nil _ _, .inl rfl, HW1.out⟩
      case round =>
        clear HW1
        obtain ⟨i, rfl, hi', hA, hV, hS, HB2⟩ := hrel
        have i0' : (0 : Int) ≤ (i : Int) := by omega
        by_cases hlt : i < n
        · have i1 : (i : Int) < (n : Int) := by omega
          obtain ⟨ai, ci, hci, hadr, HCI⟩ := HC.out i hlt
          obtain ⟨bi, oi, rfl⟩ := hadr k HKF.out
          have HCI' : Hid (∀ wx, Below w1.heap.size w1 wx → wx.cell? ⟨b, o + i * 2, none⟩ = some (.int .u8 ((ss.getD i noS).1 : Int)) ∧ wx.cell? ⟨b, o + i * 2 + 1, none⟩ = some (.slice (some ⟨bi, oi, none⟩) F ci) ∧ wx.cell? ⟨bi, oi + k, none⟩ = some (.int .u8 (((ss.getD i noS).2.getD k 0).toNat : Int))) := fun wx hx => by
            have h := HCI wx (HB.out.trans (hx.mono HB.out.size))
            exact ⟨h.1, h.2.1, by rw [h.2.2 bi oi rfl k HKF.out, nth_toNat]⟩
          have hp8 : (ss.getD i noS).1 < 256 := HPL.out _ (by
            rw [List.getD_eq_getElem?_getD, List.getElem?_eq_getElem (by rw [HL.out]; exact hlt)]
            exact List.getElem_mem _)
          have HTP : Hid ((placesL ss).take i ++ [UInt8.ofNat (ss.getD i noS).1] = (placesL ss).take (i + 1)) := places_take (by rw [HL.out]; exact hlt)
          have HTC : Hid ((colL ss k).take i ++ [(ss.getD i noS).2.getD k 0] = (colL ss k).take (i + 1)) := col_take (by rw [HL.out]; exact hlt)
          have HPA : Hid (((placesL ss).take i).length ≤ 1000 ∧ ((colL ss k).take i).length ≤ 1000) := ⟨by rw [List.length_take]; omega, by rw [List.length_take]; omega⟩
          clear HCI hadr
          generalize (ss.getD i noS).1 = p at *
          generalize (ss.getD i noS).2.getD k 0 = y at *
          generalize (placesL ss).take i = A at *
          generalize (colL ss k).take i = V at *
          have HA : Hid (OwnL wr w1.heap.size u7 A) := hA
          have HV : Hid (OwnL wr w1.heap.size u8 V) := hV
          have HBC : Hid ((p : Int) = (((UInt8.ofNat p).toNat : Nat) : Int)) := byte_cast hp8
          have r0 := (HCI'.out wr HB2.out).1
          clear hA hV
          go_upto_region 11 with (at_builtin; refine wpList_append_bytes_at rfl (.tmp 25) (.tmp 31) 26 rfl w1.heap.size i0 Tryd.underlying26 hi hz0 hz1 hz2 u7 (A) rfl (World.ownsRow.alloc HA.out _) _ 1 1 [UInt8.ofNat p] rfl (Row.lit1v wr (UInt8.ofNat p) 5 _ HBC.out) (by have := HPA.out.1; omega) (by have := HB2.out.size; simp; omega) ?_; intro v6 w6 ho6 hg6 ha6)
          try simp only [Act.put, List.setIfInBounds_toArray, List.set_cons_zero, List.set_cons_succ]
          have s6 : Sep v6 u8 := Sep.next hS ha6 (World.ownsRow.alloc HV.out _)
          have HB6 : Hid (Below w1.heap.size w1 w6) := OwnL.grown (World.ownsRow.alloc HA.out _) (HB2.out.alloc HB2.out.size _) hg6 (Nat.le_refl _) (by have := HB2.out.size; simp; omega)
          have HV6 : Hid (OwnL w6 w1.heap.size u8 V) := OwnL.other (World.ownsRow.alloc HV.out _) hg6 hS
          have HA6 : Hid (OwnL w6 w1.heap.size v6 (A ++ [UInt8.ofNat p])) := ho6
          have r1 := (HCI'.out w6 HB6.out).2.1
          have r2 := (HCI'.out w6 HB6.out).2.2
          have k1' : (k : Int) < (F : Int) := k1
          clear ho6 hg6 ha6 hS HA HV r0 HBC
          go_wp2_with (at_builtin; refine wpList_append_bytes_at rfl (.tmp 33) (.tmp 42) 26 rfl w1.heap.size i0 Tryd.underlying26 hi hz0 hz1 hz2 u8 (V) rfl (World.ownsRow.alloc HV6.out _) _ 1 1 [y] rfl (Row.lit1v w6 y 5 _ rfl) (by have := HPA.out.2; omega) (by have := HB6.out.size; simp; omega) ?_; intro v7 w7 ho7 hg7 ha7)
          have q7 : OwnL w7 w1.heap.size v6 ((placesL ss).take (i + 1)) := by rw [← HTP.out]; exact OwnL.other (World.ownsRow.alloc HA6.out _) hg7 s6.symm
          have q8 : OwnL w7 w1.heap.size v7 ((colL ss k).take (i + 1)) := by rw [← HTC.out]; exact ho7
          have B7 := OwnL.grown (World.ownsRow.alloc HV6.out _) (HB6.out.alloc HB6.out.size _) hg7 (Nat.le_refl _) (by have := HB6.out.size; simp; omega)
          have s7 : Sep v6 v7 := (Sep.next s6.symm ha7 (World.ownsRow.alloc HA6.out _)).symm
          go_roundw
          case rel => exact ⟨i + 1, by go_num, by omega, q7, q8, s7, B7⟩
          case measure => simp [intOf]; omega
        · have hin : i = n := by omega
          subst hin
          have hA' : OwnL wr w1.heap.size u7 (placesL ss) := by rwa [List.take_of_length_le (by rw [placesL_length, HL.out]; exact Nat.le_refl _)] at hA
          have hV' : OwnL wr w1.heap.size u8 (colL ss k) := by rwa [List.take_of_length_le (by rw [colL_length, HL.out]; exact Nat.le_refl _)] at hV
          obtain ⟨aa, ca, rfl, RA, hca⟩ := hA'.form
          obtain ⟨av, cv, rfl, RV, hcv⟩ := hV'.form
          rw [placesL_length, HL.out] at RA hca
          rw [colL_length, HL.out] at RV hcv
          have HRA : Hid (Row wr aa i (placesL ss)) := RA
          have HRV : Hid (Row wr av i (colL ss k)) := RV
          have HOW : Hid (OwnL wr w.heap.size u5 (joinedL ss x k)) := HO.out.below HB2.out
          have HBW : Hid (Below w.heap.size w wr) := HB.out.trans (HB2.out.mono HB.out.size)
          have g2 : ¬ (i : Int) < (i : Int) := by omega
          have lA : (placesL ss).length = i := by rw [placesL_length]; exact HL.out
          have lV : (colL ss k).length = i := by rw [colL_length]; exact HL.out
          simp only [placesL_length, colL_length, HL.out]
          clear hA hV hA' hV' hS RA RV HB2 hlt
          go_wp2_with fail
          refine (rthrough_any aa ca (placesL ss) av cv (colL ss k) i x wr HRA.out HRV.out hca hcv hn0 hn hx HND.out).mono ?_
          rintro e w8 ⟨rfl, hb8⟩
          have HTH : Hid (hsum (fun i => (nb (placesL ss)).getD i 0) (fun i => ddm (fun i => (nb (placesL ss)).getD i 0) (fun i => (nb (colL ss k)).getD i 0) (ss.length - 1) i) x ss.length 0 = thrS ss x k) := rfl
          rw [HL.out] at HTH
          rw [HTH.out]
          have hT8 := thrS_lt ss x k
          have HJS : Hid (joinedL ss x k ++ [UInt8.ofNat (thrS ss x k)] = joinedL ss x (k + 1)) := joinedL_succ ss x k
          have HJL : Hid ((joinedL ss x k).length = k) := joinedL_length ss x k
          generalize thrS ss x k = T at *
          generalize joinedL ss x k = J at *
          have HTB : Hid ((T : Int) = (((UInt8.ofNat T).toNat : Nat) : Int)) := byte_cast hT8
          have HO8 : Hid (OwnL w8 w.heap.size u5 J) := HOW.out.below hb8
          have HB8 : Hid (Below w.heap.size w w8) := HBW.out.trans (hb8.mono HBW.out.size)
          clear hb8 HTH HRA HRV HOW HBW
          go_wp2_with (at_builtin; refine wpList_append_bytes_at rfl (.tmp 44) (.tmp 49) 26 rfl w.heap.size i0 Tryd.underlying26 hi hz0 hz1 hz2 u5 (J) rfl (World.ownsRow.alloc HO8.out _) _ 1 1 [UInt8.ofNat T] rfl (Row.lit1v w8 (UInt8.ofNat T) 5 _ HTB.out) (by rw [HJL.out]; have := HKF.out; omega) (by have := HB8.out.size; simp; omega) ?_; intro v9 w9 ho9 hg9 ha9)
          have q9 : OwnL w9 w.heap.size v9 (joinedL ss x (k + 1)) := by rw [← HJS.out]; exact ho9
          have B9 := OwnL.grown (World.ownsRow.alloc HO8.out _) (HB8.out.alloc HB8.out.size _) hg9 (Nat.le_refl _) (by have := HB8.out.size; simp; omega)
          have hk3 := HKF.out
          go_roundw
          case rel => exact ⟨k + 1, by go_num, by omega, q9, B9⟩
          case measure => simp [intOf]; omega
    · have hkf : k = F := by omega
      subst hkf
      obtain ⟨a1, c1, e1, R1, h1⟩ := HO.out.form
      rw [joinedL_length] at e1 R1 h1
      have HE : Hid (u5 = .slice a1 k c1) := e1
      have HR1 : Hid (Row wr a1 k (joinedL ss x k)) := R1
      have HOf : Hid (OwnL wr w.heap.size (.slice a1 k c1) (joinedL ss x k)) := by rw [← e1]; exact HO.out
      have g2 : ¬ (k : Int) < (k : Int) := by omega
      clear e1 R1
      go_wp2_with fail
      go_ret
      exact ⟨⟨a1, c1, by rw [HE.out]; rfl, h1, HR1.out, HOf.out⟩, HB.out⟩
theorem rjoined_any (a : Option Addr) (n c : Nat) (ss : List Shr) (x F : Nat) (w : World) (R : SRow w a n ss) (hc : n ≤ c) (hn0 : 0 < n) (hn : n ≤ 1000) (hx : x < 256) (hF : ∀ s ∈ ss, s.2.length = F) (hF2 : F ≤ 140737488351232) (hd : (ss.map (·.1)).Nodup) :
    Calls Tryd.prog 5 #[.slice a n c, .int .u8 (x : Int)] w fun e w' => (∃ a' c', e = .returned (.slice a' F c') ∧ F ≤ c' ∧ Row w' a' F (joinedL ss x F)) ∧ Below w.heap.size w w' :=
  (rjoined_own a n c ss x F w R hc hn0 hn hx hF hF2 hd).mono fun e w' ⟨⟨a', c', h1, h2, h3, _⟩, h5⟩ => ⟨⟨a', c', h1, h2, h3⟩, h5⟩
end Go.Proofs.YtnffmegicgbinabDoor
/- Plain facts of what shares tell, whatever way it is reckoned. -/
namespace Go.Proofs.YtnffmegicgbinabDoor
open Go.RowKit
set_option linter.unusedVariables false
set_option linter.unusedSimpArgs false

/-- What is wrong with shares that are to be joined. -/
def joinE (ss : List Shr) : Int := if ss.length < 1 ∨ 20 < ss.length then 2 else sfault 1 255 ss
theorem joinE_ok {ss : List Shr} (h : joinE ss = 0) : 0 < ss.length ∧ ss.length ≤ 20 ∧ sfault 1 255 ss = 0 := by
  unfold joinE at h
  by_cases c : ss.length < 1 ∨ 20 < ss.length
  · rw [if_pos c] at h; omega
  · rw [if_neg c] at h
    exact ⟨by omega, by omega, h⟩
/-- What shares have at a place. -/
def colN (ss : List Shr) (k : Nat) : List Nat := ss.map fun s => (s.2.getD k 0).toNat
theorem nb_col (ss : List Shr) (k : Nat) : nb (colL ss k) = colN ss k := by
  unfold nb colL colN
  rw [List.map_map]
  rfl
/-- l is, place by place, what the shares tell at x. -/
def joinedP (ss : List Shr) (x : Nat) (l : List UInt8) : Prop :=
  l.length = (ss.getD 0 noS).2.length ∧ ∀ k, k < l.length → Interp (ss.map (·.1)) (colN ss k) x ((nb l).getD k 0)
theorem joinedL_at {ss : List Shr} {x n k : Nat} (hk : k < n) : (nb (joinedL ss x n)).getD k 0 = thrS ss x k := by
  rw [nb_at]
  unfold joinedL
  rw [List.getD_eq_getElem?_getD, List.getElem?_map, List.getElem?_range hk]
  show (UInt8.ofNat (thrS ss x k)).toNat = _
  rw [UInt8.toNat_ofNat']
  have := thrS_lt ss x k
  omega
theorem thrS_interp {ss : List Shr} {x : Nat} (hn : 0 < ss.length) (hp : ∀ s ∈ ss, s.1 < 256) (hd : (ss.map (·.1)).Nodup) (hx : x < 256) (k : Nat) : Interp (ss.map (·.1)) (colN ss k) x (thrS ss x k) := by
  have h := through_interp (at' := nb (placesL ss)) (v := nb (colL ss k)) (x := x) (by rw [nb_len, placesL_length]; exact hn) (nb_bys _) (nb_bys _) (by rw [nb_places hp]; exact hd) hx
  rw [nb_len, placesL_length] at h
  have e : Interp (nb (placesL ss)) (nb (colL ss k)) x (thrS ss x k) := h
  rwa [nb_places hp, nb_col] at e
theorem joinedL_is {ss : List Shr} {x : Nat} (hn : 0 < ss.length) (hp : ∀ s ∈ ss, s.1 < 256) (hd : (ss.map (·.1)).Nodup) (hx : x < 256) : joinedP ss x (joinedL ss x (ss.getD 0 noS).2.length) := by
  refine ⟨joinedL_length _ _ _, fun k hk => ?_⟩
  rw [joinedL_length] at hk
  rw [joinedL_at hk]
  exact thrS_interp hn hp hd hx k
theorem places_bys {ss : List Shr} (hp : ∀ s ∈ ss, s.1 < 256) : bys (ss.map (·.1)) := fun y hy => by
  obtain ⟨s, hs, rfl⟩ := List.mem_map.1 hy
  exact hp s hs
/-- There is one. -/
theorem joinedP_unique {ss : List Shr} {x : Nat} {l m : List UInt8} (hp : ∀ s ∈ ss, s.1 < 256) (hd : (ss.map (·.1)).Nodup) (hx : x < 256) (hl : joinedP ss x l) (hm : joinedP ss x m) : l = m := by
  refine nb_inj ?_
  apply List.ext_getElem
  · rw [nb_len, nb_len, hl.1, hm.1]
  · intro k a b
    have h1 := hl.2 k (by rwa [nb_len] at a)
    have h2 := hm.2 k (by rwa [nb_len] at b)
    have e := interp_unique hd (places_bys hp) hx h1 h2
    rw [List.getD_eq_getElem?_getD, List.getD_eq_getElem?_getD, List.getElem?_eq_getElem a, List.getElem?_eq_getElem b] at e
    exact e
/-- One share tells what it has. -/
theorem joinedP_one {p v : UInt8} {l : List UInt8} {x : Nat} (hx : x < 256) (h : joinedP [(p.toNat, [v])] x l) : l = [v] := by
  have hp : ∀ s ∈ ([(p.toNat, [v])] : List Shr), s.1 < 256 := fun s hs => by rw [List.mem_singleton.1 hs]; exact p.toNat_lt
  refine joinedP_unique hp (by simp) hx h ⟨rfl, fun k hk => ?_⟩
  have hk0 : k = 0 := by simp at hk; exact hk
  subst hk0
  have e3 : ∀ y, polyv [v.toNat] y = v.toNat := fun y => by
    show v.toNat ^^^ gm y 0 = v.toNat
    rw [gm_zero, Nat.xor_zero]
  have e := e3 x
  have e2 := e3 p.toNat
  refine ⟨[v.toNat], fun y hy => by rw [List.mem_singleton.1 hy]; exact v.toNat_lt, by simp, fun i hi => ?_, ?_⟩
  · have : i = 0 := by simp at hi; exact hi
    subst this
    exact e2
  · show (nb [v]).getD 0 0 = _
    rw [e]
    rfl
end Go.Proofs.YtnffmegicgbinabDoor
