/- Texts of this claim, joined: Till, Rtrie2, Rtrie3. -/
import Derived.Test.YtbhoijnhpmkglaaDoorJ13
import Derived.Deep.RegionHeld
import Derived.Test.YtbhoijnhpmkglaaDoorJ11
/- A region that draws its order, and whose last operation (it waits for all others) writes what was loaded: a condition on the world that holds behind each operation but the last. No theorem of the program. -/
namespace Go.Proofs.YtbhoijnhpmkglaaDoor
open Go.RowKit
set_option linter.unusedVariables false
set_option linter.unusedSimpArgs false
section
variable {P : Program} {ops : Array Oper} {Q : Exit → Act → World → Prop} {md : Region.Mode} {S : World → Prop} {last : Nat}

def wpAnyT (P : Program) (md : Region.Mode) (ops : Array Oper) (Q : Exit → Act → World → Prop) (S : World → Prop) (last : Nat) : Nat → Array Bool → Act → World → Prop
  | 0, listed, a, w => Region.ready md ops listed = [] ∧ Q .normal a w
  | fuel + 1, listed, a, w =>
    (Region.ready md ops listed = [] → Q .normal a w) ∧
    ∀ i ∈ Region.ready md ops listed, wpOp P ops Q i (fun a' w' => (i ≠ last → S w') ∧ wpAnyT P md ops Q S last fuel (listed.setIfInBounds i true) a' w') a w
theorem wpAny_of_till : ∀ (fuel : Nat) (listed : Array Bool) (a : Act) (w : World), wpAnyT P md ops Q S last fuel listed a w → wpAny P md ops Q fuel listed a w
  | 0, _, _, _, h => h
  | fuel + 1, _, _, _, h => ⟨h.1, fun i hi => wpOp_mono (fun a' w' h' => wpAny_of_till fuel _ a' w' h'.2) (h.2 i hi)⟩
/-- The last one waits for i. -/
def lastWaits (md : Region.Mode) (ops : Array Oper) (last i : Nat) : Bool := match ops[last]? with
  | none => false
  | some o => o.after.toList.any fun e => Region.binds md e && e.on == i
theorem lastWaits_spec {i : Nat} {listed : Array Bool} (h : lastWaits md ops last i = true) (hi : listed.getD i true = false) : last ∉ Region.ready md ops listed := by
  intro hl
  obtain ⟨_, o, ho, hall⟩ := mem_ready.1 hl
  unfold lastWaits at h
  rw [ho] at h
  obtain ⟨e, he, hb⟩ := List.any_eq_true.1 h
  simp only [Bool.and_eq_true, beq_iff_eq] at hb
  have := hall e (Array.mem_toList_iff.1 he) hb.1
  rw [hb.2] at this
  rcases Nat.lt_or_ge i listed.size with h' | h'
  · simp [h'] at hi this; rw [hi] at this; cases this
  · simp [Array.getElem?_eq_none h'] at this
theorem wpAnyT_first {i : Nat} {oi : Oper} {v : Value} (hi : ops[i]? = some oi) (hsel : ∀ (j : Nat) (o : Oper) cs b, ops[j]? = some o → o.op ≠ .select cs b)
    (hQ : ∀ c a w, Q (.panic c) (a.put oi.dst v) w → Q (.panic c) a w) (hw8 : lastWaits md ops last i = true) :
    ∀ (fuel : Nat) (listed : Array Bool) (a : Act) (w : World),
      (∀ j oj, ops[j]? = some oj → j ≠ i → listed.getD j true = false → (∀ e ∈ oj.after, Region.binds md e = true → e.on ≠ i) → oi.apart ops oj = true) →
      i ∈ Region.ready md ops listed → YieldsIf P ops S oi v a → S w →
      wpAnyT P md ops Q S last fuel (listed.setIfInBounds i true) (a.put oi.dst v) w → wpAnyT P md ops Q S last (fuel + 1) listed a w := by
  intro fuel
  induction fuel with
  | zero =>
    intro listed a w _ hr hy hS H
    refine ⟨fun h => (by rw [h] at hr; cases hr), fun j hj => ?_⟩
    by_cases hji : j = i
    · subst hji; exact hy.wpOp hi hS ⟨fun _ => hS, H⟩
    · have := ready_mono hj hji
      rw [H.1] at this
      cases this
  | succ fuel ih =>
    intro listed a w hfree hr hy hS H
    refine ⟨fun h => (by rw [h] at hr; cases hr), fun j hj => ?_⟩
    by_cases hji : j = i
    · subst hji; exact hy.wpOp hi hS ⟨fun _ => hS, H⟩
    · have hjl : j ≠ last := fun e => lastWaits_spec hw8 (mem_ready.1 hr).1 (e ▸ hj)
      have h1 := H.2 j (ready_mono hj hji)
      obtain ⟨hjun, oj, hoj, hall⟩ := mem_ready.1 hj
      have hnot : ∀ e ∈ oj.after, Region.binds md e = true → e.on ≠ i := fun e he hb heq => by
        have h1 := hall e he hb
        have h0 := (mem_ready.1 hr).1
        rw [heq] at h1
        rcases Nat.lt_or_ge i listed.size with h' | h'
        · simp [h'] at h0 h1; rw [h0] at h1; cases h1
        · simp [Array.getElem?_eq_none h'] at h1
      have h2 := wpOp_putIf hoj (hfree j oj hoj hji hjun hnot) (fun cs b => hsel i oi cs b hi) (fun cs b => hsel j oj cs b hoj) hQ hy h1
      have hfree' : ∀ k ok, ops[k]? = some ok → k ≠ i → (listed.setIfInBounds j true).getD k true = false →
          (∀ e ∈ ok.after, Region.binds md e = true → e.on ≠ i) → oi.apart ops ok = true := fun k ok hk hki hun hno => by
        refine hfree k ok hk hki ?_ hno
        by_cases hjk : j = k
        · subst hjk; exact hjun
        · rw [getD_set_ne true hjk] at hun; exact hun
      refine wpOp_mono (fun a' w' h3 => ⟨h3.2.1, ih (listed.setIfInBounds j true) a' w' hfree' (ready_mono hr (Ne.symm hji)) h3.1 (h3.2.1 hjl) ?_⟩) h2
      rw [Array.setIfInBounds_comm _ _ hji]
      exact h3.2.2
theorem wpAnyT_take {i : Nat} {oi : Oper} {v : Value} {fuel : Nat} {listed : Array Bool} {a : Act} {w : World} (hi : ops[i]? = some oi)
    (hs : Region.noSelect ops = true) (hf : Region.free md ops listed i = true) (hr : (Region.ready md ops listed).contains i = true) (hw8 : lastWaits md ops last i = true)
    (hQ : ∀ c a w, Q (.panic c) (a.put oi.dst v) w → Q (.panic c) a w) (hy : YieldsIf P ops S oi v a) (hS : S w)
    (h : wpAnyT P md ops Q S last fuel (listed.setIfInBounds i true) (a.put oi.dst v) w) : wpAnyT P md ops Q S last (fuel + 1) listed a w :=
  wpAnyT_first hi (Region.noSelect_spec hs) hQ hw8 fuel listed a w (Region.free_spec hi hf) (by simpa using hr) hy hS h
def AllReadyT (P : Program) (md : Region.Mode) (ops : Array Oper) (Q : Exit → Act → World → Prop) (S : World → Prop) (last : Nat) (fuel : Nat) (listed : Array Bool) (a : Act) (w : World) (rs : List Nat) : Prop :=
  ∀ i ∈ rs, wpOp P ops Q i (fun a' w' => (i ≠ last → S w') ∧ wpAnyT P md ops Q S last fuel (listed.setIfInBounds i true) a' w') a w
theorem AllReadyT.nil {fuel : Nat} {listed : Array Bool} {a : Act} {w : World} : AllReadyT P md ops Q S last fuel listed a w [] := fun _ h => by cases h
theorem AllReadyT.cons {fuel : Nat} {listed : Array Bool} {a : Act} {w : World} {i : Nat} {o : Oper} {rs : List Nat} (ho : ops[i]? = some o)
    (h : ∀ K' : Act → World → Prop, Shut (∀ a w, S w → (S w → wpAnyT P md ops Q S last fuel (listed.setIfInBounds i true) a w) → K' a w) → if Region.wanted o (yielded ops a.tmps) = true then Oper.wp P o a w K' Q else K' (a.put o.dst undef) w)
    (hs : AllReadyT P md ops Q S last fuel listed a w rs) : AllReadyT P md ops Q S last fuel listed a w (i :: rs) := fun j hj => by
  rcases List.mem_cons.1 hj with rfl | hj
  · exact wpOp_step ho (fun K' hK => h K' (fun a w hS hW => hK a w ⟨fun _ => hS, hW hS⟩))
  · exact hs j hj
/-- The last one: behind it nothing is asked of the world. -/
theorem AllReadyT.lastly {fuel : Nat} {listed : Array Bool} {a : Act} {w : World} {i : Nat} {o : Oper} {rs : List Nat} (ho : ops[i]? = some o) (hl : last = i)
    (h : ∀ K' : Act → World → Prop, Shut (∀ a w, wpAnyT P md ops Q S last fuel (listed.setIfInBounds i true) a w → K' a w) → if Region.wanted o (yielded ops a.tmps) = true then Oper.wp P o a w K' Q else K' (a.put o.dst undef) w)
    (hs : AllReadyT P md ops Q S last fuel listed a w rs) : AllReadyT P md ops Q S last fuel listed a w (i :: rs) := fun j hj => by
  rcases List.mem_cons.1 hj with rfl | hj
  · exact wpOp_step ho (fun K' hK => h K' (fun a w hW => hK a w ⟨fun hn => absurd hl.symm hn, hW⟩))
  · exact hs j hj
theorem wpAnyT_ready {rs : List Nat} {fuel : Nat} {listed : Array Bool} {a : Act} {w : World} (hr : Region.ready md ops listed = rs) (hne : rs ≠ [])
    (h : AllReadyT P md ops Q S last fuel listed a w rs) : wpAnyT P md ops Q S last (fuel + 1) listed a w := ⟨fun h0 => absurd (hr ▸ h0) hne, hr ▸ h⟩
theorem wpAnyT_done {listed : Array Bool} {a : Act} {w : World} (hr : Region.ready md ops listed = []) (h : Q .normal a w) :
    ∀ fuel, wpAnyT P md ops Q S last fuel listed a w
  | 0 => ⟨hr, h⟩
  | _ + 1 => ⟨fun _ => h, by rw [hr]; simp⟩
theorem wp_region_till {id : Nat} {a : Act} {w : World} (last : Nat) (hm : P.follows .mixedOrders = true) (hS : S w.drew)
    (h : S w.drew → wpAnyT P .any ops Q S last ops.size (Array.replicate ops.size false) a w.drew) : (Code.region id ops true).wp P Q a w :=
  wp_region_any hm (wpAny_of_till _ _ _ _ (h hS))
theorem wpIn_round_till {id : Nat} {a : Act} {w : World} (last : Nat) (l n : Nat) (hm : P.follows .mixedOrders = true) (hd : noDefer ops = true) (hQ : ¬ LetsOut Q) (hS : S w.drew)
    (h : S w.drew → wpAnyT P .any ops Q S last ops.size (Array.replicate ops.size false) a w.drew) : (Code.region id ops true).wpIn (Fence.wide.inRound l) n P Q a w :=
  wpIn_region_draw fun t => by
    refine wpOps_round l n hd hQ _ _ _ ?_
    simp only [Region.schedule, hm, Bool.true_or, if_true]
    exact wpAny_sound ops.size t _ a _ (wpAny_of_till _ _ _ _ (h hS))
end
end Go.Proofs.YtbhoijnhpmkglaaDoor
/- The contracts of oathbookref2.under, MapRoot, MapPath and MapFolded. -/
namespace Go.Proofs.YtbhoijnhpmkglaaDoor
open Go.RowKit
set_option linter.unusedVariables false
set_option linter.unusedSimpArgs false

theorem under_step {es : List Ent} {f many : Int} {i : Nat} (h : i < es.length) : underL (es.take (i + 1)) f many = underL (es.take i) f many ++ (if (es.getD i noE).1 ≥ f ∧ (es.getD i noE).1 - f < many then [es.getD i noE] else []) := by
  unfold underL
  rw [List.take_succ_eq_append_getElem h, List.filter_append, List.getD_eq_getElem?_getD, List.getElem?_eq_getElem h]
  congr 1
  show List.filter _ [es[i]] = if es[i].1 ≥ f ∧ es[i].1 - f < many then [es[i]] else []
  by_cases c : es[i].1 ≥ f ∧ es[i].1 - f < many
  · rw [if_pos c]; simp [c]
  · rw [if_neg c]; simp [c]
theorem under_le (es : List Ent) (f many : Int) : (underL es f many).length ≤ es.length := List.length_filter_le _ _
set_option maxRecDepth 100000 in
set_option maxHeartbeats 2000000 in
theorem runder_any (a : Option Addr) (n c : Nat) (es : List Ent) (f many : Nat) (w : World) (R : ERow w a n es) (hc : n ≤ c) (hn : n ≤ 1000) (hf : f ≤ 4294967296) (hm : many ≤ 4294967296) :
    Calls Tryd.prog 27 #[.slice a n c, .int .i64 (f : Int), .int .i64 (many : Int)] w fun r w' => (∃ v, r = .returned v ∧ OwnE w' w.heap.size v (underL es f many)) ∧ Below w.heap.size w w' := by
  have HR : Hid (∀ wx, Below w.heap.size w wx → ERow wx a n es) := fun wx hx => R.below hx
  have HL : Hid (es.length = n) := R.1
  have HOKS : Hid (∀ i, i < n → okE (es.getD i noE)) := R.ok
  clear R
  go_enter Tryd.func27, Tryd.ntmps27
  go_wp2_with fail
  go_loopw [7, 8] (fun v iv wr => ∃ i : Nat, i ≤ n ∧ iv = .int .i64 (i : Int) ∧ OwnE wr w.heap.size v (underL (es.take i) f many) ∧ Below w.heap.size w wr) (fun _ iv _ => n - (intOf iv).toNat)
  case atStart => exact ⟨0, Nat.zero_le _, rfl, OwnE.nil _ _, Below.refl _ _⟩
  case round =>
    obtain ⟨i, hi, rfl, hO, hB⟩ := hrel
    have HO : Hid (OwnE wr w.heap.size u7 (underL (es.take i) f many)) := hO
    have HB : Hid (Below w.heap.size w wr) := hB
    clear hO hB
    by_cases hlt : i < n
    · obtain ⟨b, o, ha⟩ := (HR.out _ HB.out).addr (by omega)
      subst ha
      have hr := (HR.out _ HB.out).at i hlt
      have HOK : Hid (okE (es.getD i noE)) := HOKS.out i hlt
      have HST := under_step (f := (f : Int)) (many := (many : Int)) (i := i) (es := es) (by rw [HL.out]; exact hlt)
      have HLU : Hid ((underL (es.take i) f many).length ≤ 1000) := by
        have h1 := under_le (es.take i) f many
        rw [List.length_take] at h1
        unfold Hid
        omega
      have b1 := HOK.out.2.1
      have b2 := HOK.out.2.2
      generalize es.getD i noE = e at *
      have HRG : Hid (wr.rangeAt b (o + i * 33) (entC e)) := hr
      have k0 : wr.cell? ⟨b, o + i * 33, none⟩ = some (.int .i64 e.1) := hr 0 _ rfl
      clear hr
      have i0 : (0 : Int) ≤ (i : Int) := by omega
      have i1 : (i : Int) < (n : Int) := by omega
      by_cases c1 : (f : Int) ≤ e.1
      · by_cases c2 : e.1 - (f : Int) < (many : Int)
        · have HST2 : Hid (underL (es.take (i + 1)) f many = underL (es.take i) f many ++ [e]) := by rw [if_pos ⟨c1, c2⟩] at HST; exact HST
          have HOa : Hid (OwnE (wr.alloc (.cells (entC e).toArray 26)) w.heap.size u7 (underL (es.take i) f many)) := OwnE.alloc HO.out _
          have HBa : Hid (Below w.heap.size w (wr.alloc (.cells (entC e).toArray 26))) := Below.alloc HB.out HB.out.size _
          have HNa : Hid (ERow (wr.alloc (.cells (entC e).toArray 26)) (some ⟨wr.heap.size, 0, none⟩) 1 [e]) := ERow.new wr e _ HOK.out
          clear HST
          go_wp2_with (first
            | (refine wpList_load_mid (by rfl) 26 (.tmp 36) (by rfl) b (o + i * 33) (by rfl) (entC e) _ HRG.out Tryd.underlying26 (by rfl) (by rw [entC_length HOK.out]; exact Tryd.sizeEn) ?_)
            | (refine wpList_buildEn (by rfl) (.tmp 37) (by rfl) e HOK.out (by rfl) ?_)
            | (at_builtin; refine wpList_append_entries (by rfl) (.tmp 33) (.tmp 38) (by rfl) w.heap.size u7 (underL (es.take i) f many) (by rfl) HOa.out ⟨wr.heap.size, 0, none⟩ 1 1 [e] (by rfl) HNa.out (by omega) (by have := HLU.out; omega) HBa.out.size ?_; intro v5 w5 ho5 hg5 _; have HO5 : Hid (OwnE w5 w.heap.size v5 (underL (es.take i) f many ++ [e])) := ho5; have HB5 : Hid (Below w.heap.size w w5) := OwnE.grown HOa.out HBa.out hg5 (Nat.le_refl _) HBa.out.size; clear ho5 hg5))
          go_roundw
          case rel => exact ⟨i + 1, by omega, by go_num, by rw [HST2.out]; exact HO5.out, HB5.out⟩
          case measure => simp [intOf]; omega
        · have HST2 : Hid (underL (es.take (i + 1)) f many = underL (es.take i) f many) := by rw [if_neg (fun q => c2 q.2), List.append_nil] at HST; exact HST
          clear HST
          go_wp2_with fail
          go_roundw
          case rel => exact ⟨i + 1, by omega, by go_num, by rw [HST2.out]; exact HO.out, HB.out⟩
          case measure => simp [intOf]; omega
      · have HST2 : Hid (underL (es.take (i + 1)) f many = underL (es.take i) f many) := by rw [if_neg (fun q => c1 q.1), List.append_nil] at HST; exact HST
        clear HST
        go_wp2_with fail
        go_roundw
        case rel => exact ⟨i + 1, by omega, by go_num, by rw [HST2.out]; exact HO.out, HB.out⟩
        case measure => simp [intOf]; omega
    · obtain rfl : i = n := by omega
      have g1 : ¬ (i : Int) < (i : Int) := by omega
      go_wp2_with fail
      go_ret
      have h := HO.out
      rw [List.take_of_length_le (by rw [HL.out]; exact Nat.le_refl _)] at h
      exact ⟨⟨_, rfl, h⟩, HB.out⟩
set_option maxRecDepth 100000 in
set_option maxHeartbeats 2000000 in
theorem rmaproot_any : ∀ d : Nat, ∀ (a : Option Addr) (n c : Nat) (es : List Ent) (f : Nat) (w : World), ERow w a n es → n ≤ c → n ≤ 1000 → f + 2 ^ d ≤ 4294967296 → Calls Tryd.prog 10 #[.slice a n c, .int .i64 (f : Int), .int .i64 ((2 ^ d : Nat) : Int)] w fun r w' => r = .returned (digestV (mapL (gE es) f d)) ∧ Below w.heap.size w w' := by
  intro d
  induction d with
  | zero =>
    intro a n c es f w R hc hn hf
    obtain ⟨w2, hw2⟩ : ∃ w2, w.alloc (.cells (cellsB zD).toArray 24) = w2 := ⟨_, rfl⟩
    have HS2 : Hid (w2.heap.size = w.heap.size + 1) := by unfold Hid; rw [← hw2]; simp
    have HB2 : Hid (Below w.heap.size w w2) := by rw [← hw2]; exact (Below.refl _ _).alloc (Nat.le_refl _) _
    have ht2 : w2.there w.heap.size 0 32 := by rw [← hw2]; exact alloc_thereAt _ _ _ 32 _ rfl zD_size.symm
    have HK : Hid (∀ wx, Below w2.heap.size w2 wx → wx.there w.heap.size 0 32 ∧ Below w.heap.size w wx) := fun wx hx => ⟨there_below ht2 hx (by have := HS2.out; omega), HB2.out.trans (hx.mono (by have := HS2.out; omega))⟩
    have HR2 : Hid (ERow w2 a n es) := R.below HB2.out
    have HLE : Hid (∀ f' many' : Int, (underL es f' many').length ≤ 1000) := fun f' many' => by have := under_le es f' many'; rw [R.1] at this; omega
    clear ht2 R
    rw [Nat.pow_zero] at hf
    have HU : Hid (Calls Tryd.prog 27 #[.slice a n c, .int .i64 (f : Int), .int .i64 1] w2 fun r w' => (∃ v, r = .returned v ∧ OwnE w' w2.heap.size v (underL es f (1 : Nat))) ∧ Below w2.heap.size w2 w') := runder_any a n c es f 1 w2 HR2.out hc hn (by omega) (by omega)
    have HMZ : Hid ((underL es f (1 : Nat)).length = 0 → mapL (gE es) f 0 = zT) := fun h => under_none h f (by omega) (by omega)
    have HMO : Hid (∀ e r, underL es f (1 : Nat) = e :: r → mapL (gE es) f 0 = leafE e ∧ e.1 = (f : Int)) := fun e r h => ⟨under_first h, by
      have he : e ∈ underL es f (1 : Nat) := by rw [h]; simp
      have := of_decide_eq_true (List.mem_filter.1 he).2
      omega⟩
    have HLU := HLE.out f (1 : Nat)
    generalize underL es f (1 : Nat) = IN at *
    show Calls Tryd.prog 10 #[.slice a n c, .int .i64 (f : Int), .int .i64 1] w _
    go_enter Tryd.func10, Tryd.ntmps10
    go_wp2_with (refine wpList_allocE (by rfl) 24 (by rfl) (cellsB zD).toArray Tryd.zeroDg w.heap.size rfl w2 hw2 ?_)
    refine HU.out.mono ?_
    rintro r w3 ⟨⟨v, rfl, hv⟩, hb3⟩
    obtain ⟨a3, c3, rfl, R3, hc3⟩ := hv.form
    have HR3 : Hid (ERow w3 a3 IN.length IN) := R3
    have HB3 : Hid (Below w2.heap.size w2 w3) := hb3
    clear hv hb3 R3 hw2 HU
    by_cases hz : IN.length = 0
    · have HE := HMZ.out hz
      have HE2 : Hid ((mapL (gE es) f 0) = zT) := HE
      clear HE HMZ
      rw [hz]
      clear hz
      go_wp2_with fail
      refine (rnothing_any w3).mono ?_
      rintro r w4 ⟨rfl, hb4⟩
      have HB4 : Hid (Below w2.heap.size w2 w4) := HB3.out.trans (hb4.mono HB3.out.size)
      have HT4 : Hid (w4.there w.heap.size 0 32) := (HK.out _ HB4.out).1
      have lZ : zT.length = 32 := rfl
      clear hb4
      generalize zT = Z at *
      go_wp2_with (refine wpList_store_mid (by rfl) 24 (.tmp 6) (.tmp 16) (by rfl) w.heap.size 0 (cellsB Z).toArray (by rfl) (by rfl) (by rw [cellsB_size, lZ]; exact HT4.out) (by rw [cellsB_size, lZ]; exact Tryd.sizeDg) (all_oneCell_toArray (cellsB_one _)) ?_)
      refine bodyPost_ret (v := digestV Z) (run_results_row Tryd.results10 _ _ w.heap.size 0 (by rfl) (cellsB Z) (World.rangeAt_setCells_same _ _ _ _ (by rw [cellsB_length, lZ]; exact HT4.out)) _ Tryd.underlying24 (by rfl) (by rw [cellsB_length, lZ]; exact Tryd.sizeDg)) rfl ⟨by rw [HE2.out], ?_⟩
      exact below_setCells _ (Nat.le_refl _) _ _ _ (HK.out _ HB4.out).2
    · have e0 : ((IN.length : Int) == 0) = false := beq_eq_false_iff_ne.2 (by omega)
      obtain ⟨e1, rs, hIN⟩ : ∃ e r, IN = e :: r := by
        cases IN with
        | nil => simp at hz
        | cons e r => exact ⟨e, r, rfl⟩
      obtain ⟨hm1, hm2⟩ := HMO.out _ _ hIN
      have HE2 : Hid (mapL (gE es) f 0 = leafE e1) := hm1
      obtain ⟨b, o, ha⟩ := HR3.out.addr (by omega)
      subst ha
      have hr := HR3.out.at 0 (by omega)
      have hok := HR3.out.ok 0 (by omega)
      have hg : IN.getD 0 noE = e1 := by rw [hIN]; rfl
      rw [hg] at hr hok
      have HRG : Hid (w3.rangeAt b o (entC e1)) := by rw [Nat.zero_mul, Nat.add_zero] at hr; exact hr
      have HOK : Hid (okE e1) := hok
      have HKB : Hid (0 ≤ e1.1 ∧ e1.1 ≤ 4294967295) := by have : e1.1 = (f : Int) := hm2; unfold Hid; omega
      have i1 : (0 : Int) < (IN.length : Int) := by omega
      clear hIN hg hr hok hm1 hm2 HMO HMZ
      generalize IN.length = L at *
      go_wp2_with (refine wpList_load_mid (by rfl) 26 (.tmp 20) (by rfl) b o (by rfl) (entC e1) _ HRG.out Tryd.underlying26 (by rfl) (by rw [entC_length HOK.out]; exact Tryd.sizeEn) ?_)
      refine (rentryleaf_any e1 w3 HOK.out HKB.out.1 HKB.out.2).mono ?_
      rintro r w4 ⟨rfl, hb4⟩
      have HB4 : Hid (Below w2.heap.size w2 w4) := HB3.out.trans (hb4.mono HB3.out.size)
      have HT4 : Hid (w4.there w.heap.size 0 32) := (HK.out _ HB4.out).1
      have lZ := leafE_length e1
      clear hb4
      generalize leafE e1 = Z at *
      go_wp2_with (refine wpList_store_mid (by rfl) 24 (.tmp 6) (.tmp 22) (by rfl) w.heap.size 0 (cellsB Z).toArray (by rfl) (by rfl) (by rw [cellsB_size, lZ]; exact HT4.out) (by rw [cellsB_size, lZ]; exact Tryd.sizeDg) (all_oneCell_toArray (cellsB_one _)) ?_)
      refine bodyPost_ret (v := digestV Z) (run_results_row Tryd.results10 _ _ w.heap.size 0 (by rfl) (cellsB Z) (World.rangeAt_setCells_same _ _ _ _ (by rw [cellsB_length, lZ]; exact HT4.out)) _ Tryd.underlying24 (by rfl) (by rw [cellsB_length, lZ]; exact Tryd.sizeDg)) rfl ⟨by rw [HE2.out], ?_⟩
      exact below_setCells _ (Nat.le_refl _) _ _ _ (HK.out _ HB4.out).2
  | succ d ih =>
    intro a n c es f w R hc hn hf
    obtain ⟨w2, hw2⟩ : ∃ w2, w.alloc (.cells (cellsB zD).toArray 24) = w2 := ⟨_, rfl⟩
    have HS2 : Hid (w2.heap.size = w.heap.size + 1) := by unfold Hid; rw [← hw2]; simp
    have HB2 : Hid (Below w.heap.size w w2) := by rw [← hw2]; exact (Below.refl _ _).alloc (Nat.le_refl _) _
    have ht2 : w2.there w.heap.size 0 32 := by rw [← hw2]; exact alloc_thereAt _ _ _ 32 _ rfl zD_size.symm
    have HK : Hid (∀ wx, Below w2.heap.size w2 wx → wx.there w.heap.size 0 32 ∧ Below w.heap.size w wx) := fun wx hx => ⟨there_below ht2 hx (by have := HS2.out; omega), HB2.out.trans (hx.mono (by have := HS2.out; omega))⟩
    have HR2 : Hid (ERow w2 a n es) := R.below HB2.out
    have HLE : Hid (∀ f' many' : Int, (underL es f' many').length ≤ 1000) := fun f' many' => by have := under_le es f' many'; rw [R.1] at this; omega
    clear ht2 R
    have HIH : Hid (∀ (a : Option Addr) (n c : Nat) (es : List Ent) (f : Nat) (w : World), ERow w a n es → n ≤ c → n ≤ 1000 → f + 2 ^ d ≤ 4294967296 → Calls Tryd.prog 10 #[.slice a n c, .int .i64 (f : Int), .int .i64 ((2 ^ d : Nat) : Int)] w fun r w' => r = .returned (digestV (mapL (gE es) f d)) ∧ Below w.heap.size w w') := ih
    have hp : 2 ^ (d + 1) = 2 * 2 ^ d := by rw [Nat.pow_succ, Nat.mul_comm]
    have hp1 : 1 ≤ 2 ^ d := Nat.pow_pos (by omega)
    have HU : Hid (Calls Tryd.prog 27 #[.slice a n c, .int .i64 (f : Int), .int .i64 ((2 ^ (d + 1) : Nat) : Int)] w2 fun r w' => (∃ v, r = .returned v ∧ OwnE w' w2.heap.size v (underL es f ((2 ^ (d + 1) : Nat) : Int))) ∧ Below w2.heap.size w2 w') := runder_any a n c es f (2 ^ (d + 1)) w2 HR2.out hc hn (by omega) (by omega)
    have HMZ : Hid ((underL es f ((2 ^ (d + 1) : Nat) : Int)).length = 0 → mapL (gE es) f (d + 1) = zT) := fun h => mapL_none (d + 1) f (fun x h1 h2 => under_none h x (by omega) (by omega))
    have HM1 : Hid (mapL (gE (underL es f ((2 ^ (d + 1) : Nat) : Int))) f d = mapL (gE es) f d) := mapL_under es f (2 ^ (d + 1)) d f (Nat.le_refl _) (by omega)
    have HM2 : Hid (mapL (gE (underL es f ((2 ^ (d + 1) : Nat) : Int))) (f + 2 ^ d) d = mapL (gE es) (f + 2 ^ d) d) := mapL_under es f (2 ^ (d + 1)) d (f + 2 ^ d) (by omega) (by omega)
    have HMN : Hid (mapL (gE es) f (d + 1) = mnode (mapL (gE es) f d) (mapL (gE es) (f + 2 ^ d) d)) := rfl
    have HLU := HLE.out f ((2 ^ (d + 1) : Nat) : Int)
    have lA : (mapL (gE es) f d).length = 32 := mapL_length (gE_length es) d f
    have lB : (mapL (gE es) (f + 2 ^ d) d).length = 32 := mapL_length (gE_length es) d _
    generalize underL es f ((2 ^ (d + 1) : Nat) : Int) = IN at *
    generalize mapL (gE es) f (d + 1) = ROOT at *
    generalize mapL (gE es) f d = RA at *
    have HC1 : Hid (∀ (a' : Option Addr) (n' c' : Nat) (wx : World), ERow wx a' n' IN → n' ≤ c' → n' ≤ 1000 → Calls Tryd.prog 10 #[.slice a' n' c', .int .i64 (f : Int), .int .i64 ((2 ^ d : Nat) : Int)] wx fun r w' => r = .returned (digestV RA) ∧ Below wx.heap.size wx w') := fun a' n' c' wx hr h1 h2 => by
      have := HIH.out a' n' c' IN f wx hr h1 h2 (by omega)
      rw [HM1.out] at this
      exact this
    have HC2 : Hid (∀ (a' : Option Addr) (n' c' : Nat) (wx : World), ERow wx a' n' IN → n' ≤ c' → n' ≤ 1000 → Calls Tryd.prog 10 #[.slice a' n' c', .int .i64 ((f : Int) + ((2 ^ d : Nat) : Int)), .int .i64 ((2 ^ d : Nat) : Int)] wx fun r w' => r = .returned (digestV (mapL (gE es) (f + 2 ^ d) d)) ∧ Below wx.heap.size wx w') := fun a' n' c' wx hr h1 h2 => by
      have := HIH.out a' n' c' IN (f + 2 ^ d) wx hr h1 h2 (by omega)
      rw [HM2.out, Int.natCast_add] at this
      exact this
    generalize mapL (gE es) (f + 2 ^ d) d = RB at *
    clear HIH HM1 HM2 ih
    rw [hp] at HU ⊢ hf
    generalize 2 ^ d = m at *
    clear hp
    go_enter Tryd.func10, Tryd.ntmps10
    go_wp2_with (refine wpList_allocE (by rfl) 24 (by rfl) (cellsB zD).toArray Tryd.zeroDg w.heap.size rfl w2 hw2 ?_)
    refine HU.out.mono ?_
    rintro r w3 ⟨⟨v, rfl, hv⟩, hb3⟩
    obtain ⟨a3, c3, rfl, R3, hc3⟩ := hv.form
    have HR3 : Hid (ERow w3 a3 IN.length IN) := R3
    have HB3 : Hid (Below w2.heap.size w2 w3) := hb3
    clear hv hb3 R3 hw2 HU
    by_cases hz : IN.length = 0
    · have HE := HMZ.out hz
      have HE2 : Hid (ROOT = zT) := HE
      clear HE HMZ
      rw [hz]
      clear hz
      go_wp2_with fail
      refine (rnothing_any w3).mono ?_
      rintro r w4 ⟨rfl, hb4⟩
      have HB4 : Hid (Below w2.heap.size w2 w4) := HB3.out.trans (hb4.mono HB3.out.size)
      have HT4 : Hid (w4.there w.heap.size 0 32) := (HK.out _ HB4.out).1
      have lZ : zT.length = 32 := rfl
      clear hb4
      generalize zT = Z at *
      go_wp2_with (refine wpList_store_mid (by rfl) 24 (.tmp 6) (.tmp 16) (by rfl) w.heap.size 0 (cellsB Z).toArray (by rfl) (by rfl) (by rw [cellsB_size, lZ]; exact HT4.out) (by rw [cellsB_size, lZ]; exact Tryd.sizeDg) (all_oneCell_toArray (cellsB_one _)) ?_)
      refine bodyPost_ret (v := digestV Z) (run_results_row Tryd.results10 _ _ w.heap.size 0 (by rfl) (cellsB Z) (World.rangeAt_setCells_same _ _ _ _ (by rw [cellsB_length, lZ]; exact HT4.out)) _ Tryd.underlying24 (by rfl) (by rw [cellsB_length, lZ]; exact Tryd.sizeDg)) rfl ⟨by rw [HE2.out], ?_⟩
      exact below_setCells _ (Nat.le_refl _) _ _ _ (HK.out _ HB4.out).2
    · have e0 : ((IN.length : Int) == 0) = false := beq_eq_false_iff_ne.2 (by omega)
      have e1 : ((2 * (m : Int)) == 1) = false := by simp; omega
      have d1 : (2 * (m : Int)).tdiv 2 = (m : Int) := by rw [Int.tdiv_eq_ediv_of_nonneg (by omega)]; omega
      have d2 : (2 * (m : Int)) / 2 = (m : Int) := by omega
      clear HMZ hz
      have HHL : Hid (IN.length ≤ c3 ∧ IN.length ≤ 1000) := ⟨hc3, HLU⟩
      generalize IN.length = L at *
      go_wp2_with fail
      refine (HC1.out a3 L c3 w3 HR3.out HHL.out.1 HHL.out.2).mono ?_
      rintro r w4 ⟨rfl, hb4⟩
      have HB4 : Hid (Below w2.heap.size w2 w4) := HB3.out.trans (hb4.mono HB3.out.size)
      have HR4 : Hid (ERow w4 a3 L IN) := HR3.out.below hb4
      clear hb4 HR3 HB3 HC1
      go_wp2_with fail
      refine (HC2.out a3 L c3 w4 HR4.out HHL.out.1 HHL.out.2).mono ?_
      rintro r w5 ⟨rfl, hb5⟩
      have HB5 : Hid (Below w2.heap.size w2 w5) := HB4.out.trans (hb5.mono HB4.out.size)
      clear hb5 HR4 HB4 HC2
      go_wp2_with fail
      refine (rmapnode_any RA RB w5 lA lB).mono ?_
      rintro r w6 ⟨rfl, hb6⟩
      rw [← HMN.out]
      have HB6 : Hid (Below w2.heap.size w2 w6) := HB5.out.trans (hb6.mono HB5.out.size)
      have HT6 : Hid (w6.there w.heap.size 0 32) := (HK.out _ HB6.out).1
      have lZ : ROOT.length = 32 := by rw [HMN.out]; exact mnode_length _ _
      clear hb6 HMN
      go_wp2_with (refine wpList_store_mid (by rfl) 24 (.tmp 6) (.tmp 35) (by rfl) w.heap.size 0 (cellsB ROOT).toArray (by rfl) (by rfl) (by rw [cellsB_size, lZ]; exact HT6.out) (by rw [cellsB_size, lZ]; exact Tryd.sizeDg) (all_oneCell_toArray (cellsB_one _)) ?_)
      refine bodyPost_ret (v := digestV ROOT) (run_results_row Tryd.results10 _ _ w.heap.size 0 (by rfl) (cellsB ROOT) (World.rangeAt_setCells_same _ _ _ _ (by rw [cellsB_length, lZ]; exact HT6.out)) _ Tryd.underlying24 (by rfl) (by rw [cellsB_length, lZ]; exact Tryd.sizeDg)) rfl ⟨rfl, ?_⟩
      exact below_setCells _ (Nat.le_refl _) _ _ _ (HK.out _ HB6.out).2
end Go.Proofs.YtbhoijnhpmkglaaDoor
/- The contracts of oathbookref2.MapPath and MapFolded. -/
namespace Go.Proofs.YtbhoijnhpmkglaaDoor
open Go.RowKit
set_option linter.unusedVariables false
set_option linter.unusedSimpArgs false

theorem base_room (k i : Nat) (hi : i < 32) (hk : k < 4294967296) : baseM k (i + 1) + 2 ^ (i + 1) ≤ 4294967296 := by
  obtain ⟨c, hc⟩ : 2 ^ (i + 1) ∣ 2 ^ 32 := Nat.pow_dvd_pow 2 (by omega)
  have hc' : 4294967296 = 2 ^ (i + 1) * c := hc
  have h1 : k / 2 ^ (i + 1) < c := Nat.div_lt_of_lt_mul (by rw [← hc']; exact hk)
  have h2 := Nat.div_add_mod k (2 ^ (i + 1))
  have h3 := Nat.mul_le_mul_left (2 ^ (i + 1)) (show k / 2 ^ (i + 1) + 1 ≤ c from h1)
  rw [Nat.mul_add, Nat.mul_one, ← hc'] at h3
  unfold baseM
  omega
set_option maxRecDepth 100000 in
set_option maxHeartbeats 2000000 in
theorem rmappath_any (a : Option Addr) (n c : Nat) (es : List Ent) (k : Nat) (w : World) (R : ERow w a n es) (hc : n ≤ c) (hn : n ≤ 1000) (hk : k < 4294967296) :
    Calls Tryd.prog 14 #[.slice a n c, .int .i64 (k : Int)] w fun r w' => (∃ v, r = .returned v ∧ OwnD w' w.heap.size v (pathM (gE es) k 32)) ∧ Below w.heap.size w w' := by
  obtain ⟨iD, hiD, hzD0, hzD1, hzD2⟩ := info_parts Tryd.infoDg
  have HR : Hid (∀ wx, Below w.heap.size w wx → ERow wx a n es) := fun wx hx => R.below hx
  clear R
  go_enter Tryd.func14, Tryd.ntmps14
  go_wp2_with fail
  go_loopw [5, 6, 7] (fun v mv iv wr => ∃ i m : Nat, i ≤ 32 ∧ iv = .int .i64 (i : Int) ∧ mv = .int .i64 (m : Int) ∧ m = 2 ^ i ∧ OwnD wr w.heap.size v (pathM (gE es) k i) ∧ Below w.heap.size w wr) (fun _ _ iv _ => 32 - (intOf iv).toNat)
  case atStart => exact ⟨0, 1, by omega, rfl, rfl, rfl, OwnD.nil _ _, Below.refl _ _⟩
  case round =>
    obtain ⟨i, m, hi, rfl, rfl, hm, hO, hB⟩ := hrel
    have HO : Hid (OwnD wr w.heap.size u5 (pathM (gE es) k i)) := hO
    have HB : Hid (Below w.heap.size w wr) := hB
    have HMM : Hid (m = 2 ^ i) := hm
    have HLP : Hid ((pathM (gE es) k i).length = i) := pathM_length _ _ _
    clear hO hB
    by_cases hlt : i < 32
    · have i1 : (i : Int) < 32 := by omega
      have hm1 : 1 ≤ m := by rw [hm]; exact Nat.pow_pos (by omega)
      have hm2 : 2 * m ≤ 4294967296 := by
        have := Nat.pow_le_pow_right (n := 2) (by omega) (show i + 1 ≤ 32 by omega)
        rw [Nat.pow_succ] at this
        omega
      have HM2 : Hid (2 * m = 2 ^ (i + 1)) := by unfold Hid; rw [hm, Nat.pow_succ, Nat.mul_comm]
      have HSUC : Hid (pathM (gE es) k (i + 1) = pathM (gE es) k i ++ [mapL (gE es) (sibM k i) i]) := pathM_succ _ _ _
      have hroom := base_room k i hlt hk
      rw [← HM2.out] at hroom
      have HBE : Hid (baseM k (i + 1) = k - k % (2 * m)) := by rw [HM2.out]; rfl
      have HSE : Hid (sibM k i = if k - baseM k (i + 1) < m then baseM k (i + 1) + m else baseM k (i + 1)) := by rw [HMM.out]; rfl
      have lY : (mapL (gE es) (sibM k i) i).length = 32 := mapL_length (gE_length es) _ _
      have hr1 := Nat.mod_lt k (show 0 < 2 * m by omega)
      have hr2 := Nat.mod_le k (2 * m)
      have d1 : (k : Int).tmod (2 * (m : Int)) = ((k % (2 * m) : Nat) : Int) := by rw [Int.tmod_eq_emod_of_nonneg (by omega)]; simp
      have d2 : (k : Int) % (2 * (m : Int)) = ((k % (2 * m) : Nat) : Int) := by simp
      have d0 : (2 * (m : Int) == 0) = false := beq_eq_false_iff_ne.2 (by omega)
      obtain ⟨B, hB⟩ : ∃ B, baseM k (i + 1) = B := ⟨_, rfl⟩
      rw [hB] at hroom HBE HSE
      generalize k % (2 * m) = r at *
      have hBk : B = k - r := HBE.out
      have s1 : (k : Int) - (r : Int) = (B : Int) := by omega
      have s2 : (k : Int) - (B : Int) = (r : Int) := by omega
      clear hB
      by_cases hrm : r < m
      · have g1 : (r : Int) < (m : Int) := by omega
        have HSB : Hid (sibM k i = B + m) := by have h := HSE.out; rw [if_pos (by omega)] at h; exact h
        have HCM : Hid (∀ wx, ERow wx a n es → Calls Tryd.prog 10 #[.slice a n c, .int .i64 ((B : Int) + (m : Int)), .int .i64 (m : Int)] wx fun r w' => r = .returned (digestV (mapL (gE es) (sibM k i) i)) ∧ Below wx.heap.size wx w') := fun wx hx => by
          have := rmaproot_any i a n c es (B + m) wx hx hc hn (by rw [← HMM.out]; omega)
          rw [← HMM.out, Int.natCast_add] at this
          rw [HSB.out]
          exact this
        clear hm hBk HBE HSE HSB hroom hrm
        go_wp2_with fail
        refine (HCM.out wr (HR.out _ HB.out)).mono ?_
        rintro r w4 ⟨rfl, hb4⟩
        have HB4 : Hid (Below w.heap.size w w4) := HB.out.trans (hb4.mono HB.out.size)
        have HO4 : Hid (OwnD w4 w.heap.size u5 (pathM (gE es) k i)) := OwnD.below HO.out hb4
        clear hb4 HCM HB HO
        generalize mapL (gE es) (sibM k i) i = Y at *
        have HS5 : Hid (w.heap.size ≤ (w4.alloc (.cells (cellsB Y).toArray 24)).heap.size) := by have := HB4.out.size; unfold Hid; simp; omega
        have HB5 : Hid (Below w.heap.size w (w4.alloc (.cells (cellsB Y).toArray 24))) := Below.alloc HB4.out HB4.out.size _
        go_wp2_with (first
          | (refine wpList_build1 (by rfl) (.tmp 31) 36 (by rfl) 24 (.agg zeros32) iD Y lY (by rfl) Tryd.underlying36 hiD hzD0 (by rfl) hzD1 ?_)
          | (at_builtin; refine wpList_append_digests (by rfl) (.tmp 27) (.tmp 32) (by rfl) w.heap.size u5 (pathM (gE es) k i) (by rfl) (OwnD.alloc HO4.out _) ⟨w4.heap.size, 0, none⟩ 1 1 [Y] (by rfl) (DRow.lit1 w4 Y _ lY) (by omega) (by rw [HLP.out]; omega) HS5.out ?_; intro v6 w6 ho6 hg6 _; have HO6 : Hid (OwnD w6 w.heap.size v6 (pathM (gE es) k i ++ [Y])) := ho6; have HB6 : Hid (Below w.heap.size w w6) := OwnD.grown (OwnD.alloc HO4.out _) HB5.out hg6 (Nat.le_refl _) HS5.out; clear ho6 hg6))
        go_roundw
        case rel => exact ⟨i + 1, 2 * m, by omega, by go_num, by go_num, HM2.out, by rw [HSUC.out]; exact HO6.out, HB6.out⟩
        case measure => simp [intOf]; omega
      · have g1 : ¬ (r : Int) < (m : Int) := by omega
        have HSB : Hid (sibM k i = B) := by have h := HSE.out; rw [if_neg (by omega)] at h; exact h
        have HCM : Hid (∀ wx, ERow wx a n es → Calls Tryd.prog 10 #[.slice a n c, .int .i64 (B : Int), .int .i64 (m : Int)] wx fun r w' => r = .returned (digestV (mapL (gE es) (sibM k i) i)) ∧ Below wx.heap.size wx w') := fun wx hx => by
          have := rmaproot_any i a n c es B wx hx hc hn (by rw [← HMM.out]; omega)
          rw [← HMM.out] at this
          rw [HSB.out]
          exact this
        clear hm hBk HBE HSE HSB hroom hrm
        go_wp2_with fail
        refine (HCM.out wr (HR.out _ HB.out)).mono ?_
        rintro r w4 ⟨rfl, hb4⟩
        have HB4 : Hid (Below w.heap.size w w4) := HB.out.trans (hb4.mono HB.out.size)
        have HO4 : Hid (OwnD w4 w.heap.size u5 (pathM (gE es) k i)) := OwnD.below HO.out hb4
        clear hb4 HCM HB HO
        generalize mapL (gE es) (sibM k i) i = Y at *
        have HS5 : Hid (w.heap.size ≤ (w4.alloc (.cells (cellsB Y).toArray 24)).heap.size) := by have := HB4.out.size; unfold Hid; simp; omega
        have HB5 : Hid (Below w.heap.size w (w4.alloc (.cells (cellsB Y).toArray 24))) := Below.alloc HB4.out HB4.out.size _
        go_wp2_with (first
          | (refine wpList_build1 (by rfl) (.tmp 31) 36 (by rfl) 24 (.agg zeros32) iD Y lY (by rfl) Tryd.underlying36 hiD hzD0 (by rfl) hzD1 ?_)
          | (at_builtin; refine wpList_append_digests (by rfl) (.tmp 27) (.tmp 32) (by rfl) w.heap.size u5 (pathM (gE es) k i) (by rfl) (OwnD.alloc HO4.out _) ⟨w4.heap.size, 0, none⟩ 1 1 [Y] (by rfl) (DRow.lit1 w4 Y _ lY) (by omega) (by rw [HLP.out]; omega) HS5.out ?_; intro v6 w6 ho6 hg6 _; have HO6 : Hid (OwnD w6 w.heap.size v6 (pathM (gE es) k i ++ [Y])) := ho6; have HB6 : Hid (Below w.heap.size w w6) := OwnD.grown (OwnD.alloc HO4.out _) HB5.out hg6 (Nat.le_refl _) HS5.out; clear ho6 hg6))
        go_roundw
        case rel => exact ⟨i + 1, 2 * m, by omega, by go_num, by go_num, HM2.out, by rw [HSUC.out]; exact HO6.out, HB6.out⟩
        case measure => simp [intOf]; omega
    · obtain rfl : i = 32 := by omega
      clear hm HMM
      go_wp2_with fail
      go_ret
      exact ⟨⟨_, rfl, HO.out⟩, HB.out⟩
theorem range_out {w : World} {b n : Nat} {l : List UInt8} (h : w.there (b + 1) 0 n) : (w.setCells b 0 (cellsB l)).there (b + 1) 0 n := World.there_setCells h _ _ _
set_option maxRecDepth 100000 in
set_option maxHeartbeats 2000000 in
theorem rmapfolded_any (k : Nat) (l : List UInt8) (a : Option Addr) (p c : Nat) (path : List (List UInt8)) (w : World) (hk : k ≤ 9223372036854775807) (hl : l.length = 32) (R : DRow w a p path) (hc : p ≤ c) (hp : p ≤ 1000) :
    Calls Tryd.prog 21 #[.int .i64 (k : Int), digestV l, .slice a p c] w fun r w' => r = .returned (digestV (foldM k l path)) ∧ Below w.heap.size w w' := by
  obtain ⟨w2, hw2⟩ : ∃ w2, (w.alloc (.cells (cellsB l).toArray 24)).alloc (.cells (cellsB zD).toArray 24) = w2 := ⟨_, rfl⟩
  have hs1 : (w.alloc (.cells (cellsB l).toArray 24)).heap.size = w.heap.size + 1 := by simp
  have HS2 : Hid (w2.heap.size = w.heap.size + 1 + 1) := by unfold Hid; rw [← hw2]; simp
  have HB2 : Hid (Below w.heap.size w w2) := by rw [← hw2]; exact ((Below.refl _ _).alloc (Nat.le_refl _) _).alloc (by simp) _
  have HL2 : Hid (DAt w2 w.heap.size 0 l) := by rw [← hw2]; exact World.rangeAt_alloc (box_dat w l _) _
  have HT2 : Hid (w2.there w.heap.size 0 32) := by rw [← hw2]; exact there_below (w := w.alloc (.cells (cellsB l).toArray 24)) (alloc_thereAt _ _ _ 32 _ rfl (by rw [cellsB_size, hl])) ((Below.refl _ _).alloc (Nat.le_refl _) _) (by simp)
  have HU2 : Hid (w2.there (w.heap.size + 1) 0 32) := by rw [← hw2]; exact alloc_thereAt _ _ _ 32 _ hs1 zD_size.symm
  have HPR : Hid (DRow w a p path) := R
  have HPL : Hid (path.length = p) := R.1
  clear R
  go_enter Tryd.func21, Tryd.ntmps21
  go_wp2_with (refine wpList_allocE (by rfl) 24 (by rfl) (cellsB zD).toArray Tryd.zeroDg (w.heap.size + 1) hs1 w2 hw2 ?_)
  clear hw2 hs1
  go_loopw [0, 7] (fun kv iv wr => ∃ (i k' : Nat) (x : List UInt8), i ≤ p ∧ iv = .int .i64 (i : Int) ∧ kv = .int .i64 (k' : Int) ∧ k' ≤ k ∧ x.length = 32 ∧ wr.rangeAt w.heap.size 0 (cellsB x) ∧ wr.there w.heap.size 0 32 ∧ wr.there (w.heap.size + 1) 0 32 ∧ Below w.heap.size w wr ∧ w.heap.size < wr.heap.size ∧ Hid (foldM k' x (path.drop i) = foldM k l path)) (fun _ iv _ => p - (intOf iv).toNat)
  case atStart => exact ⟨0, k, l, Nat.zero_le _, rfl, rfl, Nat.le_refl _, hl, HL2.out, HT2.out, HU2.out, HB2.out, by have := HS2.out; omega, rfl⟩
  case round =>
    clear HL2 HT2 HB2 HS2 HU2
    obtain ⟨i, k', x, hi, rfl, rfl, hk', hx, hX, hT, hU, hB, hS, HE⟩ := hrel
    have HX : Hid (wr.rangeAt w.heap.size 0 (cellsB x)) := hX
    have HT : Hid (wr.there w.heap.size 0 32) := hT
    have HU : Hid (wr.there (w.heap.size + 1) 0 32) := hU
    have HB : Hid (Below w.heap.size w wr) := hB
    have HS : Hid (w.heap.size < wr.heap.size) := hS
    clear hX hT hU hB hS
    by_cases hlt : i < p
    · obtain ⟨b, o, ha⟩ := HPR.out.addr (by omega)
      subst ha
      have lD := HPR.out.len i hlt
      have HFC := fold_cons (k := k') (x := x) (path := path) (i := i) (by rw [HPL.out]; exact hlt)
      rw [HE.out] at HFC
      have HUB : Hid (w.heap.size + 1 < wr.heap.size) := there_block HU.out (by omega)
      have HXD : Hid (∀ wx, Below wr.heap.size wr wx → wx.rangeAt b (o + i * 32) (cellsB (path.getD i [])) ∧ wx.rangeAt w.heap.size 0 (cellsB x) ∧ wx.there w.heap.size 0 32 ∧ wx.there (w.heap.size + 1) 0 32 ∧ Below w.heap.size w wx ∧ True) := fun wx hx => by
        have s := HS.out
        have s2 := HUB.out
        have hb : Below w.heap.size w wx := HB.out.trans (hx.mono (by omega))
        exact ⟨(HPR.out.below hb).at i hlt, range_below HX.out hx (by omega), there_below HT.out hx (by omega), there_below HU.out hx (by omega), hb, True.intro⟩
      have i0 : (0 : Int) ≤ (i : Int) := by omega
      have i1 : (i : Int) < (p : Int) := by omega
      have d1 : (k' : Int).tdiv 2 = ((k' / 2 : Nat) : Int) := by rw [Int.tdiv_eq_ediv_of_nonneg (by omega)]; omega
      have d2 : (k' : Int) / 2 = ((k' / 2 : Nat) : Int) := by omega
      have d3 : (k' : Int).tmod 2 = ((k' % 2 : Nat) : Int) := by rw [Int.tmod_eq_emod_of_nonneg (by omega)]; omega
      have d4 : (k' : Int) % 2 = ((k' % 2 : Nat) : Int) := by omega
      have HQ1 : Hid (True ∧ k' / 2 ≤ k) := ⟨True.intro, by omega⟩
      have HB' : Hid (Below w.heap.size w wr) := HB.out
      clear HE HX HT HU HB
      by_cases hodd : k' % 2 = 1
      · have HE2 : Hid (foldM (k' / 2) (mnode (path.getD i []) x) (path.drop (i + 1)) = foldM k l path) := by rw [if_pos hodd] at HFC; exact HFC.symm
        rw [hodd] at d3 d4
        clear HFC
        generalize path.getD i [] = D at *
        generalize k' / 2 = k2 at *
        go_wp2_with fail
        refine wp_region_noPanic ?_
        refine wp_region_till (S := fun wx => wx.rangeAt b (o + i * 32) (cellsB D) ∧ wx.rangeAt w.heap.size 0 (cellsB x)) 6 (by kernel_rfl) ⟨(HXD.out _ (below_drewN wr 1)).1, (HXD.out _ (below_drewN wr 1)).2.1⟩ (fun hHeld => ?_)
        try simp only [Act.put, List.setIfInBounds_toArray, List.set_cons_zero, List.set_cons_succ]
        have HBd : Hid (Below wr.heap.size wr wr.drew) := below_drewN wr 1
        generalize wr.drew = wd at *
        refine wpAnyT_take (i := 0) (v := ?_) (by simp only [List.getElem?_toArray, List.getElem?_cons_zero, List.getElem?_cons_succ]; rfl) (by kernel_rfl) (by kernel_rfl) (by kernel_rfl) (by kernel_rfl) (fun _ _ _ h => h) (Or.inl ⟨by rfl, ?_⟩) hHeld ?_
        rotate_left
        · intro w hSw
          obtain ⟨hSw0, hSw1⟩ := hSw
          go_simp
          try with_reducible rfl
        try simp only [Act.put, List.setIfInBounds_toArray, List.set_cons_zero, List.set_cons_succ]
        refine wpAnyT_take (i := 1) (v := ?_) (by simp only [List.getElem?_toArray, List.getElem?_cons_zero, List.getElem?_cons_succ]; rfl) (by kernel_rfl) (by kernel_rfl) (by kernel_rfl) (by kernel_rfl) (fun _ _ _ h => h) (Or.inl ⟨by rfl, ?_⟩) hHeld ?_
        rotate_left
        · intro w hSw
          obtain ⟨hSw0, hSw1⟩ := hSw
          go_simp
          try with_reducible rfl
        try simp only [Act.put, List.setIfInBounds_toArray, List.set_cons_zero, List.set_cons_succ]
        refine wpAnyT_take (i := 2) (v := .pointer (some ⟨b, o + i * 32, none⟩)) (by simp only [List.getElem?_toArray, List.getElem?_cons_zero, List.getElem?_cons_succ]; rfl) (by kernel_rfl) (by kernel_rfl) (by kernel_rfl) (by kernel_rfl) (fun _ _ _ h => h) (Or.inl ⟨by rfl, ?_⟩) hHeld ?_
        · intro w hSw
          obtain ⟨hSw0, hSw1⟩ := hSw
          go_simp
        try simp only [Act.put, List.setIfInBounds_toArray, List.set_cons_zero, List.set_cons_succ]
        refine wpAnyT_take (i := 3) (v := .agg (cellsB D).toArray) (by simp only [List.getElem?_toArray, List.getElem?_cons_zero, List.getElem?_cons_succ]; rfl) (by kernel_rfl) (by kernel_rfl) (by kernel_rfl) (by kernel_rfl) (fun _ _ _ h => h)
          (yieldsIf_load_mid (by rfl) _ _ rfl _ _ rfl _ _ (fun w hw => hw.1) Tryd.underlying24 rfl (by rw [cellsB_length, lD]; exact Tryd.sizeDg)) hHeld ?_
        try simp only [Act.put, List.setIfInBounds_toArray, List.set_cons_zero, List.set_cons_succ]
        refine wpAnyT_take (i := 4) (v := .agg (cellsB x).toArray) (by simp only [List.getElem?_toArray, List.getElem?_cons_zero, List.getElem?_cons_succ]; rfl) (by kernel_rfl) (by kernel_rfl) (by kernel_rfl) (by kernel_rfl) (fun _ _ _ h => h)
          (yieldsIf_load_mid (by rfl) _ _ rfl _ _ rfl _ _ (fun w hw => hw.2) Tryd.underlying24 rfl (by rw [cellsB_length, hx]; exact Tryd.sizeDg)) hHeld ?_
        try simp only [Act.put, List.setIfInBounds_toArray, List.set_cons_zero, List.set_cons_succ]
        refine wpAnyT_ready (rs := [5]) (by kernel_rfl) (by simp) ?_
        refine AllReadyT.cons (by simp only [List.getElem?_toArray, List.getElem?_cons_zero, List.getElem?_cons_succ]; rfl) (fun K hK => ?_) AllReadyT.nil
        rw [if_pos (by rfl)]
        go_simp
        refine (rmapnode_any D x wd lD hx).mono ?_
        rintro r wn ⟨rfl, hbn⟩
        have HBn : Hid (Below wr.heap.size wr wn) := HBd.out.trans (hbn.mono HBd.out.size)
        have lN := mnode_length D x
        clear hbn HBd
        generalize mnode D x = N at *
        go_wp2_with fail
        refine hK.out _ _ ⟨(HXD.out _ HBn.out).1, (HXD.out _ HBn.out).2.1⟩ (fun hHeld => ?_)
        clear hK K
        try simp only [Act.put, List.setIfInBounds_toArray, List.set_cons_zero, List.set_cons_succ]
        refine wpAnyT_ready (rs := [6]) (by kernel_rfl) (by simp) ?_
        refine AllReadyT.lastly (by simp only [List.getElem?_toArray, List.getElem?_cons_zero, List.getElem?_cons_succ]; rfl) rfl (fun K hK => ?_) AllReadyT.nil
        rw [if_pos (by rfl)]
        have HTn : Hid (wn.there w.heap.size 0 32) := (HXD.out _ HBn.out).2.2.1
        refine wp_store_mid _ _ _ rfl w.heap.size 0 (cellsB N).toArray rfl rfl (by rw [cellsB_size, lN]; exact HTn.out) (by rw [cellsB_size, lN]; exact Tryd.sizeDg) (all_oneCell_toArray (cellsB_one _)) ?_
        refine hK.out _ _ ?_
        clear hK K
        try simp only [Act.put, List.setIfInBounds_toArray, List.set_cons_zero, List.set_cons_succ]
        refine wpAnyT_done (by kernel_rfl) (NoPanic.normal ?_) _
        try clear hHeld
        go_wp2_with fail
        go_roundw
        case rel =>
          have hgr := gro_setCells w.heap.size (cellsB N) 0 wn
          refine ⟨i + 1, k2, N, by omega, by go_num, rfl, HQ1.out.2, lN, World.rangeAt_setCells_same _ _ _ _ (by rw [cellsB_length, lN]; exact HTn.out), World.there_setCells HTn.out _ _ _, range_out (HXD.out _ HBn.out).2.2.2.1, below_setCells _ (Nat.le_refl _) _ _ _ (HXD.out _ HBn.out).2.2.2.2.1, ?_, HE2⟩
          have h1 := hgr.size
          have h2 := HBn.out.size
          have h3 := HS.out
          omega
        case measure => simp [intOf]; omega
      · have hr0 : k' % 2 = 0 := by omega
        have HE2 : Hid (foldM (k' / 2) (mnode x (path.getD i [])) (path.drop (i + 1)) = foldM k l path) := by rw [if_neg hodd] at HFC; exact HFC.symm
        rw [hr0] at d3 d4
        clear HFC
        generalize path.getD i [] = D at *
        generalize k' / 2 = k2 at *
        go_wp2_with fail
        refine wp_region_noPanic ?_
        refine wp_region_till (S := fun wx => wx.rangeAt b (o + i * 32) (cellsB D) ∧ wx.rangeAt w.heap.size 0 (cellsB x)) 6 (by kernel_rfl) ⟨(HXD.out _ (below_drewN wr 1)).1, (HXD.out _ (below_drewN wr 1)).2.1⟩ (fun hHeld => ?_)
        try simp only [Act.put, List.setIfInBounds_toArray, List.set_cons_zero, List.set_cons_succ]
        have HBd : Hid (Below wr.heap.size wr wr.drew) := below_drewN wr 1
        generalize wr.drew = wd at *
        refine wpAnyT_take (i := 0) (v := .agg (cellsB x).toArray) (by simp only [List.getElem?_toArray, List.getElem?_cons_zero, List.getElem?_cons_succ]; rfl) (by kernel_rfl) (by kernel_rfl) (by kernel_rfl) (by kernel_rfl) (fun _ _ _ h => h)
          (yieldsIf_load_mid (by rfl) _ _ rfl _ _ rfl _ _ (fun w hw => hw.2) Tryd.underlying24 rfl (by rw [cellsB_length, hx]; exact Tryd.sizeDg)) hHeld ?_
        try simp only [Act.put, List.setIfInBounds_toArray, List.set_cons_zero, List.set_cons_succ]
        refine wpAnyT_take (i := 1) (v := ?_) (by simp only [List.getElem?_toArray, List.getElem?_cons_zero, List.getElem?_cons_succ]; rfl) (by kernel_rfl) (by kernel_rfl) (by kernel_rfl) (by kernel_rfl) (fun _ _ _ h => h) (Or.inl ⟨by rfl, ?_⟩) hHeld ?_
        rotate_left
        · intro w hSw
          obtain ⟨hSw0, hSw1⟩ := hSw
          go_simp
          try with_reducible rfl
        try simp only [Act.put, List.setIfInBounds_toArray, List.set_cons_zero, List.set_cons_succ]
        refine wpAnyT_take (i := 2) (v := ?_) (by simp only [List.getElem?_toArray, List.getElem?_cons_zero, List.getElem?_cons_succ]; rfl) (by kernel_rfl) (by kernel_rfl) (by kernel_rfl) (by kernel_rfl) (fun _ _ _ h => h) (Or.inl ⟨by rfl, ?_⟩) hHeld ?_
        rotate_left
        · intro w hSw
          obtain ⟨hSw0, hSw1⟩ := hSw
          go_simp
          try with_reducible rfl
        try simp only [Act.put, List.setIfInBounds_toArray, List.set_cons_zero, List.set_cons_succ]
        refine wpAnyT_take (i := 3) (v := .pointer (some ⟨b, o + i * 32, none⟩)) (by simp only [List.getElem?_toArray, List.getElem?_cons_zero, List.getElem?_cons_succ]; rfl) (by kernel_rfl) (by kernel_rfl) (by kernel_rfl) (by kernel_rfl) (fun _ _ _ h => h) (Or.inl ⟨by rfl, ?_⟩) hHeld ?_
        · intro w hSw
          obtain ⟨hSw0, hSw1⟩ := hSw
          go_simp
        try simp only [Act.put, List.setIfInBounds_toArray, List.set_cons_zero, List.set_cons_succ]
        refine wpAnyT_take (i := 4) (v := .agg (cellsB D).toArray) (by simp only [List.getElem?_toArray, List.getElem?_cons_zero, List.getElem?_cons_succ]; rfl) (by kernel_rfl) (by kernel_rfl) (by kernel_rfl) (by kernel_rfl) (fun _ _ _ h => h)
          (yieldsIf_load_mid (by rfl) _ _ rfl _ _ rfl _ _ (fun w hw => hw.1) Tryd.underlying24 rfl (by rw [cellsB_length, lD]; exact Tryd.sizeDg)) hHeld ?_
        try simp only [Act.put, List.setIfInBounds_toArray, List.set_cons_zero, List.set_cons_succ]
        refine wpAnyT_ready (rs := [5]) (by kernel_rfl) (by simp) ?_
        refine AllReadyT.cons (by simp only [List.getElem?_toArray, List.getElem?_cons_zero, List.getElem?_cons_succ]; rfl) (fun K hK => ?_) AllReadyT.nil
        rw [if_pos (by rfl)]
        go_simp
        refine (rmapnode_any x D wd hx lD).mono ?_
        rintro r wn ⟨rfl, hbn⟩
        have HBn : Hid (Below wr.heap.size wr wn) := HBd.out.trans (hbn.mono HBd.out.size)
        have lN := mnode_length x D
        clear hbn HBd
        generalize mnode x D = N at *
        go_wp2_with fail
        refine hK.out _ _ ⟨(HXD.out _ HBn.out).1, (HXD.out _ HBn.out).2.1⟩ (fun hHeld => ?_)
        clear hK K
        try simp only [Act.put, List.setIfInBounds_toArray, List.set_cons_zero, List.set_cons_succ]
        refine wpAnyT_ready (rs := [6]) (by kernel_rfl) (by simp) ?_
        refine AllReadyT.lastly (by simp only [List.getElem?_toArray, List.getElem?_cons_zero, List.getElem?_cons_succ]; rfl) rfl (fun K hK => ?_) AllReadyT.nil
        rw [if_pos (by rfl)]
        have HTn : Hid (wn.there w.heap.size 0 32) := (HXD.out _ HBn.out).2.2.1
        refine wp_store_mid _ _ _ rfl w.heap.size 0 (cellsB N).toArray rfl rfl (by rw [cellsB_size, lN]; exact HTn.out) (by rw [cellsB_size, lN]; exact Tryd.sizeDg) (all_oneCell_toArray (cellsB_one _)) ?_
        refine hK.out _ _ ?_
        clear hK K
        try simp only [Act.put, List.setIfInBounds_toArray, List.set_cons_zero, List.set_cons_succ]
        refine wpAnyT_done (by kernel_rfl) (NoPanic.normal ?_) _
        try clear hHeld
        go_wp2_with fail
        go_roundw
        case rel =>
          have hgr := gro_setCells w.heap.size (cellsB N) 0 wn
          refine ⟨i + 1, k2, N, by omega, by go_num, rfl, HQ1.out.2, lN, World.rangeAt_setCells_same _ _ _ _ (by rw [cellsB_length, lN]; exact HTn.out), World.there_setCells HTn.out _ _ _, range_out (HXD.out _ HBn.out).2.2.2.1, below_setCells _ (Nat.le_refl _) _ _ _ (HXD.out _ HBn.out).2.2.2.2.1, ?_, HE2⟩
          have h1 := hgr.size
          have h2 := HBn.out.size
          have h3 := HS.out
          omega
        case measure => simp [intOf]; omega
    · obtain rfl : i = p := by omega
      have g1 : ¬ (i : Int) < (i : Int) := by omega
      have HE2 : Hid (foldM k l path = x) := by
        have h := HE.out
        rw [List.drop_of_length_le (by rw [HPL.out]; exact Nat.le_refl _)] at h
        exact h.symm
      clear HE
      go_wp2_with (first
        | (refine wpList_load_mid (by rfl) 24 (.tmp 4) (by rfl) w.heap.size 0 (by rfl) (cellsB x) _ HX.out Tryd.underlying24 (by rfl) (by rw [cellsB_length, hx]; exact Tryd.sizeDg) ?_)
        | (refine wpList_store_mid (by rfl) 24 (.tmp 6) (.tmp 31) (by rfl) (w.heap.size + 1) 0 (cellsB x).toArray (by rfl) (by rfl) (by rw [cellsB_size, hx]; exact HU.out) (by rw [cellsB_size, hx]; exact Tryd.sizeDg) (all_oneCell_toArray (cellsB_one _)) ?_))
      refine bodyPost_ret (v := digestV x) (run_results_row Tryd.results21 _ _ (w.heap.size + 1) 0 (by rfl) (cellsB x) (World.rangeAt_setCells_same _ _ _ _ (by rw [cellsB_length, hx]; exact HU.out)) _ Tryd.underlying24 (by rfl) (by rw [cellsB_length, hx]; exact Tryd.sizeDg)) rfl ⟨by rw [HE2.out], ?_⟩
      exact below_setCells _ (by omega) _ _ _ HB.out
end Go.Proofs.YtbhoijnhpmkglaaDoor
