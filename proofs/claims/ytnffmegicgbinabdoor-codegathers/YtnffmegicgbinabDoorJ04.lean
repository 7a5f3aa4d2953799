/- Texts of this claim, joined: Newton, Sharep, Bytes, Wround. -/
import Derived.Test.YtnffmegicgbinabDoorYPoly
import Derived.Test.YtnffmegicgbinabDoorJ01
import Derived.Laws.AppendOwnNone
import Derived.Maps.AppendAt
import Derived.RangeFuncNested
import Derived.RangeFuncBound
import Derived.RangeFuncCalls
import Derived.RangeFuncLeaves
import Derived.Shelf.Abstract
import Derived.Shelf.RegionOpen
import Derived.WalkKit
import Derived.OwnWalkIn
import Derived.TacticsInMore
import Derived.LoopNIn
import Derived.LoopIn
import Derived.OrdersHeld
/- NEWTON's differences over bytes: plain facts. -/
namespace Go.Proofs.YtnffmegicgbinabDoor
set_option linter.unusedVariables false
set_option linter.unusedSimpArgs false

/-- f is a polynomial of degree k at most, l what stands at x^k. -/
def Pol (k : Nat) (f : Nat → Nat) (l : Nat) : Prop := ∃ c, bys c ∧ c.length ≤ k + 1 ∧ c.getD k 0 = l ∧ ∀ x, x < 256 → polyv c x = f x
theorem padd_at : ∀ (c d : List Nat) (i : Nat), (padd c d).getD i 0 = c.getD i 0 ^^^ d.getD i 0
  | [], d, i => by cases d <;> simp [padd]
  | a :: c, [], i => by simp [padd]
  | a :: c, b :: d, 0 => by simp [padd]
  | a :: c, b :: d, i + 1 => by simpa [padd] using padd_at c d i
theorem getD_bys {c : List Nat} (h : bys c) (i : Nat) : c.getD i 0 < 256 := by
  rw [List.getD_eq_getElem?_getD]
  cases e : c[i]? with
  | none => show 0 < 256; omega
  | some y => exact h y (List.mem_of_getElem? e)
theorem Pol.lead {k l : Nat} {f : Nat → Nat} (h : Pol k f l) : l < 256 := by
  obtain ⟨c, hc, _, rfl, _⟩ := h
  exact getD_bys hc k
theorem Pol.val {k l : Nat} {f : Nat → Nat} (h : Pol k f l) (x : Nat) (hx : x < 256) : f x < 256 := by
  obtain ⟨c, hc, _, _, hv⟩ := h
  rw [← hv x hx]
  exact polyv_lt hc x
theorem Pol.add {k l m : Nat} {f g : Nat → Nat} (h : Pol k f l) (h' : Pol k g m) : Pol k (fun x => f x ^^^ g x) (l ^^^ m) := by
  obtain ⟨c, hc, lc, rfl, vc⟩ := h
  obtain ⟨d, hd, ld, rfl, vd⟩ := h'
  exact ⟨padd c d, padd_bys hc hd, by rw [padd_len]; omega, padd_at c d k, fun x hx => by rw [padd_val hc hd x hx, vc x hx, vd x hx]⟩
theorem scale_val (a : Nat) (ha : a < 256) : ∀ {c : List Nat}, bys c → ∀ x, x < 256 → polyv (c.map (gm a)) x = gm a (polyv c x)
  | [], _, x, _ => by simp [polyv, gm_zero]
  | b :: c, h, x, hx => by
    simp only [List.map_cons, polyv]
    rw [scale_val a ha (bys_tail h) x hx, gm_xor ha (bys_head h) (gm_lt _ _), ← gm_assoc, ← gm_assoc, gm_comm x a]
theorem scale_at (a : Nat) (c : List Nat) (i : Nat) : (c.map (gm a)).getD i 0 = gm a (c.getD i 0) := by
  simp only [List.getD_eq_getElem?_getD, List.getElem?_map]
  cases c[i]? with
  | none => exact (gm_zero a).symm
  | some y => rfl
theorem Pol.scale {k l : Nat} {f : Nat → Nat} (h : Pol k f l) (a : Nat) (ha : a < 256) : Pol k (fun x => gm a (f x)) (gm a l) := by
  obtain ⟨c, hc, lc, rfl, vc⟩ := h
  refine ⟨c.map (gm a), fun y hy => ?_, by simpa using lc, scale_at a c k, fun x hx => by rw [scale_val a ha hc x hx, vc x hx]⟩
  obtain ⟨z, _, rfl⟩ := List.mem_map.1 hy
  exact gm_lt _ _
theorem Pol.up {k l : Nat} {f : Nat → Nat} (h : Pol k f l) : Pol (k + 1) f 0 := by
  obtain ⟨c, hc, lc, _, vc⟩ := h
  exact ⟨c, hc, by omega, by rw [List.getD_eq_getElem?_getD, List.getElem?_eq_none (by omega)]; rfl, vc⟩
theorem Pol.mulx {k l : Nat} {f : Nat → Nat} (h : Pol k f l) (r : Nat) (hr : r < 256) : Pol (k + 1) (fun x => gm (x ^^^ r) (f x)) l := by
  have h2 := (h.scale r hr).up
  obtain ⟨c, hc, lc, rfl, vc⟩ := h
  have h1 : Pol (k + 1) (fun x => gm x (f x)) (c.getD k 0) := by
    refine ⟨0 :: c, fun y hy => ?_, by simpa using lc, by simp, fun x hx => by rw [show polyv (0 :: c) x = 0 ^^^ gm x (polyv c x) from rfl, Nat.zero_xor, vc x hx]⟩
    rcases List.mem_cons.1 hy with rfl | h
    · omega
    · exact hc y h
  obtain ⟨d, hd, ld, hl, vd⟩ := h1.add h2
  refine ⟨d, hd, ld, by rw [hl, Nat.xor_zero], fun x hx => ?_⟩
  rw [vd x hx]
  show gm x (f x) ^^^ gm r (f x) = gm (x ^^^ r) (f x)
  rw [xor_gm hx hr (by rw [← vc x hx]; exact polyv_lt hc x)]
theorem pquo_at (r : Nat) : ∀ (k : Nat) (c : List Nat), c.length ≤ k + 2 → (pquo r c).getD k 0 = c.getD (k + 1) 0
  | k, [], _ => by simp [pquo]
  | k, [a], _ => by simp [pquo]
  | 0, a :: b :: c, h => by
    have : c = [] := List.eq_nil_of_length_eq_zero (by simpa using h)
    subst this
    simp [pquo, polyv, gm_zero]
  | k + 1, a :: b :: c, h => by
    have := pquo_at r k (b :: c) (by simpa using h)
    simpa [pquo] using this
/-- The product of (x - a) over a list. -/
def lprod (x : Nat) : List Nat → Nat
  | [] => 1
  | a :: r => gm (x ^^^ a) (lprod x r)
theorem lprod_lt (x : Nat) (l : List Nat) : lprod x l < 256 := by
  cases l with
  | nil => show 1 < 256; omega
  | cons a r => exact gm_lt _ _
theorem lprod_app (x : Nat) : ∀ (l : List Nat) (a : Nat), x < 256 → a < 256 → lprod x (l ++ [a]) = gm (lprod x l) (x ^^^ a)
  | [], a, hx, ha => by simp only [List.nil_append, lprod]; rw [gm_one (xor_lt256 hx ha), one_gm (xor_lt256 hx ha)]
  | b :: l, a, hx, ha => by
    simp only [List.cons_append, lprod]
    rw [lprod_app x l a hx ha, gm_assoc]
theorem Pol.roots : ∀ (xs : List Nat), xs.Nodup → bys xs → ∀ {f : Nat → Nat} {l : Nat}, Pol xs.length f l → (∀ y ∈ xs, f y = 0) → ∀ x, x < 256 → f x = gm l (lprod x xs)
  | [], _, _, f, l, h, _, x, hx => by
    obtain ⟨c, hc, lc, rfl, vc⟩ := h
    rw [← vc x hx]
    match c, lc with
    | [], _ => simp [polyv, zero_gm]
    | [a], _ => simp [polyv, gm_zero, lprod]; exact (gm_one (bys_head hc)).symm
    | _ :: _ :: _, lc => simp at lc
  | r :: xs, hn, hb, f, l, h, hz, x, hx => by
    obtain ⟨c, hc, lc, rfl, vc⟩ := h
    have hr := bys_head hb
    have h0 : polyv c r = 0 := by rw [vc r hr]; exact hz r (List.mem_cons_self ..)
    have hv := fun y (hy : y < 256) => pquo_val hr hc y hy
    have hq : Pol xs.length (fun y => polyv (pquo r c) y) (c.getD (xs.length + 1) 0) := ⟨pquo r c, pquo_bys r hc, by rw [pquo_len]; simp at lc; omega, pquo_at r xs.length c (by simpa using lc), fun _ _ => rfl⟩
    have ih := Pol.roots xs (List.nodup_cons.1 hn).2 (bys_tail hb) hq (fun y hy => by
      have hy8 := hb y (List.mem_cons_of_mem _ hy)
      have h1 := hv y hy8
      rw [vc y hy8, hz y (List.mem_cons_of_mem _ hy), h0, Nat.xor_self] at h1
      have hne : y ≠ r := fun e => (List.nodup_cons.1 hn).1 (e ▸ hy)
      exact Classical.byContradiction fun hc' => gm_nz (xor_ne hne) hc' h1.symm) x hx
    have h1 := hv x hx
    rw [h0, Nat.xor_zero, vc x hx] at h1
    rw [h1, ih]
    show gm (x ^^^ r) (gm _ (lprod x xs)) = gm _ (gm (x ^^^ r) (lprod x xs))
    rw [← gm_assoc, ← gm_assoc, gm_comm (x ^^^ r)]
    rfl
/-! the differences -/
def dd (A V : Nat → Nat) : Nat → Nat → Nat
  | 0, i => V i
  | k + 1, i => gm (dd A V k i ^^^ dd A V k (i - 1)) (ginv (A i ^^^ A (i - (k + 1))))
def pts (A : Nat → Nat) (s m : Nat) : List Nat := (List.range m).map fun u => A (s + u)
def nsum (A V : Nat → Nat) (s x : Nat) : Nat → Nat
  | 0 => 0
  | m + 1 => nsum A V s x m ^^^ gm (dd A V m (s + m)) (lprod x (pts A s m))
theorem pts_succ (A : Nat → Nat) (s m : Nat) : pts A s (m + 1) = pts A s m ++ [A (s + m)] := by
  unfold pts
  rw [List.range_succ, List.map_append]
  rfl
theorem pts_len (A : Nat → Nat) (s m : Nat) : (pts A s m).length = m := by simp [pts]
theorem dd_lt {A V : Nat → Nat} (hV : ∀ i, V i < 256) : ∀ k i, dd A V k i < 256
  | 0, i => hV i
  | k + 1, i => gm_lt _ _
theorem dd_val {e : Nat} (h0 : e ≠ 0) (h8 : e < 256) {v : Nat} (hv : v < 256) : gm (ginv e) (gm e v) = v := by
  rw [← gm_assoc, gm_comm (ginv e), gm_ginv h8 h0, one_gm hv]
theorem newton_all {A V : Nat → Nat} {n : Nat} (hA : ∀ i, A i < 256) (hV : ∀ i, V i < 256) (hd : ∀ i j, i < n → j < n → i ≠ j → A i ≠ A j) :
    ∀ k s, s + k < n → (∀ j, j ≤ k → nsum A V s (A (s + j)) (k + 1) = V (s + j)) ∧ Pol k (fun x => nsum A V s x (k + 1)) (dd A V k (s + k)) := by
  intro k
  induction k with
  | zero =>
    intro s hs
    have h : ∀ x, nsum A V s x 1 = V s := fun x => by
      show 0 ^^^ gm (V (s + 0)) 1 = V s
      rw [Nat.zero_xor, gm_one (hV _)]
      rfl
    refine ⟨fun j hj => ?_, [V s], fun y hy => by rw [List.mem_singleton.1 hy]; exact hV s, by simp, rfl, fun x _ => ?_⟩
    · rw [h, show j = 0 by omega]; rfl
    · show polyv [V s] x = nsum A V s x 1
      rw [h]; simp [polyv, gm_zero]
  | succ k ih =>
    intro s hs
    obtain ⟨i1, p1⟩ := ih s (by omega)
    obtain ⟨i2, p2⟩ := ih (s + 1) (by omega)
    have hne : A (s + (k + 1)) ≠ A s := hd _ _ hs (by omega) (by omega)
    have h0 := xor_ne hne
    have h8 := xor_lt256 (hA (s + (k + 1))) (hA s)
    generalize he : A (s + (k + 1)) ^^^ A s = e at *
    -- the two put together
    have pR := ((p2.mulx (A s) (hA s)).add (p1.mulx (A (s + (k + 1))) (hA _))).scale (ginv e) (ginv_lt e)
    have hlead : gm (ginv e) (dd A V k (s + 1 + k) ^^^ dd A V k (s + k)) = dd A V (k + 1) (s + (k + 1)) := by
      show _ = gm (dd A V k (s + (k + 1)) ^^^ dd A V k (s + (k + 1) - 1)) (ginv (A (s + (k + 1)) ^^^ A (s + (k + 1) - (k + 1))))
      rw [show s + (k + 1) - 1 = s + k by omega, show s + (k + 1) - (k + 1) = s by omega, he, gm_comm, show s + 1 + k = s + (k + 1) by omega]
    rw [hlead] at pR
    generalize hR : (fun x => gm (ginv e) (gm (x ^^^ A s) (nsum A V (s + 1) x (k + 1)) ^^^ gm (x ^^^ A (s + (k + 1))) (nsum A V s x (k + 1)))) = R at pR
    have hRx : ∀ x, R x = gm (ginv e) (gm (x ^^^ A s) (nsum A V (s + 1) x (k + 1)) ^^^ gm (x ^^^ A (s + (k + 1))) (nsum A V s x (k + 1))) := fun x => by rw [← hR]
    have hRv : ∀ j, j ≤ k + 1 → R (A (s + j)) = V (s + j) := fun j hj => by
      rw [hRx]
      by_cases c0 : j = 0
      · subst c0
        have := i1 0 (by omega)
        rw [Nat.add_zero] at this ⊢
        rw [this, Nat.xor_self, zero_gm, Nat.zero_xor, Nat.xor_comm, he]
        exact dd_val h0 h8 (hV _)
      · have a2 := i2 (j - 1) (by omega)
        rw [show s + 1 + (j - 1) = s + j by omega] at a2
        rw [a2]
        by_cases c1 : j = k + 1
        · subst c1
          rw [Nat.xor_self, zero_gm, Nat.xor_zero, he]
          exact dd_val h0 h8 (hV _)
        · rw [i1 j (by omega), ← xor_gm (xor_lt256 (hA _) (hA _)) (xor_lt256 (hA _) (hA _)) (hV _), xor_same, Nat.xor_comm (A s), he]
          exact dd_val h0 h8 (hV _)
    -- it is the sum with one term more
    have pT := pR.add p1.up
    rw [Nat.xor_zero] at pT
    have hnd : (pts A s (k + 1)).Nodup := by
      unfold pts
      rw [List.nodup_iff_pairwise_ne, List.pairwise_map]
      refine List.Pairwise.imp_of_mem (fun ha hb hab => ?_) (List.nodup_iff_pairwise_ne.1 List.nodup_range)
      have h1 := List.mem_range.1 ha
      have h2 := List.mem_range.1 hb
      exact hd _ _ (by omega) (by omega) (by omega)
    have hbp : bys (pts A s (k + 1)) := fun y hy => by
      obtain ⟨u, _, rfl⟩ := List.mem_map.1 hy
      exact hA _
    have hT := Pol.roots (pts A s (k + 1)) hnd hbp (by rw [pts_len]; exact pT) (fun y hy => by
      obtain ⟨u, hu, rfl⟩ := List.mem_map.1 hy
      have h1 := List.mem_range.1 hu
      show R (A (s + u)) ^^^ nsum A V s (A (s + u)) (k + 1) = 0
      rw [hRv u (by omega), i1 u (by omega), Nat.xor_self])
    have hN : ∀ x, x < 256 → nsum A V s x (k + 1 + 1) = R x := fun x hx => by
      have h := hT x hx
      show nsum A V s x (k + 1) ^^^ gm (dd A V (k + 1) (s + (k + 1))) (lprod x (pts A s (k + 1))) = R x
      rw [← h, Nat.xor_comm (R x), ← Nat.xor_assoc, Nat.xor_self, Nat.zero_xor]
    refine ⟨fun j hj => by rw [hN _ (hA _)]; exact hRv j hj, ?_⟩
    obtain ⟨c, hc, lc, hl, vc⟩ := pR
    exact ⟨c, hc, lc, hl, fun x hx => by rw [vc x hx]; exact (hN x hx).symm⟩
/-- Newton's sum is the value of the polynomial through the points. -/
theorem newton_interp {at' v : List Nat} {x : Nat} (hn : 0 < at'.length) (ha : bys at') (hv : bys v) (hd : at'.Nodup) (hx : x < 256) : Interp at' v x (nsum (fun i => at'.getD i 0) (fun i => v.getD i 0) 0 x at'.length) := by
  obtain ⟨m, hm⟩ : ∃ m, at'.length = m + 1 := ⟨at'.length - 1, by omega⟩
  have hdd : ∀ i j, i < at'.length → j < at'.length → i ≠ j → at'.getD i 0 ≠ at'.getD j 0 := fun i j hi hj hij => by
    rw [List.getD_eq_getElem?_getD, List.getD_eq_getElem?_getD, List.getElem?_eq_getElem hi, List.getElem?_eq_getElem hj]
    have hp := List.pairwise_iff_getElem.1 (List.nodup_iff_pairwise_ne.1 hd)
    intro e
    rcases Nat.lt_or_gt_of_ne hij with q | q
    · exact hp i j hi hj q e
    · exact hp j i hj hi q e.symm
  obtain ⟨h1, c, hc, lc, _, vc⟩ := newton_all (n := at'.length) (A := fun i => at'.getD i 0) (V := fun i => v.getD i 0) (fun i => getD_bys ha i) (fun i => getD_bys hv i) hdd m 0 (by omega)
  refine ⟨c, hc, by omega, fun i hi => ?_, ?_⟩
  · rw [vc _ (getD_bys ha i)]
    have := h1 i (by omega)
    simpa using this
  · rw [hm, vc x hx]
end Go.Proofs.YtnffmegicgbinabDoor
/- A secret in parts: plain facts (no theorem of the program). -/
namespace Go.Proofs.YtnffmegicgbinabDoor
set_option linter.unusedVariables false
set_option linter.unusedSimpArgs false

/-- Bytes as numbers. -/
def nb (l : List UInt8) : List Nat := l.map UInt8.toNat
theorem nb_len (l : List UInt8) : (nb l).length = l.length := by simp [nb]
theorem nb_bys (l : List UInt8) : bys (nb l) := fun x hx => by
  obtain ⟨y, _, rfl⟩ := List.mem_map.1 hx
  exact y.toNat_lt
theorem nb_at (l : List UInt8) (i : Nat) : (nb l).getD i 0 = (l.getD i 0).toNat := by
  simp only [nb, List.getD_eq_getElem?_getD, List.getElem?_map]
  cases l[i]? <;> rfl
theorem nth_nb (l : List UInt8) (i : Nat) : nth l i = (((nb l).getD i 0 : Nat) : Int) := by rw [nb_at]; rfl
theorem nb_append (l m : List UInt8) : nb (l ++ m) = nb l ++ nb m := by simp [nb]
theorem nb_inj {l m : List UInt8} (h : nb l = nb m) : l = m := by
  have : ∀ (l m : List UInt8), nb l = nb m → l = m := by
    intro l
    induction l with
    | nil => intro m h; cases m with
      | nil => rfl
      | cons b m => simp [nb] at h
    | cons a l ih =>
      intro m h
      cases m with
      | nil => simp [nb] at h
      | cons b m =>
        simp only [nb, List.map_cons, List.cons.injEq] at h
        rw [UInt8.toNat_inj.1 h.1, ih m h.2]
  exact this l m h
/-- A sum over powers: what is there, and what is still to come. -/
theorem value_step {c : List Nat} (hc : bys c) {i at' v x : Nat} (hi : i < c.length) (ha : at' < 256) (hx : x < 256) :
    v ^^^ gm at' (polyv (c.drop i) x) = (v ^^^ gm (c.getD i 0) at') ^^^ gm (gm at' x) (polyv (c.drop (i + 1)) x) := by
  have hd : c.drop i = c.getD i 0 :: c.drop (i + 1) := by
    rw [List.drop_eq_getElem_cons hi, List.getD_eq_getElem?_getD, List.getElem?_eq_getElem hi]
    rfl
  have hb : bys (c.drop (i + 1)) := fun y hy => hc y (List.mem_of_mem_drop hy)
  rw [hd]
  show v ^^^ gm at' (c.getD i 0 ^^^ gm x (polyv (c.drop (i + 1)) x)) = _
  rw [gm_xor ha (getD_bys hc i) (gm_lt _ _), ← gm_assoc, gm_comm at' (c.getD i 0), Nat.xor_assoc]
/-! Newton's differences in one row -/
def ddm (A V : Nat → Nat) : Nat → Nat → Nat
  | 0, i => V i
  | k + 1, i => if i < k + 1 then ddm A V k i else gm (ddm A V k i ^^^ ddm A V k (i - 1)) (ginv (A i ^^^ A (i - (k + 1))))
theorem ddm_new (A V : Nat → Nat) : ∀ k i, k ≤ i → ddm A V k i = dd A V k i
  | 0, i, _ => rfl
  | k + 1, i, h => by
    simp only [ddm, dd]
    rw [if_neg (by omega), ddm_new A V k i (by omega), ddm_new A V k (i - 1) (by omega)]
theorem ddm_old (A V : Nat → Nat) : ∀ k i, i ≤ k → ddm A V k i = dd A V i i
  | 0, i, h => by rw [show i = 0 by omega]; rfl
  | k + 1, i, h => by
    by_cases c : i = k + 1
    · rw [c]; exact ddm_new A V (k + 1) (k + 1) (Nat.le_refl _)
    · simp only [ddm]
      rw [if_pos (by omega)]
      exact ddm_old A V k i (by omega)
theorem ddm_lt {A V : Nat → Nat} (hV : ∀ i, V i < 256) : ∀ k i, ddm A V k i < 256
  | 0, i => hV i
  | k + 1, i => by
    simp only [ddm]
    split
    · exact ddm_lt hV k i
    · exact gm_lt _ _
/-- The sum from its end: m terms from the i-th on. -/
def hsum (A D : Nat → Nat) (x : Nat) : Nat → Nat → Nat
  | 0, _ => 0
  | m + 1, i => gm (hsum A D x m (i + 1)) (x ^^^ A i) ^^^ D i
theorem hsum_lt {A D : Nat → Nat} (hD : ∀ i, D i < 256) (x : Nat) : ∀ m i, hsum A D x m i < 256
  | 0, _ => by show 0 < 256; omega
  | m + 1, i => xor_lt256 (gm_lt _ _) (hD i)
theorem hsum_all {A V : Nat → Nat} (hA : ∀ i, A i < 256) (hV : ∀ i, V i < 256) (x : Nat) (hx : x < 256) (n : Nat) : ∀ m i, i + m = n → nsum A V 0 x n = nsum A V 0 x i ^^^ gm (hsum A (fun i => dd A V i i) x m i) (lprod x (pts A 0 i))
  | 0, i, h => by
    rw [show i = n by omega]
    show _ = _ ^^^ gm 0 _
    rw [zero_gm, Nat.xor_zero]
  | m + 1, i, h => by
    rw [hsum_all hA hV x hx n m (i + 1) (by omega)]
    have hd := fun i => dd_lt (A := A) hV i i
    show (nsum A V 0 x i ^^^ gm (dd A V i (0 + i)) (lprod x (pts A 0 i))) ^^^ gm (hsum A (fun i => dd A V i i) x m (i + 1)) (lprod x (pts A 0 (i + 1))) = nsum A V 0 x i ^^^ gm (gm (hsum A (fun i => dd A V i i) x m (i + 1)) (x ^^^ A i) ^^^ dd A V i i) (lprod x (pts A 0 i))
    rw [pts_succ, lprod_app x _ _ hx (hA _), Nat.zero_add, xor_gm (gm_lt _ _) (hd i) (lprod_lt _ _), Nat.xor_assoc]
    congr 1
    rw [Nat.xor_comm, gm_assoc, gm_comm (x ^^^ A i)]
/-- What the differences in one row, summed from the end, tell. -/
theorem through_interp {at' v : List Nat} {x : Nat} (hn : 0 < at'.length) (ha : bys at') (hv : bys v) (hd : at'.Nodup) (hx : x < 256) :
    Interp at' v x (hsum (fun i => at'.getD i 0) (fun i => ddm (fun i => at'.getD i 0) (fun i => v.getD i 0) (at'.length - 1) i) x at'.length 0) := by
  have h := newton_interp hn ha hv hd hx
  have e := hsum_all (A := fun i => at'.getD i 0) (V := fun i => v.getD i 0) (fun i => getD_bys ha i) (fun i => getD_bys hv i) x hx at'.length at'.length 0 (by omega)
  have g : ∀ m i, i + m = at'.length → hsum (fun i => at'.getD i 0) (fun i => dd (fun i => at'.getD i 0) (fun i => v.getD i 0) i i) x m i = hsum (fun i => at'.getD i 0) (fun i => ddm (fun i => at'.getD i 0) (fun i => v.getD i 0) (at'.length - 1) i) x m i := by
    intro m
    induction m with
    | zero => intro i _; rfl
    | succ m ih =>
      intro i hi
      simp only [hsum]
      rw [ih (i + 1) (by omega), ddm_old _ _ (at'.length - 1) i (by omega)]
  rw [e, g _ 0 (by omega)] at h
  have z : nsum (fun i => at'.getD i 0) (fun i => v.getD i 0) 0 x 0 = 0 := rfl
  have l1 : lprod x (pts (fun i => at'.getD i 0) 0 0) = 1 := rfl
  rw [z, l1, Nat.zero_xor, gm_one (hsum_lt (fun i => ddm_lt (fun i => getD_bys hv i) _ _) x _ _)] at h
  exact h
/-- SHAMIR: a polynomial that is short enough is told by its values. -/
theorem shamir {at' v c : List Nat} {x r : Nat} (hb : bys at') (hd : at'.Nodup) (hx : x < 256) (hc : bys c) (lc : c.length ≤ at'.length) (hv : ∀ i, i < at'.length → v.getD i 0 = polyv c (at'.getD i 0)) (h : Interp at' v x r) : r = polyv c x :=
  interp_unique hd hb hx h ⟨c, hc, lc, fun i hi => (hv i hi).symm, rfl⟩
theorem polyv_0 (a : Nat) (c : List Nat) : polyv (a :: c) 0 = a := by
  show a ^^^ gm 0 _ = a
  rw [zero_gm, Nat.xor_zero]
end Go.Proofs.YtnffmegicgbinabDoor
/- Rows of bytes that grow by append. -/
namespace Go.Proofs.YtnffmegicgbinabDoor
open Go.RowKit
set_option linter.unusedVariables false
set_option linter.unusedSimpArgs false

def cellsB (l : List UInt8) : List Value := l.map fun b => Value.int .u8 (b.toNat : Int)
theorem cellsB_append (l r : List UInt8) : cellsB (l ++ r) = cellsB l ++ cellsB r := by simp [cellsB]
theorem cellsB_length (l : List UInt8) : (cellsB l).length = l.length := by simp [cellsB]
theorem cellsB_at (l : List UInt8) (i : Nat) (h : i < l.length) : (cellsB l)[i]? = some (.int .u8 (nth l i)) := by
  unfold cellsB nth
  simp [List.getElem?_eq_getElem h]
theorem cellsB_one (l : List UInt8) : ∀ u ∈ cellsB l, u.oneCell' = true := by
  intro u hu
  obtain ⟨i, _, rfl⟩ := List.mem_map.1 hu
  rfl
/-- The call's own slice of bytes v reads as l. -/
def OwnL (w : World) (B : Nat) (v : Value) (l : List UInt8) : Prop := w.ownsRow B 5 1 v l.length (cellsB l)
theorem OwnL.form {w : World} {B : Nat} {v : Value} {l : List UInt8} (h : OwnL w B v l) : ∃ a cap, v = .slice a l.length cap ∧ Row w a l.length l ∧ l.length ≤ cap := by
  rcases h.2 with ⟨rfl, h0⟩ | ⟨g, cap, cur, rfl, h1, h2, h3, _⟩
  · exact ⟨none, 0, by rw [h0], ⟨rfl, .inl h0⟩, by omega⟩
  · refine ⟨_, cap, rfl, ⟨rfl, .inr ⟨g, 0, rfl, fun i hi => ?_⟩⟩, h3⟩
    rw [Nat.zero_add, World.ownsRow.cellAt h i (by omega), cellsB_at l i hi]
theorem OwnL.formSome {w : World} {B : Nat} {v : Value} {l : List UInt8} (h : OwnL w B v l) (hl : 0 < l.length) : ∃ g cap, v = .slice (some ⟨g, 0, none⟩) l.length cap ∧ Row w (some ⟨g, 0, none⟩) l.length l ∧ l.length ≤ cap ∧ B ≤ g ∧ g < w.heap.size := by
  have hlt := World.ownsRow.lt h
  rcases h.2 with ⟨rfl, h0⟩ | ⟨g, cap, cur, rfl, h1, h2, h3, _⟩
  · omega
  · refine ⟨g, cap, rfl, ⟨rfl, .inr ⟨g, 0, rfl, fun i hi => ?_⟩⟩, h3, (hlt g rfl).1, (hlt g rfl).2⟩
    rw [Nat.zero_add, World.ownsRow.cellAt h i (by omega), cellsB_at l i hi]
theorem OwnL.nil (w : World) (B : Nat) : OwnL w B (.slice none 0 0) [] := World.ownsRow_nil _ _ _ _
theorem OwnL.lit0 (w : World) (B : Nat) (hB : B ≤ w.heap.size) : OwnL (w.alloc (.cells #[] 5)) B (.slice (some ⟨w.heap.size, 0, none⟩) 0 0) [] :=
  World.ownsRow_lit w #[] 0 hB (by unfold maxLen; omega) rfl
theorem OwnL.lit0' (w : World) (B s : Nat) (hs : w.heap.size = s) (hB : B ≤ s) : OwnL (w.alloc (.cells #[] 5)) B (.slice (some ⟨s, 0, none⟩) 0 0) [] := by
  subst hs
  exact OwnL.lit0 w B hB
theorem OwnL.drewN {w : World} {B : Nat} {v : Value} {l : List UInt8} (h : OwnL w B v l) (q : Nat) : OwnL (w.drewN q) B v l := by
  induction q with
  | zero => exact h
  | succ q ih => exact World.ownsRow.drew ih
theorem OwnL.below {w w' : World} {B : Nat} {v : Value} {l : List UInt8} (h : OwnL w B v l) (hb : Below w.heap.size w w') : OwnL w' B v l := by
  rcases h.2 with ⟨h1, h0⟩ | ⟨g, cap, cur, e1, e2, e3, e4⟩
  · exact ⟨h.1, .inl ⟨h1, h0⟩⟩
  · have hg : g < w.heap.size := (World.ownsRow.lt h g (by rw [e1]; rfl)).2
    exact ⟨h.1, .inr ⟨g, cap, cur, e1, e2, (hb.block g hg).trans e3, e4⟩⟩

theorem OwnL.grown {w w0 w' : World} {B B0 : Nat} {v : Value} {l : List UInt8} (h : OwnL w B v l) (hb : Below B0 w0 w) (hg : w.grownBy w' v.ownBlock) (h0 : B0 ≤ B) (hs : B0 ≤ w.heap.size) : Below B0 w0 w' :=
  hb.grown hg hs (fun k hk => Nat.le_trans h0 (World.ownsRow.lt h k hk).1)
/-- Two slices that lie apart. -/
def Sep (v v' : Value) : Prop := v.ownBlock = none ∨ v'.ownBlock = none ∨ v.ownBlock ≠ v'.ownBlock
theorem Sep.symm {v v' : Value} (h : Sep v v') : Sep v' v := by
  rcases h with h | h | h
  · exact .inr (.inl h)
  · exact .inl h
  · exact .inr (.inr fun e => h e.symm)
theorem OwnL.other {w w1 : World} {B : Nat} {v v' : Value} {l' : List UInt8} (h' : OwnL w B v' l') (hg : w.grownBy w1 v.ownBlock) (hs : Sep v v') : OwnL w1 B v' l' := by
  refine World.ownsRow.kept h' hg ?_
  rcases hs with h | h | h
  · by_cases hn : v'.ownBlock = none
    · exact .inl hn
    · rw [h]; exact .inr hn
  · exact .inl h
  · exact .inr fun e => h e.symm
theorem Sep.next {w : World} {B : Nat} {v v1 v' : Value} {l' : List UInt8} (hs : Sep v v') (hat : v1.ownBlock = v.ownBlock ∨ v1.ownBlock = some w.heap.size) (h' : OwnL w B v' l') : Sep v1 v' := by
  rcases hat with h | h
  · unfold Sep at *; rw [h]; exact hs
  · by_cases hn : v'.ownBlock = none
    · exact .inr (.inl hn)
    · refine .inr (.inr fun e => ?_)
      have := (World.ownsRow.lt h' w.heap.size (by rw [← e, h])).2
      omega
section
variable {P : Program}
theorem run_append_nothing (w : World) (base : Nat) (t ty e : TypeId) (i : TypeInfo) (size : Nat) (ht : P.underlying t = some (.slice e)) (hi : P.info? e = some i)
    (v : Value) (n c : Nat) (xs : List Value) (hown : w.ownsRow base e size v n xs) :
    (Builtin.append_ #[t, t] ty #[v, .slice none 0 c]).run P w = .ok v w := by
  rcases hown.2 with ⟨rfl, rfl⟩ | ⟨g, cap, cur, rfl, _, _, hnc, _⟩
  · simp [Builtin.append_, run_underlying ht, sizeOf, typeInfo, hi, Builtin.lenOf, Builtin.firstCells]
  · simp [Builtin.append_, run_underlying ht, sizeOf, typeInfo, hi, Builtin.lenOf, Builtin.firstCells, hnc, storeCells]

/-- 'append(v, x...)', v the call's own row of bytes, x any slice of bytes. -/
theorem wpList_append_bytes_at {w : World} {ops : Array Oper} {rest : List Oper} {o : Oper} {a : Act} {Q : Exit → Act → World → Prop} (hgd : o.guard = none) (s x : Operand) (t : TypeId)
    (ho : o.op = .call { callee := .builtin .append, args := #[s, x], argTypes := #[t, t] })
    (base : Nat) (i : TypeInfo) (ht : P.underlying t = some (.slice 5)) (hi : P.info? 5 = some i) (hz : i.zero = some (.int .u8 0)) (hsize : i.size = 1) (hby : i.bytes = 1)
    (v : Value) (l : List UInt8) (hs : a.eval s = v) (hown : OwnL w base v l)
    (ad : Option Addr) (n c : Nat) (r : List UInt8) (hx : a.eval x = .slice ad n c) (hr : Row w ad n r) (h47 : l.length + n ≤ 140737488355328) (hbase : base ≤ w.heap.size)
    (h : ∀ v' w', OwnL w' base v' (l ++ r) → w.grownBy w' v.ownBlock → (v'.ownBlock = v.ownBlock ∨ v'.ownBlock = some w.heap.size) → wpList P ops Q rest (a.put o.dst v') w') : wpList P ops Q (o :: rest) a w := by
  obtain ⟨hl, hr⟩ := hr
  cases ad with
  | none =>
    have h0 : n = 0 := by
      rcases hr with h0 | ⟨b, o, h1, _⟩
      · exact h0
      · cases h1
    subst h0
    have hr0 : r = [] := List.eq_nil_of_length_eq_zero hl
    subst hr0
    have hrun := run_append_nothing (P := P) w base t o.type 5 i 1 ht hi v l.length c (cellsB l) hown
    refine wpList_plain hgd fun K hK' => ?_
    unfold Oper.wp
    simp [execOp, ho, resolve, invoke, builtin, hs, hx, hrun, Result.andThen]
    exact hK' _ _ (h v w (by rw [List.append_nil]; exact hown) (World.grownBy.refl _ _) (.inl rfl))
  | some ad =>
    refine wpList_append_own_at w hgd s x t ho base 5 i (.int .u8 0) 1 1 ht hi hz hsize hby rfl (by decide) v l.length (cellsB l) hs hown ad n c (cellsB r) hx (by rw [cellsB_length, hl, Nat.mul_one]) ?_ (cellsB_one r) (by unfold maxLen; omega) (by omega) hbase ?_
    · intro j u hj
      have hj' : j < r.length := by have := (List.getElem?_eq_some_iff.1 hj).1; rwa [cellsB_length] at this
      rcases hr with h0 | ⟨b, off, h1, hc⟩
      · omega
      · cases h1
        rw [Go.WideShapes.add_plain, hc j (by omega), ← cellsB_at r j hj', hj]
    · intro v' w' hown' hgrow _ hat
      refine h v' w' ?_ hgrow hat
      unfold OwnL
      rw [List.length_append, cellsB_append, hl]
      exact hown'
/-- 'append(v, x...)', v the call's own row of bytes, x any slice of bytes. -/
theorem wpList_append_bytes {w : World} {ops : Array Oper} {rest : List Oper} {o : Oper} {a : Act} {Q : Exit → Act → World → Prop} (hgd : o.guard = none) (s x : Operand) (t : TypeId)
    (ho : o.op = .call { callee := .builtin .append, args := #[s, x], argTypes := #[t, t] })
    (base : Nat) (i : TypeInfo) (ht : P.underlying t = some (.slice 5)) (hi : P.info? 5 = some i) (hz : i.zero = some (.int .u8 0)) (hsize : i.size = 1) (hby : i.bytes = 1)
    (v : Value) (l : List UInt8) (hs : a.eval s = v) (hown : OwnL w base v l)
    (ad : Option Addr) (n c : Nat) (r : List UInt8) (hx : a.eval x = .slice ad n c) (hr : Row w ad n r) (h47 : l.length + n ≤ 140737488355328) (hbase : base ≤ w.heap.size)
    (h : ∀ v' w', OwnL w' base v' (l ++ r) → w.grownBy w' v.ownBlock → wpList P ops Q rest (a.put o.dst v') w') : wpList P ops Q (o :: rest) a w :=
  wpList_append_bytes_at hgd s x t ho base i ht hi hz hsize hby v l hs hown ad n c r hx hr h47 hbase fun v' w' h1 h2 _ => h v' w' h1 h2
end
end Go.Proofs.YtnffmegicgbinabDoor
/- A region in a round of a range over a function: as anywhere, under the wide fence. -/
namespace Go.Proofs.YtnffmegicgbinabDoor
open Go.RowKit
set_option linter.unusedVariables false
set_option linter.unusedSimpArgs false

theorem rows_wide {P : Program} {row : String} {args : Array Value} {w : World} {R : Value → World → Prop} (l n : Nat) (h : Rows P row args w R) : RowsIn (Fence.wide.inRound l) n P row args w R :=
  fun c cs _ => let ⟨v, w', r, s⟩ := h c cs; ⟨v, w', r, stepsIn_wide.2 s⟩
theorem uponIn_round_wide {P : Program} {o : Oper} {a : Act} {K K' : Act → World → Prop} {Q : Exit → Act → World → Prop} (l n : Nat) (hK : ∀ a w, K a w → K' a w) (r : Result Next) (h : o.upon P a K Q r) :
    o.uponIn (Fence.wide.inRound l) n P a K' Q r := by
  unfold Oper.upon at h
  unfold Oper.uponIn
  split at h
  · exact hK _ _ h
  · exact hK _ _ h
  · exact hK _ _ h
  · refine ⟨fun hd => (by cases hd), CallsIn.inRound l (callsIn_wide.2 (h.mono ?_))⟩
    intro e w' he
    cases e with
    | returned v => exact hK _ _ he
    | panicked c => exact he
    | outgrown => exact he
  · exact ⟨fun hd => (by cases hd), rows_wide l _ (h.mono fun v w' hv => hK _ _ hv)⟩
  · exact h
  · exact h.elim
/-- No statement in it is a 'defer'. -/
def noDefer (ops : Array Oper) : Bool := ops.toList.all fun o => match o.op with | .defer _ => false | _ => true
theorem noDefer_spec {ops : Array Oper} (h : noDefer ops = true) {i : Nat} {o : Oper} (ho : ops[i]? = some o) : ∀ c, o.op ≠ .defer c := by
  intro c hc
  have hm : o ∈ ops.toList := by
    have := (Array.getElem?_eq_some_iff.1 ho).2
    have hi := (Array.getElem?_eq_some_iff.1 ho).1
    rw [← this]
    exact Array.mem_toList_iff.2 (Array.getElem_mem hi)
  have := List.all_eq_true.1 h o hm
  rw [hc] at this
  cases this
theorem wpOps_round {P : Program} {ops : Array Oper} {Q : Exit → Act → World → Prop} (l n : Nat) (hd : noDefer ops = true) (hQ : ¬ LetsOut Q) :
    ∀ (js : List Nat) (a : Act) (w : World), wpOps P ops Q js a w → wpOpsIn (Fence.wide.inRound l) n P ops Q js a w
  | [], _, _, h => h
  | i :: rest, a, w, h => by
    have ih := wpOps_round (P := P) l n hd hQ rest
    unfold wpOps at h
    unfold wpOpsIn
    cases ho : ops[i]? with
    | none =>
      rw [ho] at h
      exact ih a w h
    | some o =>
      rw [ho] at h
      simp only at h ⊢
      by_cases hw : Region.wanted o (yielded ops a.tmps) = true
      · rw [if_pos hw] at h ⊢
        rcases h with h | ⟨_, h⟩
        · refine ⟨fun _ _ => trivial, ?_⟩
          rw [Oper.semAt_eq _ _ _ (noDefer_spec hd ho)]
          exact uponIn_round_wide l n ih _ h
        · exact absurd h hQ
      · rw [if_neg hw] at h ⊢
        exact ⟨fun _ _ => trivial, ih _ _ h⟩
theorem wpIn_round_list {P : Program} {ops : Array Oper} {Q : Exit → Act → World → Prop} {id : Nat} {a : Act} {w : World} (l n : Nat) (hd : noDefer ops = true) (hQ : ¬ LetsOut Q) (h : wpList P ops Q ops.toList a w) :
    (Code.region id ops false).wpIn (Fence.wide.inRound l) n P Q a w := by
  refine wpIn_region (wpOps_round l n hd hQ _ _ _ ?_)
  rw [List.range_eq_range', show ops.size = ops.toList.length from rfl, wpOps_eq_wpList ops.toList 0 (by simp)]
  exact h
theorem wpIn_round_held {P : Program} {ops : Array Oper} {Q : Exit → Act → World → Prop} {S : World → Prop} {id : Nat} {a : Act} {w : World} (l n : Nat) (hm : P.follows .mixedOrders = true) (hd : noDefer ops = true) (hQ : ¬ LetsOut Q)
    (h : wpAnyH P .any ops Q S ops.size (Array.replicate ops.size false) a { w with drawn := w.drawn + 1 }) : (Code.region id ops true).wpIn (Fence.wide.inRound l) n P Q a w :=
  wpIn_region_draw fun t => by
    refine wpOps_round l n hd hQ _ _ _ ?_
    simp only [Region.schedule, hm, Bool.true_or, if_true]
    exact wpAny_sound ops.size t _ a _ (wpAny_of_held _ _ _ _ h)
end Go.Proofs.YtnffmegicgbinabDoor
