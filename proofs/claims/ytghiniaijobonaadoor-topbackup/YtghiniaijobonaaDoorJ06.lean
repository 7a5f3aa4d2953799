/- Texts of this claim, joined: Newton, Sharep, Lagr, Lagx. -/
import Derived.Test.YtghiniaijobonaaDoorYPoly
import Derived.Test.YtghiniaijobonaaDoorJ04
/- NEWTON's differences over bytes: plain facts. -/
namespace Go.Proofs.YtghiniaijobonaaDoor
set_option linter.unusedVariables false
set_option linter.unusedSimpArgs false

/-- f is a polynomial of degree k at most, l what stands at x^k. -/
def Pol (k : Nat) (f : Nat → Nat) (l : Nat) : Prop := ∃ c, bys c ∧ c.length ≤ k + 1 ∧ c.getD k 0 = l ∧ ∀ x, x < 256 → polyv c x = f x
theorem padd_at : ∀ (c d : List Nat) (i : Nat), (padd c d).getD i 0 = c.getD i 0 ^^^ d.getD i 0
  | [], d, i => by cases d <;> simp [padd]
  | a :: c, [], i => by simp [padd]
  | a :: c, b :: d, 0 => by simp [padd]
  | a :: c, b :: d, i + 1 => by simpa [padd] using padd_at c d i
theorem getD_bys {c : List Nat} (h : bys c) (i : Nat) : c.getD i 0 < 256 := by
  rw [List.getD_eq_getElem?_getD]
  cases e : c[i]? with
  | none => show 0 < 256; omega
  | some y => exact h y (List.mem_of_getElem? e)
theorem Pol.lead {k l : Nat} {f : Nat → Nat} (h : Pol k f l) : l < 256 := by
  obtain ⟨c, hc, _, rfl, _⟩ := h
  exact getD_bys hc k
theorem Pol.val {k l : Nat} {f : Nat → Nat} (h : Pol k f l) (x : Nat) (hx : x < 256) : f x < 256 := by
  obtain ⟨c, hc, _, _, hv⟩ := h
  rw [← hv x hx]
  exact polyv_lt hc x
theorem Pol.add {k l m : Nat} {f g : Nat → Nat} (h : Pol k f l) (h' : Pol k g m) : Pol k (fun x => f x ^^^ g x) (l ^^^ m) := by
  obtain ⟨c, hc, lc, rfl, vc⟩ := h
  obtain ⟨d, hd, ld, rfl, vd⟩ := h'
  exact ⟨padd c d, padd_bys hc hd, by rw [padd_len]; omega, padd_at c d k, fun x hx => by rw [padd_val hc hd x hx, vc x hx, vd x hx]⟩
theorem scale_val (a : Nat) (ha : a < 256) : ∀ {c : List Nat}, bys c → ∀ x, x < 256 → polyv (c.map (gm a)) x = gm a (polyv c x)
  | [], _, x, _ => by simp [polyv, gm_zero]
  | b :: c, h, x, hx => by
    simp only [List.map_cons, polyv]
    rw [scale_val a ha (bys_tail h) x hx, gm_xor ha (bys_head h) (gm_lt _ _), ← gm_assoc, ← gm_assoc, gm_comm x a]
theorem scale_at (a : Nat) (c : List Nat) (i : Nat) : (c.map (gm a)).getD i 0 = gm a (c.getD i 0) := by
  simp only [List.getD_eq_getElem?_getD, List.getElem?_map]
  cases c[i]? with
  | none => exact (gm_zero a).symm
  | some y => rfl
theorem Pol.scale {k l : Nat} {f : Nat → Nat} (h : Pol k f l) (a : Nat) (ha : a < 256) : Pol k (fun x => gm a (f x)) (gm a l) := by
  obtain ⟨c, hc, lc, rfl, vc⟩ := h
  refine ⟨c.map (gm a), fun y hy => ?_, by simpa using lc, scale_at a c k, fun x hx => by rw [scale_val a ha hc x hx, vc x hx]⟩
  obtain ⟨z, _, rfl⟩ := List.mem_map.1 hy
  exact gm_lt _ _
theorem Pol.up {k l : Nat} {f : Nat → Nat} (h : Pol k f l) : Pol (k + 1) f 0 := by
  obtain ⟨c, hc, lc, _, vc⟩ := h
  exact ⟨c, hc, by omega, by rw [List.getD_eq_getElem?_getD, List.getElem?_eq_none (by omega)]; rfl, vc⟩
theorem Pol.mulx {k l : Nat} {f : Nat → Nat} (h : Pol k f l) (r : Nat) (hr : r < 256) : Pol (k + 1) (fun x => gm (x ^^^ r) (f x)) l := by
  have h2 := (h.scale r hr).up
  obtain ⟨c, hc, lc, rfl, vc⟩ := h
  have h1 : Pol (k + 1) (fun x => gm x (f x)) (c.getD k 0) := by
    refine ⟨0 :: c, fun y hy => ?_, by simpa using lc, by simp, fun x hx => by rw [show polyv (0 :: c) x = 0 ^^^ gm x (polyv c x) from rfl, Nat.zero_xor, vc x hx]⟩
    rcases List.mem_cons.1 hy with rfl | h
    · omega
    · exact hc y h
  obtain ⟨d, hd, ld, hl, vd⟩ := h1.add h2
  refine ⟨d, hd, ld, by rw [hl, Nat.xor_zero], fun x hx => ?_⟩
  rw [vd x hx]
  show gm x (f x) ^^^ gm r (f x) = gm (x ^^^ r) (f x)
  rw [xor_gm hx hr (by rw [← vc x hx]; exact polyv_lt hc x)]
theorem pquo_at (r : Nat) : ∀ (k : Nat) (c : List Nat), c.length ≤ k + 2 → (pquo r c).getD k 0 = c.getD (k + 1) 0
  | k, [], _ => by simp [pquo]
  | k, [a], _ => by simp [pquo]
  | 0, a :: b :: c, h => by
    have : c = [] := List.eq_nil_of_length_eq_zero (by simpa using h)
    subst this
    simp [pquo, polyv, gm_zero]
  | k + 1, a :: b :: c, h => by
    have := pquo_at r k (b :: c) (by simpa using h)
    simpa [pquo] using this
/-- The product of (x - a) over a list. -/
def lprod (x : Nat) : List Nat → Nat
  | [] => 1
  | a :: r => gm (x ^^^ a) (lprod x r)
theorem lprod_lt (x : Nat) (l : List Nat) : lprod x l < 256 := by
  cases l with
  | nil => show 1 < 256; omega
  | cons a r => exact gm_lt _ _
theorem lprod_app (x : Nat) : ∀ (l : List Nat) (a : Nat), x < 256 → a < 256 → lprod x (l ++ [a]) = gm (lprod x l) (x ^^^ a)
  | [], a, hx, ha => by simp only [List.nil_append, lprod]; rw [gm_one (xor_lt256 hx ha), one_gm (xor_lt256 hx ha)]
  | b :: l, a, hx, ha => by
    simp only [List.cons_append, lprod]
    rw [lprod_app x l a hx ha, gm_assoc]
theorem Pol.roots : ∀ (xs : List Nat), xs.Nodup → bys xs → ∀ {f : Nat → Nat} {l : Nat}, Pol xs.length f l → (∀ y ∈ xs, f y = 0) → ∀ x, x < 256 → f x = gm l (lprod x xs)
  | [], _, _, f, l, h, _, x, hx => by
    obtain ⟨c, hc, lc, rfl, vc⟩ := h
    rw [← vc x hx]
    match c, lc with
    | [], _ => simp [polyv, zero_gm]
    | [a], _ => simp [polyv, gm_zero, lprod]; exact (gm_one (bys_head hc)).symm
    | _ :: _ :: _, lc => simp at lc
  | r :: xs, hn, hb, f, l, h, hz, x, hx => by
    obtain ⟨c, hc, lc, rfl, vc⟩ := h
    have hr := bys_head hb
    have h0 : polyv c r = 0 := by rw [vc r hr]; exact hz r (List.mem_cons_self ..)
    have hv := fun y (hy : y < 256) => pquo_val hr hc y hy
    have hq : Pol xs.length (fun y => polyv (pquo r c) y) (c.getD (xs.length + 1) 0) := ⟨pquo r c, pquo_bys r hc, by rw [pquo_len]; simp at lc; omega, pquo_at r xs.length c (by simpa using lc), fun _ _ => rfl⟩
    have ih := Pol.roots xs (List.nodup_cons.1 hn).2 (bys_tail hb) hq (fun y hy => by
      have hy8 := hb y (List.mem_cons_of_mem _ hy)
      have h1 := hv y hy8
      rw [vc y hy8, hz y (List.mem_cons_of_mem _ hy), h0, Nat.xor_self] at h1
      have hne : y ≠ r := fun e => (List.nodup_cons.1 hn).1 (e ▸ hy)
      exact Classical.byContradiction fun hc' => gm_nz (xor_ne hne) hc' h1.symm) x hx
    have h1 := hv x hx
    rw [h0, Nat.xor_zero, vc x hx] at h1
    rw [h1, ih]
    show gm (x ^^^ r) (gm _ (lprod x xs)) = gm _ (gm (x ^^^ r) (lprod x xs))
    rw [← gm_assoc, ← gm_assoc, gm_comm (x ^^^ r)]
    rfl
/-! the differences -/
def dd (A V : Nat → Nat) : Nat → Nat → Nat
  | 0, i => V i
  | k + 1, i => gm (dd A V k i ^^^ dd A V k (i - 1)) (ginv (A i ^^^ A (i - (k + 1))))
def pts (A : Nat → Nat) (s m : Nat) : List Nat := (List.range m).map fun u => A (s + u)
def nsum (A V : Nat → Nat) (s x : Nat) : Nat → Nat
  | 0 => 0
  | m + 1 => nsum A V s x m ^^^ gm (dd A V m (s + m)) (lprod x (pts A s m))
theorem pts_succ (A : Nat → Nat) (s m : Nat) : pts A s (m + 1) = pts A s m ++ [A (s + m)] := by
  unfold pts
  rw [List.range_succ, List.map_append]
  rfl
theorem pts_len (A : Nat → Nat) (s m : Nat) : (pts A s m).length = m := by simp [pts]
theorem dd_lt {A V : Nat → Nat} (hV : ∀ i, V i < 256) : ∀ k i, dd A V k i < 256
  | 0, i => hV i
  | k + 1, i => gm_lt _ _
theorem dd_val {e : Nat} (h0 : e ≠ 0) (h8 : e < 256) {v : Nat} (hv : v < 256) : gm (ginv e) (gm e v) = v := by
  rw [← gm_assoc, gm_comm (ginv e), gm_ginv h8 h0, one_gm hv]
theorem newton_all {A V : Nat → Nat} {n : Nat} (hA : ∀ i, A i < 256) (hV : ∀ i, V i < 256) (hd : ∀ i j, i < n → j < n → i ≠ j → A i ≠ A j) :
    ∀ k s, s + k < n → (∀ j, j ≤ k → nsum A V s (A (s + j)) (k + 1) = V (s + j)) ∧ Pol k (fun x => nsum A V s x (k + 1)) (dd A V k (s + k)) := by
  intro k
  induction k with
  | zero =>
    intro s hs
    have h : ∀ x, nsum A V s x 1 = V s := fun x => by
      show 0 ^^^ gm (V (s + 0)) 1 = V s
      rw [Nat.zero_xor, gm_one (hV _)]
      rfl
    refine ⟨fun j hj => ?_, [V s], fun y hy => by rw [List.mem_singleton.1 hy]; exact hV s, by simp, rfl, fun x _ => ?_⟩
    · rw [h, show j = 0 by omega]; rfl
    · show polyv [V s] x = nsum A V s x 1
      rw [h]; simp [polyv, gm_zero]
  | succ k ih =>
    intro s hs
    obtain ⟨i1, p1⟩ := ih s (by omega)
    obtain ⟨i2, p2⟩ := ih (s + 1) (by omega)
    have hne : A (s + (k + 1)) ≠ A s := hd _ _ hs (by omega) (by omega)
    have h0 := xor_ne hne
    have h8 := xor_lt256 (hA (s + (k + 1))) (hA s)
    generalize he : A (s + (k + 1)) ^^^ A s = e at *
    -- the two put together
    have pR := ((p2.mulx (A s) (hA s)).add (p1.mulx (A (s + (k + 1))) (hA _))).scale (ginv e) (ginv_lt e)
    have hlead : gm (ginv e) (dd A V k (s + 1 + k) ^^^ dd A V k (s + k)) = dd A V (k + 1) (s + (k + 1)) := by
      show _ = gm (dd A V k (s + (k + 1)) ^^^ dd A V k (s + (k + 1) - 1)) (ginv (A (s + (k + 1)) ^^^ A (s + (k + 1) - (k + 1))))
      rw [show s + (k + 1) - 1 = s + k by omega, show s + (k + 1) - (k + 1) = s by omega, he, gm_comm, show s + 1 + k = s + (k + 1) by omega]
    rw [hlead] at pR
    generalize hR : (fun x => gm (ginv e) (gm (x ^^^ A s) (nsum A V (s + 1) x (k + 1)) ^^^ gm (x ^^^ A (s + (k + 1))) (nsum A V s x (k + 1)))) = R at pR
    have hRx : ∀ x, R x = gm (ginv e) (gm (x ^^^ A s) (nsum A V (s + 1) x (k + 1)) ^^^ gm (x ^^^ A (s + (k + 1))) (nsum A V s x (k + 1))) := fun x => by rw [← hR]
    have hRv : ∀ j, j ≤ k + 1 → R (A (s + j)) = V (s + j) := fun j hj => by
      rw [hRx]
      by_cases c0 : j = 0
      · subst c0
        have := i1 0 (by omega)
        rw [Nat.add_zero] at this ⊢
        rw [this, Nat.xor_self, zero_gm, Nat.zero_xor, Nat.xor_comm, he]
        exact dd_val h0 h8 (hV _)
      · have a2 := i2 (j - 1) (by omega)
        rw [show s + 1 + (j - 1) = s + j by omega] at a2
        rw [a2]
        by_cases c1 : j = k + 1
        · subst c1
          rw [Nat.xor_self, zero_gm, Nat.xor_zero, he]
          exact dd_val h0 h8 (hV _)
        · rw [i1 j (by omega), ← xor_gm (xor_lt256 (hA _) (hA _)) (xor_lt256 (hA _) (hA _)) (hV _), xor_same, Nat.xor_comm (A s), he]
          exact dd_val h0 h8 (hV _)
    -- it is the sum with one term more
    have pT := pR.add p1.up
    rw [Nat.xor_zero] at pT
    have hnd : (pts A s (k + 1)).Nodup := by
      unfold pts
      rw [List.nodup_iff_pairwise_ne, List.pairwise_map]
      refine List.Pairwise.imp_of_mem (fun ha hb hab => ?_) (List.nodup_iff_pairwise_ne.1 List.nodup_range)
      have h1 := List.mem_range.1 ha
      have h2 := List.mem_range.1 hb
      exact hd _ _ (by omega) (by omega) (by omega)
    have hbp : bys (pts A s (k + 1)) := fun y hy => by
      obtain ⟨u, _, rfl⟩ := List.mem_map.1 hy
      exact hA _
    have hT := Pol.roots (pts A s (k + 1)) hnd hbp (by rw [pts_len]; exact pT) (fun y hy => by
      obtain ⟨u, hu, rfl⟩ := List.mem_map.1 hy
      have h1 := List.mem_range.1 hu
      show R (A (s + u)) ^^^ nsum A V s (A (s + u)) (k + 1) = 0
      rw [hRv u (by omega), i1 u (by omega), Nat.xor_self])
    have hN : ∀ x, x < 256 → nsum A V s x (k + 1 + 1) = R x := fun x hx => by
      have h := hT x hx
      show nsum A V s x (k + 1) ^^^ gm (dd A V (k + 1) (s + (k + 1))) (lprod x (pts A s (k + 1))) = R x
      rw [← h, Nat.xor_comm (R x), ← Nat.xor_assoc, Nat.xor_self, Nat.zero_xor]
    refine ⟨fun j hj => by rw [hN _ (hA _)]; exact hRv j hj, ?_⟩
    obtain ⟨c, hc, lc, hl, vc⟩ := pR
    exact ⟨c, hc, lc, hl, fun x hx => by rw [vc x hx]; exact (hN x hx).symm⟩
/-- Newton's sum is the value of the polynomial through the points. -/
theorem newton_interp {at' v : List Nat} {x : Nat} (hn : 0 < at'.length) (ha : bys at') (hv : bys v) (hd : at'.Nodup) (hx : x < 256) : Interp at' v x (nsum (fun i => at'.getD i 0) (fun i => v.getD i 0) 0 x at'.length) := by
  obtain ⟨m, hm⟩ : ∃ m, at'.length = m + 1 := ⟨at'.length - 1, by omega⟩
  have hdd : ∀ i j, i < at'.length → j < at'.length → i ≠ j → at'.getD i 0 ≠ at'.getD j 0 := fun i j hi hj hij => by
    rw [List.getD_eq_getElem?_getD, List.getD_eq_getElem?_getD, List.getElem?_eq_getElem hi, List.getElem?_eq_getElem hj]
    have hp := List.pairwise_iff_getElem.1 (List.nodup_iff_pairwise_ne.1 hd)
    intro e
    rcases Nat.lt_or_gt_of_ne hij with q | q
    · exact hp i j hi hj q e
    · exact hp j i hj hi q e.symm
  obtain ⟨h1, c, hc, lc, _, vc⟩ := newton_all (n := at'.length) (A := fun i => at'.getD i 0) (V := fun i => v.getD i 0) (fun i => getD_bys ha i) (fun i => getD_bys hv i) hdd m 0 (by omega)
  refine ⟨c, hc, by omega, fun i hi => ?_, ?_⟩
  · rw [vc _ (getD_bys ha i)]
    have := h1 i (by omega)
    simpa using this
  · rw [hm, vc x hx]
end Go.Proofs.YtghiniaijobonaaDoor
/- A secret in parts: plain facts (no theorem of the program). -/
namespace Go.Proofs.YtghiniaijobonaaDoor
set_option linter.unusedVariables false
set_option linter.unusedSimpArgs false

/-- Bytes as numbers. -/
def nb (l : List UInt8) : List Nat := l.map UInt8.toNat
theorem nb_len (l : List UInt8) : (nb l).length = l.length := by simp [nb]
theorem nb_bys (l : List UInt8) : bys (nb l) := fun x hx => by
  obtain ⟨y, _, rfl⟩ := List.mem_map.1 hx
  exact y.toNat_lt
theorem nb_at (l : List UInt8) (i : Nat) : (nb l).getD i 0 = (l.getD i 0).toNat := by
  simp only [nb, List.getD_eq_getElem?_getD, List.getElem?_map]
  cases l[i]? <;> rfl
theorem nth_nb (l : List UInt8) (i : Nat) : nth l i = (((nb l).getD i 0 : Nat) : Int) := by rw [nb_at]; rfl
theorem nb_append (l m : List UInt8) : nb (l ++ m) = nb l ++ nb m := by simp [nb]
theorem nb_inj {l m : List UInt8} (h : nb l = nb m) : l = m := by
  have : ∀ (l m : List UInt8), nb l = nb m → l = m := by
    intro l
    induction l with
    | nil => intro m h; cases m with
      | nil => rfl
      | cons b m => simp [nb] at h
    | cons a l ih =>
      intro m h
      cases m with
      | nil => simp [nb] at h
      | cons b m =>
        simp only [nb, List.map_cons, List.cons.injEq] at h
        rw [UInt8.toNat_inj.1 h.1, ih m h.2]
  exact this l m h
/-- A sum over powers: what is there, and what is still to come. -/
theorem value_step {c : List Nat} (hc : bys c) {i at' v x : Nat} (hi : i < c.length) (ha : at' < 256) (hx : x < 256) :
    v ^^^ gm at' (polyv (c.drop i) x) = (v ^^^ gm (c.getD i 0) at') ^^^ gm (gm at' x) (polyv (c.drop (i + 1)) x) := by
  have hd : c.drop i = c.getD i 0 :: c.drop (i + 1) := by
    rw [List.drop_eq_getElem_cons hi, List.getD_eq_getElem?_getD, List.getElem?_eq_getElem hi]
    rfl
  have hb : bys (c.drop (i + 1)) := fun y hy => hc y (List.mem_of_mem_drop hy)
  rw [hd]
  show v ^^^ gm at' (c.getD i 0 ^^^ gm x (polyv (c.drop (i + 1)) x)) = _
  rw [gm_xor ha (getD_bys hc i) (gm_lt _ _), ← gm_assoc, gm_comm at' (c.getD i 0), Nat.xor_assoc]
/-! Newton's differences in one row -/
def ddm (A V : Nat → Nat) : Nat → Nat → Nat
  | 0, i => V i
  | k + 1, i => if i < k + 1 then ddm A V k i else gm (ddm A V k i ^^^ ddm A V k (i - 1)) (ginv (A i ^^^ A (i - (k + 1))))
theorem ddm_new (A V : Nat → Nat) : ∀ k i, k ≤ i → ddm A V k i = dd A V k i
  | 0, i, _ => rfl
  | k + 1, i, h => by
    simp only [ddm, dd]
    rw [if_neg (by omega), ddm_new A V k i (by omega), ddm_new A V k (i - 1) (by omega)]
theorem ddm_old (A V : Nat → Nat) : ∀ k i, i ≤ k → ddm A V k i = dd A V i i
  | 0, i, h => by rw [show i = 0 by omega]; rfl
  | k + 1, i, h => by
    by_cases c : i = k + 1
    · rw [c]; exact ddm_new A V (k + 1) (k + 1) (Nat.le_refl _)
    · simp only [ddm]
      rw [if_pos (by omega)]
      exact ddm_old A V k i (by omega)
theorem ddm_lt {A V : Nat → Nat} (hV : ∀ i, V i < 256) : ∀ k i, ddm A V k i < 256
  | 0, i => hV i
  | k + 1, i => by
    simp only [ddm]
    split
    · exact ddm_lt hV k i
    · exact gm_lt _ _
/-- The sum from its end: m terms from the i-th on. -/
def hsum (A D : Nat → Nat) (x : Nat) : Nat → Nat → Nat
  | 0, _ => 0
  | m + 1, i => gm (hsum A D x m (i + 1)) (x ^^^ A i) ^^^ D i
theorem hsum_lt {A D : Nat → Nat} (hD : ∀ i, D i < 256) (x : Nat) : ∀ m i, hsum A D x m i < 256
  | 0, _ => by show 0 < 256; omega
  | m + 1, i => xor_lt256 (gm_lt _ _) (hD i)
theorem hsum_all {A V : Nat → Nat} (hA : ∀ i, A i < 256) (hV : ∀ i, V i < 256) (x : Nat) (hx : x < 256) (n : Nat) : ∀ m i, i + m = n → nsum A V 0 x n = nsum A V 0 x i ^^^ gm (hsum A (fun i => dd A V i i) x m i) (lprod x (pts A 0 i))
  | 0, i, h => by
    rw [show i = n by omega]
    show _ = _ ^^^ gm 0 _
    rw [zero_gm, Nat.xor_zero]
  | m + 1, i, h => by
    rw [hsum_all hA hV x hx n m (i + 1) (by omega)]
    have hd := fun i => dd_lt (A := A) hV i i
    show (nsum A V 0 x i ^^^ gm (dd A V i (0 + i)) (lprod x (pts A 0 i))) ^^^ gm (hsum A (fun i => dd A V i i) x m (i + 1)) (lprod x (pts A 0 (i + 1))) = nsum A V 0 x i ^^^ gm (gm (hsum A (fun i => dd A V i i) x m (i + 1)) (x ^^^ A i) ^^^ dd A V i i) (lprod x (pts A 0 i))
    rw [pts_succ, lprod_app x _ _ hx (hA _), Nat.zero_add, xor_gm (gm_lt _ _) (hd i) (lprod_lt _ _), Nat.xor_assoc]
    congr 1
    rw [Nat.xor_comm, gm_assoc, gm_comm (x ^^^ A i)]
/-- What the differences in one row, summed from the end, tell. -/
theorem through_interp {at' v : List Nat} {x : Nat} (hn : 0 < at'.length) (ha : bys at') (hv : bys v) (hd : at'.Nodup) (hx : x < 256) :
    Interp at' v x (hsum (fun i => at'.getD i 0) (fun i => ddm (fun i => at'.getD i 0) (fun i => v.getD i 0) (at'.length - 1) i) x at'.length 0) := by
  have h := newton_interp hn ha hv hd hx
  have e := hsum_all (A := fun i => at'.getD i 0) (V := fun i => v.getD i 0) (fun i => getD_bys ha i) (fun i => getD_bys hv i) x hx at'.length at'.length 0 (by omega)
  have g : ∀ m i, i + m = at'.length → hsum (fun i => at'.getD i 0) (fun i => dd (fun i => at'.getD i 0) (fun i => v.getD i 0) i i) x m i = hsum (fun i => at'.getD i 0) (fun i => ddm (fun i => at'.getD i 0) (fun i => v.getD i 0) (at'.length - 1) i) x m i := by
    intro m
    induction m with
    | zero => intro i _; rfl
    | succ m ih =>
      intro i hi
      simp only [hsum]
      rw [ih (i + 1) (by omega), ddm_old _ _ (at'.length - 1) i (by omega)]
  rw [e, g _ 0 (by omega)] at h
  have z : nsum (fun i => at'.getD i 0) (fun i => v.getD i 0) 0 x 0 = 0 := rfl
  have l1 : lprod x (pts (fun i => at'.getD i 0) 0 0) = 1 := rfl
  rw [z, l1, Nat.zero_xor, gm_one (hsum_lt (fun i => ddm_lt (fun i => getD_bys hv i) _ _) x _ _)] at h
  exact h
/-- SHAMIR: a polynomial that is short enough is told by its values. -/
theorem shamir {at' v c : List Nat} {x r : Nat} (hb : bys at') (hd : at'.Nodup) (hx : x < 256) (hc : bys c) (lc : c.length ≤ at'.length) (hv : ∀ i, i < at'.length → v.getD i 0 = polyv c (at'.getD i 0)) (h : Interp at' v x r) : r = polyv c x :=
  interp_unique hd hb hx h ⟨c, hc, lc, fun i hi => (hv i hi).symm, rfl⟩
theorem polyv_0 (a : Nat) (c : List Nat) : polyv (a :: c) 0 = a := by
  show a ^^^ gm 0 _ = a
  rw [zero_gm, Nat.xor_zero]
end Go.Proofs.YtghiniaijobonaaDoor
/- LAGRANGE's polynomial over bytes, by its coefficients: plain facts. -/
namespace Go.Proofs.YtghiniaijobonaaDoor
set_option linter.unusedVariables false
set_option linter.unusedSimpArgs false

/-- c times (x - a). -/
def nxt (c : List Nat) (a : Nat) : List Nat := padd (0 :: c) (c.map (gm a))
theorem nxt_bys {c : List Nat} (hc : bys c) (a : Nat) : bys (nxt c a) :=
  padd_bys (fun y hy => by rcases List.mem_cons.1 hy with rfl | h; · omega
                           · exact hc y h) (fun y hy => by obtain ⟨z, _, rfl⟩ := List.mem_map.1 hy; exact gm_lt _ _)
theorem nxt_len (c : List Nat) (a : Nat) : (nxt c a).length = c.length + 1 := by
  unfold nxt
  rw [padd_len]
  simp
theorem nxt_val {c : List Nat} (hc : bys c) {a x : Nat} (ha : a < 256) (hx : x < 256) : polyv (nxt c a) x = gm (x ^^^ a) (polyv c x) := by
  unfold nxt
  rw [padd_val (fun y hy => by rcases List.mem_cons.1 hy with rfl | h; · omega
                               · exact hc y h) (fun y hy => by obtain ⟨z, _, rfl⟩ := List.mem_map.1 hy; exact gm_lt _ _) x hx, scale_val a ha hc x hx]
  show (0 ^^^ gm x (polyv c x)) ^^^ gm a (polyv c x) = _
  rw [Nat.zero_xor, xor_gm hx ha (polyv_lt hc x)]
theorem nxt_at (c : List Nat) (a k : Nat) : (nxt c a).getD k 0 = (if k = 0 then 0 else c.getD (k - 1) 0) ^^^ gm a (c.getD k 0) := by
  unfold nxt
  rw [padd_at, scale_at]
  congr 1
  cases k with
  | zero => rfl
  | succ k => simp
/-- All of (x - a), multiplied. -/
def mono (xs : List Nat) : List Nat := xs.foldl nxt [1]
theorem fold_nxt : ∀ (xs : List Nat) {c : List Nat}, bys c → bys xs → bys (xs.foldl nxt c) ∧ (xs.foldl nxt c).length = c.length + xs.length ∧ ∀ x, x < 256 → polyv (xs.foldl nxt c) x = gm (polyv c x) (lprod x xs)
  | [], c, hc, _ => ⟨hc, rfl, fun x _ => (gm_one (polyv_lt hc x)).symm⟩
  | a :: xs, c, hc, hb => by
    have ha := bys_head hb
    obtain ⟨h1, h2, h3⟩ := fold_nxt xs (nxt_bys hc a) (bys_tail hb)
    refine ⟨h1, ?_, fun x hx => ?_⟩
    · show (xs.foldl nxt (nxt c a)).length = _
      rw [h2, nxt_len, List.length_cons]; omega
    · show polyv (xs.foldl nxt (nxt c a)) x = gm (polyv c x) (gm (x ^^^ a) (lprod x xs))
      rw [h3 x hx, nxt_val hc ha hx, gm_comm (x ^^^ a) (polyv c x), gm_assoc]
theorem mono_ok {xs : List Nat} (hb : bys xs) : bys (mono xs) ∧ (mono xs).length = xs.length + 1 ∧ ∀ x, x < 256 → polyv (mono xs) x = lprod x xs := by
  obtain ⟨h1, h2, h3⟩ := fold_nxt xs (c := [1]) (fun y hy => by rw [List.mem_singleton.1 hy]; omega) hb
  refine ⟨h1, by show (xs.foldl nxt [1]).length = _; rw [h2]; simp; omega, fun x hx => ?_⟩
  show polyv (xs.foldl nxt [1]) x = _
  rw [h3 x hx]
  show gm (1 ^^^ gm x 0) _ = _
  rw [gm_zero, Nat.xor_zero, one_gm (lprod_lt _ _)]
theorem lprod_zero {x : Nat} : ∀ {xs : List Nat}, x ∈ xs → lprod x xs = 0
  | a :: xs, h => by
    rcases List.mem_cons.1 h with rfl | h
    · show gm (x ^^^ x) _ = 0
      rw [Nat.xor_self, zero_gm]
    · show gm _ (lprod x xs) = 0
      rw [lprod_zero h, gm_zero]
theorem lprod_ne {x : Nat} : ∀ {xs : List Nat}, x ∉ xs → lprod x xs ≠ 0
  | [], _ => by show 1 ≠ 0; omega
  | a :: xs, h => gm_nz (xor_ne fun e => h (e ▸ List.mem_cons_self ..)) (lprod_ne fun h' => h (List.mem_cons_of_mem _ h'))
/-- The other places. -/
def others (A : Nat → Nat) (n i : Nat) : List Nat := ((List.range n).filter fun j => j != i).map A
theorem others_bys {A : Nat → Nat} (hA : ∀ i, A i < 256) (n i : Nat) : bys (others A n i) := fun y hy => by
  obtain ⟨j, _, rfl⟩ := List.mem_map.1 hy
  exact hA j
theorem filter_len (n i : Nat) (h : i < n) : ((List.range n).filter fun j => j != i).length = n - 1 := by
  induction n with
  | zero => omega
  | succ n ih =>
    rw [List.range_succ, List.filter_append, List.length_append]
    by_cases c : i = n
    · subst c
      have e : ((List.range i).filter fun j => j != i) = List.range i := List.filter_eq_self.2 fun j hj => by
        have := List.mem_range.1 hj
        simp; omega
      rw [e]
      simp
    · rw [ih (by omega)]
      have : (n != i) = true := by simp; omega
      simp [this]; omega
theorem others_len (A : Nat → Nat) (n i : Nat) (h : i < n) : (others A n i).length = n - 1 := by
  unfold others
  rw [List.length_map, filter_len n i h]
/-- Lagrange's sum: of the first m places, of n. -/
def lagr (A V : Nat → Nat) (n : Nat) : Nat → List Nat
  | 0 => List.replicate n 0
  | m + 1 => padd (lagr A V n m) ((mono (others A n m)).map (gm (gm (V m) (ginv (lprod (A m) (others A n m))))))
theorem rep_val (x : Nat) : ∀ n, polyv (List.replicate n 0) x = 0
  | 0 => rfl
  | n + 1 => by
    rw [List.replicate_succ]
    show 0 ^^^ gm x (polyv (List.replicate n 0) x) = 0
    rw [rep_val x n, gm_zero, Nat.xor_zero]
theorem lagr_bys {A V : Nat → Nat} (hA : ∀ i, A i < 256) (n : Nat) : ∀ m, bys (lagr A V n m)
  | 0 => fun y hy => by rw [(List.mem_replicate.1 hy).2]; omega
  | m + 1 => padd_bys (lagr_bys hA n m) (fun y hy => by obtain ⟨z, _, rfl⟩ := List.mem_map.1 hy; exact gm_lt _ _)
theorem lagr_len {A V : Nat → Nat} (hA : ∀ i, A i < 256) (n : Nat) : ∀ m, m ≤ n → (lagr A V n m).length = n
  | 0, _ => by simp [lagr]
  | m + 1, h => by
    show (padd _ _).length = n
    rw [padd_len, lagr_len hA n m (by omega), List.length_map, (mono_ok (others_bys hA n m)).2.1, others_len A n m (by omega)]
    omega
theorem lagr_val {A V : Nat → Nat} {n : Nat} (hA : ∀ i, A i < 256) (hV : ∀ i, V i < 256) (hd : ∀ i j, i < n → j < n → i ≠ j → A i ≠ A j) (k : Nat) (hk : k < n) : ∀ m, m ≤ n → polyv (lagr A V n m) (A k) = if k < m then V k else 0
  | 0, _ => rep_val _ _
  | m + 1, h => by
    have ho := others_bys hA n m
    show polyv (padd _ _) (A k) = _
    rw [padd_val (lagr_bys hA n m) (fun y hy => by obtain ⟨z, _, rfl⟩ := List.mem_map.1 hy; exact gm_lt _ _) _ (hA k), lagr_val hA hV hd k hk m (by omega), scale_val _ (gm_lt _ _) (mono_ok ho).1 _ (hA k), (mono_ok ho).2.2 _ (hA k)]
    by_cases c : k = m
    · subst c
      have hne : A k ∉ others A n k := fun hm => by
        obtain ⟨j, hj, e⟩ := List.mem_map.1 hm
        obtain ⟨h1, h2⟩ := List.mem_filter.1 hj
        have h3 := List.mem_range.1 h1
        have h4 : j ≠ k := by simpa using h2
        exact hd j k h3 hk h4 e
      rw [if_neg (by omega), if_pos (by omega), Nat.zero_xor, gm_assoc, gm_comm (ginv _), gm_ginv (lprod_lt _ _) (lprod_ne hne), gm_one (hV k)]
    · have hin : A k ∈ others A n m := List.mem_map.2 ⟨k, List.mem_filter.2 ⟨List.mem_range.2 hk, by simpa using c⟩, rfl⟩
      rw [lprod_zero hin, gm_zero, Nat.xor_zero]
      by_cases c2 : k < m
      · rw [if_pos c2, if_pos (by omega)]
      · rw [if_neg c2, if_neg (by omega)]
theorem lagr_ok {A V : Nat → Nat} {n : Nat} (hA : ∀ i, A i < 256) (hV : ∀ i, V i < 256) (hd : ∀ i j, i < n → j < n → i ≠ j → A i ≠ A j) : bys (lagr A V n n) ∧ (lagr A V n n).length = n ∧ ∀ k, k < n → polyv (lagr A V n n) (A k) = V k :=
  ⟨lagr_bys hA n n, lagr_len hA n n (Nat.le_refl _), fun k hk => by rw [lagr_val hA hV hd k hk n (Nat.le_refl _), if_pos hk]⟩
end Go.Proofs.YtghiniaijobonaaDoor
/- What the polynomial through values has at a place, by Lagrange's weights, and by Horner's way: plain facts (no theorem of the program). -/
namespace Go.Proofs.YtghiniaijobonaaDoor
set_option linter.unusedVariables false
set_option linter.unusedSimpArgs false

/-! Horner -/
theorem horner_step {c : List Nat} (hc : bys c) {i x : Nat} (hi : i < c.length) : polyv (c.drop i) x = gm (polyv (c.drop (i + 1)) x) x ^^^ c.getD i 0 := by
  rw [List.drop_eq_getElem_cons hi]
  show c[i] ^^^ gm x _ = _
  rw [gm_comm x, Nat.xor_comm, List.getD_eq_getElem?_getD, List.getElem?_eq_getElem hi]
  rfl
theorem horner_end (c : List Nat) (x : Nat) : polyv (c.drop c.length) x = 0 := by rw [List.drop_length]; rfl
theorem horner_start (c : List Nat) (x : Nat) : polyv (c.drop 0) x = polyv c x := by rw [List.drop_zero]

/-! Lagrange -/
/-- The product of x less the places below m, but i's. -/
def np (A : Nat → Nat) (x i : Nat) : Nat → Nat
  | 0 => 1
  | m + 1 => if m = i then np A x i m else gm (np A x i m) (x ^^^ A m)
theorem np_lt (A : Nat → Nat) (x i : Nat) : ∀ m, np A x i m < 256
  | 0 => by show 1 < 256; omega
  | m + 1 => by
    show (if m = i then _ else _) < 256
    split
    · exact np_lt A x i m
    · exact gm_lt _ _
theorem np_is {A : Nat → Nat} {x : Nat} (hA : ∀ i, A i < 256) (hx : x < 256) (i : Nat) : ∀ m, np A x i m = lprod x (((List.range m).filter fun j => j != i).map A)
  | 0 => rfl
  | m + 1 => by
    rw [List.range_succ, List.filter_append, List.map_append]
    show (if m = i then _ else _) = _
    by_cases c : m = i
    · subst c
      rw [if_pos rfl, np_is hA hx m m]
      simp
    · rw [if_neg c, np_is hA hx i m]
      have e : ([m].filter fun j => j != i).map A = [A m] := by simp [c]
      rw [e, lprod_app x _ _ hx (hA m)]
theorem np_others {A : Nat → Nat} {x : Nat} (hA : ∀ i, A i < 256) (hx : x < 256) (n i : Nat) : np A x i n = lprod x (others A n i) := np_is hA hx i n
theorem np_ne {A : Nat → Nat} {x i : Nat} (hA : ∀ i, A i < 256) (hx : x < 256) : ∀ m, (∀ j, j < m → j ≠ i → A j ≠ x) → np A x i m ≠ 0
  | 0, _ => by show 1 ≠ 0; omega
  | m + 1, h => by
    show (if m = i then _ else _) ≠ 0
    by_cases c : m = i
    · rw [if_pos c]
      exact np_ne hA hx m fun j hj => h j (by omega)
    · rw [if_neg c]
      exact gm_nz (np_ne hA hx m fun j hj => h j (by omega)) (xor_ne fun e => h m (by omega) c e.symm)
theorem ginv_gm {a b : Nat} (ha : a < 256) (hb : b < 256) (h1 : a ≠ 0) (h2 : b ≠ 0) : ginv (gm a b) = gm (ginv a) (ginv b) := by
  refine (ginv_only (gm_lt a b) (gm_lt _ _) ?_).symm
  rw [gm_assoc, ← gm_assoc b, gm_comm b, gm_assoc (ginv a), gm_ginv hb h2, gm_one (ginv_lt a), gm_ginv ha h1]
/-- The same product, each divided at once. -/
def qp (A : Nat → Nat) (x i : Nat) : Nat → Nat
  | 0 => 1
  | m + 1 => if m = i then qp A x i m else gm (qp A x i m) (gm (x ^^^ A m) (ginv (A i ^^^ A m)))
theorem qp_lt (A : Nat → Nat) (x i : Nat) : ∀ m, qp A x i m < 256
  | 0 => by show 1 < 256; omega
  | m + 1 => by
    show (if m = i then _ else _) < 256
    split
    · exact qp_lt A x i m
    · exact gm_lt _ _
theorem qp_is {A : Nat → Nat} {x i : Nat} (hA : ∀ i, A i < 256) (hx : x < 256) : ∀ m, (∀ j, j < m → j ≠ i → A j ≠ A i) → qp A x i m = gm (np A x i m) (ginv (np A (A i) i m))
  | 0, _ => by
    show 1 = gm 1 (ginv 1)
    decide +kernel
  | m + 1, h => by
    show (if m = i then _ else _) = gm (if m = i then _ else _) (ginv (if m = i then _ else _))
    by_cases c : m = i
    · rw [if_pos c, if_pos c, if_pos c]
      exact qp_is hA hx m fun j hj => h j (by omega)
    · rw [if_neg c, if_neg c, if_neg c, qp_is hA hx m fun j hj => h j (by omega)]
      have n1 := np_ne (i := i) hA (hA i) m fun j hj => h j (by omega)
      have n2 : A i ^^^ A m ≠ 0 := xor_ne fun e => h m (by omega) c e.symm
      rw [ginv_gm (np_lt _ _ _ _) (xor_lt256 (hA i) (hA m)) n1 n2]
      generalize np A x i m = p
      generalize ginv (np A (A i) i m) = q
      generalize x ^^^ A m = r
      generalize ginv (A i ^^^ A m) = s
      rw [gm_assoc p q, ← gm_assoc q r s, gm_comm q r, gm_assoc r q s, ← gm_assoc p r]
/-- How much of the value at place i is in the value at x. -/
def lwt (A : Nat → Nat) (x n i : Nat) : Nat := gm (np A x i n) (ginv (np A (A i) i n))
theorem lwt_lt (A : Nat → Nat) (x n i : Nat) : lwt A x n i < 256 := gm_lt _ _
def lsum (A V : Nat → Nat) (x n : Nat) : Nat → Nat
  | 0 => 0
  | m + 1 => lsum A V x n m ^^^ gm (lwt A x n m) (V m)
theorem lsum_lt (A V : Nat → Nat) (x n : Nat) : ∀ m, lsum A V x n m < 256
  | 0 => by show 0 < 256; omega
  | m + 1 => xor_lt256 (lsum_lt A V x n m) (gm_lt _ _)
theorem lsum_is {A V : Nat → Nat} {x : Nat} (hA : ∀ i, A i < 256) (hx : x < 256) (n : Nat) : ∀ m, polyv (lagr A V n m) x = lsum A V x n m
  | 0 => rep_val _ _
  | m + 1 => by
    have ho := others_bys hA n m
    show polyv (padd _ _) x = lsum A V x n m ^^^ gm (lwt A x n m) (V m)
    rw [padd_val (lagr_bys hA n m) (fun y hy => by obtain ⟨z, _, rfl⟩ := List.mem_map.1 hy; exact gm_lt _ _) _ hx, lsum_is hA hx n m, scale_val _ (gm_lt _ _) (mono_ok ho).1 _ hx, (mono_ok ho).2.2 _ hx]
    unfold lwt
    rw [np_others hA hx, np_others hA (hA m)]
    generalize lprod x (others A n m) = p
    generalize ginv (lprod (A m) (others A n m)) = q
    generalize V m = v
    rw [gm_comm (gm p q) v, gm_comm p q, gm_assoc v q p]
/-- Lagrange's sum is the value of the polynomial through the values. -/
theorem lsum_interp {at' v : List Nat} {x : Nat} (ha : bys at') (hv : bys v) (hd : at'.Nodup) (hx : x < 256) :
    Interp at' v x (lsum (fun i => at'.getD i 0) (fun i => v.getD i 0) x at'.length at'.length) := by
  have hA : ∀ i, at'.getD i 0 < 256 := getD_bys ha
  have hV : ∀ i, v.getD i 0 < 256 := getD_bys hv
  have hdd : ∀ i j, i < at'.length → j < at'.length → i ≠ j → at'.getD i 0 ≠ at'.getD j 0 := fun i j hi hj hij => by
    rw [List.getD_eq_getElem?_getD, List.getD_eq_getElem?_getD, List.getElem?_eq_getElem hi, List.getElem?_eq_getElem hj]
    have hp := List.pairwise_iff_getElem.1 (List.nodup_iff_pairwise_ne.1 hd)
    intro e
    rcases Nat.lt_or_gt_of_ne hij with q | q
    · exact hp i j hi hj q e
    · exact hp j i hj hi q e.symm
  obtain ⟨h1, h2, h3⟩ := lagr_ok hA hV hdd
  exact ⟨_, h1, by rw [h2]; exact Nat.le_refl _, h3, (lsum_is (V := fun i => v.getD i 0) hA hx _ _).symm⟩
end Go.Proofs.YtghiniaijobonaaDoor
