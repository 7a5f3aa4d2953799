/- Texts of this claim, joined: Codeq, Enoughp, Codea, Wbytes. -/
import Derived.Test.YtnffmegicgbinabJ06
import Derived.Test.YtnffmegicgbinabJ07
import Derived.Test.YtnffmegicgbinabJ05
import Derived.Test.YtnffmegicgbinabJ08
import Derived.Test.YtnffmegicgbinabJ01
import Derived.Deep.QuietTactic
import Derived.BigQuiet
/- More plain facts for package code: what the laws' own rows are. -/
namespace Go.Proofs.Ytnffmegicgbinab
open Go.RowKit
set_option linter.unusedVariables false
set_option linter.unusedSimpArgs false

theorem SRow.take {w : World} {a : Option Addr} {n k : Nat} {ss : List Shr} (R : SRow w a n ss) (hk : k ≤ n) : SRow w a k (ss.take k) := by
  refine ⟨by rw [List.length_take, R.1]; omega, ?_⟩
  rcases R.2 with h0 | ⟨b, o, e, hc⟩
  · exact .inl (by omega)
  · refine .inr ⟨b, o, e, fun i hi => ?_⟩
    have := hc i (by omega)
    have e2 : (ss.take k).getD i noS = ss.getD i noS := by
      rw [List.getD_eq_getElem?_getD, List.getElem?_take_of_lt hi, List.getD_eq_getElem?_getD]
    rw [e2]
    exact this
/-- What the law of Gather wants. -/
def wantG (ss : List Shr) (F i : Nat) : List (List UInt8) := (List.range i).map fun j => joinedL ss j F
theorem wantG_length (ss : List Shr) (F i : Nat) : (wantG ss F i).length = i := by simp [wantG]
theorem wantG_succ (ss : List Shr) (F i : Nat) : wantG ss F i ++ [joinedL ss i F] = wantG ss F (i + 1) := by
  unfold wantG
  rw [List.range_succ, List.map_append]
  rfl
theorem wantG_at {ss : List Shr} {F i j : Nat} (h : j < i) : (wantG ss F i).getD j [] = joinedL ss j F := by
  unfold wantG
  rw [List.getD_eq_getElem?_getD, List.getElem?_map, List.getElem?_range h]
  rfl
theorem gather_want {ss : List Shr} {k F : Nat} {rows : List (List UInt8)} (hk : 1 ≤ k) (hk2 : k ≤ ss.length) (hb : k ≤ 256) (hp : ∀ s ∈ ss.take k, s.1 < 256) (hd : ((ss.take k).map (·.1)).Nodup) (hF : ((ss.take k).getD 0 noS).2.length = F) (h : gatherP ss k rows) : rows = wantG (ss.take k) F k := by
  refine rows_ext h.1 (wantG_length _ _ _) fun j hj => ?_
  rw [wantG_at hj]
  have q := joinedL_is (ss := ss.take k) (x := j) (by rw [List.length_take]; omega) hp hd (by omega)
  rw [hF] at q
  exact joinedP_unique hp hd (by omega) (h.2 j hj) q
/-- What the law of Spread wants. -/
def wantS (ls : List (List UInt8)) (F i : Nat) : List (List UInt8) := (List.range i).map fun j => if j < ls.length then ls.getD j [] else joinedL (placedL ls) j F
theorem wantS_length (ls : List (List UInt8)) (F i : Nat) : (wantS ls F i).length = i := by simp [wantS]
theorem wantS_succ1 {ls : List (List UInt8)} {F i : Nat} (h : i < ls.length) : wantS ls F i ++ [ls.getD i []] = wantS ls F (i + 1) := by
  unfold wantS
  rw [List.range_succ, List.map_append]
  simp only [List.map_cons, List.map_nil, if_pos h]
theorem wantS_succ2 {ls : List (List UInt8)} {F i : Nat} (h : ls.length ≤ i) : wantS ls F i ++ [joinedL (placedL ls) i F] = wantS ls F (i + 1) := by
  unfold wantS
  rw [List.range_succ, List.map_append]
  simp only [List.map_cons, List.map_nil, if_neg (Nat.not_lt.2 h)]
theorem wantS_at {ls : List (List UInt8)} {F i j : Nat} (h : j < i) : (wantS ls F i).getD j [] = if j < ls.length then ls.getD j [] else joinedL (placedL ls) j F := by
  unfold wantS
  rw [List.getD_eq_getElem?_getD, List.getElem?_map, List.getElem?_range h]
  rfl
theorem placedL_lt {ls : List (List UInt8)} (h : ls.length ≤ 256) : ∀ s ∈ placedL ls, s.1 < 256 := fun s hs => by
  have : s.1 ∈ (placedL ls).map (·.1) := List.mem_map.2 ⟨s, hs, rfl⟩
  rw [placedL_places] at this
  have := List.mem_range.1 this
  omega
theorem placedL_nodup (ls : List (List UInt8)) : ((placedL ls).map (·.1)).Nodup := by rw [placedL_places]; exact List.nodup_range
theorem placedL_len {ls : List (List UInt8)} {F : Nat} (h : ∀ l ∈ ls, l.length = F) : ∀ s ∈ placedL ls, s.2.length = F := fun s hs => by
  unfold placedL at hs
  obtain ⟨i, hi, rfl⟩ := List.mem_map.1 hs
  have hi := List.mem_range.1 hi
  refine h _ ?_
  show ls.getD i [] ∈ ls
  rw [List.getD_eq_getElem?_getD, List.getElem?_eq_getElem hi]
  exact List.getElem_mem hi
theorem spread_want {ls rows : List (List UInt8)} {N : Nat} (hk : 1 ≤ ls.length) (hN : N ≤ 20) (hK : ls.length ≤ N) (h : spreadP ls N rows) : rows = wantS ls (ls.getD 0 []).length N := by
  refine rows_ext h.1 (wantS_length _ _ _) fun j hj => ?_
  rw [wantS_at hj]
  by_cases c : j < ls.length
  · rw [if_pos c, h.2.1 j c]
  · rw [if_neg c]
    have hp := placedL_lt (ls := ls) (by omega)
    have q := joinedL_is (ss := placedL ls) (x := j) (by rw [placedL_length]; omega) hp (placedL_nodup ls) (by omega)
    rw [placedL_at (by omega)] at q
    exact joinedP_unique hp (placedL_nodup ls) (by omega) (h.2.2 j (by omega) hj) q
theorem spreadE_seven : spreadE [[7]] 2 = 0 := by decide
/-- What one byte is, spread to two. -/
theorem spread_seven {rows : List (List UInt8)} (h : spreadP [[7]] 2 rows) : rows = [[7], [7]] := by
  refine rows_ext (n := 2) h.1 rfl fun j hj => ?_
  match j, hj with
  | 0, _ => exact h.2.1 0 (by decide)
  | 1, _ => exact joinedP_one (p := 0) (v := 7) (by omega) (h.2.2 1 (by decide) (by omega))
/-- A literal of one slice of bytes. -/
theorem rowsB_one {w : World} {t : TypeId} {a : Option Addr} {n c : Nat} {l : List UInt8} (hc : n ≤ c) (hn : n ≤ 140737488351232) (R : Row w a n l) : BRowsB (w.alloc (.cells #[.slice a n c] t)) (some ⟨w.heap.size, 0, none⟩) 1 [l] := by
  refine ⟨⟨rfl, .inr ⟨_, 0, rfl, fun i hi => ?_⟩⟩, fun i hi => ?_⟩
  · have : i = 0 := by omega
    subst this
    refine ⟨a, n, c, ?_, hc, R.below ((Below.refl _ _).alloc (Nat.le_refl _) _)⟩
    have := cells_new w [.slice a n c] t 0
    exact this
  · have : i = 0 := by omega
    subst this
    show l.length ≤ _
    rw [R.1]
    exact hn
theorem litT_seven (w : World) (t1 t2 : TypeId) : BRowsB ((w.alloc (.cells #[.int .u8 7] t1)).alloc (.cells #[.slice (some ⟨w.heap.size, 0, none⟩) 1 1] t2)) (some ⟨w.heap.size + 1, 0, none⟩) 1 [[7]] := by
  have hs : (w.alloc (.cells #[.int .u8 7] t1)).heap.size = w.heap.size + 1 := by simp
  have r : Row (w.alloc (.cells #[.int .u8 7] t1)) (some ⟨w.heap.size, 0, none⟩) 1 [7] := Row.lit1v w 7 _ 7 rfl
  rw [← hs]
  exact rowsB_one (Nat.le_refl _) (by omega) r
/-- The two rows of one byte, as they lie. -/
theorem two_sevens {w : World} {a : Option Addr} (R : BRowsB w a 2 [[7], [7]]) : ∃ (b o b1 o1 c1 : Nat), a = some ⟨b, o, none⟩ ∧ w.cell? ⟨b, o + 1, none⟩ = some (.slice (some ⟨b1, o1, none⟩) 1 c1) ∧ w.cell? ⟨b1, o1, none⟩ = some (.int .u8 7) := by
  rcases R.1.2 with h0 | ⟨b, o, e, hc⟩
  · omega
  · obtain ⟨ai, ni, ci, k1, _, hR⟩ := hc 1 (by omega)
    have hn : ni = 1 := hR.1.symm
    subst hn
    rcases hR.2 with h0 | ⟨b1, o1, e1, hcc⟩
    · omega
    · subst e1
      exact ⟨b, o, b1, o1, ci, e, k1, hcc 0 (by omega)⟩
end Go.Proofs.Ytnffmegicgbinab
/- Plain facts: so many shares are enough. -/
namespace Go.Proofs.Ytnffmegicgbinab
open Go.RowKit
set_option linter.unusedVariables false
set_option linter.unusedSimpArgs false

theorem split_eleven : splitL [9] [[1]] 2 = [(1, [8]), (2, [11])] := by decide +kernel
theorem splitE_eleven : splitE 1 2 [[1]] = 0 := by decide
theorem dataS_at (secret : List UInt8) (ls : List (List UInt8)) (k m i : Nat) (h : i < m) : ((dataS secret ls k m).getD i 0).toNat = shareN secret ls k i := by
  unfold dataS
  rw [List.getD_eq_getElem?_getD, List.getElem?_map, List.getElem?_range h]
  show (UInt8.ofNat (shareN secret ls k i)).toNat = _
  rw [UInt8.toNat_ofNat']
  have := shareN_lt secret ls k i
  omega
/-- Shares of one secret, more than there are rows. -/
theorem enough {secret : List UInt8} {ls : List (List UInt8)} {ss : List Shr} {l : List UInt8} (h1 : ∀ s ∈ ss, s.1 < 256 ∧ s = (s.1, dataS secret ls s.1 secret.length)) (h2 : (ss.map (·.1)).Nodup) (h3 : ls.length + 1 ≤ ss.length) (h : joinedP ss 0 l) : l = secret := by
  have h0 : 0 < ss.length := by omega
  have hg : ∀ i, i < ss.length → ss.getD i noS ∈ ss := fun i hi => by
    rw [List.getD_eq_getElem?_getD, List.getElem?_eq_getElem hi]
    exact List.getElem_mem _
  have hl : l.length = secret.length := by
    rw [h.1, (h1 _ (hg 0 h0)).2]
    exact dataS_length _ _ _ _
  refine nb_inj ?_
  apply List.ext_getElem
  · rw [nb_len, nb_len, hl]
  · intro k a b
    have hk : k < l.length := by rwa [nb_len] at a
    have hi := h.2 k hk
    have hr := shamir (at' := ss.map (·.1)) (v := colN ss k) (c := nb (polyC secret ls k)) (x := 0) (places_bys fun s hs => (h1 s hs).1) h2 (by omega) (nb_bys _) (by rw [nb_len, polyC_length, List.length_map]; exact h3) (fun i hi => by
      rw [List.length_map] at hi
      have hs := (h1 _ (hg i hi)).2
      have e1 : (colN ss k).getD i 0 = ((ss.getD i noS).2.getD k 0).toNat := by
        unfold colN
        simp [List.getD_eq_getElem?_getD, List.getElem?_eq_getElem hi]
      have e2 : (ss.map (·.1)).getD i 0 = (ss.getD i noS).1 := by
        simp [List.getD_eq_getElem?_getD, List.getElem?_eq_getElem hi]
      rw [e1, e2, hs]
      exact dataS_at secret ls _ _ _ (by omega)) hi
    have e3 : polyv (nb (polyC secret ls k)) 0 = (secret.getD k 0).toNat := by
      unfold polyC nb
      rw [List.map_cons, polyv_0]
    rw [e3] at hr
    have e4 : (nb secret).getD k 0 = (secret.getD k 0).toNat := nb_at secret k
    rw [← e4, List.getD_eq_getElem?_getD, List.getD_eq_getElem?_getD, List.getElem?_eq_getElem a, List.getElem?_eq_getElem b] at hr
    exact hr
/-- The shares at the places of an order. -/
def pickS (ss : List Shr) (l : List Int) (i : Nat) : List Shr := (List.range i).map fun j => ss.getD (l.getD j 0).toNat noS
theorem pickS_len (ss : List Shr) (l : List Int) (i : Nat) : (pickS ss l i).length = i := by simp [pickS]
theorem pickS_succ (ss : List Shr) (l : List Int) (i : Nat) : pickS ss l (i + 1) = pickS ss l i ++ [ss.getD (l.getD i 0).toNat noS] := by
  unfold pickS
  rw [List.range_succ, List.map_append]
  rfl
theorem pickS_all {secret : List UInt8} {ls : List (List UInt8)} {N n : Nat} {l : List Int} (hN : N ≤ 20) (hr : ∀ j, j < n → 0 ≤ l.getD j 0 ∧ l.getD j 0 < (N : Int)) (hd : ∀ i j, i < n → j < i → l.getD j 0 ≠ l.getD i 0) :
    (∀ s ∈ pickS (splitL secret ls N) l n, (1 ≤ s.1 ∧ s.1 ≤ 20) ∧ s = (s.1, dataS secret ls s.1 secret.length)) ∧ ((pickS (splitL secret ls N) l n).map (·.1)).Nodup := by
  have at' : ∀ j, j < n → (splitL secret ls N).getD (l.getD j 0).toNat noS = ((l.getD j 0).toNat + 1, dataS secret ls ((l.getD j 0).toNat + 1) secret.length) := fun j hj => splitL_at secret ls N _ (by have := hr j hj; omega)
  refine ⟨fun s hs => ?_, ?_⟩
  · obtain ⟨j, hj, rfl⟩ := List.mem_map.1 hs
    have hj' := List.mem_range.1 hj
    rw [at' j hj']
    have := hr j hj'
    exact ⟨⟨by show 1 ≤ (l.getD j 0).toNat + 1; omega, by show (l.getD j 0).toNat + 1 ≤ 20; omega⟩, rfl⟩
  · unfold pickS
    rw [List.map_map]
    refine List.pairwise_map.2 ?_
    refine List.Pairwise.imp_of_mem ?_ (List.pairwise_lt_range (n := n))
    intro i j hi hj hij e
    have hi' := List.mem_range.1 hi
    have hj' := List.mem_range.1 hj
    have e' : ((splitL secret ls N).getD (l.getD i 0).toNat noS).1 = ((splitL secret ls N).getD (l.getD j 0).toNat noS).1 := e
    rw [at' i hi', at' j hj'] at e'
    have e2 : (l.getD i 0).toNat + 1 = (l.getD j 0).toNat + 1 := e'
    have h1 := hr i hi'
    have h2 := hr j hj'
    exact hd j i hj' hij (by omega)
theorem sfaultG_none {least most first : Nat} : ∀ (r seen : List Shr), (∀ s ∈ r, least ≤ s.1 ∧ s.1 ≤ most ∧ s.2.length = first) → ((seen ++ r).map (·.1)).Nodup → sfaultG least most first seen r = 0
  | [], _, _, _ => rfl
  | s :: r, seen, h, hn => by
    have hs := h s (List.mem_cons_self ..)
    unfold sfaultG
    rw [if_neg (by omega), if_neg ?_, if_neg (by omega)]
    · exact sfaultG_none r (seen ++ [s]) (fun t ht => h t (List.mem_cons_of_mem _ ht)) (by rw [List.append_assoc]; exact hn)
    · intro c
      obtain ⟨z, hz, e⟩ := List.any_eq_true.1 c
      have e : z.1 = s.1 := by simpa using e
      rw [List.map_append, List.nodup_append] at hn
      exact hn.2.2 z.1 (List.mem_map.2 ⟨z, hz, rfl⟩) s.1 (List.mem_map.2 ⟨s, List.mem_cons_self .., rfl⟩) e
theorem joinE_none {ss : List Shr} {F : Nat} (h1 : 1 ≤ ss.length) (h2 : ss.length ≤ 20) (h : ∀ s ∈ ss, (1 ≤ s.1 ∧ s.1 ≤ 255) ∧ s.2.length = F) (hn : (ss.map (·.1)).Nodup) : joinE ss = 0 := by
  unfold joinE
  rw [if_neg (by omega)]
  have hF : (ss.getD 0 noS).2.length = F := by
    refine (h _ ?_).2
    rw [List.getD_eq_getElem?_getD, List.getElem?_eq_getElem (show 0 < ss.length by omega)]
    exact List.getElem_mem _
  unfold sfault
  rw [hF]
  exact sfaultG_none ss [] (fun s hs => ⟨(h s hs).1.1, (h s hs).1.2, (h s hs).2⟩) (by simpa using hn)
end Go.Proofs.Ytnffmegicgbinab
/- Plain facts for the laws of package code: rows that are picked. -/
namespace Go.Proofs.Ytnffmegicgbinab
open Go.RowKit
set_option linter.unusedVariables false
set_option linter.unusedSimpArgs false

/-- The rows that are picked, with their places. -/
def pickR (rows : List (List UInt8)) (l : List Int) (i : Nat) : List Shr := (List.range i).map fun j => ((l.getD j 0).toNat, rows.getD (l.getD j 0).toNat [])
theorem pickR_len (rows : List (List UInt8)) (l : List Int) (i : Nat) : (pickR rows l i).length = i := by simp [pickR]
theorem pickR_succ (rows : List (List UInt8)) (l : List Int) (i : Nat) : pickR rows l i ++ [((l.getD i 0).toNat, rows.getD (l.getD i 0).toNat [])] = pickR rows l (i + 1) := by
  unfold pickR
  rw [List.range_succ, List.map_append]
  rfl
theorem pickR_all {rows : List (List UInt8)} {N n : Nat} {l : List Int} (hr : ∀ j, j < n → 0 ≤ l.getD j 0 ∧ l.getD j 0 < (N : Int)) (hd : ∀ i j, i < n → j < i → l.getD j 0 ≠ l.getD i 0) :
    (∀ s ∈ pickR rows l n, s.1 < N ∧ s.2 = rows.getD s.1 []) ∧ ((pickR rows l n).map (·.1)).Nodup := by
  refine ⟨fun s hs => ?_, ?_⟩
  · obtain ⟨j, hj, rfl⟩ := List.mem_map.1 hs
    have := hr j (List.mem_range.1 hj)
    exact ⟨by show (l.getD j 0).toNat < N; omega, rfl⟩
  · unfold pickR
    rw [List.map_map, List.nodup_iff_pairwise_ne, List.pairwise_map]
    have key : ∀ m, m ≤ n → List.Pairwise (fun a b => ((fun x : Shr => x.1) ∘ fun j => ((l.getD j 0).toNat, rows.getD (l.getD j 0).toNat [])) a ≠ ((fun x : Shr => x.1) ∘ fun j => ((l.getD j 0).toNat, rows.getD (l.getD j 0).toNat [])) b) (List.range m) := by
      intro m
      induction m with
      | zero => intro _; exact List.Pairwise.nil
      | succ m ih =>
        intro hm
        rw [List.range_succ, List.pairwise_append]
        refine ⟨ih (by omega), List.pairwise_singleton _ _, fun x hx y hy => ?_⟩
        have hx' := List.mem_range.1 hx
        rw [List.mem_singleton.1 hy]
        have h1 := hr x (by omega)
        have h2 := hr m (by omega)
        have h3 := hd m x (by omega) hx'
        show (l.getD x 0).toNat ≠ (l.getD m 0).toNat
        omega
    exact key n (Nat.le_refl _)
theorem gatherE_none {ss : List Shr} {k F : Nat} (h1 : 1 ≤ k) (h2 : k ≤ 20) (hl : ss.length = k) (h : ∀ s ∈ ss, s.1 ≤ 19 ∧ s.2.length = F) (hn : (ss.map (·.1)).Nodup) : gatherE ss (k : Int) = 0 := by
  unfold gatherE
  rw [if_neg (by omega), if_neg (by omega)]
  have e : ss.take (k : Int).toNat = ss := by rw [Int.toNat_natCast, ← hl]; exact List.take_length
  rw [e]
  have hF : (ss.getD 0 noS).2.length = F := by
    refine (h _ ?_).2
    rw [List.getD_eq_getElem?_getD, List.getElem?_eq_getElem (by omega)]
    exact List.getElem_mem _
  unfold sfault
  rw [hF]
  exact sfaultG_none ss [] (fun s hs => ⟨Nat.zero_le _, (h s hs).1, (h s hs).2⟩) (by simpa using hn)
end Go.Proofs.Ytnffmegicgbinab
/- The contract of oathbooksame.Bytes: it tells whether two slices read as one list. -/
namespace Go.Proofs.Ytnffmegicgbinab
open Go.RowKit
set_option linter.unusedVariables false
set_option linter.unusedSimpArgs false

set_option maxHeartbeats 400000 in
theorem bytes_any (a1 a2 : Option Addr) (n1 n2 c1 c2 : Nat) (l1 l2 : List UInt8) (w : World) (h1 : Row w a1 n1 l1) (h2 : Row w a2 n2 l2) (hm : n1 ≤ 281474976710656) :
    Calls Try.prog 8 #[.slice a1 n1 c1, .slice a2 n2 c2] w fun e w' => e = .returned (.bool (decide (l1 = l2))) ∧ ∃ n, w' = w.drewN n := by
  obtain ⟨e1, k1⟩ := h1
  obtain ⟨e2, k2⟩ := h2
  by_cases hn : n1 = n2
  · subst hn
    have hne : ((n1 : Int) != (n1 : Int)) = false := by simp
    have HE : Hid (l1.length = n1 ∧ l2.length = n1) := ⟨e1, e2⟩
    clear e1 e2
    go_enter Try.func8, Try.ntmps8
    go_wp2
    go_loopw [5] (fun i wr => ∃ k nn : Nat, k ≤ n1 ∧ i = .int .i64 k ∧ wr = w.drewN nn ∧ ∀ j, j < k → nth l1 j = nth l2 j) (fun i _ => n1 - (intOf i).toNat)
    case atStart => exact ⟨0, 0, Nat.zero_le _, rfl, rfl, fun j hj => by omega⟩
    case round =>
      obtain ⟨k, nn, hk, rfl, rfl, hall⟩ := hrel
      have HA : Hid (∀ j, j < k → nth l1 j = nth l2 j) := hall
      clear hall
      by_cases hlt : k < n1
      · rcases k1 with k1 | ⟨b1, o1, rfl, k1⟩
        · omega
        rcases k2 with k2 | ⟨b2, o2, rfl, k2⟩
        · omega
        have g1 := k1 k hlt
        have g2 := k2 k hlt
        have hi : (0 : Int) ≤ (k : Int) := by omega
        have hj : (k : Int) < (n1 : Int) := by omega
        clear k1 k2
        by_cases hq : nth l1 k = nth l2 k
        · have HQ : Hid (nth l1 k = nth l2 k) := hq
          have hb : (nth l1 k != nth l2 k) = false := by simp [hq]
          clear hq
          go_wp2
          go_quiet (fail)
          go_wp2
          go_roundw
          case rel => exact ⟨k + 1, nn + nq, by omega, by go_num, rfl, fun j hj => by
            by_cases hjk : j = k
            · subst hjk; exact HQ.out
            · exact HA.out j (by omega)⟩
          case measure => simp [intOf]; omega
        · have HQ : Hid (¬ nth l1 k = nth l2 k) := hq
          have hb : (nth l1 k != nth l2 k) = true := by simp [hq]
          clear hq
          go_wp2
          go_quiet (fail)
          go_wp2
          go_ret
          exact ⟨ret_bool (by symm; rw [decide_eq_false_iff_not]; intro h; subst h; exact HQ.out rfl), nn + nq, by rw [drewN_add]⟩
      · go_wp2
        go_ret
        exact ⟨ret_bool (by
          have hE := HE.out
          symm
          rw [decide_eq_true_iff]
          exact nth_inj (by omega) fun j hj => HA.out j (by omega)), nn, rfl⟩
  · have hne : ((n1 : Int) != (n2 : Int)) = true := by simp; omega
    go_enter Try.func8, Try.ntmps8
    go_wp2
    go_ret
    exact ⟨ret_bool (by symm; rw [decide_eq_false_iff_not]; intro h; subst h; omega), 0, rfl⟩
end Go.Proofs.Ytnffmegicgbinab
