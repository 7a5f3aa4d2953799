/- Texts of this claim, joined: Hidesp, Mrow, Rcoeff. -/
import Derived.Test.YtnffmegicgbinaaJ14
import Derived.Test.YtnffmegicgbinaaJ13
import Derived.Test.YtnffmegicgbinaaJ08
import Derived.Test.YtnffmegicgbinaaJ05
import Derived.Test.YtnffmegicgbinaaJ10
import Derived.Test.YtnffmegicgbinaaJ06
import Derived.OwnWalk
/- Plain facts: fewer shares tell nothing. -/
namespace Go.Proofs.Ytnffmegicgbinaa
open Go.RowKit
set_option linter.unusedVariables false
set_option linter.unusedSimpArgs false

theorem getElem_getD0 (l : List Nat) (k : Nat) (h : k < l.length) : l[k] = l.getD k 0 := by rw [List.getD_eq_getElem?_getD, List.getElem?_eq_getElem h]; rfl
def hidP (ss : List Shr) : List UInt8 := 0 :: placesL ss
def hidV (secret : List UInt8) (ss : List Shr) (k : Nat) : List UInt8 := secret.getD k 0 :: colL ss k
/-- The coefficients at a place. -/
def hidC (secret : List UInt8) (ss : List Shr) (k : Nat) : List Nat := lagr (fun i => (nb (hidP ss)).getD i 0) (fun i => (nb (hidV secret ss k)).getD i 0) (ss.length + 1) (ss.length + 1)
theorem hidP_length (ss : List Shr) : (hidP ss).length = ss.length + 1 := by simp [hidP, placesL]
theorem hidV_length (secret : List UInt8) (ss : List Shr) (k : Nat) : (hidV secret ss k).length = ss.length + 1 := by simp [hidV, colL]
theorem hidP_nb {ss : List Shr} (hp : ∀ s ∈ ss, s.1 < 256) : nb (hidP ss) = 0 :: ss.map (·.1) := by
  show (0 : UInt8).toNat :: nb (placesL ss) = _
  rw [nb_places hp]
  rfl
theorem hidP_nodup {ss : List Shr} (hp : ∀ s ∈ ss, 1 ≤ s.1 ∧ s.1 < 256) (hd : (ss.map (·.1)).Nodup) : (nb (hidP ss)).Nodup := by
  rw [hidP_nb (fun s hs => (hp s hs).2), List.nodup_cons]
  refine ⟨fun h => ?_, hd⟩
  obtain ⟨s, hs, e⟩ := List.mem_map.1 h
  have := (hp s hs).1
  omega
theorem hid_apart {ss : List Shr} (hp : ∀ s ∈ ss, 1 ≤ s.1 ∧ s.1 < 256) (hd : (ss.map (·.1)).Nodup) : ∀ i j, i < ss.length + 1 → j < ss.length + 1 → i ≠ j → (nb (hidP ss)).getD i 0 ≠ (nb (hidP ss)).getD j 0 := fun i j hi hj hij e => by
  have hn := hidP_nodup hp hd
  have li : i < (nb (hidP ss)).length := by rw [nb_len, hidP_length]; exact hi
  have lj : j < (nb (hidP ss)).length := by rw [nb_len, hidP_length]; exact hj
  simp only [List.getD_eq_getElem?_getD, List.getElem?_eq_getElem li, List.getElem?_eq_getElem lj, Option.getD_some] at e
  have hq := List.pairwise_iff_getElem.1 (List.nodup_iff_pairwise_ne.1 hn)
  rcases Nat.lt_or_gt_of_ne hij with q | q
  · exact hq i j li lj q e
  · exact hq j i lj li q e.symm
theorem hidC_ok {secret : List UInt8} {ss : List Shr} {k : Nat} (hp : ∀ s ∈ ss, 1 ≤ s.1 ∧ s.1 < 256) (hd : (ss.map (·.1)).Nodup) : bys (hidC secret ss k) ∧ (hidC secret ss k).length = ss.length + 1 ∧ ∀ i, i < ss.length + 1 → polyv (hidC secret ss k) ((nb (hidP ss)).getD i 0) = (nb (hidV secret ss k)).getD i 0 :=
  lagr_ok (fun i => getD_nb_lt _ _) (fun i => getD_nb_lt _ _) (hid_apart hp hd)
/-- The i-th row, of so many bytes. -/
def hidR (secret : List UInt8) (ss : List Shr) (i m : Nat) : List UInt8 := (List.range m).map fun k => UInt8.ofNat ((hidC secret ss k).getD (i + 1) 0)
theorem hidR_length (secret : List UInt8) (ss : List Shr) (i m : Nat) : (hidR secret ss i m).length = m := by simp [hidR]
theorem hidR_succ (secret : List UInt8) (ss : List Shr) (i m : Nat) : hidR secret ss i m ++ [UInt8.ofNat ((hidC secret ss m).getD (i + 1) 0)] = hidR secret ss i (m + 1) := by
  unfold hidR
  rw [List.range_succ, List.map_append]
  rfl
def hidM (secret : List UInt8) (ss : List Shr) (m : Nat) : List (List UInt8) := (List.range ss.length).map fun i => hidR secret ss i m
theorem hidM_length (secret : List UInt8) (ss : List Shr) (m : Nat) : (hidM secret ss m).length = ss.length := by simp [hidM]
theorem hidM_at (secret : List UInt8) (ss : List Shr) (m i : Nat) (hi : i < ss.length) : (hidM secret ss m).getD i [] = hidR secret ss i m := by
  unfold hidM
  rw [List.getD_eq_getElem?_getD, List.getElem?_map, List.getElem?_range hi]
  rfl
theorem hidM_all (secret : List UInt8) (ss : List Shr) (m : Nat) : ∀ l ∈ hidM secret ss m, l.length = m := fun l hl => by
  obtain ⟨i, _, rfl⟩ := List.mem_map.1 hl
  exact hidR_length _ _ _ _
/-- The polynomial of the rows is that of the coefficients. -/
theorem hid_poly {secret : List UInt8} {ss : List Shr} {k : Nat} (hp : ∀ s ∈ ss, 1 ≤ s.1 ∧ s.1 < 256) (hd : (ss.map (·.1)).Nodup) (hk : k < secret.length) : nb (polyC secret (hidM secret ss secret.length) k) = hidC secret ss k := by
  obtain ⟨h1, h2, h3⟩ := hidC_ok (secret := secret) (ss := ss) (k := k) hp hd
  apply List.ext_getElem
  · rw [nb_len, polyC_length, hidM_length, h2]
  · intro i a b
    have e1 : (nb (polyC secret (hidM secret ss secret.length) k))[i] = (nb (polyC secret (hidM secret ss secret.length) k)).getD i 0 := by rw [List.getD_eq_getElem?_getD, List.getElem?_eq_getElem a]; rfl
    have e2 : (hidC secret ss k)[i] = (hidC secret ss k).getD i 0 := by rw [List.getD_eq_getElem?_getD, List.getElem?_eq_getElem b]; rfl
    rw [e1, e2, nb_at]
    cases i with
    | zero =>
      have q := h3 0 (by omega)
      have p0 : (nb (hidP ss)).getD 0 0 = 0 := rfl
      rw [p0] at q
      have c0 : polyv (hidC secret ss k) 0 = (hidC secret ss k).getD 0 0 := by
        cases hc : hidC secret ss k with
        | nil => rw [hc] at h2; simp at h2
        | cons x r => rw [polyv_0]; rfl
      rw [← c0, q]
      rfl
    | succ i =>
      have hi : i < ss.length := by rw [h2] at b; omega
      show (((hidM secret ss secret.length).map fun (l : List UInt8) => l.getD k 0).getD i 0).toNat = _
      have e3 : ((hidM secret ss secret.length).map fun (l : List UInt8) => l.getD k 0).getD i 0 = (hidR secret ss i secret.length).getD k 0 := by
        rw [List.getD_eq_getElem?_getD, List.getElem?_map]
        have : (hidM secret ss secret.length)[i]? = some (hidR secret ss i secret.length) := by
          unfold hidM
          rw [List.getElem?_map, List.getElem?_range hi]
          rfl
        rw [this]
        rfl
      rw [e3]
      unfold hidR
      rw [List.getD_eq_getElem?_getD, List.getElem?_map, List.getElem?_range hk]
      show (UInt8.ofNat ((hidC secret ss k).getD (i + 1) 0)).toNat = _
      rw [UInt8.toNat_ofNat']
      have := getD_bys h1 (i + 1)
      omega
/-- These rows make just these shares. -/
theorem hides {secret : List UInt8} {ss : List Shr} (hp : ∀ s ∈ ss, (1 ≤ s.1 ∧ s.1 ≤ 20) ∧ s.2.length = secret.length) (hd : (ss.map (·.1)).Nodup) (i : Nat) (hi : i < ss.length) : dataS secret (hidM secret ss secret.length) (ss.getD i noS).1 secret.length = (ss.getD i noS).2 := by
  have hp' : ∀ s ∈ ss, 1 ≤ s.1 ∧ s.1 < 256 := fun s hs => ⟨(hp s hs).1.1, by have := (hp s hs).1.2; omega⟩
  have hg : ss.getD i noS ∈ ss := by
    rw [List.getD_eq_getElem?_getD, List.getElem?_eq_getElem hi]
    exact List.getElem_mem _
  refine nb_inj ?_
  apply List.ext_getElem
  · rw [nb_len, nb_len, dataS_length, (hp _ hg).2]
  · intro k a b
    have hk : k < secret.length := by rw [nb_len, dataS_length] at a; exact a
    have e1 : (nb (dataS secret (hidM secret ss secret.length) (ss.getD i noS).1 secret.length))[k] = (nb (dataS secret (hidM secret ss secret.length) (ss.getD i noS).1 secret.length)).getD k 0 := getElem_getD0 _ _ a
    have e2 : (nb (ss.getD i noS).2)[k] = (nb (ss.getD i noS).2).getD k 0 := getElem_getD0 _ _ b
    rw [e1, e2, nb_at, dataS_at _ _ _ _ _ hk]
    unfold shareN
    rw [hid_poly hp' hd hk]
    have q := (hidC_ok (secret := secret) (ss := ss) (k := k) hp' hd).2.2 (i + 1) (by omega)
    have p1 : (nb (hidP ss)).getD (i + 1) 0 = (ss.getD i noS).1 := by
      rw [hidP_nb fun s hs => (hp' s hs).2]
      show (ss.map (·.1)).getD i 0 = _
      simp [List.getD_eq_getElem?_getD, List.getElem?_eq_getElem hi]
    have v1 : (nb (hidV secret ss k)).getD (i + 1) 0 = (nb (ss.getD i noS).2).getD k 0 := by
      show (nb (colL ss k)).getD i 0 = _
      rw [nb_col, nb_at]
      unfold colN
      simp [List.getD_eq_getElem?_getD, List.getElem?_eq_getElem hi]
    rw [p1, v1] at q
    exact q
theorem hid_splitE {secret : List UInt8} {ss : List Shr} (h1 : ss.length ≤ 6) (h2 : secret.length ≤ 100) : splitE secret.length 20 (hidM secret ss secret.length) = 0 := by
  unfold splitE
  rw [if_neg (by omega), if_neg (by rw [hidM_length]; omega), if_pos (hidM_all secret ss secret.length)]
theorem hidP_take {ss : List Shr} {i : Nat} (h : i < ss.length) : (hidP ss).take (i + 1) ++ [UInt8.ofNat (ss.getD i noS).1] = (hidP ss).take (i + 1 + 1) := by
  show (0 : UInt8) :: ((placesL ss).take i ++ [_]) = (0 : UInt8) :: (placesL ss).take (i + 1)
  rw [places_take h]
theorem hidV_take {secret : List UInt8} {ss : List Shr} {i k : Nat} (h : i < ss.length) : (hidV secret ss k).take (i + 1) ++ [(ss.getD i noS).2.getD k 0] = (hidV secret ss k).take (i + 1 + 1) := by
  show secret.getD k 0 :: ((colL ss k).take i ++ [_]) = secret.getD k 0 :: (colL ss k).take (i + 1)
  rw [col_take h]
end Go.Proofs.Ytnffmegicgbinaa
/- A slice of slices of bytes that a call itself made, each with a row of its own. -/
namespace Go.Proofs.Ytnffmegicgbinaa
open Go.RowKit
set_option linter.unusedVariables false
set_option linter.unusedSimpArgs false

def MRow (w : World) (g n x : Nat) (F : Nat → List UInt8) : Prop :=
  ∃ vs : Nat → Value, (∀ i, i < n → w.cell? ⟨g, i, none⟩ = some (vs i) ∧ OwnL w (g + 1) (vs i) (F i) ∧ (vs i).ownBlock ≠ some x) ∧ (∀ i j, i < n → j < n → i ≠ j → Sep (vs i) (vs j)) ∧ w.there g 0 n
theorem MRow.lt {w : World} {g n x : Nat} {F : Nat → List UInt8} (h : MRow w g n x F) (hn : 0 < n) : g < w.heap.size := by
  obtain ⟨vs, h1, _⟩ := h
  exact cell_block (h1 0 hn).1
theorem MRow.congr {w : World} {g n x : Nat} {F F' : Nat → List UInt8} (h : MRow w g n x F) (he : ∀ i, i < n → F i = F' i) : MRow w g n x F' := by
  obtain ⟨vs, h1, h2, h3⟩ := h
  exact ⟨vs, fun i hi => by rw [← he i hi]; exact h1 i hi, h2, h3⟩
theorem MRow.below {w w' : World} {g n x : Nat} {F : Nat → List UInt8} (h : MRow w g n x F) (hb : Below w.heap.size w w') : MRow w' g n x F := by
  obtain ⟨vs, h1, h2, h3⟩ := h
  refine ⟨vs, fun i hi => ?_, h2, fun j hj => ?_⟩
  · obtain ⟨a, b, c⟩ := h1 i hi
    exact ⟨(hb.cell (p := ⟨g, i, none⟩) (cell_block a)).trans a, b.below hb, c⟩
  · have q := h3 j hj
    have hg : g < w.heap.size := by
      obtain ⟨v, hv⟩ := Option.isSome_iff_exists.1 q.1
      exact cell_block hv
    rwa [← hb.cell (p := ⟨g, 0 + j, none⟩) hg, ← hb.frozen (p := ⟨g, 0 + j, none⟩) hg] at q
/-- Away from a block that is newer. -/
theorem MRow.apart {w : World} {g n x y : Nat} {F : Nat → List UInt8} (h : MRow w g n x F) (hy : w.heap.size ≤ y) : MRow w g n y F := by
  obtain ⟨vs, h1, h2, h3⟩ := h
  refine ⟨vs, fun i hi => ⟨(h1 i hi).1, (h1 i hi).2.1, fun e => ?_⟩, h2, h3⟩
  have := (World.ownsRow.lt (h1 i hi).2.1 y e).2
  omega
theorem MRow.self {w : World} {g n x : Nat} {F : Nat → List UInt8} (h : MRow w g n x F) : MRow w g n g F := by
  obtain ⟨vs, h1, h2, h3⟩ := h
  refine ⟨vs, fun i hi => ⟨(h1 i hi).1, (h1 i hi).2.1, fun e => ?_⟩, h2, h3⟩
  have := (World.ownsRow.lt (h1 i hi).2.1 g e).1
  omega
theorem MRow.rows {w : World} {g n x : Nat} {F : Nat → List UInt8} {ls : List (List UInt8)} (h : MRow w g n x F) (hl : ls.length = n) (he : ∀ i, i < n → ls.getD i [] = F i) (hF : ∀ i, i < n → (F i).length ≤ 140737488351232) : BRowsB w (some ⟨g, 0, none⟩) n ls := by
  obtain ⟨vs, h1, h2, h3⟩ := h
  refine ⟨⟨hl, .inr ⟨g, 0, rfl, fun i hi => ?_⟩⟩, fun i hi => by rw [he i hi]; exact hF i hi⟩
  obtain ⟨a, b, c⟩ := h1 i hi
  obtain ⟨ad, cap, e, R, hc⟩ := b.form
  refine ⟨ad, (F i).length, cap, by rw [Nat.zero_add, a, e], hc, by rw [he i hi]; exact R⟩
/-- One row has grown, and is stored. -/
theorem MRow.put {w w1 : World} {g n x i : Nat} {F F' : Nat → List UInt8} {v v' : Value} {y : UInt8} (h : MRow w g n x F) (hi : i < n) (hv : w.cell? ⟨g, i, none⟩ = some v) (ho : OwnL w1 (g + 1) v' (F i ++ [y])) (hg : w.grownBy w1 v.ownBlock) (hat : v'.ownBlock = v.ownBlock ∨ v'.ownBlock = some w.heap.size) (hx : x < w.heap.size)
    (hF : ∀ j, F' j = if j = i then F i ++ [y] else F j) : MRow (w1.setCell ⟨g, i, none⟩ v') g n x F' := by
  obtain ⟨vs, h1, h2, h3⟩ := h
  have e : vs i = v := by have := (h1 i hi).1; rw [hv] at this; exact (Option.some.inj this).symm
  have hlt : ∀ j, j < n → g < w.heap.size := fun j hj => cell_block (h1 j hj).1
  have hgv : some g ≠ v.ownBlock := fun q => by
    have := (World.ownsRow.lt (h1 i hi).2.1 g (by rw [e]; exact q.symm)).1
    omega
  have hb1 : w1.heap[g]? = w.heap[g]? := hg.block g (hlt i hi) hgv
  have hc1 : ∀ j, w1.cell? ⟨g, j, none⟩ = w.cell? ⟨g, j, none⟩ := fun j => World.cell?_of_block (w := w) (a := ⟨g, j, none⟩) hb1
  have hf1 : ∀ j, w1.frozen? ⟨g, j, none⟩ = w.frozen? ⟨g, j, none⟩ := fun j => World.frozen?_of_block (w := w) (a := ⟨g, j, none⟩) hb1
  have ht1 : w1.there g 0 n := fun j hj => by
    have q := h3 j hj
    rwa [← hc1, ← hf1] at q
  have hsep : ∀ j, j < n → j ≠ i → Sep v' (vs j) := fun j hj hji => by
    have s := h2 i j hi hj (fun q => hji q.symm)
    rw [e] at s
    exact Sep.next s hat (h1 j hj).2.1
  refine ⟨fun j => if j = i then v' else vs j, fun j hj => ?_, fun j k hj hk hjk => ?_, ?_⟩
  · by_cases c : j = i
    · subst c
      simp only [if_pos]
      refine ⟨?_, ?_, ?_⟩
      · exact World.cell?_setCell_same w1 ⟨g, j, none⟩ v' (u := v) (by rw [hc1]; exact hv)
      · rw [hF j, if_pos rfl]
        exact ho.aside g j v' (by omega)
      · rcases hat with q | q
        · rw [q, ← e]; exact (h1 j hj).2.2
        · rw [q]
          intro q2
          have := Option.some.inj q2
          omega
    · simp only [if_neg c]
      refine ⟨?_, ?_, (h1 j hj).2.2⟩
      · have q := World.cell?_setCell_other w1 ⟨g, i, none⟩ ⟨g, j, none⟩ v' (by intro q; have := congrArg Addr.off q; exact c this.symm)
        rw [q, hc1]
        exact (h1 j hj).1
      · rw [hF j, if_neg c]
        have s := h2 i j hi hj (fun q => c q.symm)
        rw [e] at s
        exact (OwnL.other (h1 j hj).2.1 hg s).aside g i v' (by omega)
  · by_cases c1 : j = i
    · subst c1
      have c2 : k ≠ j := fun q => hjk q.symm
      simp only [if_pos, if_neg c2]
      exact hsep k hk c2
    · by_cases c2 : k = i
      · subst c2
        simp only [if_pos, if_neg c1]
        exact (hsep j hj c1).symm
      · simp only [if_neg c1, if_neg c2]
        exact h2 j k hj hk hjk
  · have q : w1.setCell ⟨g, i, none⟩ v' = w1.setCells g i [v'] := rfl
    rw [q]
    exact World.there_setCells ht1 _ _ _
/-- A new one: n slices of nothing. -/
theorem MRow.made {w w1 : World} {n : Nat} (h : w1.ownsRow w.heap.size 22 1 (.slice (some ⟨w.heap.size, 0, none⟩) n n) n (madeCells (Value.slice none 0 0).cells (n * 1)).toList) : MRow w1 w.heap.size n w.heap.size (fun _ => []) := by
  have eq : (madeCells (Value.slice none 0 0).cells (n * 1)).toList = (List.range n).map fun _ => Value.slice none 0 0 := by
    have : (Value.slice none 0 0).cells = #[Value.slice none 0 0] := rfl
    rw [this, toList_madeCells_one, Nat.mul_one]
    apply List.ext_getElem
    · simp
    · intro i a b
      simp
  rw [eq] at h
  have hc : ∀ i, i < n → w1.cell? ⟨w.heap.size, i, none⟩ = some (.slice none 0 0) := fun i hi => by
    have := World.ownsRow.cellAt h i (by omega)
    rw [this]
    simp [hi]
  refine ⟨fun _ => .slice none 0 0, fun i hi => ⟨hc i hi, OwnL.nil _ _, by simp [Value.ownBlock]⟩, fun i j _ _ _ => .inl rfl, fun j hj => ?_⟩
  rw [Nat.zero_add]
  exact ⟨by rw [hc j hj]; rfl, World.ownsRow.frozenAt h j⟩
end Go.Proofs.Ytnffmegicgbinaa
/- The contract of the laws' coefficients: Lagrange's sum. -/
namespace Go.Proofs.Ytnffmegicgbinaa
open Go.RowKit
set_option linter.unusedVariables false
set_option linter.unusedSimpArgs false

set_option maxRecDepth 100000 in
set_option maxHeartbeats 4000000 in
theorem rcoeff_any (a1 : Option Addr) (c1 : Nat) (pl : List UInt8) (a2 : Option Addr) (c2 : Nat) (vl : List UInt8) (n : Nat) (w : World) (R1 : Row w a1 n pl) (R2 : Row w a2 n vl) (h1 : n ≤ c1) (h2 : n ≤ c2) (hn0 : 0 < n) (hn : n ≤ 100) (hd : (nb pl).Nodup) :
    Calls Try.prog 11 #[.slice a1 n c1, .slice a2 n c2] w fun e w' => (∃ g, e = .returned (.slice (some ⟨g, 0, none⟩) n n) ∧ w.heap.size ≤ g ∧ RowK .u8 w' (some ⟨g, 0, none⟩) n (lagr (fun i => (nb pl).getD i 0) (fun i => (nb vl).getD i 0) n n)) ∧ Below w.heap.size w w' := by
  obtain ⟨iB, hiB, hz0, hz1, hz2⟩ := info_parts Try.infoSh8
  obtain ⟨A, hA⟩ : ∃ A : Nat → Nat, (fun i => (nb pl).getD i 0) = A := ⟨_, rfl⟩
  obtain ⟨V, hV⟩ : ∃ V : Nat → Nat, (fun i => (nb vl).getD i 0) = V := ⟨_, rfl⟩
  have HAB : Hid ((∀ i, A i < 256) ∧ ∀ i, V i < 256) := ⟨fun i => by rw [← hA]; exact getD_nb_lt _ _, fun i => by rw [← hV]; exact getD_nb_lt _ _⟩
  have HNA : Hid (∀ i j, i < n → j < n → i ≠ j → A i ≠ A j) := fun i j hi hj hij e => by
    rw [← hA] at e
    have li : i < (nb pl).length := by rw [nb_len, R1.1]; exact hi
    have lj : j < (nb pl).length := by rw [nb_len, R1.1]; exact hj
    simp only [List.getD_eq_getElem?_getD, List.getElem?_eq_getElem li, List.getElem?_eq_getElem lj, Option.getD_some] at e
    have hp := List.pairwise_iff_getElem.1 (List.nodup_iff_pairwise_ne.1 hd)
    rcases Nat.lt_or_gt_of_ne hij with q | q
    · exact hp i j li lj q e
    · exact hp j i lj li q e.symm
  obtain ⟨b1, o1, ha1, HC1⟩ : ∃ b o, a1 = some ⟨b, o, none⟩ ∧ Hid (∀ wx, Below w.heap.size w wx → ∀ i, i < n → wx.cell? ⟨b, o + i, none⟩ = some (.int .u8 (A i : Int))) := by
    rcases R1.2 with h | ⟨b, o, e, hc⟩
    · omega
    · refine ⟨b, o, e, fun wx hx i hi => ?_⟩
      rw [← hA]
      show _ = some (Value.int .u8 (((nb pl).getD i 0 : Nat) : Int))
      rw [← nth_nb]
      exact (hx.cell (p := ⟨b, o + i, none⟩) (cell_block (hc i hi))).trans (hc i hi)
  obtain ⟨b2, o2, ha2, HC2⟩ : ∃ b o, a2 = some ⟨b, o, none⟩ ∧ Hid (∀ wx, Below w.heap.size w wx → ∀ i, i < n → wx.cell? ⟨b, o + i, none⟩ = some (.int .u8 (V i : Int))) := by
    rcases R2.2 with h | ⟨b, o, e, hc⟩
    · omega
    · refine ⟨b, o, e, fun wx hx i hi => ?_⟩
      rw [← hV]
      show _ = some (Value.int .u8 (((nb vl).getD i 0 : Nat) : Int))
      rw [← nth_nb]
      exact (hx.cell (p := ⟨b, o + i, none⟩) (cell_block (hc i hi))).trans (hc i hi)
  subst ha1
  subst ha2
  simp only [hA, hV]
  clear R1 R2 hA hV hd
  go_enter Try.func11, Try.ntmps11
  go_wp2_with (first
    | (at_make; (refine wpList_make_full _ rfl _ _ 22 rfl w.heap.size 5 iB (.int .u8 0) 1 Try.underlying22 hiB hz0 hz1 _ _ _ _ n rfl rfl rfl rfl (by rw [hz2]; omega) (by unfold maxLen; omega) (Nat.le_refl _) ?_); intro w0 hown hgrow))
  obtain ⟨g, hg⟩ : ∃ g, w.heap.size = g := ⟨_, rfl⟩
  have HG : Hid (w.heap.size = g) := hg
  have HO0 : Hid (OwnK .u8 5 w0 g g n n (fun q => (((lagr A V n 0).getD q 0 : Nat) : Int))) := by
    rw [← hg]
    refine OwnK.congr (OwnK.zero hown) fun q hq => ?_
    have : (lagr A V n 0).getD q 0 = 0 := by show (List.replicate n 0).getD q 0 = 0; simp [List.getD_eq_getElem?_getD, hq]
    rw [this]
    rfl
  have HB0 : Hid (Below g w w0) := by rw [← hg]; exact (Below.refl _ _).grown hgrow (Nat.le_refl _) (fun _ h => by cases h)
  clear hown hgrow
  simp only [hg]
  clear hg
  go_loopw [6] (fun iv wr => ∃ i : Nat, iv = .int .i64 (i : Int) ∧ i ≤ n ∧ Hid (OwnK .u8 5 wr g g n n (fun q => (((lagr A V n i).getD q 0 : Nat) : Int))) ∧ Hid (Below g w wr)) (fun iv _ => n - (intOf iv).toNat)
  case atStart => exact ⟨0, rfl, Nat.zero_le _, HO0.out, HB0.out⟩
  case round =>
    clear HO0 HB0
    obtain ⟨i, rfl, hi, HO, HB⟩ := hrel
    by_cases hlt : i < n
    · have HIN : Hid (i < n) := hlt
      have i0 : (0 : Int) ≤ (i : Int) := by omega
      have i1 : (i : Int) < (n : Int) := by omega
      generalize wr = w1 at *
      clear wr hlt hi
      have HG1 : Hid (g < w1.heap.size) := HO.out.base.2
      have HBW : Hid (∀ wx, Below w1.heap.size w1 wx → Below g w wx) := fun wx hx => HB.out.trans (hx.mono (by have := HG1.out; omega))
      have HL1 : Hid (RowK .u8 (w1.alloc (.cells #[.int .u8 1] 5)) (some ⟨w1.heap.size, 0, none⟩) 1 [1]) := ⟨rfl, .inr ⟨_, 0, rfl, fun q hq => by
        have : q = 0 := by omega
        subst this
        have := cells_new w1 [.int .u8 1] 5 0
        exact this⟩⟩
      have HB1 : Hid (Below w1.heap.size w1 (w1.alloc (.cells #[.int .u8 1] 5))) := (Below.refl _ _).alloc (Nat.le_refl _) _
      go_wp2_with fail
      go_loopw [7, 8, 9] (fun cv wv jv wr => ∃ (j gc nc wn : Nat) (cl : List Nat), cv = .slice (some ⟨gc, 0, none⟩) nc nc ∧ wv = .int .u8 (wn : Int) ∧ jv = .int .i64 (j : Int) ∧ j ≤ n ∧ Hid (cl = mono (others A j i) ∧ wn = lprod (A i) (others A j i) ∧ w1.heap.size ≤ gc) ∧ Hid (RowK .u8 wr (some ⟨gc, 0, none⟩) nc cl) ∧ Hid (Below w1.heap.size w1 wr)) (fun _ _ jv _ => n - (intOf jv).toNat)
      case atStart => exact ⟨0, w1.heap.size, 1, 1, [1], rfl, rfl, rfl, Nat.zero_le _, ⟨rfl, rfl, Nat.le_refl _⟩, HL1.out, HB1.out⟩
      case round =>
        clear HL1 HB1
        obtain ⟨j, gc, nc, wn, cl, rfl, rfl, rfl, hj, HCL, HRC, HBr⟩ := hrel
        have hcl := mono_ok (others_bys HAB.out.1 j i)
        rw [← HCL.out.1] at hcl
        have hwn : wn < 256 := by rw [HCL.out.2.1]; exact lprod_lt _ _
        have HNC : Hid (cl.length = nc) := HRC.out.1
        have hol : (others A j i).length ≤ j := by unfold others; rw [List.length_map]; exact Nat.le_trans (List.length_filter_le _ _) (by simp)
        have hnc : nc ≤ 101 := by have := hcl.2.1; have := HNC.out; omega
        by_cases hlj : j < n
        · have HJN : Hid (j < n) := hlj
          have j0 : (0 : Int) ≤ (j : Int) := by omega
          have j1 : (j : Int) < (n : Int) := by omega
          by_cases hji : j = i
          · subst hji
            have HO1 : Hid (others A (j + 1) j = others A j j) := by unfold Hid; rw [others_succ, if_pos rfl, List.append_nil]
            have e1 : ((j : Int) == (j : Int)) = true := by simp
            clear hlj hj hcl
            go_wp2_with fail
            go_roundw
            case rel => exact ⟨j + 1, gc, nc, wn, cl, rfl, rfl, by go_num, HJN.out, by rw [HO1.out]; exact HCL.out, HRC.out, HBr.out⟩
            case measure => have := HJN.out; simp [intOf]; omega
          · have e1 : ((j : Int) == (i : Int)) = false := beq_eq_false_iff_ne.2 (by omega)
            have e2 : ¬ (j : Int) = (i : Int) := by omega
            obtain ⟨aj, haj⟩ : ∃ aj, A j = aj := ⟨_, rfl⟩
            have HAJE : Hid (A j = aj) := haj
            have HO1 : Hid (others A (j + 1) i = others A j i ++ [aj]) := by unfold Hid; rw [others_succ, if_neg hji, haj]
            have laj : aj < 256 := by rw [← haj]; exact HAB.out.1 j
            clear haj
            have HBY : Hid (bys cl) := hcl.1
            generalize wr = w4 at *
            clear wr hlj hj hcl hji hol
            obtain ⟨g2, hg2⟩ : ∃ g2, w4.heap.size = g2 := ⟨_, rfl⟩
            have HG2 : Hid (w4.heap.size = g2) := hg2
            go_wp2_with (first
              | (at_make; (refine wpList_make_full _ rfl _ _ 22 rfl w4.heap.size 5 iB (.int .u8 0) 1 Try.underlying22 hiB hz0 hz1 _ _ _ _ (nc + 1) rfl rfl rfl rfl (by rw [hz2]; omega) (by unfold maxLen; omega) (Nat.le_refl _) ?_); intro w5 hown hgrow))
            obtain ⟨nc1, hnc1⟩ : ∃ nc1, nc + 1 = nc1 := ⟨_, rfl⟩
            have HN1 : Hid (nc + 1 = nc1) := hnc1
            have hn102 : nc1 ≤ 102 := by omega
            have en1 : (nc : Int) + 1 = (nc1 : Int) := by omega
            rw [hnc1] at hown
            try simp only [hnc1, en1]
            clear hnc1
            have HN5 : Hid (OwnK .u8 5 w5 g2 g2 nc1 nc1 (fun q => ((nxf cl aj 0 q : Nat) : Int))) := by
              rw [← hg2]
              refine OwnK.congr (OwnK.zero hown) fun q hq => ?_
              rw [nxf_zero]
              rfl
            have HB5 : Hid (Below g2 w4 w5) := by rw [← hg2]; exact (Below.refl _ _).grown hgrow (Nat.le_refl _) (fun _ h => by cases h)
            clear hown hgrow
            try simp only [hg2]
            clear hg2 en1
            have HGC : Hid (gc < g2) := by
              rcases HRC.out.2 with h | ⟨b, o, e, hc⟩
              · have := HNC.out
                have h0 : cl.length ≠ 0 := by rw [HCL.out.1]; have := (mono_ok (others_bys HAB.out.1 j i)).2.1; omega
                omega
              · cases e
                have h0 : cl.length ≠ 0 := by rw [HCL.out.1]; have := (mono_ok (others_bys HAB.out.1 j i)).2.1; omega
                have := cell_block (hc 0 (by have := HNC.out; omega))
                have := HG2.out
                show gc < g2
                omega
            have HCC : Hid (∀ k, k < nc → w4.cell? ⟨gc, k, none⟩ = some (.int .u8 ((cl.getD k 0 : Nat) : Int))) := fun k hk => by
              rcases HRC.out.2 with h | ⟨b, o, e, hc⟩
              · omega
              · cases e
                have := hc k hk
                rwa [Nat.zero_add] at this
            have HB4 : Hid (∀ wx, Below g2 w4 wx → Below w1.heap.size w1 wx) := fun wx hx => HBr.out.trans (hx.mono (by rw [← HG2.out]; exact HBr.out.size))
            go_loopw [11] (fun kv wr => ∃ k : Nat, kv = .int .i64 (k : Int) ∧ k ≤ nc ∧ Hid (OwnK .u8 5 wr g2 g2 nc1 nc1 (fun q => ((nxf cl aj k q : Nat) : Int))) ∧ Hid (Below g2 w4 wr)) (fun kv _ => nc - (intOf kv).toNat)
            case atStart => exact ⟨0, rfl, Nat.zero_le _, HN5.out, HB5.out⟩
            case round =>
              clear HN5 HB5
              obtain ⟨k, rfl, hk, HNX, HB6⟩ := hrel
              by_cases hlk : k < nc
              · have HKN : Hid (k < nc) := hlk
                have z0 : (0 : Int) ≤ (k : Int) := by omega
                have z1 : (k : Int) < (nc : Int) := by omega
                obtain ⟨k1, hk1⟩ : ∃ k1, k + 1 = k1 := ⟨_, rfl⟩
                have HK1 : Hid (k + 1 = k1) := hk1
                have z2 : (0 : Int) ≤ (k1 : Int) := by omega
                have z3 : (k1 : Int) < (nc1 : Int) := by have := HN1.out; omega
                have z4 : (k : Int) < (nc1 : Int) := by have := HN1.out; omega
                have e3 : (k : Int) + 1 = (k1 : Int) := by omega
                have y1 : IntKind.i64.wrap (k1 : Int) = (k1 : Int) := by rw [IntKind.wrap_i64]; omega
                have HKL : Hid (k < nc1 ∧ k1 < nc1 ∧ k ≠ k1) := by have := HN1.out; unfold Hid; omega
                obtain ⟨ck, hck⟩ : ∃ ck, cl.getD k 0 = ck := ⟨_, rfl⟩
                obtain ⟨x0, hx0⟩ : ∃ x0, nxf cl aj k k = x0 := ⟨_, rfl⟩
                obtain ⟨x1, hx1⟩ : ∃ x1, nxf cl aj k k1 = x1 := ⟨_, rfl⟩
                have HX0 : Hid (nxf cl aj k k = x0) := hx0
                have lck : ck < 256 := by rw [← hck]; exact getD_bys HBY.out k
                have lx0 : x0 < 256 := by rw [← hx0]; exact nxf_lt HBY.out _ _ _
                have hx1z : x1 = 0 := by rw [← hx1, ← hk1]; exact nxf_top cl aj k
                have HCI : Hid (∀ wx, Below wr.heap.size wr wx → (wx.cell? ⟨g2, k1, none⟩ = some (.int .u8 (x1 : Int)) ∧ wx.cell? ⟨gc, k, none⟩ = some (.int .u8 (ck : Int))) ∧ OwnK .u8 5 wx g2 g2 nc1 nc1 (fun q => ((nxf cl aj k q : Nat) : Int)) ∧ Below g2 w4 wx) := fun wx hx => by
                  have ho := HNX.out.keptBelow hx HNX.out.base.2
                  have hb : Below g2 w4 wx := HB6.out.trans (hx.mono (Nat.le_of_lt HNX.out.base.2))
                  have q1 := ho.cell k1 HKL.out.2.1
                  simp only [hx1] at q1
                  have q2 := (hb.cell (p := ⟨gc, k, none⟩) HGC.out).trans (HCC.out k hlk)
                  rw [hck] at q2
                  exact ⟨⟨q1, q2⟩, ho, hb⟩
                have HAJ : Hid (∀ wx, Below g2 w4 wx → wx.cell? ⟨b1, o1 + j, none⟩ = some (.int .u8 (aj : Int)) ∧ wx.cell? ⟨gc, k, none⟩ = some (.int .u8 (ck : Int))) := fun wx hx => by
                  have q1 := HC1.out wx (by rw [HG.out]; exact HBW.out _ (HB4.out _ hx)) j HJN.out
                  have q2 := (hx.cell (p := ⟨gc, k, none⟩) HGC.out).trans (HCC.out k hlk)
                  rw [HAJE.out] at q1
                  rw [hck] at q2
                  exact ⟨q1, q2⟩
                have hxo : bits .xor .u8 (x1 : Int) (ck : Int) = (ck : Int) := by rw [u8_xor_nat _ _ (by omega) lck, hx1z, Nat.zero_xor]
                obtain ⟨mm, hmm⟩ : ∃ mm, gm ck aj = mm := ⟨_, rfl⟩
                have lm : mm < 256 := by rw [← hmm]; exact gm_lt _ _
                have HML : Hid (∀ wx, Calls Try.prog 17 #[.int .u8 (ck : Int), .int .u8 (aj : Int)] wx fun e w' => e = .returned (.int .u8 (mm : Int)) ∧ w' = wx) := fun wx => by rw [← hmm]; exact rmul_any _ _ wx lck laj
                obtain ⟨x2, hx2⟩ : ∃ x2, x0 ^^^ mm = x2 := ⟨_, rfl⟩
                have hxo2 : bits .xor .u8 (x0 : Int) (mm : Int) = (x2 : Int) := by rw [u8_xor_nat _ _ lx0 lm, hx2]
                have HST : Hid (∀ q, nxf cl aj (k + 1) q = if q = k then x2 else if q = k1 then ck else nxf cl aj k q) := fun q => by rw [nxf_step, hx0, hck, hmm, hx2, hk1]
                clear HNX hlk hk hk1 hck hx0 hx1 hx1z hmm hx2
                generalize wr = w6 at *
                clear wr
                go_upto_region 15 with fail
                try simp only [Act.put, List.setIfInBounds_toArray, List.set_cons_zero, List.set_cons_succ]
                refine wp_region_noPanic ?_
                refine wp_region_till (S := fun wx => wx.cell? ⟨g2, k1, none⟩ = some (.int .u8 (x1 : Int)) ∧ wx.cell? ⟨gc, k, none⟩ = some (.int .u8 (ck : Int))) 14 (by kernel_rfl) (HCI.out _ (below_drewN w6 1)).1 (fun hHeld => ?_)
                try simp only [Act.put, List.setIfInBounds_toArray, List.set_cons_zero, List.set_cons_succ]
                have HBdwd : Hid (Below w6.heap.size w6 w6.drew) := below_drewN w6 1
                generalize w6.drew = wd at *
                refine wpAnyT_take (i := 0) (v := .slice (some ⟨g2, 0, none⟩) nc1 nc1) (by simp only [List.getElem?_toArray, List.getElem?_cons_zero, List.getElem?_cons_succ]; rfl) (by kernel_rfl) (by kernel_rfl) (by kernel_rfl) (by kernel_rfl) (fun _ _ _ h => h) (Or.inl ⟨by rfl, ?_⟩) hHeld ?_
                · intro w hSw
                  obtain ⟨hSw0, hSw1⟩ := hSw
                  go_simp
                try simp only [Act.put, List.setIfInBounds_toArray, List.set_cons_zero, List.set_cons_succ]
                refine wpAnyT_take (i := 1) (v := .int .i64 (k : Int)) (by simp only [List.getElem?_toArray, List.getElem?_cons_zero, List.getElem?_cons_succ]; rfl) (by kernel_rfl) (by kernel_rfl) (by kernel_rfl) (by kernel_rfl) (fun _ _ _ h => h) (Or.inl ⟨by rfl, ?_⟩) hHeld ?_
                · intro w hSw
                  obtain ⟨hSw0, hSw1⟩ := hSw
                  go_simp
                try simp only [Act.put, List.setIfInBounds_toArray, List.set_cons_zero, List.set_cons_succ]
                refine wpAnyT_take (i := 2) (v := .int .i64 (k1 : Int)) (by simp only [List.getElem?_toArray, List.getElem?_cons_zero, List.getElem?_cons_succ]; rfl) (by kernel_rfl) (by kernel_rfl) (by kernel_rfl) (by kernel_rfl) (fun _ _ _ h => h) (Or.inl ⟨by rfl, ?_⟩) hHeld ?_
                · intro w hSw
                  obtain ⟨hSw0, hSw1⟩ := hSw
                  go_simp
                try simp only [Act.put, List.setIfInBounds_toArray, List.set_cons_zero, List.set_cons_succ]
                refine wpAnyT_take (i := 3) (v := .slice (some ⟨g2, 0, none⟩) nc1 nc1) (by simp only [List.getElem?_toArray, List.getElem?_cons_zero, List.getElem?_cons_succ]; rfl) (by kernel_rfl) (by kernel_rfl) (by kernel_rfl) (by kernel_rfl) (fun _ _ _ h => h) (Or.inl ⟨by rfl, ?_⟩) hHeld ?_
                · intro w hSw
                  obtain ⟨hSw0, hSw1⟩ := hSw
                  go_simp
                try simp only [Act.put, List.setIfInBounds_toArray, List.set_cons_zero, List.set_cons_succ]
                refine wpAnyT_take (i := 4) (v := .int .i64 (k : Int)) (by simp only [List.getElem?_toArray, List.getElem?_cons_zero, List.getElem?_cons_succ]; rfl) (by kernel_rfl) (by kernel_rfl) (by kernel_rfl) (by kernel_rfl) (fun _ _ _ h => h) (Or.inl ⟨by rfl, ?_⟩) hHeld ?_
                · intro w hSw
                  obtain ⟨hSw0, hSw1⟩ := hSw
                  go_simp
                try simp only [Act.put, List.setIfInBounds_toArray, List.set_cons_zero, List.set_cons_succ]
                refine wpAnyT_take (i := 5) (v := .int .i64 (k1 : Int)) (by simp only [List.getElem?_toArray, List.getElem?_cons_zero, List.getElem?_cons_succ]; rfl) (by kernel_rfl) (by kernel_rfl) (by kernel_rfl) (by kernel_rfl) (fun _ _ _ h => h) (Or.inl ⟨by rfl, ?_⟩) hHeld ?_
                · intro w hSw
                  obtain ⟨hSw0, hSw1⟩ := hSw
                  go_simp
                try simp only [Act.put, List.setIfInBounds_toArray, List.set_cons_zero, List.set_cons_succ]
                refine wpAnyT_take (i := 6) (v := .pointer (some ⟨g2, k1, none⟩)) (by simp only [List.getElem?_toArray, List.getElem?_cons_zero, List.getElem?_cons_succ]; rfl) (by kernel_rfl) (by kernel_rfl) (by kernel_rfl) (by kernel_rfl) (fun _ _ _ h => h) (Or.inl ⟨by rfl, ?_⟩) hHeld ?_
                · intro w hSw
                  obtain ⟨hSw0, hSw1⟩ := hSw
                  go_simp
                try simp only [Act.put, List.setIfInBounds_toArray, List.set_cons_zero, List.set_cons_succ]
                refine wpAnyT_take (i := 7) (v := .int .u8 (x1 : Int)) (by simp only [List.getElem?_toArray, List.getElem?_cons_zero, List.getElem?_cons_succ]; rfl) (by kernel_rfl) (by kernel_rfl) (by kernel_rfl) (by kernel_rfl) (fun _ _ _ h => h) (Or.inl ⟨by rfl, ?_⟩) hHeld ?_
                · intro w hSw
                  obtain ⟨hSw0, hSw1⟩ := hSw
                  go_simp
                try simp only [Act.put, List.setIfInBounds_toArray, List.set_cons_zero, List.set_cons_succ]
                refine wpAnyT_take (i := 8) (v := .slice (some ⟨gc, 0, none⟩) nc nc) (by simp only [List.getElem?_toArray, List.getElem?_cons_zero, List.getElem?_cons_succ]; rfl) (by kernel_rfl) (by kernel_rfl) (by kernel_rfl) (by kernel_rfl) (fun _ _ _ h => h) (Or.inl ⟨by rfl, ?_⟩) hHeld ?_
                · intro w hSw
                  obtain ⟨hSw0, hSw1⟩ := hSw
                  go_simp
                try simp only [Act.put, List.setIfInBounds_toArray, List.set_cons_zero, List.set_cons_succ]
                refine wpAnyT_take (i := 9) (v := .int .i64 (k : Int)) (by simp only [List.getElem?_toArray, List.getElem?_cons_zero, List.getElem?_cons_succ]; rfl) (by kernel_rfl) (by kernel_rfl) (by kernel_rfl) (by kernel_rfl) (fun _ _ _ h => h) (Or.inl ⟨by rfl, ?_⟩) hHeld ?_
                · intro w hSw
                  obtain ⟨hSw0, hSw1⟩ := hSw
                  go_simp
                try simp only [Act.put, List.setIfInBounds_toArray, List.set_cons_zero, List.set_cons_succ]
                refine wpAnyT_take (i := 10) (v := .pointer (some ⟨gc, k, none⟩)) (by simp only [List.getElem?_toArray, List.getElem?_cons_zero, List.getElem?_cons_succ]; rfl) (by kernel_rfl) (by kernel_rfl) (by kernel_rfl) (by kernel_rfl) (fun _ _ _ h => h) (Or.inl ⟨by rfl, ?_⟩) hHeld ?_
                · intro w hSw
                  obtain ⟨hSw0, hSw1⟩ := hSw
                  go_simp
                try simp only [Act.put, List.setIfInBounds_toArray, List.set_cons_zero, List.set_cons_succ]
                refine wpAnyT_take (i := 11) (v := .int .u8 (ck : Int)) (by simp only [List.getElem?_toArray, List.getElem?_cons_zero, List.getElem?_cons_succ]; rfl) (by kernel_rfl) (by kernel_rfl) (by kernel_rfl) (by kernel_rfl) (fun _ _ _ h => h) (Or.inl ⟨by rfl, ?_⟩) hHeld ?_
                · intro w hSw
                  obtain ⟨hSw0, hSw1⟩ := hSw
                  go_simp
                try simp only [Act.put, List.setIfInBounds_toArray, List.set_cons_zero, List.set_cons_succ]
                refine wpAnyT_take (i := 12) (v := .int .u8 (ck : Int)) (by simp only [List.getElem?_toArray, List.getElem?_cons_zero, List.getElem?_cons_succ]; rfl) (by kernel_rfl) (by kernel_rfl) (by kernel_rfl) (by kernel_rfl) (fun _ _ _ h => h) (Or.inl ⟨by rfl, ?_⟩) hHeld ?_
                · intro w hSw
                  obtain ⟨hSw0, hSw1⟩ := hSw
                  go_simp
                try simp only [Act.put, List.setIfInBounds_toArray, List.set_cons_zero, List.set_cons_succ]
                refine wpAnyT_take (i := 13) (v := .pointer (some ⟨g2, k1, none⟩)) (by simp only [List.getElem?_toArray, List.getElem?_cons_zero, List.getElem?_cons_succ]; rfl) (by kernel_rfl) (by kernel_rfl) (by kernel_rfl) (by kernel_rfl) (fun _ _ _ h => h) (Or.inl ⟨by rfl, ?_⟩) hHeld ?_
                · intro w hSw
                  obtain ⟨hSw0, hSw1⟩ := hSw
                  go_simp
                try simp only [Act.put, List.setIfInBounds_toArray, List.set_cons_zero, List.set_cons_succ]
                refine wpAnyT_ready (rs := [14]) (by kernel_rfl) (by simp) ?_
                refine AllReadyT.lastly (by simp only [List.getElem?_toArray, List.getElem?_cons_zero, List.getElem?_cons_succ]; rfl) rfl (fun K hK => ?_) AllReadyT.nil
                rw [if_pos (by rfl)]
                have c9 := (HCI.out _ HBdwd.out).1.1
                have f9 := (HCI.out _ HBdwd.out).2.1.frozen k1
                go_simp
                refine hK.out _ _ ?_
                clear hK K
                try simp only [Act.put, List.setIfInBounds_toArray, List.set_cons_zero, List.set_cons_succ]
                refine wpAnyT_done (by kernel_rfl) (NoPanic.normal ?_) _
                have HN7 := OwnK.store (HCI.out _ HBdwd.out).2.1 k1 ((ck : Nat) : Int)
                have HN7' : Hid (OwnK .u8 5 (wd.setCell ⟨g2, k1, none⟩ (.int .u8 (ck : Int))) g2 g2 nc1 nc1 (fun q => if q = k1 then (ck : Int) else ((nxf cl aj k q : Nat) : Int))) := HN7
                have HB7 : Hid (Below g2 w4 (wd.setCell ⟨g2, k1, none⟩ (.int .u8 (ck : Int)))) := (HCI.out _ HBdwd.out).2.2.setCell (Nat.le_refl _) _
                clear HN7 c9 f9 hHeld HCI
                generalize wd.setCell ⟨g2, k1, none⟩ (.int .u8 (ck : Int)) = w7 at *
                have HCJ : Hid (∀ wx, Below w7.heap.size w7 wx → (wx.cell? ⟨g2, k, none⟩ = some (.int .u8 (x0 : Int)) ∧ wx.cell? ⟨gc, k, none⟩ = some (.int .u8 (ck : Int)) ∧ wx.cell? ⟨b1, o1 + j, none⟩ = some (.int .u8 (aj : Int))) ∧ OwnK .u8 5 wx g2 g2 nc1 nc1 (fun q => if q = k1 then (ck : Int) else ((nxf cl aj k q : Nat) : Int)) ∧ Below g2 w4 wx) := fun wx hx => by
                  have ho := HN7'.out.keptBelow hx HN7'.out.base.2
                  have hb : Below g2 w4 wx := HB7.out.trans (hx.mono (Nat.le_of_lt HN7'.out.base.2))
                  have q1 := ho.cell k HKL.out.1
                  simp only [if_neg HKL.out.2.2, HX0.out] at q1
                  exact ⟨⟨q1, (HAJ.out wx hb).2, (HAJ.out wx hb).1⟩, ho, hb⟩
                go_upto_region 16 with fail
                try simp only [Act.put, List.setIfInBounds_toArray, List.set_cons_zero, List.set_cons_succ]
                refine wp_region_noPanic ?_
                refine wp_region_till (S := fun wx => wx.cell? ⟨g2, k, none⟩ = some (.int .u8 (x0 : Int)) ∧ wx.cell? ⟨gc, k, none⟩ = some (.int .u8 (ck : Int)) ∧ wx.cell? ⟨b1, o1 + j, none⟩ = some (.int .u8 (aj : Int))) 17 (by kernel_rfl) (HCJ.out _ (below_drewN w7 1)).1 (fun hHeld => ?_)
                try simp only [Act.put, List.setIfInBounds_toArray, List.set_cons_zero, List.set_cons_succ]
                have HBdwe : Hid (Below w7.heap.size w7 w7.drew) := below_drewN w7 1
                generalize w7.drew = we at *
                refine wpAnyT_take (i := 0) (v := .slice (some ⟨g2, 0, none⟩) nc1 nc1) (by simp only [List.getElem?_toArray, List.getElem?_cons_zero, List.getElem?_cons_succ]; rfl) (by kernel_rfl) (by kernel_rfl) (by kernel_rfl) (by kernel_rfl) (fun _ _ _ h => h) (Or.inl ⟨by rfl, ?_⟩) hHeld ?_
                · intro w hSw
                  obtain ⟨hSw0, hSw1, hSw2⟩ := hSw
                  go_simp
                try simp only [Act.put, List.setIfInBounds_toArray, List.set_cons_zero, List.set_cons_succ]
                refine wpAnyT_take (i := 1) (v := .int .i64 (k : Int)) (by simp only [List.getElem?_toArray, List.getElem?_cons_zero, List.getElem?_cons_succ]; rfl) (by kernel_rfl) (by kernel_rfl) (by kernel_rfl) (by kernel_rfl) (fun _ _ _ h => h) (Or.inl ⟨by rfl, ?_⟩) hHeld ?_
                · intro w hSw
                  obtain ⟨hSw0, hSw1, hSw2⟩ := hSw
                  go_simp
                try simp only [Act.put, List.setIfInBounds_toArray, List.set_cons_zero, List.set_cons_succ]
                refine wpAnyT_take (i := 2) (v := .slice (some ⟨g2, 0, none⟩) nc1 nc1) (by simp only [List.getElem?_toArray, List.getElem?_cons_zero, List.getElem?_cons_succ]; rfl) (by kernel_rfl) (by kernel_rfl) (by kernel_rfl) (by kernel_rfl) (fun _ _ _ h => h) (Or.inl ⟨by rfl, ?_⟩) hHeld ?_
                · intro w hSw
                  obtain ⟨hSw0, hSw1, hSw2⟩ := hSw
                  go_simp
                try simp only [Act.put, List.setIfInBounds_toArray, List.set_cons_zero, List.set_cons_succ]
                refine wpAnyT_take (i := 3) (v := .int .i64 (k : Int)) (by simp only [List.getElem?_toArray, List.getElem?_cons_zero, List.getElem?_cons_succ]; rfl) (by kernel_rfl) (by kernel_rfl) (by kernel_rfl) (by kernel_rfl) (fun _ _ _ h => h) (Or.inl ⟨by rfl, ?_⟩) hHeld ?_
                · intro w hSw
                  obtain ⟨hSw0, hSw1, hSw2⟩ := hSw
                  go_simp
                try simp only [Act.put, List.setIfInBounds_toArray, List.set_cons_zero, List.set_cons_succ]
                refine wpAnyT_take (i := 4) (v := .pointer (some ⟨g2, k, none⟩)) (by simp only [List.getElem?_toArray, List.getElem?_cons_zero, List.getElem?_cons_succ]; rfl) (by kernel_rfl) (by kernel_rfl) (by kernel_rfl) (by kernel_rfl) (fun _ _ _ h => h) (Or.inl ⟨by rfl, ?_⟩) hHeld ?_
                · intro w hSw
                  obtain ⟨hSw0, hSw1, hSw2⟩ := hSw
                  go_simp
                try simp only [Act.put, List.setIfInBounds_toArray, List.set_cons_zero, List.set_cons_succ]
                refine wpAnyT_take (i := 5) (v := .int .u8 (x0 : Int)) (by simp only [List.getElem?_toArray, List.getElem?_cons_zero, List.getElem?_cons_succ]; rfl) (by kernel_rfl) (by kernel_rfl) (by kernel_rfl) (by kernel_rfl) (fun _ _ _ h => h) (Or.inl ⟨by rfl, ?_⟩) hHeld ?_
                · intro w hSw
                  obtain ⟨hSw0, hSw1, hSw2⟩ := hSw
                  go_simp
                try simp only [Act.put, List.setIfInBounds_toArray, List.set_cons_zero, List.set_cons_succ]
                refine wpAnyT_take (i := 6) (v := .slice (some ⟨gc, 0, none⟩) nc nc) (by simp only [List.getElem?_toArray, List.getElem?_cons_zero, List.getElem?_cons_succ]; rfl) (by kernel_rfl) (by kernel_rfl) (by kernel_rfl) (by kernel_rfl) (fun _ _ _ h => h) (Or.inl ⟨by rfl, ?_⟩) hHeld ?_
                · intro w hSw
                  obtain ⟨hSw0, hSw1, hSw2⟩ := hSw
                  go_simp
                try simp only [Act.put, List.setIfInBounds_toArray, List.set_cons_zero, List.set_cons_succ]
                refine wpAnyT_take (i := 7) (v := .int .i64 (k : Int)) (by simp only [List.getElem?_toArray, List.getElem?_cons_zero, List.getElem?_cons_succ]; rfl) (by kernel_rfl) (by kernel_rfl) (by kernel_rfl) (by kernel_rfl) (fun _ _ _ h => h) (Or.inl ⟨by rfl, ?_⟩) hHeld ?_
                · intro w hSw
                  obtain ⟨hSw0, hSw1, hSw2⟩ := hSw
                  go_simp
                try simp only [Act.put, List.setIfInBounds_toArray, List.set_cons_zero, List.set_cons_succ]
                refine wpAnyT_take (i := 8) (v := .pointer (some ⟨gc, k, none⟩)) (by simp only [List.getElem?_toArray, List.getElem?_cons_zero, List.getElem?_cons_succ]; rfl) (by kernel_rfl) (by kernel_rfl) (by kernel_rfl) (by kernel_rfl) (fun _ _ _ h => h) (Or.inl ⟨by rfl, ?_⟩) hHeld ?_
                · intro w hSw
                  obtain ⟨hSw0, hSw1, hSw2⟩ := hSw
                  go_simp
                try simp only [Act.put, List.setIfInBounds_toArray, List.set_cons_zero, List.set_cons_succ]
                refine wpAnyT_take (i := 9) (v := .int .u8 (ck : Int)) (by simp only [List.getElem?_toArray, List.getElem?_cons_zero, List.getElem?_cons_succ]; rfl) (by kernel_rfl) (by kernel_rfl) (by kernel_rfl) (by kernel_rfl) (fun _ _ _ h => h) (Or.inl ⟨by rfl, ?_⟩) hHeld ?_
                · intro w hSw
                  obtain ⟨hSw0, hSw1, hSw2⟩ := hSw
                  go_simp
                try simp only [Act.put, List.setIfInBounds_toArray, List.set_cons_zero, List.set_cons_succ]
                refine wpAnyT_take (i := 10) (v := .slice (some ⟨b1, o1, none⟩) n c1) (by simp only [List.getElem?_toArray, List.getElem?_cons_zero, List.getElem?_cons_succ]; rfl) (by kernel_rfl) (by kernel_rfl) (by kernel_rfl) (by kernel_rfl) (fun _ _ _ h => h) (Or.inl ⟨by rfl, ?_⟩) hHeld ?_
                · intro w hSw
                  obtain ⟨hSw0, hSw1, hSw2⟩ := hSw
                  go_simp
                try simp only [Act.put, List.setIfInBounds_toArray, List.set_cons_zero, List.set_cons_succ]
                refine wpAnyT_take (i := 11) (v := .int .i64 (j : Int)) (by simp only [List.getElem?_toArray, List.getElem?_cons_zero, List.getElem?_cons_succ]; rfl) (by kernel_rfl) (by kernel_rfl) (by kernel_rfl) (by kernel_rfl) (fun _ _ _ h => h) (Or.inl ⟨by rfl, ?_⟩) hHeld ?_
                · intro w hSw
                  obtain ⟨hSw0, hSw1, hSw2⟩ := hSw
                  go_simp
                try simp only [Act.put, List.setIfInBounds_toArray, List.set_cons_zero, List.set_cons_succ]
                refine wpAnyT_take (i := 12) (v := .pointer (some ⟨b1, o1 + j, none⟩)) (by simp only [List.getElem?_toArray, List.getElem?_cons_zero, List.getElem?_cons_succ]; rfl) (by kernel_rfl) (by kernel_rfl) (by kernel_rfl) (by kernel_rfl) (fun _ _ _ h => h) (Or.inl ⟨by rfl, ?_⟩) hHeld ?_
                · intro w hSw
                  obtain ⟨hSw0, hSw1, hSw2⟩ := hSw
                  go_simp
                try simp only [Act.put, List.setIfInBounds_toArray, List.set_cons_zero, List.set_cons_succ]
                refine wpAnyT_take (i := 13) (v := .int .u8 (aj : Int)) (by simp only [List.getElem?_toArray, List.getElem?_cons_zero, List.getElem?_cons_succ]; rfl) (by kernel_rfl) (by kernel_rfl) (by kernel_rfl) (by kernel_rfl) (fun _ _ _ h => h) (Or.inl ⟨by rfl, ?_⟩) hHeld ?_
                · intro w hSw
                  obtain ⟨hSw0, hSw1, hSw2⟩ := hSw
                  go_simp
                try simp only [Act.put, List.setIfInBounds_toArray, List.set_cons_zero, List.set_cons_succ]
                refine wpAnyT_ready (rs := [14]) (by kernel_rfl) (by simp) ?_
                refine AllReadyT.cons (by simp only [List.getElem?_toArray, List.getElem?_cons_zero, List.getElem?_cons_succ]; rfl) (fun K hK => ?_) AllReadyT.nil
                rw [if_pos (by rfl)]
                go_simp
                refine (HML.out we).mono ?_
                rintro e wq ⟨rfl, hq⟩
                have hq' : we = wq := hq.symm
                subst hq'
                go_wp2_with fail
                refine hK.out _ _ hHeld (fun hHeld => ?_)
                clear hK K
                try simp only [Act.put, List.setIfInBounds_toArray, List.set_cons_zero, List.set_cons_succ]
                refine wpAnyT_take (i := 15) (v := .int .u8 (x2 : Int)) (by simp only [List.getElem?_toArray, List.getElem?_cons_zero, List.getElem?_cons_succ]; rfl) (by kernel_rfl) (by kernel_rfl) (by kernel_rfl) (by kernel_rfl) (fun _ _ _ h => h) (Or.inl ⟨by rfl, ?_⟩) hHeld ?_
                · intro w hSw
                  obtain ⟨hSw0, hSw1, hSw2⟩ := hSw
                  go_simp
                try simp only [Act.put, List.setIfInBounds_toArray, List.set_cons_zero, List.set_cons_succ]
                refine wpAnyT_take (i := 16) (v := .pointer (some ⟨g2, k, none⟩)) (by simp only [List.getElem?_toArray, List.getElem?_cons_zero, List.getElem?_cons_succ]; rfl) (by kernel_rfl) (by kernel_rfl) (by kernel_rfl) (by kernel_rfl) (fun _ _ _ h => h) (Or.inl ⟨by rfl, ?_⟩) hHeld ?_
                · intro w hSw
                  obtain ⟨hSw0, hSw1, hSw2⟩ := hSw
                  go_simp
                try simp only [Act.put, List.setIfInBounds_toArray, List.set_cons_zero, List.set_cons_succ]
                refine wpAnyT_ready (rs := [17]) (by kernel_rfl) (by simp) ?_
                refine AllReadyT.lastly (by simp only [List.getElem?_toArray, List.getElem?_cons_zero, List.getElem?_cons_succ]; rfl) rfl (fun K hK => ?_) AllReadyT.nil
                rw [if_pos (by rfl)]
                have c9 := (HCJ.out _ HBdwe.out).1.1
                have f9 := (HCJ.out _ HBdwe.out).2.1.frozen k
                go_simp
                refine hK.out _ _ ?_
                clear hK K
                try simp only [Act.put, List.setIfInBounds_toArray, List.set_cons_zero, List.set_cons_succ]
                refine wpAnyT_done (by kernel_rfl) (NoPanic.normal ?_) _
                have HN8 := OwnK.store (HCJ.out _ HBdwe.out).2.1 k ((x2 : Nat) : Int)
                have HN8' : Hid (OwnK .u8 5 (we.setCell ⟨g2, k, none⟩ (.int .u8 (x2 : Int))) g2 g2 nc1 nc1 (fun q => ((nxf cl aj (k + 1) q : Nat) : Int))) := by
                  refine OwnK.congr HN8 fun q hq => ?_
                  have := HST.out q
                  by_cases h1 : q = k
                  · rw [if_pos h1] at this
                    simp only [if_pos h1, this]
                  · by_cases h2 : q = k1
                    · rw [if_neg h1, if_pos h2] at this
                      simp only [if_neg h1, if_pos h2, this]
                    · rw [if_neg h1, if_neg h2] at this
                      simp only [if_neg h1, if_neg h2, this]
                have HB8 : Hid (Below g2 w4 (we.setCell ⟨g2, k, none⟩ (.int .u8 (x2 : Int)))) := (HCJ.out _ HBdwe.out).2.2.setCell (Nat.le_refl _) _
                clear HN8 c9 f9 hHeld HCJ HN7'
                generalize we.setCell ⟨g2, k, none⟩ (.int .u8 (x2 : Int)) = w8 at *
                go_wp2_with fail
                go_roundw
                case rel => exact ⟨k + 1, by go_num, HKN.out, HN8'.out, HB8.out⟩
                case measure => have := HKN.out; simp [intOf]; omega
              · have hkn : k = nc := by omega
                subst hkn
                have z1 : ¬ (k : Int) < (k : Int) := by omega
                have hnl : nc1 = k + 1 := HN1.out.symm
                have HRX : Hid (RowK .u8 wr (some ⟨g2, 0, none⟩) nc1 (nxt cl aj)) := OwnK.row HNX.out (by rw [nxt_len, HNC.out]; exact HN1.out) (fun q hq => by
                  have := nxf_end cl aj q (by rw [HNC.out]; omega)
                  rw [HNC.out] at this
                  simp only [this]
                  rfl)
                have HBZ : Hid (Below w1.heap.size w1 wr) := HB4.out _ HB6.out
                have HG2' : Hid (w1.heap.size ≤ g2) := by rw [← HG2.out]; exact HBr.out.size
                clear HNX hlk hk hnl HCC HB4 HB6 HBr HRC
                generalize wr = w9 at *
                clear wr
                obtain ⟨ai, hai⟩ : ∃ ai, A i = ai := ⟨_, rfl⟩
                have lai : ai < 256 := by rw [← hai]; exact HAB.out.1 i
                have HCK : Hid (∀ wx, Below w9.heap.size w9 wx → wx.cell? ⟨b1, o1 + i, none⟩ = some (.int .u8 (ai : Int)) ∧ wx.cell? ⟨b1, o1 + j, none⟩ = some (.int .u8 (aj : Int))) := fun wx hx => by
                  have b : Below g w wx := HBW.out _ (HBZ.out.trans (hx.mono HBZ.out.size))
                  have q1 := HC1.out wx (by rw [HG.out]; exact b) i HIN.out
                  have q2 := HC1.out wx (by rw [HG.out]; exact b) j HJN.out
                  rw [hai] at q1
                  rw [HAJE.out] at q2
                  exact ⟨q1, q2⟩
                obtain ⟨xij, hxij⟩ : ∃ x, ai ^^^ aj = x := ⟨_, rfl⟩
                have lxij : xij < 256 := by rw [← hxij]; exact Nat.xor_lt_two_pow (n := 8) lai laj
                have hxo : bits .xor .u8 (ai : Int) (aj : Int) = (xij : Int) := by rw [u8_xor_nat _ _ lai laj, hxij]
                obtain ⟨wn2, hwn2⟩ : ∃ x, gm wn xij = x := ⟨_, rfl⟩
                have HMW : Hid (∀ wx, Calls Try.prog 17 #[.int .u8 (wn : Int), .int .u8 (xij : Int)] wx fun e w' => e = .returned (.int .u8 (wn2 : Int)) ∧ w' = wx) := fun wx => by rw [← hwn2]; exact rmul_any _ _ wx hwn lxij
                have HCL2 : Hid (nxt cl aj = mono (others A (j + 1) i) ∧ wn2 = lprod (A i) (others A (j + 1) i) ∧ w1.heap.size ≤ g2) := by
                  refine ⟨?_, ?_, HG2'.out⟩
                  · rw [HO1.out, mono_app, ← HCL.out.1]
                  · rw [HO1.out, lprod_app _ _ _ (HAB.out.1 i) laj, ← HCL.out.2.1, hai, hxij, hwn2]
                clear hai hxij hwn2 HCL
                go_upto_region 18 with fail
                try simp only [Act.put, List.setIfInBounds_toArray, List.set_cons_zero, List.set_cons_succ]
                refine wp_region_noPanic ?_
                refine wp_region_held_drew (S := fun wx => wx.cell? ⟨b1, o1 + i, none⟩ = some (.int .u8 (ai : Int)) ∧ wx.cell? ⟨b1, o1 + j, none⟩ = some (.int .u8 (aj : Int))) (by kernel_rfl) (HCK.out _ (below_drewN w9 1)) (fun hHeld => ?_)
                try simp only [Act.put, List.setIfInBounds_toArray, List.set_cons_zero, List.set_cons_succ]
                have HBdwf : Hid (Below w9.heap.size w9 w9.drew) := below_drewN w9 1
                generalize w9.drew = wf at *
                refine wpAnyH_take (i := 0) (v := .int .u8 (wn : Int)) (by simp only [List.getElem?_toArray, List.getElem?_cons_zero, List.getElem?_cons_succ]; rfl) (by kernel_rfl) (by kernel_rfl) (by kernel_rfl) (fun _ _ _ h => h) (Or.inl ⟨by rfl, ?_⟩) hHeld ?_
                · intro w hSw
                  obtain ⟨hSw0, hSw1⟩ := hSw
                  go_simp
                try simp only [Act.put, List.setIfInBounds_toArray, List.set_cons_zero, List.set_cons_succ]
                refine wpAnyH_take (i := 1) (v := .slice (some ⟨b1, o1, none⟩) n c1) (by simp only [List.getElem?_toArray, List.getElem?_cons_zero, List.getElem?_cons_succ]; rfl) (by kernel_rfl) (by kernel_rfl) (by kernel_rfl) (fun _ _ _ h => h) (Or.inl ⟨by rfl, ?_⟩) hHeld ?_
                · intro w hSw
                  obtain ⟨hSw0, hSw1⟩ := hSw
                  go_simp
                try simp only [Act.put, List.setIfInBounds_toArray, List.set_cons_zero, List.set_cons_succ]
                refine wpAnyH_take (i := 2) (v := .int .i64 (i : Int)) (by simp only [List.getElem?_toArray, List.getElem?_cons_zero, List.getElem?_cons_succ]; rfl) (by kernel_rfl) (by kernel_rfl) (by kernel_rfl) (fun _ _ _ h => h) (Or.inl ⟨by rfl, ?_⟩) hHeld ?_
                · intro w hSw
                  obtain ⟨hSw0, hSw1⟩ := hSw
                  go_simp
                try simp only [Act.put, List.setIfInBounds_toArray, List.set_cons_zero, List.set_cons_succ]
                refine wpAnyH_take (i := 3) (v := .pointer (some ⟨b1, o1 + i, none⟩)) (by simp only [List.getElem?_toArray, List.getElem?_cons_zero, List.getElem?_cons_succ]; rfl) (by kernel_rfl) (by kernel_rfl) (by kernel_rfl) (fun _ _ _ h => h) (Or.inl ⟨by rfl, ?_⟩) hHeld ?_
                · intro w hSw
                  obtain ⟨hSw0, hSw1⟩ := hSw
                  go_simp
                try simp only [Act.put, List.setIfInBounds_toArray, List.set_cons_zero, List.set_cons_succ]
                refine wpAnyH_take (i := 4) (v := .int .u8 (ai : Int)) (by simp only [List.getElem?_toArray, List.getElem?_cons_zero, List.getElem?_cons_succ]; rfl) (by kernel_rfl) (by kernel_rfl) (by kernel_rfl) (fun _ _ _ h => h) (Or.inl ⟨by rfl, ?_⟩) hHeld ?_
                · intro w hSw
                  obtain ⟨hSw0, hSw1⟩ := hSw
                  go_simp
                try simp only [Act.put, List.setIfInBounds_toArray, List.set_cons_zero, List.set_cons_succ]
                refine wpAnyH_take (i := 5) (v := .slice (some ⟨b1, o1, none⟩) n c1) (by simp only [List.getElem?_toArray, List.getElem?_cons_zero, List.getElem?_cons_succ]; rfl) (by kernel_rfl) (by kernel_rfl) (by kernel_rfl) (fun _ _ _ h => h) (Or.inl ⟨by rfl, ?_⟩) hHeld ?_
                · intro w hSw
                  obtain ⟨hSw0, hSw1⟩ := hSw
                  go_simp
                try simp only [Act.put, List.setIfInBounds_toArray, List.set_cons_zero, List.set_cons_succ]
                refine wpAnyH_take (i := 6) (v := .int .i64 (j : Int)) (by simp only [List.getElem?_toArray, List.getElem?_cons_zero, List.getElem?_cons_succ]; rfl) (by kernel_rfl) (by kernel_rfl) (by kernel_rfl) (fun _ _ _ h => h) (Or.inl ⟨by rfl, ?_⟩) hHeld ?_
                · intro w hSw
                  obtain ⟨hSw0, hSw1⟩ := hSw
                  go_simp
                try simp only [Act.put, List.setIfInBounds_toArray, List.set_cons_zero, List.set_cons_succ]
                refine wpAnyH_take (i := 7) (v := .pointer (some ⟨b1, o1 + j, none⟩)) (by simp only [List.getElem?_toArray, List.getElem?_cons_zero, List.getElem?_cons_succ]; rfl) (by kernel_rfl) (by kernel_rfl) (by kernel_rfl) (fun _ _ _ h => h) (Or.inl ⟨by rfl, ?_⟩) hHeld ?_
                · intro w hSw
                  obtain ⟨hSw0, hSw1⟩ := hSw
                  go_simp
                try simp only [Act.put, List.setIfInBounds_toArray, List.set_cons_zero, List.set_cons_succ]
                refine wpAnyH_take (i := 8) (v := .int .u8 (aj : Int)) (by simp only [List.getElem?_toArray, List.getElem?_cons_zero, List.getElem?_cons_succ]; rfl) (by kernel_rfl) (by kernel_rfl) (by kernel_rfl) (fun _ _ _ h => h) (Or.inl ⟨by rfl, ?_⟩) hHeld ?_
                · intro w hSw
                  obtain ⟨hSw0, hSw1⟩ := hSw
                  go_simp
                try simp only [Act.put, List.setIfInBounds_toArray, List.set_cons_zero, List.set_cons_succ]
                refine wpAnyH_take (i := 9) (v := .int .u8 (xij : Int)) (by simp only [List.getElem?_toArray, List.getElem?_cons_zero, List.getElem?_cons_succ]; rfl) (by kernel_rfl) (by kernel_rfl) (by kernel_rfl) (fun _ _ _ h => h) (Or.inl ⟨by rfl, ?_⟩) hHeld ?_
                · intro w hSw
                  obtain ⟨hSw0, hSw1⟩ := hSw
                  go_simp
                try simp only [Act.put, List.setIfInBounds_toArray, List.set_cons_zero, List.set_cons_succ]
                refine wpAnyH_ready (rs := [10]) (by kernel_rfl) (by simp) ?_
                refine AllReadyH.cons (by simp only [List.getElem?_toArray, List.getElem?_cons_zero, List.getElem?_cons_succ]; rfl) (fun K hK => ?_) AllReadyH.nil
                rw [if_pos (by rfl)]
                go_simp
                refine (HMW.out wf).mono ?_
                rintro e wq ⟨rfl, hq⟩
                have hq' : wf = wq := hq.symm
                subst hq'
                go_wp2_with fail
                refine hK.out _ _ hHeld (fun hHeld => ?_)
                clear hK K
                try simp only [Act.put, List.setIfInBounds_toArray, List.set_cons_zero, List.set_cons_succ]
                refine wpAnyH_take (i := 11) (v := .int .u8 (wn2 : Int)) (by simp only [List.getElem?_toArray, List.getElem?_cons_zero, List.getElem?_cons_succ]; rfl) (by kernel_rfl) (by kernel_rfl) (by kernel_rfl) (fun _ _ _ h => h) (Or.inl ⟨by rfl, ?_⟩) hHeld ?_
                · intro w hSw
                  obtain ⟨hSw0, hSw1⟩ := hSw
                  go_simp
                try simp only [Act.put, List.setIfInBounds_toArray, List.set_cons_zero, List.set_cons_succ]
                refine wpAnyH_done (by kernel_rfl) (NoPanic.normal ?_) _
                clear hHeld
                go_wp2_with fail
                go_roundw
                case rel => exact ⟨j + 1, g2, nc1, wn2, nxt cl aj, rfl, rfl, by go_num, HJN.out, HCL2.out, HRX.out.below HBdwf.out, HBZ.out.trans (HBdwf.out.mono HBZ.out.size)⟩
                case measure => have := HJN.out; simp [intOf]; omega
        · have hjn : n = j := by omega
          subst hjn
          have g4 : ¬ (n : Int) < (n : Int) := by omega
          have hncn : n = nc := by have := hcl.2.1; rw [others_len A n i HIN.out] at this; have := HNC.out; have := HIN.out; omega
          subst hncn
          have HCN : Hid (cl = mono (others A n i) ∧ w1.heap.size ≤ gc) := ⟨HCL.out.1, HCL.out.2.2⟩
          have hwn0 : wn ≠ 0 := by rw [HCL.out.2.1]; exact others_apart HNA.out HIN.out
          have HWN : Hid (wn = lprod (A i) (others A n i)) := HCL.out.2.1
          have HO9 : Hid (OwnK .u8 5 wr g g n n (fun q => ((lgf A V n i 0 q : Nat) : Int))) := OwnK.congr (HO.out.keptBelow HBr.out HO.out.base.2) fun q hq => by rw [lgf_zero]
          have HC9 : Hid (∀ q, q < n → wr.cell? ⟨gc, q, none⟩ = some (.int .u8 ((cl.getD q 0 : Nat) : Int))) := fun q hq => by
            rcases HRC.out.2 with h | ⟨b, o, e, hc⟩
            · omega
            · cases e
              have := hc q hq
              rwa [Nat.zero_add] at this
          have HBg : Hid (Below g w wr) := HBW.out _ HBr.out
          have HGCG : Hid (g < gc) := by have := HG1.out; have := HCN.out.2; show g < gc; omega
          have HBYC : Hid (bys cl) := hcl.1
          generalize wr = w9 at *
          clear wr HO HRC HBr HCL hcl hol hlj hj
          obtain ⟨vi, hvi⟩ : ∃ vi, V i = vi := ⟨_, rfl⟩
          have lvi : vi < 256 := by rw [← hvi]; exact HAB.out.2 i
          have HCV : Hid (∀ wx, Below w9.heap.size w9 wx → wx.cell? ⟨b2, o2 + i, none⟩ = some (.int .u8 (vi : Int))) := fun wx hx => by
            have b : Below g w wx := HBg.out.trans (hx.mono (Nat.le_of_lt HO9.out.base.2))
            have q1 := HC2.out wx (by rw [HG.out]; exact b) i HIN.out
            rw [hvi] at q1
            exact q1
          obtain ⟨iv, hiv⟩ : ∃ x, ginv wn = x := ⟨_, rfl⟩
          have liv : iv < 256 := by rw [← hiv]; exact ginv_lt _
          have HIV : Hid (∀ wx, Calls Try.prog 18 #[.int .u8 (wn : Int)] wx fun e w' => e = .returned (.int .u8 (iv : Int)) ∧ w' = wx) := fun wx => by rw [← hiv]; exact rinv_any wn wx hwn hwn0
          obtain ⟨s, hs⟩ : ∃ x, gm vi iv = x := ⟨_, rfl⟩
          have ls : s < 256 := by rw [← hs]; exact gm_lt _ _
          have HMS : Hid (∀ wx, Calls Try.prog 17 #[.int .u8 (vi : Int), .int .u8 (iv : Int)] wx fun e w' => e = .returned (.int .u8 (s : Int)) ∧ w' = wx) := fun wx => by rw [← hs]; exact rmul_any _ _ wx lvi liv
          have HLS : Hid (lgs A V n i = s) := by unfold Hid lgs; rw [hvi, ← HWN.out, hiv, hs]
          clear hvi hiv hs hwn0
          go_upto_region 19 with fail
          try simp only [Act.put, List.setIfInBounds_toArray, List.set_cons_zero, List.set_cons_succ]
          refine wp_region_noPanic ?_
          refine wp_region_held_drew (S := fun wx => wx.cell? ⟨b2, o2 + i, none⟩ = some (.int .u8 (vi : Int))) (by kernel_rfl) (HCV.out _ (below_drewN w9 1)) (fun hHeld => ?_)
          try simp only [Act.put, List.setIfInBounds_toArray, List.set_cons_zero, List.set_cons_succ]
          have HBdwf : Hid (Below w9.heap.size w9 w9.drew) := below_drewN w9 1
          generalize w9.drew = wf at *
          refine wpAnyH_take (i := 0) (v := .slice (some ⟨b2, o2, none⟩) n c2) (by simp only [List.getElem?_toArray, List.getElem?_cons_zero, List.getElem?_cons_succ]; rfl) (by kernel_rfl) (by kernel_rfl) (by kernel_rfl) (fun _ _ _ h => h) (Or.inl ⟨by rfl, ?_⟩) hHeld ?_
          · intro w hSw
            go_simp
          try simp only [Act.put, List.setIfInBounds_toArray, List.set_cons_zero, List.set_cons_succ]
          refine wpAnyH_take (i := 1) (v := .int .i64 (i : Int)) (by simp only [List.getElem?_toArray, List.getElem?_cons_zero, List.getElem?_cons_succ]; rfl) (by kernel_rfl) (by kernel_rfl) (by kernel_rfl) (fun _ _ _ h => h) (Or.inl ⟨by rfl, ?_⟩) hHeld ?_
          · intro w hSw
            go_simp
          try simp only [Act.put, List.setIfInBounds_toArray, List.set_cons_zero, List.set_cons_succ]
          refine wpAnyH_take (i := 2) (v := .pointer (some ⟨b2, o2 + i, none⟩)) (by simp only [List.getElem?_toArray, List.getElem?_cons_zero, List.getElem?_cons_succ]; rfl) (by kernel_rfl) (by kernel_rfl) (by kernel_rfl) (fun _ _ _ h => h) (Or.inl ⟨by rfl, ?_⟩) hHeld ?_
          · intro w hSw
            go_simp
          try simp only [Act.put, List.setIfInBounds_toArray, List.set_cons_zero, List.set_cons_succ]
          refine wpAnyH_take (i := 3) (v := .int .u8 (vi : Int)) (by simp only [List.getElem?_toArray, List.getElem?_cons_zero, List.getElem?_cons_succ]; rfl) (by kernel_rfl) (by kernel_rfl) (by kernel_rfl) (fun _ _ _ h => h) (Or.inl ⟨by rfl, ?_⟩) hHeld ?_
          · intro w hSw
            go_simp
          try simp only [Act.put, List.setIfInBounds_toArray, List.set_cons_zero, List.set_cons_succ]
          refine wpAnyH_take (i := 4) (v := .int .u8 (wn : Int)) (by simp only [List.getElem?_toArray, List.getElem?_cons_zero, List.getElem?_cons_succ]; rfl) (by kernel_rfl) (by kernel_rfl) (by kernel_rfl) (fun _ _ _ h => h) (Or.inl ⟨by rfl, ?_⟩) hHeld ?_
          · intro w hSw
            go_simp
          try simp only [Act.put, List.setIfInBounds_toArray, List.set_cons_zero, List.set_cons_succ]
          refine wpAnyH_ready (rs := [5]) (by kernel_rfl) (by simp) ?_
          refine AllReadyH.cons (by simp only [List.getElem?_toArray, List.getElem?_cons_zero, List.getElem?_cons_succ]; rfl) (fun K hK => ?_) AllReadyH.nil
          rw [if_pos (by rfl)]
          go_simp
          refine (HIV.out wf).mono ?_
          rintro e wq ⟨rfl, hq⟩
          have hq' : wf = wq := hq.symm
          subst hq'
          go_wp2_with fail
          refine hK.out _ _ hHeld (fun hHeld => ?_)
          clear hK K
          try simp only [Act.put, List.setIfInBounds_toArray, List.set_cons_zero, List.set_cons_succ]
          refine wpAnyH_ready (rs := [6]) (by kernel_rfl) (by simp) ?_
          refine AllReadyH.cons (by simp only [List.getElem?_toArray, List.getElem?_cons_zero, List.getElem?_cons_succ]; rfl) (fun K hK => ?_) AllReadyH.nil
          rw [if_pos (by rfl)]
          go_simp
          refine (HMS.out wf).mono ?_
          rintro e wq ⟨rfl, hq⟩
          have hq' : wf = wq := hq.symm
          subst hq'
          go_wp2_with fail
          refine hK.out _ _ hHeld (fun hHeld => ?_)
          clear hK K
          try simp only [Act.put, List.setIfInBounds_toArray, List.set_cons_zero, List.set_cons_succ]
          refine wpAnyH_take (i := 7) (v := .int .u8 (s : Int)) (by simp only [List.getElem?_toArray, List.getElem?_cons_zero, List.getElem?_cons_succ]; rfl) (by kernel_rfl) (by kernel_rfl) (by kernel_rfl) (fun _ _ _ h => h) (Or.inl ⟨by rfl, ?_⟩) hHeld ?_
          · intro w hSw
            go_simp
          try simp only [Act.put, List.setIfInBounds_toArray, List.set_cons_zero, List.set_cons_succ]
          refine wpAnyH_done (by kernel_rfl) (NoPanic.normal ?_) _
          clear hHeld
          have HOf : Hid (OwnK .u8 5 wf g g n n (fun q => ((lgf A V n i 0 q : Nat) : Int))) := HO9.out.keptBelow HBdwf.out HO9.out.base.2
          have HCf : Hid (∀ q, q < n → wf.cell? ⟨gc, q, none⟩ = some (.int .u8 ((cl.getD q 0 : Nat) : Int))) := fun q hq => (HBdwf.out.cell (p := ⟨gc, q, none⟩) (cell_block (HC9.out q hq))).trans (HC9.out q hq)
          have HBf : Hid (Below g w wf) := HBg.out.trans (HBdwf.out.mono (Nat.le_of_lt HO9.out.base.2))
          clear HO9 HC9 HBg HCV HIV HMS HBdwf
          go_wp2_with fail
          go_loopw [13] (fun kv wr => ∃ k : Nat, kv = .int .i64 (k : Int) ∧ k ≤ n ∧ Hid (OwnK .u8 5 wr g g n n (fun q => ((lgf A V n i k q : Nat) : Int))) ∧ Hid (∀ q, q < n → wr.cell? ⟨gc, q, none⟩ = some (.int .u8 ((cl.getD q 0 : Nat) : Int))) ∧ Hid (Below g w wr)) (fun kv _ => n - (intOf kv).toNat)
          case atStart => exact ⟨0, rfl, Nat.zero_le _, HOf.out, HCf.out, HBf.out⟩
          case round =>
            clear HOf HCf HBf
            obtain ⟨k, rfl, hk, HOk, HCk, HBk⟩ := hrel
            by_cases hlk : k < n
            · have HKN : Hid (k < n) := hlk
              have z0 : (0 : Int) ≤ (k : Int) := by omega
              have z1 : (k : Int) < (n : Int) := by omega
              obtain ⟨ck, hck⟩ : ∃ ck, cl.getD k 0 = ck := ⟨_, rfl⟩
              obtain ⟨x0, hx0⟩ : ∃ x0, lgf A V n i k k = x0 := ⟨_, rfl⟩
              have lck : ck < 256 := by rw [← hck]; exact getD_bys HBYC.out k
              have lx0 : x0 < 256 := by rw [← hx0, lgf_at]; exact getD_bys (lagr_bys HAB.out.1 n i) k
              have HCM : Hid (∀ wx, Below wr.heap.size wr wx → (wx.cell? ⟨g, k, none⟩ = some (.int .u8 (x0 : Int)) ∧ wx.cell? ⟨gc, k, none⟩ = some (.int .u8 (ck : Int))) ∧ OwnK .u8 5 wx g g n n (fun q => ((lgf A V n i k q : Nat) : Int))) := fun wx hx => by
                have ho := HOk.out.keptBelow hx HOk.out.base.2
                have q1 := ho.cell k hlk
                simp only [hx0] at q1
                have q2 := (hx.cell (p := ⟨gc, k, none⟩) (cell_block (HCk.out k hlk))).trans (HCk.out k hlk)
                rw [hck] at q2
                exact ⟨⟨q1, q2⟩, ho⟩
              obtain ⟨mm, hmm⟩ : ∃ mm, gm ck s = mm := ⟨_, rfl⟩
              have lm : mm < 256 := by rw [← hmm]; exact gm_lt _ _
              have HML : Hid (∀ wx, Calls Try.prog 17 #[.int .u8 (ck : Int), .int .u8 (s : Int)] wx fun e w' => e = .returned (.int .u8 (mm : Int)) ∧ w' = wx) := fun wx => by rw [← hmm]; exact rmul_any _ _ wx lck ls
              obtain ⟨x2, hx2⟩ : ∃ x2, x0 ^^^ mm = x2 := ⟨_, rfl⟩
              have hxo2 : bits .xor .u8 (x0 : Int) (mm : Int) = (x2 : Int) := by rw [u8_xor_nat _ _ lx0 lm, hx2]
              have HST : Hid (∀ q, lgf A V n i (k + 1) q = if q = k then x2 else lgf A V n i k q) := fun q => by
                rw [lgf_step, ← HCN.out.1, HLS.out, hck, hmm, ← lgf_at, hx0, hx2]
              clear hlk hk hck hx0 hmm hx2
              generalize wr = wa at *
              clear wr
              go_upto_region 23 with fail
              try simp only [Act.put, List.setIfInBounds_toArray, List.set_cons_zero, List.set_cons_succ]
              refine wp_region_noPanic ?_
              refine wp_region_till (S := fun wx => wx.cell? ⟨g, k, none⟩ = some (.int .u8 (x0 : Int)) ∧ wx.cell? ⟨gc, k, none⟩ = some (.int .u8 (ck : Int))) 14 (by kernel_rfl) (HCM.out _ (below_drewN wa 1)).1 (fun hHeld => ?_)
              try simp only [Act.put, List.setIfInBounds_toArray, List.set_cons_zero, List.set_cons_succ]
              have HBdwb : Hid (Below wa.heap.size wa wa.drew) := below_drewN wa 1
              generalize wa.drew = wb at *
              refine wpAnyT_take (i := 0) (v := .slice (some ⟨g, 0, none⟩) n n) (by simp only [List.getElem?_toArray, List.getElem?_cons_zero, List.getElem?_cons_succ]; rfl) (by kernel_rfl) (by kernel_rfl) (by kernel_rfl) (by kernel_rfl) (fun _ _ _ h => h) (Or.inl ⟨by rfl, ?_⟩) hHeld ?_
              · intro w hSw
                obtain ⟨hSw0, hSw1⟩ := hSw
                go_simp
              try simp only [Act.put, List.setIfInBounds_toArray, List.set_cons_zero, List.set_cons_succ]
              refine wpAnyT_take (i := 1) (v := .int .i64 (k : Int)) (by simp only [List.getElem?_toArray, List.getElem?_cons_zero, List.getElem?_cons_succ]; rfl) (by kernel_rfl) (by kernel_rfl) (by kernel_rfl) (by kernel_rfl) (fun _ _ _ h => h) (Or.inl ⟨by rfl, ?_⟩) hHeld ?_
              · intro w hSw
                obtain ⟨hSw0, hSw1⟩ := hSw
                go_simp
              try simp only [Act.put, List.setIfInBounds_toArray, List.set_cons_zero, List.set_cons_succ]
              refine wpAnyT_take (i := 2) (v := .slice (some ⟨g, 0, none⟩) n n) (by simp only [List.getElem?_toArray, List.getElem?_cons_zero, List.getElem?_cons_succ]; rfl) (by kernel_rfl) (by kernel_rfl) (by kernel_rfl) (by kernel_rfl) (fun _ _ _ h => h) (Or.inl ⟨by rfl, ?_⟩) hHeld ?_
              · intro w hSw
                obtain ⟨hSw0, hSw1⟩ := hSw
                go_simp
              try simp only [Act.put, List.setIfInBounds_toArray, List.set_cons_zero, List.set_cons_succ]
              refine wpAnyT_take (i := 3) (v := .int .i64 (k : Int)) (by simp only [List.getElem?_toArray, List.getElem?_cons_zero, List.getElem?_cons_succ]; rfl) (by kernel_rfl) (by kernel_rfl) (by kernel_rfl) (by kernel_rfl) (fun _ _ _ h => h) (Or.inl ⟨by rfl, ?_⟩) hHeld ?_
              · intro w hSw
                obtain ⟨hSw0, hSw1⟩ := hSw
                go_simp
              try simp only [Act.put, List.setIfInBounds_toArray, List.set_cons_zero, List.set_cons_succ]
              refine wpAnyT_take (i := 4) (v := .pointer (some ⟨g, k, none⟩)) (by simp only [List.getElem?_toArray, List.getElem?_cons_zero, List.getElem?_cons_succ]; rfl) (by kernel_rfl) (by kernel_rfl) (by kernel_rfl) (by kernel_rfl) (fun _ _ _ h => h) (Or.inl ⟨by rfl, ?_⟩) hHeld ?_
              · intro w hSw
                obtain ⟨hSw0, hSw1⟩ := hSw
                go_simp
              try simp only [Act.put, List.setIfInBounds_toArray, List.set_cons_zero, List.set_cons_succ]
              refine wpAnyT_take (i := 5) (v := .int .u8 (x0 : Int)) (by simp only [List.getElem?_toArray, List.getElem?_cons_zero, List.getElem?_cons_succ]; rfl) (by kernel_rfl) (by kernel_rfl) (by kernel_rfl) (by kernel_rfl) (fun _ _ _ h => h) (Or.inl ⟨by rfl, ?_⟩) hHeld ?_
              · intro w hSw
                obtain ⟨hSw0, hSw1⟩ := hSw
                go_simp
              try simp only [Act.put, List.setIfInBounds_toArray, List.set_cons_zero, List.set_cons_succ]
              refine wpAnyT_take (i := 6) (v := .slice (some ⟨gc, 0, none⟩) n n) (by simp only [List.getElem?_toArray, List.getElem?_cons_zero, List.getElem?_cons_succ]; rfl) (by kernel_rfl) (by kernel_rfl) (by kernel_rfl) (by kernel_rfl) (fun _ _ _ h => h) (Or.inl ⟨by rfl, ?_⟩) hHeld ?_
              · intro w hSw
                obtain ⟨hSw0, hSw1⟩ := hSw
                go_simp
              try simp only [Act.put, List.setIfInBounds_toArray, List.set_cons_zero, List.set_cons_succ]
              refine wpAnyT_take (i := 7) (v := .int .i64 (k : Int)) (by simp only [List.getElem?_toArray, List.getElem?_cons_zero, List.getElem?_cons_succ]; rfl) (by kernel_rfl) (by kernel_rfl) (by kernel_rfl) (by kernel_rfl) (fun _ _ _ h => h) (Or.inl ⟨by rfl, ?_⟩) hHeld ?_
              · intro w hSw
                obtain ⟨hSw0, hSw1⟩ := hSw
                go_simp
              try simp only [Act.put, List.setIfInBounds_toArray, List.set_cons_zero, List.set_cons_succ]
              refine wpAnyT_take (i := 8) (v := .pointer (some ⟨gc, k, none⟩)) (by simp only [List.getElem?_toArray, List.getElem?_cons_zero, List.getElem?_cons_succ]; rfl) (by kernel_rfl) (by kernel_rfl) (by kernel_rfl) (by kernel_rfl) (fun _ _ _ h => h) (Or.inl ⟨by rfl, ?_⟩) hHeld ?_
              · intro w hSw
                obtain ⟨hSw0, hSw1⟩ := hSw
                go_simp
              try simp only [Act.put, List.setIfInBounds_toArray, List.set_cons_zero, List.set_cons_succ]
              refine wpAnyT_take (i := 9) (v := .int .u8 (ck : Int)) (by simp only [List.getElem?_toArray, List.getElem?_cons_zero, List.getElem?_cons_succ]; rfl) (by kernel_rfl) (by kernel_rfl) (by kernel_rfl) (by kernel_rfl) (fun _ _ _ h => h) (Or.inl ⟨by rfl, ?_⟩) hHeld ?_
              · intro w hSw
                obtain ⟨hSw0, hSw1⟩ := hSw
                go_simp
              try simp only [Act.put, List.setIfInBounds_toArray, List.set_cons_zero, List.set_cons_succ]
              refine wpAnyT_take (i := 10) (v := .int .u8 (s : Int)) (by simp only [List.getElem?_toArray, List.getElem?_cons_zero, List.getElem?_cons_succ]; rfl) (by kernel_rfl) (by kernel_rfl) (by kernel_rfl) (by kernel_rfl) (fun _ _ _ h => h) (Or.inl ⟨by rfl, ?_⟩) hHeld ?_
              · intro w hSw
                obtain ⟨hSw0, hSw1⟩ := hSw
                go_simp
              try simp only [Act.put, List.setIfInBounds_toArray, List.set_cons_zero, List.set_cons_succ]
              refine wpAnyT_ready (rs := [11]) (by kernel_rfl) (by simp) ?_
              refine AllReadyT.cons (by simp only [List.getElem?_toArray, List.getElem?_cons_zero, List.getElem?_cons_succ]; rfl) (fun K hK => ?_) AllReadyT.nil
              rw [if_pos (by rfl)]
              go_simp
              refine (HML.out wb).mono ?_
              rintro e wq ⟨rfl, hq⟩
              have hq' : wb = wq := hq.symm
              subst hq'
              go_wp2_with fail
              refine hK.out _ _ hHeld (fun hHeld => ?_)
              clear hK K
              try simp only [Act.put, List.setIfInBounds_toArray, List.set_cons_zero, List.set_cons_succ]
              refine wpAnyT_take (i := 12) (v := .int .u8 (x2 : Int)) (by simp only [List.getElem?_toArray, List.getElem?_cons_zero, List.getElem?_cons_succ]; rfl) (by kernel_rfl) (by kernel_rfl) (by kernel_rfl) (by kernel_rfl) (fun _ _ _ h => h) (Or.inl ⟨by rfl, ?_⟩) hHeld ?_
              · intro w hSw
                obtain ⟨hSw0, hSw1⟩ := hSw
                go_simp
              try simp only [Act.put, List.setIfInBounds_toArray, List.set_cons_zero, List.set_cons_succ]
              refine wpAnyT_take (i := 13) (v := .pointer (some ⟨g, k, none⟩)) (by simp only [List.getElem?_toArray, List.getElem?_cons_zero, List.getElem?_cons_succ]; rfl) (by kernel_rfl) (by kernel_rfl) (by kernel_rfl) (by kernel_rfl) (fun _ _ _ h => h) (Or.inl ⟨by rfl, ?_⟩) hHeld ?_
              · intro w hSw
                obtain ⟨hSw0, hSw1⟩ := hSw
                go_simp
              try simp only [Act.put, List.setIfInBounds_toArray, List.set_cons_zero, List.set_cons_succ]
              refine wpAnyT_ready (rs := [14]) (by kernel_rfl) (by simp) ?_
              refine AllReadyT.lastly (by simp only [List.getElem?_toArray, List.getElem?_cons_zero, List.getElem?_cons_succ]; rfl) rfl (fun K hK => ?_) AllReadyT.nil
              rw [if_pos (by rfl)]
              have c9 := (HCM.out _ HBdwb.out).1.1
              have f9 := (HCM.out _ HBdwb.out).2.frozen k
              go_simp
              refine hK.out _ _ ?_
              clear hK K
              try simp only [Act.put, List.setIfInBounds_toArray, List.set_cons_zero, List.set_cons_succ]
              refine wpAnyT_done (by kernel_rfl) (NoPanic.normal ?_) _
              have HNb := OwnK.store (HCM.out _ HBdwb.out).2 k ((x2 : Nat) : Int)
              have HOb : Hid (OwnK .u8 5 (wb.setCell ⟨g, k, none⟩ (.int .u8 (x2 : Int))) g g n n (fun q => ((lgf A V n i (k + 1) q : Nat) : Int))) := by
                refine OwnK.congr HNb fun q hq => ?_
                have := HST.out q
                by_cases h1 : q = k
                · rw [if_pos h1] at this
                  simp only [if_pos h1, this]
                · rw [if_neg h1] at this
                  simp only [if_neg h1, this]
              have HCb : Hid (∀ q, q < n → (wb.setCell ⟨g, k, none⟩ (.int .u8 (x2 : Int))).cell? ⟨gc, q, none⟩ = some (.int .u8 ((cl.getD q 0 : Nat) : Int))) := fun q hq => by
                have c := (HBdwb.out.cell (p := ⟨gc, q, none⟩) (cell_block (HCk.out q hq))).trans (HCk.out q hq)
                have e := World.cell?_setCell_other wb ⟨g, k, none⟩ ⟨gc, q, none⟩ (.int .u8 (x2 : Int)) (by
                  intro e
                  have := congrArg Addr.block e
                  have := HGCG.out
                  simp only at *
                  omega)
                exact e.trans c
              have HBb : Hid (Below g w (wb.setCell ⟨g, k, none⟩ (.int .u8 (x2 : Int)))) := (HBk.out.trans (HBdwb.out.mono (Nat.le_of_lt HOk.out.base.2))).setCell (Nat.le_refl _) _
              clear HNb c9 f9 hHeld HCM
              generalize wb.setCell ⟨g, k, none⟩ (.int .u8 (x2 : Int)) = wc at *
              go_wp2_with fail
              go_roundw
              case rel => exact ⟨k + 1, by go_num, HKN.out, HOb.out, HCb.out, HBb.out⟩
              case measure => have := HKN.out; simp [intOf]; omega
            · have hkn : n = k := by omega
              subst hkn
              have g5 : ¬ (n : Int) < (n : Int) := by omega
              have HOn : Hid (OwnK .u8 5 wr g g n n (fun q => (((lagr A V n (i + 1)).getD q 0 : Nat) : Int))) := OwnK.congr HOk.out fun q hq => by rw [lgf_end A V n i q hq]
              have hin2 := HIN.out
              clear HOk HCk hlk hk
              go_wp2_with fail
              go_roundw
              case rel => exact ⟨i + 1, by go_num, by omega, HOn.out, HBk.out⟩
              case measure => simp [intOf]; omega
    · have hin : i = n := by omega
      subst hin
      have g2 : ¬ (i : Int) < (i : Int) := by omega
      have HR : Hid (RowK .u8 wr (some ⟨g, 0, none⟩) i (lagr A V i i)) := OwnK.row HO.out (lagr_len HAB.out.1 i i (Nat.le_refl _)) (fun q hq => rfl)
      clear HO hlt
      go_wp2_with fail
      go_ret
      exact ⟨⟨g, rfl, by rw [HG.out]; exact Nat.le_refl _, HR.out⟩, by rw [HG.out]; exact HB.out⟩
end Go.Proofs.Ytnffmegicgbinaa
