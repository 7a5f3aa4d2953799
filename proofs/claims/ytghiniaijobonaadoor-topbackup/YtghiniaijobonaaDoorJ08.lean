/- Texts of this claim, joined: Build, OwnSh, OpenR, OpenSh. -/
import Derived.Test.YtghiniaijobonaaDoorJ07
import Derived.Test.YtghiniaijobonaaDoorJ02
import Derived.Test.YtghiniaijobonaaDoorJ03
import Derived.Test.YtghiniaijobonaaDoorJ01
import Derived.Deep.Slices
import Derived.SizedLaws
/- Slices of digests that a literal lays. -/
namespace Go.Proofs.YtghiniaijobonaaDoor
open Go.RowKit
set_option linter.unusedVariables false
set_option linter.unusedSimpArgs false

theorem fold_set (off : Nat) : ∀ (l : List Value) (j : Nat) (b : Array Value), off + j + l.length ≤ b.size →
    ((l.zipIdx j).foldl (fun cs (x : Value × Nat) => cs.setIfInBounds (off + x.2) x.1) b).toList = b.toList.take (off + j) ++ l ++ b.toList.drop (off + j + l.length)
  | [], j, b, h => by simp
  | c :: r, j, b, h => by
    rw [List.zipIdx_cons, List.foldl_cons, fold_set off r (j + 1) _ (by simp; simp at h; omega)]
    simp only [Array.toList_setIfInBounds]
    have hlt : off + j < b.toList.length := by simp at h ⊢; omega
    have e1 : (b.toList.set (off + j) c).take (off + (j + 1)) = b.toList.take (off + j) ++ [c] := by
      rw [show off + (j + 1) = off + j + 1 from by omega, List.take_succ_eq_append_getElem (by simpa using hlt)]
      rw [List.take_set_of_le (Nat.le_refl _)]
      simp
    have e2 : (b.toList.set (off + j) c).drop (off + (j + 1) + r.length) = b.toList.drop (off + j + (c :: r).length) := by
      rw [List.drop_set_of_lt (by omega)]
      congr 1
      simp; omega
    rw [e1, e2]
    simp
theorem fill_digests : ∀ (ls : List (List UInt8)) (k : Nat) (b : Array Value), (∀ l ∈ ls, l.length = 32) → b.size = 32 * (k + ls.length) →
    ∃ r : Array Value, Instr.fill (fun i => some (i * 32, 32)) b ((ls.zipIdx k).map fun x => (x.2, digestV x.1)) = some r ∧ r.toList = b.toList.take (32 * k) ++ cellsB ls.flatten
  | [], k, b, _, hb => ⟨b, rfl, by simp at hb; rw [List.take_of_length_le (by simp; omega)]; simp [cellsB]⟩
  | l :: ls, k, b, hl, hb => by
    have h32 : l.length = 32 := hl l (List.mem_cons_self ..)
    have hsz : (digestV l).cells.size = 32 := by
      show (cellsB l).toArray.size = 32
      exact cells32 h32
    have hlen : (cellsB l).length = 32 := by rw [cellsB_length, h32]
    let b' := (digestV l).cells.zipIdx.foldl (fun cs (x : Value × Nat) => cs.setIfInBounds (k * 32 + x.2) x.1) b
    have hb' : b'.toList = b.toList.take (k * 32) ++ cellsB l ++ b.toList.drop (k * 32 + 32) := by
      have := fold_set (k * 32) (cellsB l) 0 b (by simp at hb; omega)
      rw [Nat.add_zero, hlen] at this
      rw [← this]
      show ((cellsB l).toArray.zipIdx.foldl _ b).toList = _
      rw [← Array.foldl_toList, Array.toList_zipIdx]
    have hbs : b'.size = b.size := by
      rw [← Array.length_toList, hb']
      simp [hlen]
      simp at hb
      omega
    obtain ⟨r, hr, hrl⟩ := fill_digests ls (k + 1) b' (fun x hx => hl x (List.mem_cons_of_mem _ hx)) (by rw [hbs, hb]; simp; omega)
    refine ⟨r, ?_, ?_⟩
    · rw [List.zipIdx_cons, List.map_cons]
      unfold Instr.fill
      simp only
      rw [if_neg (by simp only [hsz]; simp; simp at hb; omega)]
      exact hr
    · rw [hrl, hb', List.flatten_cons, cellsB_append]
      have e : 32 * (k + 1) = (b.toList.take (k * 32) ++ cellsB l).length := by simp [hlen]; simp at hb; omega
      rw [e, List.take_left, List.append_assoc, Nat.mul_comm k 32]

section
variable {P : Program}
/-- 'a literal of digests': a new row that reads as they do. -/
theorem run_buildD (w : World) (t e : TypeId) (z : Value) (i : TypeInfo) (ls : List (List UInt8)) (hls : ∀ l ∈ ls, l.length = 32) (h0 : 0 < ls.length) (hn : ls.length ≤ 10000) (ht : P.underlying t = some (.slice e)) (hi : P.info? e = some i) (hz : i.zero = some z) (hzs : z.cells.size = 32) (hsize : i.size = 32) :
    (Instr.buildSlice t ls.length ((ls.zipIdx 0).map fun x => (x.2, digestV x.1)).toArray).run P w = .ok (.slice (some ⟨w.heap.size, 0, none⟩) ls.length ls.length) (w.alloc (.cells (cellsB ls.flatten).toArray e)) := by
  obtain ⟨r, hr, hrl⟩ := fill_digests ls 0 ((Array.range (ls.length * 32)).map (z.cells[· % z.cells.size]!)) hls (by simp; omega)
  have hr' : r = (cellsB ls.flatten).toArray := by
    rw [← Array.toArray_toList (xs := r), hrl]
    simp
  subst hr'
  rw [hzs] at hr
  have hne : ¬ ls.length * 32 = 0 := by omega
  simp [Instr.buildSlice, run_underlying ht, sizeOf, typeInfo, hi, hsize, zeroValue, hz, hr, newRow, hzs, show ¬ (16777216 < ls.length * 32) by omega, hne]
/-- .. as a step of a walk, of one digest. -/
theorem wpList_build1 {w : World} {ops : Array Oper} {rest : List Oper} {o : Oper} {a : Act} {Q : Exit → Act → World → Prop} (hgd : o.guard = none) (x : Operand) (t : TypeId) (ho : o.op = .buildSlice t 1 #[(0, x)])
    (e : TypeId) (z : Value) (i : TypeInfo) (l : List UInt8) (hl : l.length = 32) (hx : a.eval x = digestV l) (ht : P.underlying t = some (.slice e)) (hi : P.info? e = some i) (hz : i.zero = some z) (hzs : z.cells.size = 32) (hsize : i.size = 32)
    (h : wpList P ops Q rest (a.put o.dst (.slice (some ⟨w.heap.size, 0, none⟩) 1 1)) (w.alloc (.cells (cellsB l).toArray e))) : wpList P ops Q (o :: rest) a w := by
  have hrun := run_buildD (P := P) w t e z i [l] (by intro q hq; rw [List.mem_singleton] at hq; rw [hq]; exact hl) (by simp) (by simp) ht hi hz hzs hsize
  simp only [List.length_singleton, List.zipIdx_cons, List.zipIdx_nil, List.map_cons, List.map_nil, List.flatten_cons, List.flatten_nil, List.append_nil] at hrun
  refine wpList_plain hgd fun K hK' => ?_
  unfold Oper.wp
  simp [execOp, ho, hx, hrun, Result.andThen]
  exact hK' _ _ h
/-- .. of two. -/
theorem wpList_build2 {w : World} {ops : Array Oper} {rest : List Oper} {o : Oper} {a : Act} {Q : Exit → Act → World → Prop} (hgd : o.guard = none) (x y : Operand) (t : TypeId) (ho : o.op = .buildSlice t 2 #[(0, x), (1, y)])
    (e : TypeId) (z : Value) (i : TypeInfo) (l r : List UInt8) (hl : l.length = 32) (hr : r.length = 32) (hx : a.eval x = digestV l) (hy : a.eval y = digestV r) (ht : P.underlying t = some (.slice e)) (hi : P.info? e = some i) (hz : i.zero = some z) (hzs : z.cells.size = 32) (hsize : i.size = 32)
    (h : wpList P ops Q rest (a.put o.dst (.slice (some ⟨w.heap.size, 0, none⟩) 2 2)) (w.alloc (.cells (cellsB (l ++ r)).toArray e))) : wpList P ops Q (o :: rest) a w := by
  have hrun := run_buildD (P := P) w t e z i [l, r] (by intro q hq; simp only [List.mem_cons, List.not_mem_nil, or_false] at hq; rcases hq with rfl | rfl <;> assumption) (by simp) (by simp) ht hi hz hzs hsize
  simp only [List.length_cons, List.length_nil, List.zipIdx_cons, List.zipIdx_nil, List.map_cons, List.map_nil, List.flatten_cons, List.flatten_nil, List.append_nil, Nat.zero_add, Nat.reduceAdd] at hrun
  refine wpList_plain hgd fun K hK' => ?_
  unfold Oper.wp
  simp [execOp, ho, hx, hy, hrun, Result.andThen]
  exact hK' _ _ h
end
theorem cells_new (w : World) (cs : List Value) (t : TypeId) (j : Nat) : (w.alloc (.cells cs.toArray t)).cell? ⟨w.heap.size, j, none⟩ = cs[j]? := by
  have h : (w.alloc (.cells cs.toArray t)).heap[w.heap.size]? = some (.cells cs.toArray t) := by
    show (w.heap.push _)[w.heap.size]? = _
    simp
  unfold World.cell?
  rw [h]
  simp
theorem DRow.lit1 (w : World) (l : List UInt8) (t : TypeId) (hl : l.length = 32) : DRow (w.alloc (.cells (cellsB l).toArray t)) (some ⟨w.heap.size, 0, none⟩) 1 [l] := by
  refine ⟨rfl, by intro q hq; rw [List.mem_singleton] at hq; rw [hq]; exact hl, .inr ⟨w.heap.size, 0, rfl, fun i hi => ?_⟩⟩
  obtain rfl : i = 0 := by omega
  exact box_dat w l t
theorem DRow.lit2 (w : World) (l r : List UInt8) (t : TypeId) (hl : l.length = 32) (hr : r.length = 32) : DRow (w.alloc (.cells (cellsB (l ++ r)).toArray t)) (some ⟨w.heap.size, 0, none⟩) 2 [l, r] := by
  refine ⟨rfl, by intro q hq; simp only [List.mem_cons, List.not_mem_nil, or_false] at hq; rcases hq with rfl | rfl <;> assumption, .inr ⟨w.heap.size, 0, rfl, fun i hi => ?_⟩⟩
  have : i = 0 ∨ i = 1 := by omega
  rcases this with rfl | rfl
  · refine DAt.mk fun j hj => ?_
    have hj' : j < l.length := hj
    rw [show 0 + 32 * 0 + j = j from by omega, cells_new, cellsB_append, List.getElem?_append_left (by rw [cellsB_length]; exact hj'), cellsB_at l j hj']
    rfl
  · refine DAt.mk fun j hj => ?_
    have hj' : j < r.length := hj
    rw [show 0 + 32 * 1 + j = 32 + j from by omega, cells_new, cellsB_append, List.getElem?_append_right (by rw [cellsB_length]; omega), cellsB_length, hl, show 32 + j - 32 = j from by omega, cellsB_at r j hj']
    rfl
end Go.Proofs.YtghiniaijobonaaDoor
/- Rows of shares that a call itself made: a literal of one, append of one. -/
namespace Go.Proofs.YtghiniaijobonaaDoor
open Go.RowKit
set_option linter.unusedVariables false
set_option linter.unusedSimpArgs false

/-- A share as it lies: its place, and where its bytes are. -/
abbrev Hdr := Nat × Option Addr × Nat × Nat
def noH : Hdr := (0, none, 0, 0)
def hdC (h : Hdr) : List Value := [.int .u8 (h.1 : Int), .slice h.2.1 h.2.2.1 h.2.2.2]
def hdV (h : Hdr) : Value := .agg #[.int .u8 (h.1 : Int), .slice h.2.1 h.2.2.1 h.2.2.2]
theorem hdC_length (h : Hdr) : (hdC h).length = 2 := rfl
theorem hdC_one (h : Hdr) : ∀ u ∈ hdC h, u.oneCell' = true := fun u hu => by
  unfold hdC at hu
  rcases List.mem_cons.1 hu with rfl | hu
  · rfl
  · rw [List.mem_singleton.1 hu]; rfl
def flatH (hs : List Hdr) : List Value := (hs.map hdC).flatten
theorem flatH_append (es fs : List Hdr) : flatH (es ++ fs) = flatH es ++ flatH fs := by simp [flatH]
theorem flatH_len (hs : List Hdr) : (flatH hs).length = 2 * hs.length := by
  induction hs with
  | nil => rfl
  | cons e r ih =>
    unfold flatH at *
    rw [List.map_cons, List.flatten_cons, List.length_append, ih, hdC_length, List.length_cons]
    omega
theorem flatH_at : ∀ (hs : List Hdr) (i j : Nat), i < hs.length → j < 2 → (flatH hs)[2 * i + j]? = (hdC (hs.getD i noH))[j]?
  | [], i, j, hi, _ => by simp at hi
  | e :: r, 0, j, hi, hj => by
    unfold flatH
    rw [List.map_cons, List.flatten_cons, Nat.mul_zero, Nat.zero_add, List.getElem?_append_left (by rw [hdC_length]; exact hj)]
    rfl
  | e :: r, i + 1, j, hi, hj => by
    have ih := flatH_at r i j (by simpa using hi) hj
    have he := hdC_length e
    unfold flatH at *
    rw [List.map_cons, List.flatten_cons, List.getElem?_append_right (by omega), he, show 2 * (i + 1) + j - 2 = 2 * i + j by omega, ih]
    rfl
theorem flatH_cells (hs : List Hdr) : ∀ u ∈ flatH hs, u.oneCell' = true := fun u hu => by
  unfold flatH at hu
  obtain ⟨l, hl, hu⟩ := List.mem_flatten.1 hu
  obtain ⟨e, _, rfl⟩ := List.mem_map.1 hl
  exact hdC_one e u hu
/-- What lies there is the share. -/
def DatH (w : World) (h : Hdr) (s : Shr) : Prop := h.1 = s.1 ∧ s.1 < 256 ∧ h.2.2.1 ≤ h.2.2.2 ∧ h.2.2.1 ≤ 140737488351232 ∧ Row w h.2.1 h.2.2.1 s.2
/-- Its bytes lie in another block. -/
def ApartH (h : Hdr) (row : Option Nat) : Prop := h.2.2.1 = 0 ∨ ∀ ad, h.2.1 = some ad → row ≠ some ad.block
theorem row_grown {w w' : World} {row : Option Nat} {a : Option Addr} {n : Nat} {l : List UInt8} (h : Row w a n l) (hg : w.grownBy w' row) (hne : n = 0 ∨ ∀ ad, a = some ad → row ≠ some ad.block) : Row w' a n l := by
  refine ⟨h.1, ?_⟩
  rcases h.2 with h0 | ⟨b, o, ha, hc⟩
  · exact .inl h0
  · rcases hne with h0 | hne
    · exact .inl h0
    · refine .inr ⟨b, o, ha, fun i hi => ?_⟩
      have c := hc i hi
      have hb := cell_block c
      exact (World.cell?_of_block (w := w) (hg.block b hb (fun e => hne _ ha e.symm))).trans c
theorem DatH.grown {w w' : World} {row : Option Nat} {h : Hdr} {s : Shr} (d : DatH w h s) (hg : w.grownBy w' row) (hne : ApartH h row) : DatH w' h s := ⟨d.1, d.2.1, d.2.2.1, d.2.2.2.1, row_grown d.2.2.2.2 hg hne⟩
theorem DatH.below {w w' : World} {h : Hdr} {s : Shr} (d : DatH w h s) (hb : Below w.heap.size w w') : DatH w' h s := ⟨d.1, d.2.1, d.2.2.1, d.2.2.2.1, d.2.2.2.2.below hb⟩
theorem DatH.next {w : World} {h : Hdr} {s : Shr} (d : DatH w h s) : ApartH h (some w.heap.size) := by
  rcases d.2.2.2.2.2 with h0 | ⟨b, o, ha, hc⟩
  · exact .inl h0
  · by_cases h0 : h.2.2.1 = 0
    · exact .inl h0
    · refine .inr fun ad e => ?_
      rw [ha] at e
      cases e
      have := cell_block (hc 0 (by omega))
      intro e
      have := Option.some.inj e
      simp only at this
      omega
theorem DatH.sat {w : World} {h : Hdr} {s : Shr} {b o : Nat} (d : DatH w h s) (hc : ∀ j v, (hdC h)[j]? = some v → w.cell? ⟨b, o + j, none⟩ = some v) : SAt w b o s := by
  obtain ⟨h1, h2, h3, h4, h5⟩ := d
  refine ⟨h2, ?_, h.2.1, h.2.2.1, h.2.2.2, hc 1 _ rfl, h3, h4, h5⟩
  rw [← h1]
  exact hc 0 _ rfl
/-- The call's own slice of shares v reads as ss. -/
def OwnS (w : World) (B : Nat) (v : Value) (ss : List Shr) : Prop :=
  ∃ hs : List Hdr, hs.length = ss.length ∧ w.ownsRow B 37 2 v ss.length (flatH hs) ∧ ∀ i, i < ss.length → DatH w (hs.getD i noH) (ss.getD i noS) ∧ ApartH (hs.getD i noH) v.ownBlock
theorem OwnS.nil (w : World) (B : Nat) : OwnS w B (.slice none 0 0) [] := ⟨[], rfl, World.ownsRow_nil _ _ _ _, fun i hi => absurd hi (by simp)⟩
theorem OwnS.form {w : World} {B : Nat} {v : Value} {ss : List Shr} (h : OwnS w B v ss) : ∃ a cap, v = .slice a ss.length cap ∧ SRow w a ss.length ss ∧ ss.length ≤ cap := by
  obtain ⟨hs, hl, h, hd⟩ := h
  rcases h.2 with ⟨rfl, h0⟩ | ⟨g, cap, cur, rfl, h1, h2, h3, _⟩
  · exact ⟨none, 0, by rw [h0], ⟨rfl, .inl h0⟩, by omega⟩
  · refine ⟨_, cap, rfl, ⟨rfl, .inr ⟨g, 0, rfl, fun i hi => (hd i hi).1.sat fun j v hj => ?_⟩⟩, h3⟩
    have hlt := (List.getElem?_eq_some_iff.1 hj).1
    rw [hdC_length] at hlt
    rw [show 0 + i * 2 + j = 2 * i + j by omega, World.ownsRow.cellAt h (2 * i + j) (by omega), flatH_at hs i j (by omega) hlt, hj]
theorem OwnS.below {w w' : World} {B : Nat} {v : Value} {ss : List Shr} (h : OwnS w B v ss) (hb : Below w.heap.size w w') : OwnS w' B v ss := by
  obtain ⟨hs, hl, h, hd⟩ := h
  refine ⟨hs, hl, ?_, fun i hi => ⟨(hd i hi).1.below hb, (hd i hi).2⟩⟩
  rcases h.2 with ⟨h1, h0⟩ | ⟨g, cap, cur, e1, e2, e3, e4⟩
  · exact ⟨h.1, .inl ⟨h1, h0⟩⟩
  · have hg : g < w.heap.size := (World.ownsRow.lt h g (by rw [e1]; rfl)).2
    exact ⟨h.1, .inr ⟨g, cap, cur, e1, e2, (hb.block g hg).trans e3, e4⟩⟩
theorem OwnS.lt {w : World} {B : Nat} {v : Value} {ss : List Shr} (h : OwnS w B v ss) (g : Nat) (hg : v.ownBlock = some g) : B ≤ g ∧ g < w.heap.size := by
  obtain ⟨hs, hl, h, hd⟩ := h
  exact World.ownsRow.lt h g hg
theorem OwnS.grown {w w0 w' : World} {B B0 : Nat} {v : Value} {ss : List Shr} (h : OwnS w B v ss) (hb : Below B0 w0 w) (hg : w.grownBy w' v.ownBlock) (h0 : B0 ≤ B) (hs : B0 ≤ w.heap.size) : Below B0 w0 w' :=
  hb.grown hg hs (fun k hk => Nat.le_trans h0 (h.lt k hk).1)
theorem OwnS.alloc {w : World} {B : Nat} {v : Value} {ss : List Shr} (h : OwnS w B v ss) (o : Obj) : OwnS (w.alloc o) B v ss := h.below ((Below.refl _ _).alloc (Nat.le_refl _) _)
theorem Tryd.infoSh : (Tryd.prog.info? 37).map (fun i => (i.zero, i.size, i.bytes)) = some (some (.agg #[.int .u8 0, .slice none 0 0]), 2, 32) := by kernel_rfl
theorem Tryd.sizeSh : (Tryd.prog.info? 37).map (·.size) = some 2 := by kernel_rfl
theorem Tryd.zeroSh : (Tryd.prog.info? 37).map (·.zero) = some (some (.agg #[.int .u8 0, .slice none 0 0])) := by kernel_rfl
/-- 'append(v, s)', v the call's own row of shares. -/
theorem wpList_append_share {w : World} {ops : Array Oper} {rest : List Oper} {o : Oper} {a : Act} {Q : Exit → Act → World → Prop} (hgd : o.guard = none) (s x : Operand)
    (ho : o.op = .call { callee := .builtin .append, args := #[s, x], argTypes := #[30, 30] })
    (base : Nat) (v : Value) (ss : List Shr) (hs : a.eval s = v) (hown : OwnS w base v ss)
    (b off c : Nat) (hd : Hdr) (t : Shr) (hx : a.eval x = .slice (some ⟨b, off, none⟩) 1 c) (hr : ∀ j u, (hdC hd)[j]? = some u → w.cell? ⟨b, off + j, none⟩ = some u) (hdat : DatH w hd t) (hap : ApartH hd v.ownBlock) (h47 : (ss.length + 1) * 32 ≤ 140737488355328) (hbase : base ≤ w.heap.size)
    (h : ∀ v' w', OwnS w' base v' (ss ++ [t]) → w.grownBy w' v.ownBlock → (v'.ownBlock = v.ownBlock ∨ v'.ownBlock = some w.heap.size) → wpList Tryd.prog ops Q rest (a.put o.dst v') w') : wpList Tryd.prog ops Q (o :: rest) a w := by
  obtain ⟨i0, hi, hz0, hz1, hz2⟩ := info_parts Tryd.infoSh
  obtain ⟨hs', hl, hrow, hd'⟩ := hown
  refine wpList_append_own_at w hgd s x 30 ho base 37 i0 (.agg #[.int .u8 0, .slice none 0 0]) 2 32 Tryd.underlying30 hi hz0 hz1 hz2 rfl (by decide) v ss.length (flatH hs') hs hrow ⟨b, off, none⟩ 1 c (hdC hd) hx rfl ?_ (hdC_one hd) (by unfold maxLen; omega) h47 hbase ?_
  · intro j u hj
    rw [Go.WideShapes.add_plain]
    exact hr j u hj
  · intro v' w' hown' hgrow _ hat
    refine h v' w' ⟨hs' ++ [hd], by simp [hl], ?_, ?_⟩ hgrow hat
    · rw [List.length_append, flatH_append]
      have e : flatH [hd] = hdC hd := by simp [flatH]
      rw [e]
      exact hown'
    · intro i hi2
      have key : ∀ (k : Hdr) (u : Shr), DatH w k u → ApartH k v.ownBlock → DatH w' k u ∧ ApartH k v'.ownBlock := fun k u d ap => by
        refine ⟨d.grown hgrow ap, ?_⟩
        rcases hat with e | e
        · rw [e]; exact ap
        · rw [e]; exact d.next
      rw [List.length_append, List.length_singleton] at hi2
      by_cases c1 : i < ss.length
      · have g1 : (hs' ++ [hd]).getD i noH = hs'.getD i noH := by simp only [List.getD_eq_getElem?_getD, List.getElem?_append_left (show i < hs'.length by omega)]
        have g2 : (ss ++ [t]).getD i noS = ss.getD i noS := by simp only [List.getD_eq_getElem?_getD, List.getElem?_append_left c1]
        rw [g1, g2]
        exact key _ _ (hd' i c1).1 (hd' i c1).2
      · have ei : i = ss.length := by omega
        have g1 : (hs' ++ [hd]).getD i noH = hd := by simp only [List.getD_eq_getElem?_getD]; rw [ei, ← hl]; simp
        have g2 : (ss ++ [t]).getD i noS = t := by simp only [List.getD_eq_getElem?_getD]; rw [ei]; simp
        rw [g1, g2]
        exact key _ _ hdat hap
theorem fill_oneS (cs : List Value) (b : Array Value) (n : Nat) (hb : b.size = n) (hc : cs.length = n) : Instr.fill (fun i => some (i * n, n)) b [(0, .agg cs.toArray)] = some cs.toArray := by
  have h1 : (Value.agg cs.toArray).cells.size = n := hc
  have hb' : (Value.agg cs.toArray).cells.zipIdx.foldl (fun cs (x : Value × Nat) => cs.setIfInBounds (0 * n + x.2) x.1) b = cs.toArray := by
    apply Array.ext'
    have := fold_set (0 * n) cs 0 b (by omega)
    rw [Nat.add_zero, Nat.zero_mul, List.take_zero, List.nil_append, Nat.zero_add, List.drop_of_length_le (by rw [Array.length_toList]; omega), List.append_nil] at this
    show (cs.toArray.zipIdx.foldl _ b).toList = cs
    rw [← Array.foldl_toList, Array.toList_zipIdx, Nat.zero_mul]
    exact this
  unfold Instr.fill
  simp only
  rw [if_neg (by simp only [h1]; simp; omega)]
  unfold Instr.fill
  exact congrArg some hb'
/-- A literal of one share. -/
theorem wpList_buildSh {w : World} {ops : Array Oper} {rest : List Oper} {o : Oper} {a : Act} {Q : Exit → Act → World → Prop} (hgd : o.guard = none) (x : Operand) (ho : o.op = .buildSlice 30 1 #[(0, x)])
    (hd : Hdr) (hx : a.eval x = hdV hd)
    (h : wpList Tryd.prog ops Q rest (a.put o.dst (.slice (some ⟨w.heap.size, 0, none⟩) 1 1)) (w.alloc (.cells (hdC hd).toArray 37))) : wpList Tryd.prog ops Q (o :: rest) a w := by
  obtain ⟨i, hi, hz, hsize, hz2⟩ := info_parts Tryd.infoSh
  have hr := fill_oneS (hdC hd) ((Array.range (1 * 2)).map ((Value.agg #[.int .u8 0, .slice none 0 0]).cells[· % (Value.agg #[.int .u8 0, .slice none 0 0]).cells.size]!)) 2 (by simp) (hdC_length hd)
  have hrun : (Instr.buildSlice 30 1 #[(0, hdV hd)]).run Tryd.prog w = .ok (.slice (some ⟨w.heap.size, 0, none⟩) 1 1) (w.alloc (.cells (hdC hd).toArray 37)) := by
    simp [Instr.buildSlice, run_underlying Tryd.underlying30, sizeOf, typeInfo, hi, hsize, zeroValue, hz, newRow]
    have e : hdV hd = .agg (hdC hd).toArray := rfl
    rw [e, hr]
    simp
  refine wpList_plain hgd fun K hK' => ?_
  unfold Oper.wp
  simp [execOp, ho, hx, hrun, Result.andThen]
  exact hK' _ _ h
theorem Tryd.zeroSh2 : (Tryd.prog.info? 37).map (·.zero) = some (some (.agg (hdC noH).toArray)) := by kernel_rfl
theorem wpList_allocSh {ops : Array Oper} {rest : List Oper} {o : Oper} {a : Act} {w : World} {Q : Exit → Act → World → Prop} (hg : o.guard = none) (ho : o.op = .alloc 37) (g : Nat) (hgs : w.heap.size = g) (w1 : World) (hw : w.alloc (.cells (hdC noH).toArray 37) = w1)
    (h : wpList Tryd.prog ops Q rest (a.put o.dst (.pointer (some ⟨g, 0, none⟩))) w1) : wpList Tryd.prog ops Q (o :: rest) a w :=
  wpList_allocE hg 37 ho (hdC noH).toArray Tryd.zeroSh2 g hgs w1 hw h
theorem wpList_storeSh {ops : Array Oper} {rest : List Oper} {o : Oper} {a : Act} {w : World} {Q : Exit → Act → World → Prop} (hg : o.guard = none) (x y : Operand) (ho : o.op = .store 37 x y)
    (b : Nat) (hd : Hdr) (hx : a.eval x = .pointer (some ⟨b, 0, none⟩)) (hy : a.eval y = hdV hd) (ht : w.there b 0 2) (w1 : World) (hw : w.setCells b 0 (hdC hd) = w1)
    (h : wpList Tryd.prog ops Q rest (a.put o.dst undef) w1) : wpList Tryd.prog ops Q (o :: rest) a w := by
  subst hw
  exact wpList_store_mid hg 37 x y ho b 0 (hdC hd).toArray hx hy ht Tryd.sizeSh (all_oneCell_toArray (hdC_one hd)) h
theorem wpList_loadSh {ops : Array Oper} {rest : List Oper} {o : Oper} {a : Act} {w : World} {Q : Exit → Act → World → Prop} (hg : o.guard = none) (x : Operand) (ho : o.op = .load 37 x)
    (b k : Nat) (hd : Hdr) (hx : a.eval x = .pointer (some ⟨b, k, none⟩)) (hr : w.rangeAt b k (hdC hd))
    (h : wpList Tryd.prog ops Q rest (a.put o.dst (hdV hd)) w) : wpList Tryd.prog ops Q (o :: rest) a w :=
  wpList_load_mid hg 37 x ho b k hx (hdC hd) _ hr Tryd.underlying37 (by rfl) Tryd.sizeSh h
/-- A share in a variable: its place, and a value where its bytes are. -/
def SVar (w : World) (g K : Nat) (v : Value) : Prop := w.cell? ⟨g, 0, none⟩ = some (.int .u8 (K : Int)) ∧ w.cell? ⟨g, 1, none⟩ = some v ∧ w.there g 0 2
theorem SVar.below {w w' : World} {g K B : Nat} {v : Value} (h : SVar w g K v) (hb : Below B w w') (hg : g < B) : SVar w' g K v := by
  obtain ⟨h1, h2, h3⟩ := h
  exact ⟨(hb.cell (p := ⟨g, 0, none⟩) hg).trans h1, (hb.cell (p := ⟨g, 1, none⟩) hg).trans h2, fun j hj => by
    have := h3 j hj
    rwa [← hb.cell (p := ⟨g, 0 + j, none⟩) hg, ← hb.frozen (p := ⟨g, 0 + j, none⟩) hg] at this⟩
theorem SVar.lt {w : World} {g K : Nat} {v : Value} (h : SVar w g K v) : g < w.heap.size := cell_block h.1
theorem SVar.new {w w1 w2 : World} {g : Nat} {hd : Hdr} (hg : w.heap.size = g) (hw1 : w.alloc (.cells (hdC noH).toArray 37) = w1) (hw2 : w1.setCells g 0 (hdC hd) = w2) :
    w1.there g 0 2 ∧ SVar w2 g hd.1 (.slice hd.2.1 hd.2.2.1 hd.2.2.2) ∧ Below g w w2 := by
  have ht : w1.there g 0 2 := by rw [← hw1]; exact alloc_thereAt _ _ _ 2 _ hg rfl
  have hr : w2.rangeAt g 0 (hdC hd) := by rw [← hw2]; exact World.rangeAt_setCells_same _ _ _ _ ht
  refine ⟨ht, ⟨hr 0 _ rfl, hr 1 _ rfl, ?_⟩, ?_⟩
  · rw [← hw2]
    exact World.there_setCells ht _ _ _
  · rw [← hw2, ← hw1]
    exact below_setCells _ (Nat.le_refl _) _ _ _ ((Below.refl _ _).alloc (by omega) _)
theorem SVar.put {w : World} {g K : Nat} {v : Value} (h : SVar w g K v) (u : Value) : SVar (w.setCell ⟨g, 1, none⟩ u) g K u := by
  obtain ⟨h1, h2, h3⟩ := h
  have e : w.setCell ⟨g, 1, none⟩ u = w.setCells g 1 [u] := rfl
  refine ⟨?_, ?_, ?_⟩
  · have := World.cell?_setCell_other w ⟨g, 1, none⟩ ⟨g, 0, none⟩ u (by simp)
    exact this.trans h1
  · exact World.cell?_setCell_same w ⟨g, 1, none⟩ u h2
  · rw [e]
    exact World.there_setCells h3 _ _ _
theorem SVar.range {w : World} {g K : Nat} {a : Option Addr} {n c : Nat} (h : SVar w g K (.slice a n c)) : w.rangeAt g 0 (hdC (K, a, n, c)) := fun j v hj => by
  match j, hj with
  | 0, hj => rw [← hj]; exact h.1
  | 1, hj => rw [← hj]; exact h.2.1
theorem lit_cells (w : World) (hd : Hdr) (t : TypeId) : ∀ j u, (hdC hd)[j]? = some u → (w.alloc (.cells (hdC hd).toArray t)).cell? ⟨w.heap.size, 0 + j, none⟩ = some u := fun j u hj => by
  rw [Nat.zero_add, cells_new]
  exact hj
end Go.Proofs.YtghiniaijobonaaDoor
/- How an argument that is a slice of slices of bytes is opened, and how its bulk bounds it. -/
namespace Go.Proofs.YtghiniaijobonaaDoor
open Go.ChangeShapes Go.WideShapes Go.ChangeAt Go.RowKit
set_option linter.unusedVariables false
set_option linter.unusedSimpArgs false

theorem bulk_ge {H : Type} (l : List (DataW H)) : l.length ≤ Rows.uptoBulkAll l := by
  induction l with
  | nil => exact Nat.zero_le _
  | cons d r ih =>
    have : 1 ≤ Rows.uptoBulk d := by cases d with
      | lit x => cases x <;> simp [Rows.uptoBulk]
      | _ => simp [Rows.uptoBulk]
    simp only [Rows.uptoBulkAll, List.length_cons]
    omega
theorem open_cap {H : Type} {enc : TypeId × Value → H} {P : Program} {w : World} {base : Nat} {held : Bool} {t e : TypeId} {fuel : Nat} {a : Option Addr} {len cap : Nat} {x : DataW H × List MemPlace}
    (ht : P.underlying t = some (.slice e)) (h : DataW.trod enc P w base (fun _ => true) held fuel t [.slice a len cap] = some x) : len ≤ cap := by
  rcases Go.Deep.open_slice ht h with ⟨hcs, _⟩ | ⟨y, l, c, m, n, D, Pl, hcs, _, hlc, _⟩
  · simp at hcs
    omega
  · simp at hcs
    omega
theorem open_bytes_any {H : Type} {enc : TypeId × Value → H} {P : Program} {w : World} {base : Nat} {held : Bool} {t e : TypeId} {fuel : Nat} {cs : List Value} {d : DataW H} {p : List MemPlace}
    (ht : P.underlying t = some (.slice e)) (he : P.underlying e = some (.int .u8)) (hc : P.cellsOf e = 1)
    (h : DataW.trod enc P w base (fun _ => true) held fuel t cs = some (d, p)) :
    ∃ a len cap l, cs = [.slice a len cap] ∧ Row w a len l ∧ len ≤ cap ∧ len ≤ Rows.uptoBulk d := by
  have key : ∃ a len cap, cs = [.slice a len cap] := by
    rcases open_ints ht he hc h with ⟨hcs, _⟩ | ⟨x, l, c, zs, hcs, _⟩
    · exact ⟨_, _, _, hcs⟩
    · exact ⟨_, _, _, hcs⟩
  obtain ⟨a, len, cap, rfl⟩ := key
  obtain ⟨l, hl, hd⟩ := open_bytes ht he hc h
  refine ⟨a, len, cap, l, rfl, hl, open_cap ht h, ?_⟩
  rcases hd with h0 | ⟨es, sp, rfl, h1⟩
  · omega
  · have := bulk_ge es
    simp only [Rows.uptoBulk]
    omega

/-- A slice of n slices of bytes at a reads as the list ls. -/
def BRows (w : World) (a : Option Addr) (n : Nat) (ls : List (List UInt8)) : Prop :=
  ls.length = n ∧ (n = 0 ∨ ∃ b o, a = some ⟨b, o, none⟩ ∧ ∀ i, i < n → ∃ (ai : Option Addr) (ni ci : Nat), w.cell? ⟨b, o + i, none⟩ = some (.slice ai ni ci) ∧ ni ≤ ci ∧ Row w ai ni (ls.getD i []))
theorem BRows.nil (w : World) : BRows w none 0 [] := ⟨rfl, .inl rfl⟩
theorem BRows.below {w w' : World} {a : Option Addr} {n : Nat} {ls : List (List UInt8)} (h : BRows w a n ls) (hb : Below w.heap.size w w') : BRows w' a n ls := by
  obtain ⟨h1, h3⟩ := h
  refine ⟨h1, ?_⟩
  rcases h3 with h3 | ⟨b, o, ha, hc⟩
  · exact .inl h3
  · refine .inr ⟨b, o, ha, fun i hi => ?_⟩
    obtain ⟨ai, ni, ci, e1, e3, e2⟩ := hc i hi
    exact ⟨ai, ni, ci, (hb.cell (p := ⟨b, o + i, none⟩) (cell_block e1)).trans e1, e3, e2.below hb⟩

theorem bulk_map {H : Type} (D : Nat → DataW H) (f : Nat → List UInt8) : ∀ n, (∀ i, i < n → (f i).length ≤ Rows.uptoBulk (D i)) → (((List.range n).map f).flatten).length ≤ Rows.uptoBulkAll ((List.range n).map D)
  | 0, _ => by simp
  | n + 1, h => by
    have ih := bulk_map D f n (fun i hi => h i (by omega))
    have hn := h n (by omega)
    have app : ∀ (x y : List (DataW H)), Rows.uptoBulkAll (x ++ y) = Rows.uptoBulkAll x + Rows.uptoBulkAll y := by
      intro x y
      induction x with
      | nil => simp [Rows.uptoBulkAll]
      | cons a r ih => simp only [List.cons_append, Rows.uptoBulkAll, ih]; omega
    rw [List.range_succ, List.map_append, List.map_append, List.flatten_append, List.length_append, app]
    simp only [List.map_cons, List.map_nil, List.flatten_cons, List.flatten_nil, List.append_nil, Rows.uptoBulkAll]
    omega
theorem open_rows {H : Type} {enc : TypeId × Value → H} {P : Program} {w : World} {base : Nat} {held : Bool} {t e f : TypeId} {fuel : Nat} {a : Option Addr} {len cap : Nat} {d : DataW H} {p : List MemPlace}
    (ht : P.underlying t = some (.slice e)) (he : P.underlying e = some (.slice f)) (hf : P.underlying f = some (.int .u8)) (hcf : P.cellsOf f = 1) (hce : P.cellsOf e = 1)
    (h : DataW.trod enc P w base (fun _ => true) held fuel t [.slice a len cap] = some (d, p)) :
    ∃ ls, BRows w a len ls ∧ ls.flatten.length + len ≤ 2 * Rows.uptoBulk d := by
  rcases Go.Deep.open_slice ht h with ⟨hcs, _⟩ | ⟨x, l, c, m, n, D, Pl, hcs, _, hlc, hm, hmm, hx, hel⟩
  · simp at hcs
    obtain ⟨rfl, rfl, rfl⟩ := hcs
    exact ⟨[], BRows.nil w, by simp⟩
  · simp at hcs
    obtain ⟨rfl, rfl, rfl⟩ := hcs
    simp only [if_true] at hmm
    subst hmm
    simp only [Prod.mk.injEq] at hx
    have each : ∀ i, i < len → ∃ q : List UInt8, q.length ≤ Rows.uptoBulk (D i) ∧ ∃ (ai : Option Addr) (ni ci : Nat), w.cell? (x.add i) = some (.slice ai ni ci) ∧ ni ≤ ci ∧ Row w ai ni q := by
      intro i hi
      obtain ⟨cs', hc, htr⟩ := hel i (by omega)
      obtain ⟨ai, ni, ci, q, rfl, hR, hcc, hb⟩ := open_bytes_any he hf hcf htr
      refine ⟨q, by rw [hR.1]; exact hb, ai, ni, ci, ?_, hcc, hR⟩
      rw [hce, Nat.mul_one] at hc
      have hs := World.cells?_some hc
      have := hs.2.2 0 (by omega)
      simpa [Addr.add] using this
    let g : Nat → List UInt8 := fun i => if h : i < len then (each i h).choose else []
    have hg : ∀ i (hi : i < len), g i = (each i hi).choose := fun i hi => by simp [g, hi]
    refine ⟨(List.range len).map g, ⟨by simp, ?_⟩, ?_⟩
    · by_cases h0 : len = 0
      · exact .inl h0
      · obtain ⟨b, off, spot⟩ := x
        have hspot : spot = none := by
          obtain ⟨q, _, ai, ni, ci, hc, _, _⟩ := each 0 (by omega)
          simpa [Addr.add] using World.cell?_spot hc
        subst hspot
        refine .inr ⟨b, off, rfl, fun i hi => ?_⟩
        obtain ⟨_, ai, ni, ci, hc, hcc, hR⟩ := (each i hi).choose_spec
        refine ⟨ai, ni, ci, ?_, hcc, ?_⟩
        · rw [← add_plain]; exact hc
        · have : ((List.range len).map g).getD i [] = (each i hi).choose := by
            rw [← hg i hi]; simp [List.getD_eq_getElem?_getD, hi]
          rw [this]; exact hR
    · have h1 := bulk_map D g len (fun i hi => by rw [hg i hi]; exact (each i hi).choose_spec.1)
      have h2 := bulk_ge ((List.range len).map D)
      simp only [List.length_map, List.length_range] at h2
      rw [hx.1]
      simp only [Rows.uptoBulk]
      omega
end Go.Proofs.YtghiniaijobonaaDoor
/- How slices of shares, and of slices of bytes, are opened as arguments, and how the reach bounds each of their rows. -/
namespace Go.Proofs.YtghiniaijobonaaDoor
open Go.ChangeShapes Go.WideShapes Go.ChangeAt Go.RowKit
set_option linter.unusedVariables false
set_option linter.unusedSimpArgs false

section
variable {H : Type} {enc : TypeId × Value → H} {P : Program} {w : World} {base : Nat} {held : Bool} {fuel : Nat}
theorem weightsAll_mem {e : TypeId} {m : Nat} : ∀ {l : List (DataW H)} {d : DataW H}, d ∈ l → m ∈ d.weights P e → m ∈ DataW.weightsAll P e l
  | [], d, h, _ => by cases h
  | x :: r, d, h, hm => by
    rw [DataW.weightsAll, List.mem_append]
    rcases List.mem_cons.1 h with rfl | h
    · exact .inl hm
    · exact .inr (weightsAll_mem h hm)
theorem weights_elem {s t : TypeId} {elems spare : List (DataW H)} {d : DataW H} {m : Nat} (hs : P.underlying s = some (.slice t)) (hd : d ∈ elems) (hm : m ∈ d.weights P t) : m ∈ (DataW.slice elems spare).weights P s := by
  simp only [DataW.weights, hs]
  exact List.mem_cons_of_mem _ (List.mem_append.2 (.inl (weightsAll_mem hd hm)))
theorem weights_len {s t : TypeId} {elems spare : List (DataW H)} (hs : P.underlying s = some (.slice t)) : (elems.length + spare.length) * P.bytesOf t ∈ (DataW.slice elems spare).weights P s := by
  simp only [DataW.weights, hs]
  exact List.mem_cons_self ..
theorem open_bytes_cs {t e : TypeId} {cs : List Value} {d : DataW H} {p : List MemPlace} (ht : P.underlying t = some (.slice e)) (he : P.underlying e = some (.int .u8)) (hc : P.cellsOf e = 1)
    (h : DataW.trod enc P w base (fun _ => true) held fuel t cs = some (d, p)) :
    ∃ a len cap l, cs = [.slice a len cap] ∧ Row w a len l ∧ len ≤ cap ∧ (len = 0 ∨ ∃ elems spare, d = .slice elems spare ∧ elems.length = len) := by
  obtain ⟨a, len, cap, rfl⟩ : ∃ a len cap, cs = [.slice a len cap] := by
    rcases open_ints ht he hc h with ⟨hcs, _⟩ | ⟨x, l, c, zs, hcs, _⟩
    · exact ⟨_, _, _, hcs⟩
    · exact ⟨_, _, _, hcs⟩
  obtain ⟨l, hl, hd⟩ := open_bytes ht he hc h
  exact ⟨a, len, cap, l, rfl, hl, open_cap ht h, hd⟩
theorem bytes_bound {t e : TypeId} {d : DataW H} {n : Nat} (ht : P.underlying t = some (.slice e)) (hb : P.bytesOf e = 1) (hw : ∀ m ∈ d.weights P t, m ≤ reachBytes) (h : n = 0 ∨ ∃ elems spare, d = .slice elems spare ∧ elems.length = n) : n ≤ 140737488351232 := by
  rcases h with h | ⟨el, sp, rfl, h⟩
  · omega
  · have := hw _ (weights_len ht)
    rw [hb] at this
    simp only [reachBytes] at this
    omega
/-- A slice of n slices of bytes, each of a length that a machine can hold. -/
def BRowsB (w : World) (a : Option Addr) (n : Nat) (ls : List (List UInt8)) : Prop := BRows w a n ls ∧ ∀ i, i < n → (ls.getD i []).length ≤ 140737488351232
theorem BRowsB.below {w w' : World} {a : Option Addr} {n : Nat} {ls : List (List UInt8)} (h : BRowsB w a n ls) (hb : Below w.heap.size w w') : BRowsB w' a n ls := ⟨h.1.below hb, h.2⟩
theorem open_rowsB {t e f : TypeId} {a : Option Addr} {len cap : Nat} {d : DataW H} {p : List MemPlace}
    (ht : P.underlying t = some (.slice e)) (he : P.underlying e = some (.slice f)) (hf : P.underlying f = some (.int .u8)) (hcf : P.cellsOf f = 1) (hce : P.cellsOf e = 1) (hbf : P.bytesOf f = 1)
    (hw : ∀ m ∈ d.weights P t, m ≤ reachBytes)
    (h : DataW.trod enc P w base (fun _ => true) held fuel t [.slice a len cap] = some (d, p)) :
    ∃ ls, BRowsB w a len ls ∧ (len = 0 ∨ ∃ elems spare, d = .slice elems spare ∧ elems.length = len) := by
  rcases Go.Deep.open_slice ht h with ⟨hcs, _⟩ | ⟨x, l, c, m, n, D, Pl, hcs, _, hlc, hm, hmm, hx, hel⟩
  · simp at hcs
    obtain ⟨rfl, rfl, rfl⟩ := hcs
    exact ⟨[], ⟨BRows.nil w, fun i hi => by omega⟩, .inl rfl⟩
  · simp at hcs
    obtain ⟨rfl, rfl, rfl⟩ := hcs
    simp only [if_true] at hmm
    subst hmm
    simp only [Prod.mk.injEq] at hx
    have each : ∀ i, i < len → ∃ q : List UInt8, q.length ≤ 140737488351232 ∧ ∃ (ai : Option Addr) (ni ci : Nat), w.cell? (x.add i) = some (.slice ai ni ci) ∧ ni ≤ ci ∧ Row w ai ni q := by
      intro i hi
      obtain ⟨cs', hc, htr⟩ := hel i (by omega)
      obtain ⟨ai, ni, ci, q, rfl, hR, hcc, hb⟩ := open_bytes_cs he hf hcf htr
      have hDi : D i ∈ (List.range len).map D := List.mem_map.2 ⟨i, List.mem_range.2 hi, rfl⟩
      have hbd := bytes_bound he hbf (fun m hm => hw m (by rw [hx.1]; exact weights_elem ht hDi hm)) hb
      refine ⟨q, by rw [hR.1]; exact hbd, ai, ni, ci, ?_, hcc, hR⟩
      rw [hce, Nat.mul_one] at hc
      have hs := World.cells?_some hc
      have := hs.2.2 0 (by omega)
      simpa [Addr.add] using this
    let g : Nat → List UInt8 := fun i => if h : i < len then (each i h).choose else []
    have hg : ∀ i (hi : i < len), ((List.range len).map g).getD i [] = (each i hi).choose := fun i hi => by simp [g, hi, List.getD_eq_getElem?_getD]
    refine ⟨(List.range len).map g, ⟨⟨by simp, ?_⟩, fun i hi => by rw [hg i hi]; exact (each i hi).choose_spec.1⟩, .inr ⟨_, _, hx.1, by simp⟩⟩
    by_cases h0 : len = 0
    · exact .inl h0
    · obtain ⟨b, off, spot⟩ := x
      have hspot : spot = none := by
        obtain ⟨q, _, ai, ni, ci, hc, _, _⟩ := each 0 (by omega)
        simpa [Addr.add] using World.cell?_spot hc
      subst hspot
      refine .inr ⟨b, off, rfl, fun i hi => ?_⟩
      rw [hg i hi]
      obtain ⟨_, ai, ni, ci, hc, hcc, hR⟩ := (each i hi).choose_spec
      refine ⟨ai, ni, ci, ?_, hcc, hR⟩
      rw [← add_plain]; exact hc
variable {t f : TypeId} {f0 f1 : Field}
theorem share_of_trod {cs : List Value} {x : DataW H × List MemPlace} (ht : P.underlying t = some (.struct #[f0, f1])) (hct : P.cellsOf t = 2) (o0 : f0.offset = 0) (o1 : f1.offset = 1)
    (h0 : P.underlying f0.type = some (.int .u8)) (c0 : P.cellsOf f0.type = 1) (h1 : P.underlying f1.type = some (.slice f)) (c1 : P.cellsOf f1.type = 1) (hf : P.underlying f = some (.int .u8)) (hcf : P.cellsOf f = 1) (hbf : P.bytesOf f = 1)
    (hw : ∀ m ∈ x.1.weights P t, m ≤ reachBytes)
    (h : DataW.trod enc P w base (fun _ => true) held fuel t cs = some x) : ∃ (s : Shr) (a : Option Addr) (n c : Nat), cs = [.int .u8 (s.1 : Int), .slice a n c] ∧ s.1 < 256 ∧ n ≤ c ∧ n ≤ 140737488351232 ∧ Row w a n s.2 := by
  obtain ⟨xs, n, _, rfl, hl, hlen, hfd⟩ := DataW.trod_struct ht h
  have u0 := hfd 0 f0 rfl
  have u1 := hfd 1 f1 rfl
  obtain ⟨y0, y1, rfl⟩ : ∃ y0 y1, xs = [y0, y1] := by
    have hlen' : xs.length = 2 := hlen
    match xs, hlen' with
    | [y0, y1], _ => exact ⟨y0, y1, rfl⟩
  rw [hct] at hl
  rw [o0, c0] at u0
  rw [o1, c1] at u1
  obtain ⟨z0, z1, rfl⟩ : ∃ z0 z1, cs = [z0, z1] := by
    match cs, hl with
    | [z0, z1], _ => exact ⟨z0, z1, rfl⟩
  simp only [List.drop_zero, List.take_succ_cons, List.take_zero, List.drop_succ_cons] at u0 u1
  obtain ⟨m, hm, _, hwf⟩ := DataW.trod_int h0 (show DataW.trod enc P w base (fun _ => true) held n f0.type [z0] = some y0 from by simpa using u0)
  obtain ⟨a, k, c, l, hcs, hR, hkc, hd⟩ := open_bytes_cs h1 hf hcf (show DataW.trod enc P w base (fun _ => true) held n f1.type [z1] = some (y1.1, y1.2) from by simpa using u1)
  cases hm
  cases hcs
  have hb := wf_u8 hwf
  have hk := bytes_bound h1 hbf (fun m hm => hw m (by
    show m ∈ (DataW.agg [y0.1, y1.1]).weights P t
    simp only [DataW.weights, ht, DataW.weightsEach, List.map_cons, List.map_nil, List.mem_append]
    exact .inr (.inl hm))) hd
  refine ⟨(m.toNat, l), a, k, c, ?_, by show m.toNat < 256; omega, hkc, hk, hR⟩
  rw [show (((m.toNat, l) : Shr).1 : Int) = m by show (m.toNat : Int) = m; omega]
theorem open_shares {s : TypeId} {a : Option Addr} {len cap : Nat} {d : DataW H} {p : List MemPlace} (hs : P.underlying s = some (.slice t)) (ht : P.underlying t = some (.struct #[f0, f1])) (hct : P.cellsOf t = 2) (o0 : f0.offset = 0) (o1 : f1.offset = 1)
    (h0 : P.underlying f0.type = some (.int .u8)) (c0 : P.cellsOf f0.type = 1) (h1 : P.underlying f1.type = some (.slice f)) (c1 : P.cellsOf f1.type = 1) (hf : P.underlying f = some (.int .u8)) (hcf : P.cellsOf f = 1) (hbf : P.bytesOf f = 1)
    (hw : ∀ m ∈ d.weights P s, m ≤ reachBytes)
    (h : DataW.trod enc P w base (fun _ => true) held fuel s [.slice a len cap] = some (d, p)) :
    ∃ ss, SRow w a len ss ∧ (len = 0 ∨ ∃ elems spare, d = .slice elems spare ∧ elems.length = len) := by
  rcases Go.Deep.open_slice hs h with ⟨hcs, _⟩ | ⟨x, l, c, m, n, D, Pl, hcs, _, hlc, hm, hmm, hx, hel⟩
  · simp at hcs
    obtain ⟨rfl, rfl, rfl⟩ := hcs
    exact ⟨[], SRow.nil w _, .inl rfl⟩
  · simp at hcs
    obtain ⟨rfl, rfl, rfl⟩ := hcs
    simp only [if_true] at hmm
    subst hmm
    simp only [Prod.mk.injEq] at hx
    have each : ∀ i, i < len → ∃ s : Shr, s.1 < 256 ∧ w.cell? (x.add (i * 2)) = some (.int .u8 (s.1 : Int)) ∧ ∃ (a : Option Addr) (n c : Nat), w.cell? ((x.add (i * 2)).add 1) = some (.slice a n c) ∧ n ≤ c ∧ n ≤ 140737488351232 ∧ Row w a n s.2 := by
      intro i hi
      obtain ⟨cs', hc, htr⟩ := hel i (by omega)
      have hDi : D i ∈ (List.range len).map D := List.mem_map.2 ⟨i, List.mem_range.2 hi, rfl⟩
      obtain ⟨s, a, k, c, rfl, hs1, hkc, hk, hR⟩ := share_of_trod ht hct o0 o1 h0 c0 h1 c1 hf hcf hbf (fun m hm => hw m (by rw [hx.1]; exact weights_elem hs hDi hm)) htr
      rw [hct] at hc
      have hsm := World.cells?_some hc
      have q0 := hsm.2.2 0 (by omega)
      have q1 := hsm.2.2 1 (by omega)
      refine ⟨s, hs1, ?_, a, k, c, ?_, hkc, hk, hR⟩
      · simpa [Addr.add] using q0
      · simpa using q1
    let g : Nat → Shr := fun i => if h : i < len then (each i h).choose else noS
    have hg : ∀ i (hi : i < len), ((List.range len).map g).getD i noS = (each i hi).choose := fun i hi => by simp [g, hi, List.getD_eq_getElem?_getD]
    refine ⟨(List.range len).map g, ⟨by simp, ?_⟩, .inr ⟨_, _, hx.1, by simp⟩⟩
    by_cases h0 : len = 0
    · exact .inl h0
    · obtain ⟨b, off, spot⟩ := x
      have hspot : spot = none := by
        obtain ⟨q, _, hc, _⟩ := each 0 (by omega)
        simpa [Addr.add] using World.cell?_spot hc
      subst hspot
      refine .inr ⟨b, off, rfl, fun i hi => ?_⟩
      rw [hg i hi]
      have sp := (each i hi).choose_spec
      generalize (each i hi).choose = s at sp
      obtain ⟨h1, h2, a, k, c, h3, h4, h5, h6⟩ := sp
      rw [add_plain] at h2 h3
      rw [add_plain] at h3
      exact ⟨h1, h2, a, k, c, h3, h4, h5, h6⟩
end
end Go.Proofs.YtghiniaijobonaaDoor
