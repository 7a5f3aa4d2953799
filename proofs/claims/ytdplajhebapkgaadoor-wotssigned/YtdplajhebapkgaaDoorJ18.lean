/- Texts of this claim, joined: Fast, Fastm, Fastw. -/
import Derived.Test.YtdplajhebapkgaaDoorJ01
import Derived.Test.YtdplajhebapkgaaDoorJ03
import Derived.Test.YtdplajhebapkgaaDoorJ08
/- The digest again, in a form that the kernel reckons fast: every number is forced before it goes on. -/
namespace Go.Proofs.YtdplajhebapkgaaDoor
open Go.RowKit
set_option linter.unusedVariables false
set_option linter.unusedSimpArgs false

/-- f of x, x reckoned first. -/
def frc {α : Type} (x : Nat) (f : Nat → α) : α := Nat.rec (motive := fun _ => α) (f 0) (fun n _ => f (Nat.succ n)) x
theorem frc_eq {α : Type} (x : Nat) (f : Nat → α) : frc x f = f x := by cases x <;> rfl
/-- The rounds, with the words in a window of sixteen. -/
def goR {α : Type} (fin : Nat → Nat → Nat → Nat → Nat → Nat → Nat → Nat → α) : List Nat → Nat → Nat → Nat → Nat → Nat → Nat → Nat → Nat → Nat → Nat → Nat → Nat → Nat → Nat → Nat → Nat → Nat → Nat → Nat → Nat → Nat → Nat → Nat → Nat → α
  | [], w0, w1, w2, w3, w4, w5, w6, w7, w8, w9, w10, w11, w12, w13, w14, w15, a, b, c, d, e, f, g, h => fin a b c d e f g h
  | k :: ks, w0, w1, w2, w3, w4, w5, w6, w7, w8, w9, w10, w11, w12, w13, w14, w15, a, b, c, d, e, f, g, h =>
    frc (h + bs1 e + chW e f g + k + w0) fun p =>
    frc ((p + (bs0 a + mjW a b c)) % 4294967296) fun a' =>
    frc ((d + p) % 4294967296) fun e' =>
    frc ((ss1 w14 + w9 + ss0 w1 + w0) % 4294967296) fun wn =>
    goR fin ks w1 w2 w3 w4 w5 w6 w7 w8 w9 w10 w11 w12 w13 w14 w15 wn a' a b c e' e f g
/-- The words that 64 bytes are spread to, on and on. -/
def seqW (m : List UInt8) (t : Nat) : Nat := at' (wTo m (t + 1)) t
theorem seqW_lo (m : List UInt8) (t : Nat) (h : t < 16) : seqW m t = wordB m t := by
  unfold seqW
  rw [wTo]
  have := at_snoc (l := wTo m t) (x := if t < 16 then wordB m t else (ss1 (at' (wTo m t) (t - 2)) + at' (wTo m t) (t - 7) + ss0 (at' (wTo m t) (t - 15)) + at' (wTo m t) (t - 16)) % 4294967296)
  rw [wTo_length] at this
  rw [this, if_pos h]
theorem seqW_hi (m : List UInt8) (t : Nat) : seqW m (t + 16) = (ss1 (seqW m (t + 14)) + seqW m (t + 9) + ss0 (seqW m (t + 1)) + seqW m t) % 4294967296 := by
  have := at_snoc (l := wTo m (t + 16)) (x := if t + 16 < 16 then wordB m (t + 16) else (ss1 (at' (wTo m (t + 16)) (t + 16 - 2)) + at' (wTo m (t + 16)) (t + 16 - 7) + ss0 (at' (wTo m (t + 16)) (t + 16 - 15)) + at' (wTo m (t + 16)) (t + 16 - 16)) % 4294967296)
  rw [wTo_length] at this
  have e : seqW m (t + 16) = (ss1 (at' (wTo m (t + 16)) (t + 16 - 2)) + at' (wTo m (t + 16)) (t + 16 - 7) + ss0 (at' (wTo m (t + 16)) (t + 16 - 15)) + at' (wTo m (t + 16)) (t + 16 - 16)) % 4294967296 := by
    unfold seqW
    rw [wTo, this, if_neg (by omega)]
  rw [e, wTo_at m (t + 16 - 2) (t + 16) (by omega), wTo_at m (t + 16 - 7) (t + 16) (by omega), wTo_at m (t + 16 - 15) (t + 16) (by omega), wTo_at m (t + 16 - 16) (t + 16) (by omega)]
  rw [show t + 16 - 2 = t + 14 by omega, show t + 16 - 7 = t + 9 by omega, show t + 16 - 15 = t + 1 by omega, show t + 16 - 16 = t by omega]
  rfl
theorem seqW_64 (m : List UInt8) (t : Nat) (h : t < 64) : at' (wTo m 64) t = seqW m t := wTo_at m t 64 h
theorem kW_drop (t : Nat) (h : t < 64) : kW.drop t = at' kW t :: kW.drop (t + 1) := by
  have hl : t < kW.length := h
  rw [List.drop_eq_getElem_cons hl]
  congr 1
  unfold at'
  simp [List.getD_eq_getElem?_getD, List.getElem?_eq_getElem hl]
theorem goR_eq {α : Type} (fin : Nat → Nat → Nat → Nat → Nat → Nat → Nat → Nat → α) (m : List UInt8) (h : List Nat) : ∀ n t, t + n = 64 →
    goR fin (kW.drop t) (seqW m t) (seqW m (t + 1)) (seqW m (t + 2)) (seqW m (t + 3)) (seqW m (t + 4)) (seqW m (t + 5)) (seqW m (t + 6)) (seqW m (t + 7)) (seqW m (t + 8)) (seqW m (t + 9)) (seqW m (t + 10)) (seqW m (t + 11)) (seqW m (t + 12)) (seqW m (t + 13)) (seqW m (t + 14)) (seqW m (t + 15))
      (at' (rTo h (wTo m 64) t) 0) (at' (rTo h (wTo m 64) t) 1) (at' (rTo h (wTo m 64) t) 2) (at' (rTo h (wTo m 64) t) 3) (at' (rTo h (wTo m 64) t) 4) (at' (rTo h (wTo m 64) t) 5) (at' (rTo h (wTo m 64) t) 6) (at' (rTo h (wTo m 64) t) 7)
    = fin (at' (rTo h (wTo m 64) 64) 0) (at' (rTo h (wTo m 64) 64) 1) (at' (rTo h (wTo m 64) 64) 2) (at' (rTo h (wTo m 64) 64) 3) (at' (rTo h (wTo m 64) 64) 4) (at' (rTo h (wTo m 64) 64) 5) (at' (rTo h (wTo m 64) 64) 6) (at' (rTo h (wTo m 64) 64) 7)
  | 0, t, ht => by
    obtain rfl : t = 64 := by omega
    have : kW.drop 64 = [] := List.drop_eq_nil_of_le (Nat.le_refl _)
    rw [this]
    rfl
  | n + 1, t, ht => by
    have ih := goR_eq fin m h n (t + 1) (by omega)
    rw [kW_drop t (by omega)]
    unfold goR
    simp only [frc_eq]
    rw [← seqW_hi m t]
    have e : rTo h (wTo m 64) (t + 1) = stepW (rTo h (wTo m 64) t) (at' kW t) (at' (wTo m 64) t) := rfl
    rw [seqW_64 m t (by omega)] at e
    rw [e] at ih
    have s0 : ∀ v k w, at' (stepW v k w) 0 = (pW v k w + qW v) % 4294967296 := fun _ _ _ => rfl
    have s1 : ∀ v k w, at' (stepW v k w) 1 = at' v 0 := fun _ _ _ => rfl
    have s2 : ∀ v k w, at' (stepW v k w) 2 = at' v 1 := fun _ _ _ => rfl
    have s3 : ∀ v k w, at' (stepW v k w) 3 = at' v 2 := fun _ _ _ => rfl
    have s4 : ∀ v k w, at' (stepW v k w) 4 = (at' v 3 + pW v k w) % 4294967296 := fun _ _ _ => rfl
    have s5 : ∀ v k w, at' (stepW v k w) 5 = at' v 4 := fun _ _ _ => rfl
    have s6 : ∀ v k w, at' (stepW v k w) 6 = at' v 5 := fun _ _ _ => rfl
    have s7 : ∀ v k w, at' (stepW v k w) 7 = at' v 6 := fun _ _ _ => rfl
    rw [s0, s1, s2, s3, s4, s5, s6, s7] at ih
    rw [← ih]
    unfold pW qW
    simp only [Nat.add_assoc, Nat.reduceAdd]
/-- 64 bytes, as sixteen words, taken to eight words. -/
def goT {α : Type} (k : Nat → Nat → Nat → Nat → Nat → Nat → Nat → Nat → α) (w0 w1 w2 w3 w4 w5 w6 w7 w8 w9 w10 w11 w12 w13 w14 w15 a b c d e f g h : Nat) : α :=
  goR (fun a' b' c' d' e' f' g' h' => frc ((a' + a) % 4294967296) fun a => frc ((b' + b) % 4294967296) fun b => frc ((c' + c) % 4294967296) fun c => frc ((d' + d) % 4294967296) fun d => frc ((e' + e) % 4294967296) fun e => frc ((f' + f) % 4294967296) fun f => frc ((g' + g) % 4294967296) fun g => frc ((h' + h) % 4294967296) fun h => k a b c d e f g h) kW w0 w1 w2 w3 w4 w5 w6 w7 w8 w9 w10 w11 w12 w13 w14 w15 a b c d e f g h
/-- All eight words of a list. -/
def app8 {α : Type} (k : Nat → Nat → Nat → Nat → Nat → Nat → Nat → Nat → α) (l : List Nat) : α := k (at' l 0) (at' l 1) (at' l 2) (at' l 3) (at' l 4) (at' l 5) (at' l 6) (at' l 7)
theorem goT_eq {α : Type} (k : Nat → Nat → Nat → Nat → Nat → Nat → Nat → Nat → α) (m : List UInt8) (h : List Nat) :
    goT k (wordB m 0) (wordB m 1) (wordB m 2) (wordB m 3) (wordB m 4) (wordB m 5) (wordB m 6) (wordB m 7) (wordB m 8) (wordB m 9) (wordB m 10) (wordB m 11) (wordB m 12) (wordB m 13) (wordB m 14) (wordB m 15)
      (at' h 0) (at' h 1) (at' h 2) (at' h 3) (at' h 4) (at' h 5) (at' h 6) (at' h 7) = app8 k (blockW h m) := by
  have H := goR_eq (fun a' b' c' d' e' f' g' h' => frc ((a' + at' h 0) % 4294967296) fun a => frc ((b' + at' h 1) % 4294967296) fun b => frc ((c' + at' h 2) % 4294967296) fun c => frc ((d' + at' h 3) % 4294967296) fun d => frc ((e' + at' h 4) % 4294967296) fun e => frc ((f' + at' h 5) % 4294967296) fun f => frc ((g' + at' h 6) % 4294967296) fun g => frc ((h' + at' h 7) % 4294967296) fun h => k a b c d e f g h) m h 64 0 rfl
  rw [List.drop_zero] at H
  simp only [Nat.zero_add] at H
  rw [seqW_lo m 0 (by omega), seqW_lo m 1 (by omega), seqW_lo m 2 (by omega), seqW_lo m 3 (by omega), seqW_lo m 4 (by omega), seqW_lo m 5 (by omega), seqW_lo m 6 (by omega), seqW_lo m 7 (by omega), seqW_lo m 8 (by omega), seqW_lo m 9 (by omega), seqW_lo m 10 (by omega), seqW_lo m 11 (by omega), seqW_lo m 12 (by omega), seqW_lo m 13 (by omega), seqW_lo m 14 (by omega), seqW_lo m 15 (by omega)] at H
  unfold goT
  refine Eq.trans H ?_
  have ha : ∀ (u v : List Nat) (i : Nat), i < 8 → at' (addW u v) i = (at' u i + at' v i) % 4294967296 := fun u v i hi => at_map_range _ 8 i hi
  unfold app8 blockW
  generalize rTo h (wTo m 64) 64 = R
  rw [ha R h 0 (by omega), ha R h 1 (by omega), ha R h 2 (by omega), ha R h 3 (by omega), ha R h 4 (by omega), ha R h 5 (by omega), ha R h 6 (by omega), ha R h 7 (by omega)]
  simp only [frc_eq]
/-! bytes, as numbers -/
def nums (l : List UInt8) : List Nat := l.map (·.toNat)
theorem nums_append (l r : List UInt8) : nums (l ++ r) = nums l ++ nums r := by simp [nums]
theorem nums_length (l : List UInt8) : (nums l).length = l.length := by simp [nums]
/-- A word of four bytes, and what is left. -/
def wd4 {α : Type} (f : Nat → List Nat → α) : List Nat → α
  | b0 :: b1 :: b2 :: b3 :: r => frc (((b0 * 256 + b1) * 256 + b2) * 256 + b3) fun w => f w r
  | _ => f 0 []
theorem wd4_eq {α : Type} (f : Nat → List Nat → α) (l : List UInt8) (h : 4 ≤ l.length) : wd4 f (nums l) = f (wordB l 0) (nums (l.drop 4)) := by
  match l, h with
  | b0 :: b1 :: b2 :: b3 :: r, _ => unfold nums; simp only [List.map_cons]; rw [wd4, frc_eq]; rfl
theorem wordB_drop (l : List UInt8) (n t : Nat) : wordB (l.drop (4 * n)) t = wordB l (n + t) := by
  unfold wordB
  simp only [List.getD_eq_getElem?_getD, List.getElem?_drop]
  rw [show 4 * n + 4 * t = 4 * (n + t) by omega, show 4 * n + (4 * t + 1) = 4 * (n + t) + 1 by omega, show 4 * n + (4 * t + 2) = 4 * (n + t) + 2 by omega, show 4 * n + (4 * t + 3) = 4 * (n + t) + 3 by omega]
theorem wordB_take (l : List UInt8) (t : Nat) (h : t < 16) : wordB (l.take 64) t = wordB l t := by
  unfold wordB
  simp only [List.getD_eq_getElem?_getD, List.getElem?_take]
  rw [if_pos (by omega), if_pos (by omega), if_pos (by omega), if_pos (by omega)]
def blk16 {α : Type} (f : Nat → Nat → Nat → Nat → Nat → Nat → Nat → Nat → Nat → Nat → Nat → Nat → Nat → Nat → Nat → Nat → List Nat → α) (l : List Nat) : α :=
  wd4 (fun w0 l => wd4 (fun w1 l => wd4 (fun w2 l => wd4 (fun w3 l => wd4 (fun w4 l => wd4 (fun w5 l => wd4 (fun w6 l => wd4 (fun w7 l => wd4 (fun w8 l => wd4 (fun w9 l => wd4 (fun w10 l => wd4 (fun w11 l => wd4 (fun w12 l => wd4 (fun w13 l => wd4 (fun w14 l => wd4 (fun w15 l => f w0 w1 w2 w3 w4 w5 w6 w7 w8 w9 w10 w11 w12 w13 w14 w15 l) l) l) l) l) l) l) l) l) l) l) l) l) l) l) l) l
theorem blk16_eq {α : Type} (f : Nat → Nat → Nat → Nat → Nat → Nat → Nat → Nat → Nat → Nat → Nat → Nat → Nat → Nat → Nat → Nat → List Nat → α) (l : List UInt8) (h : 64 ≤ l.length) :
    blk16 f (nums l) = f (wordB (l.take 64) 0) (wordB (l.take 64) 1) (wordB (l.take 64) 2) (wordB (l.take 64) 3) (wordB (l.take 64) 4) (wordB (l.take 64) 5) (wordB (l.take 64) 6) (wordB (l.take 64) 7) (wordB (l.take 64) 8) (wordB (l.take 64) 9) (wordB (l.take 64) 10) (wordB (l.take 64) 11) (wordB (l.take 64) 12) (wordB (l.take 64) 13) (wordB (l.take 64) 14) (wordB (l.take 64) 15) (nums (l.drop 64)) := by
  unfold blk16
  rw [wd4_eq _ _ (by first | omega | (simp only [List.length_drop]; omega))]
  rw [wd4_eq _ _ (by first | omega | (simp only [List.length_drop]; omega))]
  rw [wd4_eq _ _ (by first | omega | (simp only [List.length_drop]; omega))]
  rw [wd4_eq _ _ (by first | omega | (simp only [List.length_drop]; omega))]
  rw [wd4_eq _ _ (by first | omega | (simp only [List.length_drop]; omega))]
  rw [wd4_eq _ _ (by first | omega | (simp only [List.length_drop]; omega))]
  rw [wd4_eq _ _ (by first | omega | (simp only [List.length_drop]; omega))]
  rw [wd4_eq _ _ (by first | omega | (simp only [List.length_drop]; omega))]
  rw [wd4_eq _ _ (by first | omega | (simp only [List.length_drop]; omega))]
  rw [wd4_eq _ _ (by first | omega | (simp only [List.length_drop]; omega))]
  rw [wd4_eq _ _ (by first | omega | (simp only [List.length_drop]; omega))]
  rw [wd4_eq _ _ (by first | omega | (simp only [List.length_drop]; omega))]
  rw [wd4_eq _ _ (by first | omega | (simp only [List.length_drop]; omega))]
  rw [wd4_eq _ _ (by first | omega | (simp only [List.length_drop]; omega))]
  rw [wd4_eq _ _ (by first | omega | (simp only [List.length_drop]; omega))]
  rw [wd4_eq _ _ (by first | omega | (simp only [List.length_drop]; omega))]
  simp only [List.drop_drop, Nat.reduceAdd]
  rw [wordB_take l 0 (by omega), wordB_take l 1 (by omega), wordB_take l 2 (by omega), wordB_take l 3 (by omega), wordB_take l 4 (by omega), wordB_take l 5 (by omega), wordB_take l 6 (by omega), wordB_take l 7 (by omega), wordB_take l 8 (by omega), wordB_take l 9 (by omega), wordB_take l 10 (by omega), wordB_take l 11 (by omega), wordB_take l 12 (by omega), wordB_take l 13 (by omega), wordB_take l 14 (by omega), wordB_take l 15 (by omega)]
  rw [show wordB (l.drop 4) 0 = wordB l 1 from wordB_drop l 1 0]
  rw [show wordB (l.drop 8) 0 = wordB l 2 from wordB_drop l 2 0]
  rw [show wordB (l.drop 12) 0 = wordB l 3 from wordB_drop l 3 0]
  rw [show wordB (l.drop 16) 0 = wordB l 4 from wordB_drop l 4 0]
  rw [show wordB (l.drop 20) 0 = wordB l 5 from wordB_drop l 5 0]
  rw [show wordB (l.drop 24) 0 = wordB l 6 from wordB_drop l 6 0]
  rw [show wordB (l.drop 28) 0 = wordB l 7 from wordB_drop l 7 0]
  rw [show wordB (l.drop 32) 0 = wordB l 8 from wordB_drop l 8 0]
  rw [show wordB (l.drop 36) 0 = wordB l 9 from wordB_drop l 9 0]
  rw [show wordB (l.drop 40) 0 = wordB l 10 from wordB_drop l 10 0]
  rw [show wordB (l.drop 44) 0 = wordB l 11 from wordB_drop l 11 0]
  rw [show wordB (l.drop 48) 0 = wordB l 12 from wordB_drop l 12 0]
  rw [show wordB (l.drop 52) 0 = wordB l 13 from wordB_drop l 13 0]
  rw [show wordB (l.drop 56) 0 = wordB l 14 from wordB_drop l 14 0]
  rw [show wordB (l.drop 60) 0 = wordB l 15 from wordB_drop l 15 0]
/-- So many blocks. -/
def blocksF {α : Type} (k : Nat → Nat → Nat → Nat → Nat → Nat → Nat → Nat → α) : Nat → List Nat → Nat → Nat → Nat → Nat → Nat → Nat → Nat → Nat → α
  | 0, _, a, b, c, d, e, f, g, h => k a b c d e f g h
  | n + 1, l, a, b, c, d, e, f, g, h => blk16 (fun w0 w1 w2 w3 w4 w5 w6 w7 w8 w9 w10 w11 w12 w13 w14 w15 r => goT (fun a b c d e f g h => blocksF k n r a b c d e f g h) w0 w1 w2 w3 w4 w5 w6 w7 w8 w9 w10 w11 w12 w13 w14 w15 a b c d e f g h) l
theorem blocksF_eq {α : Type} (k : Nat → Nat → Nat → Nat → Nat → Nat → Nat → Nat → α) (p : List UInt8) : ∀ n b, 64 * (b + n) ≤ p.length →
    blocksF k n (nums (p.drop (64 * b))) (at' (hTo p b) 0) (at' (hTo p b) 1) (at' (hTo p b) 2) (at' (hTo p b) 3) (at' (hTo p b) 4) (at' (hTo p b) 5) (at' (hTo p b) 6) (at' (hTo p b) 7) = app8 k (hTo p (b + n))
  | 0, b, _ => rfl
  | n + 1, b, h => by
    have ih := blocksF_eq k p n (b + 1) (by omega)
    rw [blocksF, blk16_eq _ _ (by rw [List.length_drop]; omega), goT_eq, List.drop_drop]
    have e : hTo p (b + 1) = blockW (hTo p b) ((p.drop (64 * b)).take 64) := rfl
    rw [← e, show 64 * b + 64 = 64 * (b + 1) by omega, show b + (n + 1) = b + 1 + n by omega]
    exact ih
/-- The words of the digest of bytes. -/
def shaW (l : List UInt8) : List Nat := hTo (padL l) ((padL l).length / 64)
theorem shaL_words (l : List UInt8) : shaL l = outL (shaW l) := rfl
theorem hTo_len (p : List UInt8) : ∀ b, (hTo p b).length = 8
  | 0 => rfl
  | b + 1 => by rw [hTo]; unfold blockW addW; simp
/-- What stands behind so many bytes. -/
def endN (n : Nat) : List Nat := 128 :: (List.replicate ((119 - n % 64) % 64) 0 ++ nums (putL (8 * n) 8))
theorem padL_nums (l : List UInt8) : nums (padL l) = nums l ++ endN l.length := by
  unfold padL endN
  rw [nums_append, nums_append, nums_append, List.append_assoc, List.append_assoc]
  congr 1
  have e : nums (List.replicate ((119 - l.length % 64) % 64) (0 : UInt8)) = List.replicate ((119 - l.length % 64) % 64) 0 := by simp [nums]
  rw [e]
  rfl
/-- The digest of n bytes: k of its words. -/
def shaK {α : Type} (k : List Nat → α) (n : Nat) (l : List Nat) : α :=
  blocksF (fun a b c d e f g h => k [a, b, c, d, e, f, g, h]) ((n + 1 + (119 - n % 64) % 64 + 8) / 64) (l ++ endN n) (at' hW 0) (at' hW 1) (at' hW 2) (at' hW 3) (at' hW 4) (at' hW 5) (at' hW 6) (at' hW 7)
theorem list8 {l : List Nat} (h : l.length = 8) : [at' l 0, at' l 1, at' l 2, at' l 3, at' l 4, at' l 5, at' l 6, at' l 7] = l := by
  match l, h with
  | [a, b, c, d, e, f, g, i], _ => rfl
theorem shaK_eq {α : Type} (k : List Nat → α) (l : List UInt8) (n : Nat) (hn : l.length = n) : shaK k n (nums l) = k (shaW l) := by
  subst hn
  have hlen : (padL l).length = l.length + 1 + (119 - l.length % 64) % 64 + 8 := by
    unfold padL
    rw [List.length_append, List.length_append, List.length_append, putL_length, List.length_replicate]
    rfl
  have H := blocksF_eq (fun a b c d e f g h => k [a, b, c, d, e, f, g, h]) (padL l) ((padL l).length / 64) 0 (by omega)
  rw [Nat.mul_zero, List.drop_zero, Nat.zero_add, padL_nums] at H
  have e : hTo (padL l) 0 = hW := rfl
  rw [e] at H
  unfold shaK
  rw [← hlen, H]
  exact congrArg k (list8 (hTo_len _ _))
/-- The bytes of a word, ahead of others; of eight words. -/
def out4 (a : Nat) (r : List Nat) : List Nat := frc (a >>> 24 % 256) fun x => x :: frc (a >>> 16 % 256) fun x => x :: frc (a >>> 8 % 256) fun x => x :: frc (a % 256) fun x => x :: r
def outN : List Nat → List Nat → List Nat
  | [a, b, c, d, e, f, g, h], r => out4 a (out4 b (out4 c (out4 d (out4 e (out4 f (out4 g (out4 h r)))))))
  | _, r => r
theorem outN_eq (h : List Nat) (hl : h.length = 8) (r : List Nat) : outN h r = nums (outL h) ++ r := by
  match h, hl with
  | [a, b, c, d, e, f, g, i], _ =>
    unfold outN out4
    simp only [frc_eq]
    unfold nums outL
    simp [List.range, List.range.loop, at']
theorem fast_abc : shaK (fun h => at' h 0) 3 [97, 98, 99] = 3128432319 := by decide +kernel
end Go.Proofs.YtdplajhebapkgaaDoor
/- A digest with the key of bytes 0, in a form that the kernel reckons fast. -/
namespace Go.Proofs.YtdplajhebapkgaaDoor
open Go.RowKit
set_option linter.unusedVariables false
set_option linter.unusedSimpArgs false

def zS : List UInt8 := List.replicate 32 0
def p92 : List UInt8 := List.replicate 64 92
def p54 : List UInt8 := List.replicate 64 54
theorem pad92 : padX (keyL zS) 92 64 = p92 := by decide +kernel
theorem pad54 : padX (keyL zS) 54 64 = p54 := by decide +kernel
theorem shaW_len (l : List UInt8) : (shaW l).length = 8 := hTo_len _ _
def macK {α : Type} (k : List Nat → α) (n : Nat) (b : List Nat) : α := shaK (fun hi => shaK k 96 (List.replicate 64 92 ++ outN hi [])) (64 + n) (List.replicate 64 54 ++ b)
def macW (b : List UInt8) : List Nat := shaW (p92 ++ outL (shaW (p54 ++ b)))
theorem macW_len (b : List UInt8) : (macW b).length = 8 := shaW_len _
theorem macK_eq {α : Type} (k : List Nat → α) (b : List UInt8) (n : Nat) (hn : b.length = n) : macK k n (nums b) = k (macW b) := by
  have e1 : List.replicate 64 54 ++ nums b = nums (p54 ++ b) := by rw [nums_append]; rfl
  unfold macK
  rw [e1, shaK_eq _ _ (64 + n) (by rw [List.length_append, hn]; rfl), outN_eq _ (shaW_len _), List.append_nil]
  have e2 : List.replicate 64 92 ++ nums (outL (shaW (p54 ++ b))) = nums (p92 ++ outL (shaW (p54 ++ b))) := by rw [nums_append]; rfl
  rw [e2, shaK_eq _ _ 96 (by rw [List.length_append, outL_length]; rfl)]
  rfl
theorem macW_eq (b : List UInt8) : outL (macW b) = macL zS b := by
  unfold macW macL
  rw [pad92, pad54, ← shaL_words, ← shaL_words]
end Go.Proofs.YtdplajhebapkgaaDoor
/- Ends of the chains of the seed of bytes 0, in a form that the kernel reckons fast. -/
namespace Go.Proofs.YtdplajhebapkgaaDoor
open Go.RowKit
set_option linter.unusedVariables false
set_option linter.unusedSimpArgs false

/-- So many steps, in words. -/
def walkWs : Nat → List Nat → List Nat
  | 0, h => h
  | n + 1, h => walkWs n (shaW (8 :: outL h))
theorem walkWs_len : ∀ n h, h.length = 8 → (walkWs n h).length = 8
  | 0, h, hl => hl
  | n + 1, h, hl => walkWs_len n _ (shaW_len _)
theorem walkWs_eq : ∀ n h, outL (walkWs n h) = walkL (outL h) n
  | 0, h => rfl
  | n + 1, h => by
    rw [walkWs, walkWs_eq n, show n + 1 = 1 + n by omega, walkL_add, ← shaL_words]
    rfl
def walkK {α : Type} (k : List Nat → α) : Nat → List Nat → α
  | 0, h => k h
  | n + 1, h => shaK (fun h' => walkK k n h') 33 (8 :: outN h [])
theorem walkK_eq {α : Type} (k : List Nat → α) : ∀ n h, h.length = 8 → walkK k n h = k (walkWs n h)
  | 0, h, _ => rfl
  | n + 1, h, hl => by
    rw [walkK, outN_eq h hl, List.append_nil]
    have e : 8 :: nums (outL h) = nums (8 :: outL h) := rfl
    rw [e, shaK_eq _ _ 33 (by rw [List.length_cons, outL_length]), walkK_eq k n _ (shaW_len _)]
    rfl
/-- The words of the end of the i-th chain. -/
def endW (i : Nat) : List Nat := walkWs 15 (macW [5, UInt8.ofNat i])
theorem endW_eq (i : Nat) : outL (endW i) = walkL (wotsSecL zS i) 15 := by
  unfold endW wotsSecL
  rw [walkWs_eq, macW_eq]
def checkW : List (List Nat) → Nat → Bool
  | [], _ => true
  | L :: r, i => macK (fun h => walkK (fun h' => h' == L && checkW r (i + 1)) 15 h) 2 [5, i % 256]
theorem checkW_cons (L : List Nat) (r : List (List Nat)) (i : Nat) : checkW (L :: r) i = (endW i == L && checkW r (i + 1)) := by
  have e1 : [5, i % 256] = nums [5, UInt8.ofNat i] := by simp [nums, UInt8.toNat_ofNat']
  rw [checkW, e1, macK_eq _ _ 2 rfl, walkK_eq _ _ _ (macW_len _)]
  rfl
theorem checkW_append : ∀ (l r : List (List Nat)) (k : Nat), checkW (l ++ r) k = (checkW l k && checkW r (k + l.length))
  | [], r, k => by simp [checkW]
  | L :: l, r, k => by
    rw [List.cons_append, checkW_cons, checkW_cons, checkW_append l r (k + 1), Bool.and_assoc, List.length_cons, show k + 1 + l.length = k + (l.length + 1) by omega]
theorem checkW_eq (ls : List (List Nat)) : ∀ (k : Nat), checkW ls k = true → ls = (List.range ls.length).map fun j => endW (k + j) := by
  induction ls with
  | nil =>
    intro k _
    rfl
  | cons L r ih =>
    intro k h
    rw [checkW_cons, Bool.and_eq_true] at h
    have ih := ih (k + 1) h.2
    have e : endW k = L := eq_of_beq h.1
    rw [List.length_cons, List.range_succ_eq_map, List.map_cons, List.map_map]
    refine congr (congrArg List.cons ?_) ?_
    · rw [Nat.add_zero]
      exact e.symm
    · refine ih.trans (List.map_congr_left fun j _ => ?_)
      rw [Function.comp_apply, Nat.succ_eq_add_one, show k + 1 + j = k + (j + 1) by omega]
theorem checkW_len (ls : List (List Nat)) (k : Nat) (h : checkW ls k = true) : ∀ l ∈ ls, l.length = 8 := by
  intro l hl
  rw [checkW_eq ls k h] at hl
  obtain ⟨j, _, rfl⟩ := List.mem_map.1 hl
  exact walkWs_len _ _ (macW_len _)
def outEnds : List (List Nat) → List Nat
  | [] => []
  | h :: r => outN h (outEnds r)
theorem outEnds_eq : ∀ (ls : List (List Nat)), (∀ l ∈ ls, l.length = 8) → outEnds ls = nums (ls.map outL).flatten
  | [], _ => rfl
  | h :: r, h8 => by rw [outEnds, outN_eq h (h8 h (List.mem_cons_self ..)), outEnds_eq r (fun l hl => h8 l (List.mem_cons_of_mem _ hl)), List.map_cons, List.flatten_cons, nums_append]
end Go.Proofs.YtdplajhebapkgaaDoor
