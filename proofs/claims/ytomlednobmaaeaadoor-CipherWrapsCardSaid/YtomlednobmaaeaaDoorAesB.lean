/- Columns of four bytes. -/
import Derived.Test.YtomlednobmaaeaaDoorCiD
namespace Go.Proofs.YtomlednobmaaeaaDoor
open Aes (ln otB ot8 twB tw8 LOW)
def cvB (a b c d : BitVec 8) : BitVec 32 := a ++ b ++ c ++ d
theorem below32 {i : Nat} (h : i < 32) : i = 0 ∨ i = 1 ∨ i = 2 ∨ i = 3 ∨ i = 4 ∨ i = 5 ∨ i = 6 ∨ i = 7 ∨ i = 8 ∨ i = 9 ∨ i = 10 ∨ i = 11 ∨ i = 12 ∨ i = 13 ∨ i = 14 ∨ i = 15 ∨ i = 16 ∨ i = 17 ∨ i = 18 ∨ i = 19 ∨ i = 20 ∨ i = 21 ∨ i = 22 ∨ i = 23 ∨ i = 24 ∨ i = 25 ∨ i = 26 ∨ i = 27 ∨ i = 28 ∨ i = 29 ∨ i = 30 ∨ i = 31 := by omega
/-- A column's byte k, from below. -/
def by4 (w : BitVec 32) (k : Nat) : BitVec 8 := w.extractLsb' (8 * k) 8
theorem by4_ext {a b : BitVec 32} (h0 : by4 a 0 = by4 b 0) (h1 : by4 a 1 = by4 b 1) (h2 : by4 a 2 = by4 b 2) (h3 : by4 a 3 = by4 b 3) : a = b := by
  apply BitVec.eq_of_getLsbD_eq
  intro j hj
  have key : ∀ k, by4 a k = by4 b k → ∀ i, i < 8 → a.getLsbD (8 * k + i) = b.getLsbD (8 * k + i) := by
    intro k hk i hi
    have : (by4 a k).getLsbD i = (by4 b k).getLsbD i := by rw [hk]
    simpa [by4, hi] using this
  have hq : j / 8 = 0 ∨ j / 8 = 1 ∨ j / 8 = 2 ∨ j / 8 = 3 := by omega
  have e : 8 * (j / 8) + j % 8 = j := by omega
  rcases hq with q | q | q | q
  · have := key 0 h0 (j % 8) (by omega); rw [q] at e; rwa [e] at this
  · have := key 1 h1 (j % 8) (by omega); rw [q] at e; rwa [e] at this
  · have := key 2 h2 (j % 8) (by omega); rw [q] at e; rwa [e] at this
  · have := key 3 h3 (j % 8) (by omega); rw [q] at e; rwa [e] at this
theorem by4_cv (a b c d : BitVec 8) : by4 (cvB a b c d) 3 = a ∧ by4 (cvB a b c d) 2 = b ∧ by4 (cvB a b c d) 1 = c ∧ by4 (cvB a b c d) 0 = d := by
  refine ⟨?_, ?_, ?_, ?_⟩ <;>
  · apply BitVec.eq_of_getLsbD_eq
    intro j hj
    have hy : j = 0 ∨ j = 1 ∨ j = 2 ∨ j = 3 ∨ j = 4 ∨ j = 5 ∨ j = 6 ∨ j = 7 := by omega
    rcases hy with rfl | rfl | rfl | rfl | rfl | rfl | rfl | rfl <;> (simp only [by4, cvB, BitVec.getLsbD_extractLsb', BitVec.getLsbD_append]; simp)
theorem cv_surj (w : BitVec 32) : w = cvB (by4 w 3) (by4 w 2) (by4 w 1) (by4 w 0) :=
  by4_ext (by4_cv _ _ _ _).2.2.2.symm (by4_cv _ _ _ _).2.2.1.symm (by4_cv _ _ _ _).2.1.symm (by4_cv _ _ _ _).1.symm
theorem by4_xor (a b : BitVec 32) (k : Nat) : by4 (a ^^^ b) k = by4 a k ^^^ by4 b k := by
  apply BitVec.eq_of_getLsbD_eq
  intro j hj
  simp [by4, hj]
theorem by4_and (a b : BitVec 32) (k : Nat) : by4 (a &&& b) k = by4 a k &&& by4 b k := by
  apply BitVec.eq_of_getLsbD_eq
  intro j hj
  simp [by4, hj]
theorem by4_or (a b : BitVec 32) (k : Nat) : by4 (a ||| b) k = by4 a k ||| by4 b k := by
  apply BitVec.eq_of_getLsbD_eq
  intro j hj
  simp [by4, hj]
theorem cv_xor (a b c d a' b' c' d' : BitVec 8) : cvB a b c d ^^^ cvB a' b' c' d' = cvB (a ^^^ a') (b ^^^ b') (c ^^^ c') (d ^^^ d') := by
  apply by4_ext <;> rw [by4_xor] <;> simp [by4_cv]
theorem by4_rot (a : BitVec 32) : by4 (rot a 8) 3 = by4 a 2 ∧ by4 (rot a 8) 2 = by4 a 1 ∧ by4 (rot a 8) 1 = by4 a 0 ∧ by4 (rot a 8) 0 = by4 a 3 := by
  refine ⟨?_, ?_, ?_, ?_⟩ <;>
  · apply BitVec.eq_of_getLsbD_eq
    intro j hj
    have hy : j = 0 ∨ j = 1 ∨ j = 2 ∨ j = 3 ∨ j = 4 ∨ j = 5 ∨ j = 6 ∨ j = 7 := by omega
    rcases hy with rfl | rfl | rfl | rfl | rfl | rfl | rfl | rfl <;> simp [by4, rot]
theorem by4_rot16 (a : BitVec 32) : by4 (rot a 16) 3 = by4 a 1 ∧ by4 (rot a 16) 2 = by4 a 0 ∧ by4 (rot a 16) 1 = by4 a 3 ∧ by4 (rot a 16) 0 = by4 a 2 := by
  refine ⟨?_, ?_, ?_, ?_⟩ <;>
  · apply BitVec.eq_of_getLsbD_eq
    intro j hj
    have hy : j = 0 ∨ j = 1 ∨ j = 2 ∨ j = 3 ∨ j = 4 ∨ j = 5 ∨ j = 6 ∨ j = 7 := by omega
    rcases hy with rfl | rfl | rfl | rfl | rfl | rfl | rfl | rfl <;> simp [by4, rot]
theorem by4_rot24 (a : BitVec 32) : by4 (rot a 24) 3 = by4 a 0 ∧ by4 (rot a 24) 2 = by4 a 3 ∧ by4 (rot a 24) 1 = by4 a 2 ∧ by4 (rot a 24) 0 = by4 a 1 := by
  refine ⟨?_, ?_, ?_, ?_⟩ <;>
  · apply BitVec.eq_of_getLsbD_eq
    intro j hj
    have hy : j = 0 ∨ j = 1 ∨ j = 2 ∨ j = 3 ∨ j = 4 ∨ j = 5 ∨ j = 6 ∨ j = 7 := by omega
    rcases hy with rfl | rfl | rfl | rfl | rfl | rfl | rfl | rfl <;> simp [by4, rot]
theorem by4_trunc (w : BitVec 64) {k : Nat} (hk : k < 4) : by4 (w.setWidth 32) k = ln w k := by
  apply BitVec.eq_of_getLsbD_eq
  intro j hj
  have : 8 * k + j < 32 := by omega
  simp [by4, ln, hj, this]
theorem ln_widen (w : BitVec 32) {k : Nat} (hk : k < 4) : ln (w.setWidth 64) k = by4 w k := by
  apply BitVec.eq_of_getLsbD_eq
  intro j hj
  have : 8 * k + j < 64 := by omega
  simp [by4, ln, hj, this]
theorem by4_high (w : BitVec 64) {k : Nat} (hk : k < 4) : by4 ((w >>> 32).setWidth 32) k = ln w (k + 4) := by
  apply BitVec.eq_of_getLsbD_eq
  intro j hj
  have h1 : 8 * k + j < 32 := by omega
  have h2 : 32 + (8 * k + j) = 8 * (k + 4) + j := by omega
  simp [by4, ln, hj, h1, h2]
theorem ln_pairL (a b : BitVec 32) {k : Nat} (hk : k < 4) : ln (pairW a b) k = by4 b k := by
  apply BitVec.eq_of_getLsbD_eq
  intro j hj
  have h1 : 8 * k + j < 32 := by omega
  have h2 : 8 * k + j < 64 := by omega
  simp [by4, ln, hj, pairW, h1, h2]
theorem ln_pairH (a b : BitVec 32) {k : Nat} (hk : k < 4) : ln (pairW a b) (k + 4) = by4 a k := by
  apply BitVec.eq_of_getLsbD_eq
  intro j hj
  have h1 : ¬ 8 * (k + 4) + j < 32 := by omega
  have h2 : 8 * (k + 4) + j < 64 := by omega
  have h3 : 8 * (k + 4) + j - 32 = 8 * k + j := by omega
  have h4 : b.getLsbD (8 * (k + 4) + j) = false := BitVec.getLsbD_of_ge b _ (by omega)
  have h5 : 8 * k + j < 64 := by omega
  simp [by4, ln, hj, pairW, h1, h2, h3, h4]
theorem othH_cv (a b c d e f g h : BitVec 8) : othH (cvB a b c d) (cvB e f g h) = cvB (ot8 a) (ot8 b) (ot8 c) (ot8 d) := by
  unfold othH
  apply by4_ext <;> rw [by4_high _ (by omega), Aes.ln_ot _ (by omega), ln_pairH _ _ (by omega)] <;> simp only [by4_cv]
theorem othL_cv (a b c d e f g h : BitVec 8) : othL (cvB a b c d) (cvB e f g h) = cvB (ot8 e) (ot8 f) (ot8 g) (ot8 h) := by
  unfold othL
  apply by4_ext <;> rw [by4_trunc _ (by omega), Aes.ln_ot _ (by omega), ln_pairL _ _ (by omega)] <;> simp only [by4_cv]
theorem mix_cv (a b c d : BitVec 8) : mixC (cvB a b c d) = cvB (tw8 (a ^^^ b) ^^^ b ^^^ c ^^^ d) (tw8 (b ^^^ c) ^^^ c ^^^ d ^^^ a) (tw8 (c ^^^ d) ^^^ d ^^^ a ^^^ b) (tw8 (d ^^^ a) ^^^ a ^^^ b ^^^ c) := by
  have hx : ∀ k, k < 4 → by4 (mx3 (cvB a b c d)) k = tw8 (by4 (cvB a b c d) k ^^^ by4 (rot (cvB a b c d) 8) k) := by
    intro k hk
    unfold mx3
    rw [by4_trunc _ hk, Aes.ln_tw _ (by omega)]
    unfold mx2
    rw [ln_widen _ hk]
    unfold mx1
    rw [by4_xor]
  unfold mixC mx5 mx4
  apply by4_ext <;> rw [by4_xor, by4_xor, by4_xor, hx _ (by omega)] <;> simp only [by4_cv, by4_rot, by4_rot16, by4_rot24]
theorem by4_msk (k : Nat) (hk : k < 4) (r : Nat) (hr : r < 4) : by4 (msk r) k = if k + r = 3 then 255#8 else 0#8 := by
  have h1 : k = 0 ∨ k = 1 ∨ k = 2 ∨ k = 3 := by omega
  have h2 : r = 0 ∨ r = 1 ∨ r = 2 ∨ r = 3 := by omega
  rcases h1 with rfl | rfl | rfl | rfl <;> rcases h2 with rfl | rfl | rfl | rfl <;> decide
theorem ones8 (x : BitVec 8) : x &&& 255#8 = x := BitVec.and_allOnes
theorem z8or (x : BitVec 8) : 0#8 ||| x = x := by simp
theorem or4 (x y z w : BitVec 32) : (((0#32 ||| (x &&& msk 0)) ||| (y &&& msk 1)) ||| (z &&& msk 2)) ||| (w &&& msk 3) = cvB (by4 x 3) (by4 y 2) (by4 z 1) (by4 w 0) := by
  have h0 : ∀ k, k < 4 → by4 0#32 k = 0#8 := by
    intro k hk
    have h1 : k = 0 ∨ k = 1 ∨ k = 2 ∨ k = 3 := by omega
    rcases h1 with rfl | rfl | rfl | rfl <;> decide
  apply by4_ext <;> rw [by4_or, by4_or, by4_or, by4_or, by4_and, by4_and, by4_and, by4_and, h0 _ (by omega), by4_msk _ (by omega) _ (by omega), by4_msk _ (by omega) _ (by omega), by4_msk _ (by omega) _ (by omega), by4_msk _ (by omega) _ (by omega)] <;> simp [by4_cv, ones8]
theorem sh_cv (a0 a1 a2 a3 b0 b1 b2 b3 c0 c1 c2 c3 d0 d1 d2 d3 : BitVec 8) :
    shW [cvB a0 a1 a2 a3, cvB b0 b1 b2 b3, cvB c0 c1 c2 c3, cvB d0 d1 d2 d3] = [cvB a0 b1 c2 d3, cvB b0 c1 d2 a3, cvB c0 d1 a2 b3, cvB d0 a1 b2 c3] := by
  have : shW [cvB a0 a1 a2 a3, cvB b0 b1 b2 b3, cvB c0 c1 c2 c3, cvB d0 d1 d2 d3] =
    [(((0#32 ||| (cvB a0 a1 a2 a3 &&& msk 0)) ||| (cvB b0 b1 b2 b3 &&& msk 1)) ||| (cvB c0 c1 c2 c3 &&& msk 2)) ||| (cvB d0 d1 d2 d3 &&& msk 3),
     (((0#32 ||| (cvB b0 b1 b2 b3 &&& msk 0)) ||| (cvB c0 c1 c2 c3 &&& msk 1)) ||| (cvB d0 d1 d2 d3 &&& msk 2)) ||| (cvB a0 a1 a2 a3 &&& msk 3),
     (((0#32 ||| (cvB c0 c1 c2 c3 &&& msk 0)) ||| (cvB d0 d1 d2 d3 &&& msk 1)) ||| (cvB a0 a1 a2 a3 &&& msk 2)) ||| (cvB b0 b1 b2 b3 &&& msk 3),
     (((0#32 ||| (cvB d0 d1 d2 d3 &&& msk 0)) ||| (cvB a0 a1 a2 a3 &&& msk 1)) ||| (cvB b0 b1 b2 b3 &&& msk 2)) ||| (cvB c0 c1 c2 c3 &&& msk 3)] := by
    unfold shW
    simp [shS, z4]
  rw [this]
  simp only [or4, by4_cv]
end Go.Proofs.YtomlednobmaaeaaDoor
