/- Heads, as the program looks for them, and as the document has them. Nothing of the program stands here. -/
import Derived.Test.YtmmbhmfbhleglaaDoorFrC
namespace Go.Proofs.YtmmbhmfbhleglaaDoor
open Go
theorem headS_near {W : List UInt8} (h1 : endAt W ≤ 9) (h2 : endAt W < W.length) : headS W = (W.take (endAt W), true) := by
  have hs := endAt_spec W
  have e : endAt (W.take 10) = endAt W := by
    refine endAt_hit (endAt_pos W) ?_ (fun j hj hlt => ?_)
    · rw [List.getElem?_take_of_lt (by omega)]
      exact hs.1 h2
    · rw [List.getElem?_take_of_lt (by omega)]
      exact hs.2 j hj hlt
  unfold headS
  rw [e, if_pos (by rw [List.length_take]; omega), List.take_take, Nat.min_eq_left (by omega)]
theorem headS_far {W : List UInt8} (h : ¬ (endAt W ≤ 9 ∧ endAt W < W.length)) : headS W = (W.take 10, false) := by
  unfold headS
  rw [if_neg]
  intro hlt
  refine h ?_
  have hs := endAt_spec (W.take 10)
  have h10 : endAt (W.take 10) < 10 := by rw [List.length_take] at hlt; omega
  have h3 := hs.1 hlt
  rw [List.getElem?_take_of_lt h10] at h3
  have e : endAt W = endAt (W.take 10) := endAt_hit (endAt_pos _) h3 (fun j hj hl => by
    have := hs.2 j hj hl
    rwa [List.getElem?_take_of_lt (by omega)] at this)
  rw [e]
  exact ⟨by omega, (List.getElem?_eq_some_iff.1 h3).1⟩
theorem sizeS_trim {h : List UInt8} (h1 : h.take 2 = ([10, 35] : List UInt8).take h.length) (h2 : 1 ≤ h.length) : sizeS (Lib.trimPrefix h [10, 35]) = sizeS (h.drop 2) := by
  match h, h2 with
  | [a], _ =>
    simp at h1
    subst h1
    rfl
  | a :: b :: r, _ =>
    simp at h1
    obtain ⟨rfl, rfl⟩ := h1
    simp [Lib.trimPrefix, Lib.hasPrefix, List.isPrefixOf]
/-- What a step answers, and what is left. -/
def retOf (W M : List UInt8) : StepR → Bool × Nat × List UInt8 × List UInt8
  | .form => (false, 3, W, M)
  | .wait => (false, 4, W, M)
  | .long => (false, 2, W, M)
  | .done W' => (true, 0, W', M)
  | .more W' M' => (false, 0, W', M')
theorem step_off {W M : List UInt8} (h : begB (headS W).1 = false) : stepS W M = .form := by
  by_cases hA : endAt W ≤ 9 ∧ endAt W < W.length
  · rw [headS_near hA.1 hA.2] at h
    have hl : (W.take (endAt W)).length = endAt W := by rw [List.length_take]; omega
    unfold stepS
    rw [if_pos]
    unfold begB at h
    rw [decide_eq_true (p := (W.take (endAt W)).length ≤ 9) (by omega), Bool.and_true, decide_eq_false_iff_not] at h
    exact .inr h
  · rw [headS_far hA] at h
    by_cases hl : W.length ≤ 9
    · have e : W.take (endAt W) = W := List.take_of_length_le (by omega)
      have e2 : W.take 10 = W := List.take_of_length_le (by omega)
      unfold stepS
      rw [if_pos]
      simp only [] at h
      rw [e2] at h
      unfold begB at h
      rw [decide_eq_true (p := W.length ≤ 9) hl, Bool.and_true, decide_eq_false_iff_not] at h
      rw [e]
      exact .inr h
    · unfold stepS
      rw [if_pos]
      left
      rw [List.length_take]
      omega
theorem step_waits {W M : List UInt8} (h : begB (headS W).1 = true) (hf : (headS W).2 = false) : stepS W M = .wait := by
  by_cases hA : endAt W ≤ 9 ∧ endAt W < W.length
  · rw [headS_near hA.1 hA.2] at hf
    cases hf
  · rw [headS_far hA] at h
    unfold begB at h
    simp only [Bool.and_eq_true, decide_eq_true_eq, List.length_take] at h
    have hl : W.length ≤ 9 := by omega
    have e : W.take (endAt W) = W := List.take_of_length_le (by omega)
    have e2 : W.take 10 = W := List.take_of_length_le (by omega)
    rw [e2] at h
    unfold stepS
    rw [if_neg, if_pos (by omega)]
    rw [e]
    rintro (h1 | h1)
    · omega
    · refine h1 ?_
      rw [h.1, Nat.min_eq_right (by omega)]
structure HeadIs (W hd : List UInt8) : Prop where
  eq : hd = W.take (endAt W)
  len : hd.length = endAt W
  le : hd.length ≤ 9
  lt : endAt W < W.length
  beg : hd.take 2 = ([10, 35] : List UInt8).take hd.length
theorem head_is {W : List UInt8} (h : begB (headS W).1 = true) (hf : (headS W).2 = true) : HeadIs W (headS W).1 := by
  by_cases hA : endAt W ≤ 9 ∧ endAt W < W.length
  · rw [headS_near hA.1 hA.2] at h ⊢
    have hl : (W.take (endAt W)).length = endAt W := by rw [List.length_take]; omega
    unfold begB at h
    simp only [Bool.and_eq_true, decide_eq_true_eq] at h
    exact ⟨rfl, hl, h.2, hA.2, h.1⟩
  · rw [headS_far hA] at hf
    cases hf
theorem step_none {W hd : List UInt8} (h : HeadIs W hd) (hd0 : hd = [10, 35, 35]) : stepS W [] = .form := by
  unfold stepS
  rw [← h.eq, if_neg, if_neg (by have := h.lt; omega), if_pos hd0, if_pos rfl]
  rintro (h1 | h1)
  · have := h.le; omega
  · exact h1 h.beg
theorem step_done {W M hd : List UInt8} (h : HeadIs W hd) (hd0 : hd = [10, 35, 35]) (hM : M ≠ []) : stepS W M = .done (W.drop (hd.length + 1)) := by
  unfold stepS
  rw [← h.eq, if_neg, if_neg (by have := h.lt; omega), if_pos hd0, if_neg hM, h.len]
  rintro (h1 | h1)
  · have := h.le; omega
  · exact h1 h.beg
end Go.Proofs.YtmmbhmfbhleglaaDoor
