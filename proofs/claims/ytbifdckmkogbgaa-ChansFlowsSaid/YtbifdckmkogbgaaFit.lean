/- The laws' own opening, and what reading gives of what was written. -/
import Derived.Test.YtbifdckmkogbgaaRead
namespace Go.Proofs.Ytbifdckmkogbgaa
open Go Go.RowKit

theorem ab_list : ({ data := #[97, 98] } : ByteArray).toList = [97, 98] := by rw [ByteArray.toList_eq]
theorem stripZ_zeros (z : Nat) (l : List UInt8) : stripZ (List.replicate z 0 ++ l) = stripZ l := by
  induction z with
  | zero => rfl
  | succ z ih =>
    rw [List.replicate_succ, List.cons_append]
    conv => lhs; unfold stripZ
    exact (if_pos rfl).trans ih
theorem stripZ_idem (l : List UInt8) : stripZ (stripZ l) = stripZ l := by
  induction l with
  | nil => rfl
  | cons c l ih =>
    by_cases h : c = 0
    · have : stripZ (c :: l) = stripZ l := by conv => lhs; unfold stripZ; rw [if_pos h]
      rw [this, ih]
    · have : stripZ (c :: l) = c :: l := by conv => lhs; unfold stripZ; rw [if_neg h]
      rw [this, this]
theorem stripZ_head (l : List UInt8) : stripZ l = [] ∨ ∃ c t, stripZ l = c :: t ∧ ¬ c = 0 := by
  induction l with
  | nil => exact .inl rfl
  | cons c l ih =>
    by_cases h : c = 0
    · have : stripZ (c :: l) = stripZ l := by conv => lhs; unfold stripZ; rw [if_pos h]
      rw [this]; exact ih
    · have : stripZ (c :: l) = c :: l := by conv => lhs; unfold stripZ; rw [if_neg h]
      rw [this]; exact .inr ⟨c, l, rfl, h⟩
theorem be4_len (n : Nat) : (be4 n).length = 4 := rfl
theorem beNat_be4 (n : Nat) (h : n < 4294967296) : beNat (be4 n) = n := by
  have e : ∀ k : Nat, (UInt8.ofNat k).toNat = k % 256 := fun k => by simp
  simp only [be4, beNat, e]
  omega
theorem takeS_app (a b : List UInt8) (n : Int) (h : n = (a.length : Int)) : takeS (some (a ++ b)) n = (a, some b) := by
  subst h
  simp [takeS]
  omega
theorem textS_enc (l r : List UInt8) (h : l.length ≤ 16384) : textS (some (encText l ++ r)) = (l, some r) := by
  have e : u32S (some (encText l ++ r)) = (l.length, some (l ++ r)) := by
    unfold u32S encText
    rw [List.append_assoc, takeS_app (be4 l.length) (l ++ r) 4 (by rw [be4_len]; rfl), beNat_be4 _ (by omega)]
  unfold textS
  rw [e, if_neg (by simp only []; omega)]
  exact takeS_app l r _ rfl
theorem intS_enc (l r : List UInt8) (h : l.length ≤ 16383) : intS (some (encInt l ++ r)) = (stripZ l, some r) := by
  have hl := stripZ_len l
  have hs : (signed (stripZ l)).length ≤ 16384 := by 
    unfold signed
    split
    · rw [List.length_cons]; omega
    · omega
  unfold intS encInt
  rw [textS_enc _ _ hs]
  simp only []
  rcases stripZ_head l with h0 | ⟨c, t, h0, hc⟩
  · rw [h0]; rfl
  · rw [h0]
    unfold signed
    by_cases hb : hiB (c :: t) = true
    · rw [if_pos hb, intP_c0 _ rfl rfl, if_pos hb]
    · rw [if_neg hb, intP_c1 _ rfl hc (by simpa using hb)]

end Go.Proofs.Ytbifdckmkogbgaa
