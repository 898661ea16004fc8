/- What comes of encoded messages, as plain facts on lists. Nothing of the program stands here. -/
import Derived.Test.YtmmbhmfbhleglaaDoorFSb
import Derived.Lib.ItoaLen
namespace Go.Proofs.YtmmbhmfbhleglaaDoor
open Go
def chunkE (p : List UInt8) : List UInt8 := [10, 35] ++ Lib.decDigits p.length ++ [10] ++ p
theorem encS_chunk {p : List UInt8} (h : p ≠ []) : encS p true = chunkE p ++ [10, 35, 35, 10] := by
  unfold encS chunkE
  rw [if_pos rfl, if_neg h]
/-- Digits are digits. -/
theorem decDigits_mem : ∀ (k u : Nat), u ≤ k → ∀ c ∈ Lib.decDigits u, 48 ≤ c.toNat ∧ c.toNat ≤ 57 := by
  intro k
  induction k with
  | zero =>
    intro u hu c hc
    obtain rfl : u = 0 := by omega
    rw [Lib.decDigits, dif_pos (by omega)] at hc
    simp at hc
    subst hc
    decide
  | succ k ih =>
    intro u hu c hc
    have e : ∀ n, n < 10 → (UInt8.ofNat (48 + n)).toNat = 48 + n := fun n hn => by simp; omega
    rw [Lib.decDigits] at hc
    by_cases h : u < 10
    · rw [dif_pos h, List.mem_singleton] at hc
      subst hc
      rw [e u h]
      omega
    · rw [dif_neg h, List.mem_append, List.mem_singleton] at hc
      rcases hc with hc | rfl
      · exact ih (u / 10) (by omega) c hc
      · rw [e _ (by omega)]
        omega
theorem nDigits_le7 (u : Nat) (h : u ≤ 16384) : Lib.nDigits u ≤ 5 := by
  have h1 := Lib.nDigits_unique
  rcases Nat.lt_or_ge u 10 with h0 | h0
  · rw [Lib.nDigits_small h0]; omega
  rcases Nat.lt_or_ge u 100 with h2 | h2
  · rw [h1 1 u (by omega) (by omega)]; omega
  rcases Nat.lt_or_ge u 1000 with h3 | h3
  · rw [h1 2 u (by omega) (by omega)]; omega
  rcases Nat.lt_or_ge u 10000 with h4 | h4
  · rw [h1 3 u (by omega) (by omega)]; omega
  · rw [h1 4 u (by omega) (by omega)]; omega
theorem digits_len {u : Nat} (h : u ≤ 16384) : (Lib.decDigits u).length ≤ 5 := by
  rw [Lib.decDigits_length]
  exact nDigits_le7 u h
theorem chunkE_len {p : List UInt8} (h : p.length ≤ 16384) : (chunkE p).length ≤ p.length + 8 ∧ p.length + 3 ≤ (chunkE p).length := by
  have := digits_len h
  unfold chunkE
  simp only [List.length_append, List.length_cons, List.length_nil]
  omega
/-- Where the head of a chunk ends. -/
theorem endAt_chunk (D R : List UInt8) (hD : ∀ c ∈ D, c ≠ 10) : endAt ([10, 35] ++ D ++ [10] ++ R) = 2 + D.length := by
  refine endAt_hit (by omega) ?_ (fun j h1 h2 => ?_)
  · rw [List.append_assoc, List.getElem?_append_right (by simp; omega)]
    rw [show 2 + D.length - (([10, 35] : List UInt8) ++ D).length = 0 by simp; omega]
    rfl
  · rw [List.append_assoc, List.getElem?_append_left (by simp; omega)]
    by_cases hj : j = 1
    · subst hj
      simp
    · rw [List.getElem?_append_right (by simp; omega)]
      intro h3
      have := List.mem_of_getElem? h3
      exact hD _ this rfl
theorem digits_no10 (u : Nat) : ∀ c ∈ Lib.decDigits u, c ≠ 10 := by
  intro c hc h
  have := decDigits_mem u u (Nat.le_refl _) c hc
  subst h
  simp at this
theorem take_head (D R : List UInt8) : ([10, 35] ++ D ++ [10] ++ R).take (2 + D.length) = [10, 35] ++ D := by
  rw [List.append_assoc, List.take_append_of_le_length (by simp; omega), List.take_of_length_le (by simp; omega)]
theorem drop_head (D R : List UInt8) : ([10, 35] ++ D ++ [10] ++ R).drop (2 + D.length + 1) = R := by
  rw [List.drop_append_of_le_length (by simp; omega), List.drop_eq_nil_of_le (by simp; omega), List.nil_append]
theorem step_of_chunk {p T M : List UInt8} (hp : p ≠ []) (hl : M.length + p.length ≤ 16384) : stepS (chunkE p ++ T) M = .more T (M ++ p) := by
  have hpos : 0 < p.length := List.length_pos_iff.2 hp
  obtain ⟨D, hD⟩ : ∃ D, D = Lib.decDigits p.length := ⟨_, rfl⟩
  have hDl : D.length ≤ 5 := by rw [hD]; exact digits_len (by omega)
  have hne : D ≠ [] := by rw [hD]; exact decDigits_ne _
  have hW : chunkE p ++ T = [10, 35] ++ D ++ [10] ++ (p ++ T) := by
    unfold chunkE
    rw [← hD, List.append_assoc _ p T]
  have he : endAt ([10, 35] ++ D ++ [10] ++ (p ++ T)) = 2 + D.length := endAt_chunk _ _ (by rw [hD]; exact digits_no10 _)
  rw [hW]
  unfold stepS
  rw [he, take_head, drop_head]
  rw [if_neg, if_neg, if_neg]
  · rw [show (([10, 35] : List UInt8) ++ D).drop 2 = D from rfl, hD, sizeS_digits hpos]
    simp only []
    rw [if_neg (by omega), if_neg]
    · rw [← hD, show 2 + D.length + 1 + p.length = (2 + D.length + 1) + p.length from rfl, ← List.drop_drop, drop_head, List.drop_left, List.take_left]
    · rw [← hD]
      simp only [List.length_append, List.length_cons, List.length_nil]
      omega
  · intro h
    have h2 : D = [35] := by simpa using h
    have := decDigits_mem p.length p.length (Nat.le_refl _) 35 (by rw [← hD, h2]; simp)
    simp at this
  · simp only [List.length_append, List.length_cons, List.length_nil]
    omega
  · rintro (h | h)
    · simp only [List.length_append, List.length_cons, List.length_nil] at h
      omega
    · apply h
      cases D with
      | nil => exact absurd rfl hne
      | cons a D => simp
theorem step_of_end (T : List UInt8) {M : List UInt8} (hM : M ≠ []) : stepS ([10, 35, 35, 10] ++ T) M = .done T := by
  have he : endAt ([10, 35, 35, 10] ++ T) = 3 := by
    refine endAt_hit (by omega) (by simp) (fun j h1 h2 => ?_)
    have : j = 1 ∨ j = 2 := by omega
    rcases this with rfl | rfl <;> simp
  unfold stepS
  rw [he, show (([10, 35, 35, 10] : List UInt8) ++ T).take 3 = [10, 35, 35] from rfl, if_neg, if_neg, if_pos rfl, if_neg hM]
  · rfl
  · simp
  · rintro (h | h)
    · simp at h
    · exact h rfl
theorem gather_chunk {p T M : List UInt8} (hp : p ≠ []) (hl : M.length + p.length ≤ 16384) : gatherS (chunkE p ++ T) M = gatherS T (M ++ p) := gatherS_more (step_of_chunk hp hl)
theorem gather_end (T : List UInt8) {M : List UInt8} (hM : M ≠ []) : gatherS ([10, 35, 35, 10] ++ T) M = (M, 0, T, []) := gatherS_done (step_of_end T hM)
theorem gather_nil (M : List UInt8) : gatherS [] M = ([], 4, [], M) := gatherS_wait rfl
theorem gather_msg {p M : List UInt8} (hp : p ≠ []) (hl : M.length + p.length ≤ 16384) (T : List UInt8) : gatherS (encS p true ++ T) M = (M ++ p, 0, T, []) := by
  rw [encS_chunk hp, List.append_assoc, gather_chunk hp hl, gather_end T (by simp [hp])]
end Go.Proofs.YtmmbhmfbhleglaaDoor
