/- A range over a text meets each byte below 128. -/
import Derived.Test.YtdjknljhpbebiaaDoorLib
import Derived.Laws.RangeAny
namespace Go.Proofs.YtdjknljhpbebiaaDoor
open Go Go.RowKit

theorem get_bang (s : ByteArray) (j : Nat) (h : j < s.size) : s.get! j = s[j]'h := by
  have := get_at s j h
  simpa using this
theorem decode_tail (s : ByteArray) (pos k : Nat) (hk : 1 ≤ k) (h2 : k < (Utf8.decode s pos).2) : 128 ≤ (s.get! (pos + k)).toNat := by
  simp only [Utf8.decode] at h2
  split at h2
  · simp only [] at h2; omega
  · split at h2
    · rename_i h
      simp only [Bool.and_eq_true, beq_iff_eq, decide_eq_true_eq] at h
      split at h2
      · simp only [] at h2
        obtain rfl : k = 1 := by omega
        omega
      · simp only [] at h2; omega
    · split at h2
      · rename_i h
        simp only [Bool.and_eq_true, beq_iff_eq, decide_eq_true_eq] at h
        split at h2
        · simp only [] at h2
          have : k = 1 ∨ k = 2 := by omega
          rcases this with rfl | rfl <;> omega
        · simp only [] at h2; omega
      · split at h2
        · rename_i h
          simp only [Bool.and_eq_true, beq_iff_eq, decide_eq_true_eq] at h
          split at h2
          · simp only [] at h2
            have : k = 1 ∨ k = 2 ∨ k = 3 := by omega
            rcases this with rfl | rfl | rfl <;> omega
          · simp only [] at h2; omega
        · simp only [] at h2; omega
theorem width_pos (s : ByteArray) (pos : Nat) (h : pos < s.size) : 1 ≤ (Utf8.decode s pos).2 := by
  by_cases ha : (s[pos]'h).toNat < 128
  · rw [decode_ascii s pos h ha]
    exact Nat.le_refl _
  · exact (decode_high s pos h (by omega)).2
/-- What a range has passed holds no comma. -/
def NoComma (s : ByteArray) (pos : Nat) : Prop := ∀ j (h : j < s.size), j < pos → ¬ s[j]'h = 44
theorem NoComma.step {s : ByteArray} {pos : Nat} (h : NoComma s pos) (hp : pos < s.size) (hc : ¬ s[pos]'hp = 44) : NoComma s (pos + (Utf8.decode s pos).2) := by
  intro j hj hlt
  by_cases h1 : j < pos
  · exact h j hj h1
  · by_cases h2 : j = pos
    · subst h2; exact hc
    · have := decode_tail s pos (j - pos) (by omega) (by omega)
      rw [show pos + (j - pos) = j by omega, get_bang s j hj] at this
      intro e
      rw [e] at this
      exact absurd this (by decide)
theorem NoComma.all {s : ByteArray} {pos : Nat} (h : NoComma s pos) (hp : ¬ pos < s.size) : 44 ∉ s.toList := by
  intro hm
  obtain ⟨j, hj, e⟩ := List.getElem_of_mem hm
  have hl := size_toList s
  have hj2 : j < s.size := by omega
  refine h j hj2 (by omega) ?_
  rw [← e]
  have h3 : s.toList = s.data.toList := ByteArray.toList_eq s
  simp only [h3]
  rfl
end Go.Proofs.YtdjknljhpbebiaaDoor
