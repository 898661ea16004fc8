/- What waits grows less with each message; what is gathered stays small. Nothing of the program stands here. -/
import Derived.Test.YtmmbhmfbhleglaaDoorFSd
namespace Go.Proofs.YtmmbhmfbhleglaaDoor
open Go
theorem stepS_doneL {W M W' : List UInt8} (h : stepS W M = .done W') : W'.length < W.length := by
  unfold stepS at h
  split at h
  · cases h
  · split at h
    · cases h
    · rename_i h2
      split at h
      · split at h
        · cases h
        · simp only [StepR.done.injEq] at h
          rw [← h, List.length_drop]
          omega
      · split at h
        · cases h
        · split at h
          · cases h
          · split at h <;> cases h
theorem stepS_moreM {W M W' M' : List UInt8} (h : stepS W M = .more W' M') : M'.length ≤ 16384 := by
  unfold stepS at h
  split at h
  · cases h
  · split at h
    · cases h
    · split at h
      · split at h <;> cases h
      · split at h
        · cases h
        · split at h
          · cases h
          · split at h
            · cases h
            · simp only [StepR.more.injEq] at h
              rw [← h.2, List.length_append, List.length_take]
              omega
structure RawOk (W M : List UInt8) (r : List UInt8 × Nat × List UInt8 × List UInt8) : Prop where
  m : r.2.2.2.length ≤ 16384
  w : r.2.2.1.length ≤ W.length
  lt : r.2.1 = 0 → r.2.2.1.length < W.length
  e : r.2.1 ≤ 4
theorem gather_ok : ∀ (k : Nat) (W M : List UInt8), W.length ≤ k → M.length ≤ 16384 → RawOk W M (gatherS W M) := by
  intro k
  induction k with
  | zero =>
    intro W M hk hm
    cases hs : stepS W M with
    | form => rw [gatherS_form hs]; exact ⟨hm, Nat.le_refl _, (fun h => by cases h), (by show 3 ≤ 4; omega)⟩
    | wait => rw [gatherS_wait hs]; exact ⟨hm, Nat.le_refl _, (fun h => by cases h), Nat.le_refl _⟩
    | long => rw [gatherS_long hs]; exact ⟨hm, Nat.le_refl _, (fun h => by cases h), (by show 2 ≤ 4; omega)⟩
    | done W' => have := stepS_doneL hs; omega
    | more W' M' => have := stepS_more hs; omega
  | succ k ih =>
    intro W M hk hm
    cases hs : stepS W M with
    | form => rw [gatherS_form hs]; exact ⟨hm, Nat.le_refl _, (fun h => by cases h), (by show 3 ≤ 4; omega)⟩
    | wait => rw [gatherS_wait hs]; exact ⟨hm, Nat.le_refl _, (fun h => by cases h), Nat.le_refl _⟩
    | long => rw [gatherS_long hs]; exact ⟨hm, Nat.le_refl _, (fun h => by cases h), (by show 2 ≤ 4; omega)⟩
    | done W' =>
      have h1 := stepS_doneL hs
      rw [gatherS_done hs]
      exact ⟨Nat.zero_le _, Nat.le_of_lt h1, fun _ => h1, Nat.zero_le _⟩
    | more W' M' =>
      have h1 := stepS_more hs
      rw [gatherS_more hs]
      have h2 := ih W' M' (by omega) (stepS_moreM hs)
      exact ⟨h2.m, Nat.le_trans h2.w (Nat.le_of_lt h1), fun h => Nat.lt_trans (h2.lt h) h1, h2.e⟩
theorem cut_ok (W M : List UInt8) (hm : M.length ≤ 16384) : RawOk W M (cutS W M) := by
  unfold cutS
  split
  · rename_i h
    refine ⟨hm, ?_, fun _ => ?_, Nat.zero_le _⟩
    · show (W.drop _).length ≤ _
      rw [List.length_drop]; omega
    · show (W.drop _).length < _
      rw [List.length_drop]
      have h1 := Lib.index_room (W.take 16390) endM (by omega)
      rw [List.length_take] at h1
      have h7 : endM.length = 6 := rfl
      omega
  · split
    · exact ⟨hm, Nat.le_refl _, (fun h => by cases h), (by show 2 ≤ 4; omega)⟩
    · exact ⟨hm, Nat.le_refl _, (fun h => by cases h), Nat.le_refl _⟩
structure NextOk (s : St) (r : List UInt8 × Nat × St) : Prop where
  m : r.2.2.M.length ≤ 16384
  w : r.2.2.W.length ≤ s.W.length
  lt : r.2.1 = 0 → r.2.2.W.length < s.W.length
  e : r.2.1 ≤ 9
theorem next_ok (s : St) (hm : s.M.length ≤ 16384) : NextOk s (nextS s) := by
  have hr : RawOk s.W s.M (rawS s) := by
    unfold rawS
    split
    · exact gather_ok _ _ _ (Nat.le_refl _) hm
    · exact cut_ok _ _ hm
  have he := hr.e
  unfold nextS
  split
  · exact ⟨hm, Nat.le_refl _, (fun h => by cases h), Nat.le_refl _⟩
  · split
    · rename_i h
      exact ⟨Nat.zero_le _, Nat.zero_le _, (fun h0 => by rcases h with h | h <;> (simp only [] at h0; omega)), Nat.le_trans he (by decide)⟩
    · exact ⟨hr.m, hr.w, hr.lt, Nat.le_trans he (by decide)⟩
end Go.Proofs.YtmmbhmfbhleglaaDoor
