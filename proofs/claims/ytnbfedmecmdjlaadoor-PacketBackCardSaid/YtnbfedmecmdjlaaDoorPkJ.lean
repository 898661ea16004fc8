/- Package packet: what Next leaves. -/
import Derived.Test.YtnbfedmecmdjlaaDoorGu
namespace Go.Proofs.YtnbfedmecmdjlaaDoor
open Go Go.RowKit
theorem nextR_dead {r : Rn} (hd : r.dead = true) : nextR r = (r, [], 9) := by
  unfold nextR
  rw [if_pos hd]
theorem nextR_bad {r : Rn} (hd : r.dead = false) (h : (nextR r).2.2 ≠ 0) (h4 : (nextR r).2.2 ≠ 4) : (nextR r).1.dead = true ∧ (nextR r).1.W = [] := by
  unfold nextR at h h4 ⊢
  rw [hd] at h h4 ⊢
  simp only [Bool.false_eq_true, if_false] at h h4 ⊢
  split at h
  · rename_i h0
    rw [if_pos h0] at h4
    exact absurd rfl h4
  · rename_i h0
    rw [if_neg h0]
    split at h
    · rename_i h5
      rw [if_pos h5]
      exact ⟨rfl, rfl⟩
    · rename_i h5
      rw [if_neg h5]
      split at h
      · rename_i h6
        rw [if_pos h6]
        exact ⟨rfl, rfl⟩
      · exact absurd rfl h
theorem nextR_ok {r : Rn} (hd : r.dead = false) (h1 : r.op ≤ unitD r.d) (h : (nextR r).2.2 = 0) :
    (nextR r).1.dead = false ∧ (nextR r).1.op = 0 ∧ (nextR r).1.W.length ≤ r.W.length ∧ (nextR r).1.d.cnt = r.d.cnt + 1 := by
  unfold nextR at h ⊢
  rw [hd] at h ⊢
  simp only [Bool.false_eq_true, if_false] at h ⊢
  have hA : awaitR r = ((awaitR r).1, (awaitR r).2.1, (awaitR r).2.2) := rfl
  have hP := payR_1 (awaitR r).1 (awaitR r).2.1
  generalize (awaitR r).1 = r1 at *
  generalize (awaitR r).2.1 = S at *
  generalize (awaitR r).2.2 = e at *
  split at h
  · cases h
  · rename_i h0
    rw [if_neg h0]
    split at h
    · rename_i h5
      exact absurd h h5
    · rename_i h5
      rw [if_neg h5]
      obtain rfl : e = 0 := by omega
      obtain ⟨e1, e2, e3, e4, e5, e6⟩ := awaitR_ok hA
      have hl1 : r1.W.length = r.W.length := by rw [e1]; exact openR_len r _ h1 e6
      have ho1 : r1.op = unitD r.d := by rw [e1]; rfl
      have hd1 : r1.dead = r.dead := by rw [e1]; rfl
      have hc1 : r1.d.cnt = r.d.cnt := by rw [e1]; exact (gone_key r.d _).2.1
      split at h
      · rename_i h6
        exact absurd h h6
      · rename_i h6
        rw [if_neg h6, hP]
        refine ⟨?_, rfl, ?_, ?_⟩
        · show r1.dead = false
          rw [hd1, hd]
        · show ((openR r1 S).W.drop _).length ≤ _
          rw [List.length_drop, openR_len r1 S (by omega) (by omega)]
          omega
        · show (gone r1.d _).cnt + 1 = _
          rw [(gone_key r1.d _).2.1, hc1]
end Go.Proofs.YtnbfedmecmdjlaaDoor
