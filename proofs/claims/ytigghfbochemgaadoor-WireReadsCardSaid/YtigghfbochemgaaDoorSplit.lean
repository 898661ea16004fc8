/- Splitting at commas: plain facts on lists. -/
import Derived.Test.YtigghfbochemgaaDoorLib
import Derived.Lib.Split
import Derived.Lib.CountLaws
import Derived.Lib.Join
namespace Go.Proofs.YtigghfbochemgaaDoor
open Go Go.RowKit

/-- The pieces between the commas. -/
def splitC : List UInt8 → List (List UInt8)
  | [] => [[]]
  | c :: l => if c = 44 then [] :: splitC l else
    match splitC l with
    | [] => [[c]]
    | p :: r => (c :: p) :: r
theorem splitC_ne (l : List UInt8) : splitC l ≠ [] := by
  cases l with
  | nil => simp [splitC]
  | cons c l => unfold splitC; split
                · simp
                · split <;> simp
theorem splitC_pre (p r : List UInt8) (h : 44 ∉ p) : splitC (p ++ 44 :: r) = p :: splitC r := by
  induction p with
  | nil => simp [splitC]
  | cons c p ih =>
    simp at h
    rw [List.cons_append]
    conv => lhs; unfold splitC
    rw [if_neg (fun e => h.1 e.symm), ih h.2]
theorem splitC_none (p : List UInt8) (h : 44 ∉ p) : splitC p = [p] := by
  induction p with
  | nil => simp [splitC]
  | cons c p ih =>
    simp at h
    unfold splitC
    rw [if_neg (fun e => h.1 e.symm), ih h.2]
theorem index_comma (l : List UInt8) : (44 ∉ l ∧ Lib.index l [44] = -1) ∨ ∃ i : Nat, Lib.index l [44] = i ∧ i < l.length ∧ l = l.take i ++ 44 :: l.drop (i + 1) ∧ 44 ∉ l.take i := by
  induction l with
  | nil => left; exact ⟨by simp, rfl⟩
  | cons c l ih =>
    by_cases hc : c = 44
    · subst hc
      right
      exact ⟨0, by simp [Lib.index], by simp, by simp, by simp⟩
    · have hb : ([44] : List UInt8).isPrefixOf (c :: l) = false := by
        simp [List.isPrefixOf]; exact fun e => hc e.symm
      rcases ih with ⟨h1, h2⟩ | ⟨i, h1, h2, h3, h4⟩
      · left
        refine ⟨by simp; exact ⟨fun e => hc e.symm, h1⟩, ?_⟩
        unfold Lib.index; rw [hb, h2]; rfl
      · right
        refine ⟨i + 1, ?_, by simpa using h2, ?_, ?_⟩
        · unfold Lib.index
          rw [hb, h1]
          simp
        · rw [List.take_succ_cons, List.drop_succ_cons, List.cons_append, ← h3]
        · rw [List.take_succ_cons]
          simp
          exact ⟨fun e => hc e.symm, by simpa using h4⟩
theorem splitK_comma : ∀ (n : Nat) (l : List UInt8), l.length ≤ n → Lib.splitK [44] 0 (Lib.count l [44]) l = splitC l := by
  intro n
  induction n with
  | zero =>
    intro l h
    obtain rfl := List.eq_nil_of_length_eq_zero (l := l) (by omega)
    rcases index_comma [] with ⟨_, h2⟩ | ⟨i, _, h2, _⟩
    · rw [Lib.count_miss h2]; rfl
    · simp at h2
  | succ n ih =>
    intro l h
    rcases index_comma l with ⟨h1, h2⟩ | ⟨i, h1, h2, h3, h4⟩
    · rw [Lib.count_miss h2, splitC_none l h1]; rfl
    · rw [Lib.count_hit (by simp) h1, Nat.add_comm]
      have e : splitC l = l.take i :: splitC (l.drop (i + 1)) := by
        conv => lhs; rw [h3]
        exact splitC_pre _ _ h4
      rw [e]
      unfold Lib.splitK
      rw [h1, if_neg (by simp)]
      simp only [Int.toNat_natCast, Nat.add_zero, List.length_cons, List.length_nil, Nat.zero_add]
      rw [ih _ (by rw [List.length_drop]; omega)]
theorem count_len : ∀ (n : Nat) (l : List UInt8), l.length ≤ n → Lib.count l [44] + 1 = (splitC l).length := by
  intro n
  induction n with
  | zero =>
    intro l h
    obtain rfl := List.eq_nil_of_length_eq_zero (l := l) (by omega)
    rcases index_comma [] with ⟨_, h2⟩ | ⟨i, _, h2, _⟩
    · rw [Lib.count_miss h2]; rfl
    · simp at h2
  | succ n ih =>
    intro l h
    rcases index_comma l with ⟨h1, h2⟩ | ⟨i, h1, h2, h3, h4⟩
    · rw [Lib.count_miss h2, splitC_none l h1]; rfl
    · rw [Lib.count_hit (by simp) h1]
      have e : splitC l = l.take i :: splitC (l.drop (i + 1)) := by
        conv => lhs; rw [h3]
        exact splitC_pre _ _ h4
      have := ih (l.drop (i + 1)) (by rw [List.length_drop]; omega)
      simp only [List.length_cons, List.length_nil, Nat.zero_add]
      rw [e, List.length_cons, ← this]
      omega
theorem split_join (l : List (List UInt8)) (hne : l ≠ []) (hc : ∀ x ∈ l, 44 ∉ x) : splitC (Lib.join l [44]) = l := by
  induction l with
  | nil => exact absurd rfl hne
  | cons x l ih =>
    cases l with
    | nil => rw [Lib.join_one]; exact splitC_none x (hc x (by simp))
    | cons y l =>
      have e : Lib.join (x :: y :: l) [44] = x ++ 44 :: Lib.join (y :: l) [44] := by
        rw [Lib.join_cons, Lib.join_cons]; simp [Lib.joinTail]
      rw [e, splitC_pre _ _ (hc x (by simp)), ih (by simp) (fun z hz => hc z (by simp [hz]))]
end Go.Proofs.YtigghfbochemgaaDoor
