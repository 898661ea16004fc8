/- Messages up to the limit, and longer ones, as plain facts on lists. Nothing of the program stands here. -/
import Derived.Test.YtmmbhmfbhleglaaDoorFSc
namespace Go.Proofs.YtmmbhmfbhleglaaDoor
open Go
abbrev xs (n : Nat) : List UInt8 := List.replicate n 120
theorem occ_x (k : Nat) (r : List UInt8) : Lib.NoOcc (xs k ++ r) endM k := by
  intro i hi
  unfold Lib.occAt
  rw [List.drop_append_of_le_length (by simp; omega), List.drop_replicate]
  obtain ⟨j, hj⟩ : ∃ j, k - i = j + 1 := ⟨k - i - 1, by omega⟩
  rw [hj, List.replicate_succ]
  rfl
theorem index_x (k : Nat) {r : List UInt8} (h : r.length < 6) : Lib.index (xs k ++ r) endM = -1 :=
  Lib.index_past (by decide) (occ_x k r) (by rw [List.length_append, List.length_replicate]; show k + r.length < k + 6; omega)
theorem index_e (k : Nat) (T : List UInt8) : Lib.index (xs k ++ (endM ++ T)) endM = k := by
  refine Lib.index_hit (occ_x k _) (by rw [List.length_append, List.length_replicate]; omega) ?_
  unfold Lib.occAt
  rw [List.drop_append_of_le_length (by simp), List.drop_of_length_le (by simp), List.nil_append]
  rw [List.isPrefixOf_iff_prefix]
  exact List.prefix_append _ _
theorem cut_x (s : Nat) (M : List UInt8) : cutS (xs s) M = if 16390 ≤ s then ([], 2, xs s, M) else ([], 4, xs s, M) := by
  unfold cutS
  have h : Lib.index ((xs s).take 16390) endM = -1 := by
    have := index_x (min 16390 s) (r := []) (by decide)
    rw [List.append_nil] at this
    rw [List.take_replicate]
    exact this
  rw [h, if_neg (by decide), List.length_replicate]
theorem cut_e {s : Nat} (hs : s ≤ 16384) (M : List UInt8) : cutS (xs s ++ endM) M = (xs s, 0, [], M) := by
  have hl : (xs s ++ endM).length = s + 6 := by rw [List.length_append, List.length_replicate]; rfl
  have h : Lib.index ((xs s ++ endM).take 16390) endM = s := by
    rw [List.take_of_length_le (by omega)]
    have := index_e s []
    rwa [List.append_nil] at this
  unfold cutS
  rw [h, if_pos (by omega), Int.toNat_natCast, List.take_append_of_le_length (by simp), List.take_of_length_le (by simp), List.drop_of_length_le (by omega)]
theorem cut_l {s : Nat} (h1 : 16384 < s) (h2 : s < 16390) (M : List UInt8) : cutS (xs s ++ endM) M = ([], 2, xs s ++ endM, M) := by
  have hl : (xs s ++ endM).length = s + 6 := by rw [List.length_append, List.length_replicate]; rfl
  have h : Lib.index ((xs s ++ endM).take 16390) endM = -1 := by
    rw [List.take_append, List.length_replicate, List.take_of_length_le (by simp; omega)]
    exact index_x s (by rw [List.length_take]; show min _ 6 < 6; omega)
  unfold cutS
  rw [h, if_neg (by decide), if_pos (by omega)]
theorem next_of_err {s : St} (ho : s.ov = false) (h : (rawS s).2.1 = 2) : nextS s = ([], 2, ⟨[], [], false, true⟩) := by
  unfold nextS
  rw [ho, if_neg (by decide), if_pos (.inl h), h]
theorem next_of_ok {s : St} (ho : s.ov = false) {a W M : List UInt8} {e : Nat} (h : rawS s = (a, e, W, M)) (he : e ≠ 2 ∧ e ≠ 3) : nextS s = (a, e, ⟨W, M, s.ch, false⟩) := by
  unfold nextS
  rw [ho, if_neg (by decide), h, if_neg (by rintro (h1 | h1); exact he.1 h1; exact he.2 h1)]
theorem next_over (s : St) (h : s.ov = true) : nextS s = ([], 9, s) := by
  unfold nextS
  rw [h]
  rfl
/-- A head whose chunk would be too much. -/
theorem step_of_long {p T M : List UInt8} (hp : p ≠ []) (hp2 : p.length ≤ 99999) (hl : 16384 < M.length + p.length) : stepS (chunkE p ++ T) M = .long := by
  have hpos : 0 < p.length := List.length_pos_iff.2 hp
  obtain ⟨D, hD⟩ : ∃ D, D = Lib.decDigits p.length := ⟨_, rfl⟩
  have hDl : D.length ≤ 5 := by
    rw [hD, Lib.decDigits_length]
    have h1 := Lib.nDigits_unique
    rcases Nat.lt_or_ge p.length 10 with h0 | h0
    · rw [Lib.nDigits_small h0]; omega
    rcases Nat.lt_or_ge p.length 100 with h2 | h2
    · rw [h1 1 _ (by omega) (by omega)]; omega
    rcases Nat.lt_or_ge p.length 1000 with h3 | h3
    · rw [h1 2 _ (by omega) (by omega)]; omega
    rcases Nat.lt_or_ge p.length 10000 with h4 | h4
    · rw [h1 3 _ (by omega) (by omega)]; omega
    · rw [h1 4 _ (by omega) (by omega)]; omega
  have hne : D ≠ [] := by rw [hD]; exact decDigits_ne _
  have hW : chunkE p ++ T = [10, 35] ++ D ++ [10] ++ (p ++ T) := by
    unfold chunkE
    rw [← hD, List.append_assoc _ p T]
  have he : endAt ([10, 35] ++ D ++ [10] ++ (p ++ T)) = 2 + D.length := endAt_chunk _ _ (by rw [hD]; exact digits_no10 _)
  rw [hW]
  unfold stepS
  rw [he, take_head]
  rw [if_neg, if_neg, if_neg]
  · rw [show (([10, 35] : List UInt8) ++ D).drop 2 = D from rfl, hD, sizeS_digits hpos]
    simp only []
    rw [if_pos hl]
  · intro h
    have h2 : D = [35] := by simpa using h
    have := decDigits_mem p.length p.length (Nat.le_refl _) 35 (by rw [← hD, h2]; simp)
    simp at this
  · simp only [List.length_append, List.length_cons, List.length_nil]
    omega
  · rintro (h | h)
    · simp only [List.length_append, List.length_cons, List.length_nil] at h
      omega
    · apply h
      cases D with
      | nil => exact absurd rfl hne
      | cons a D => simp
/-- The k first of p pieces of so many signs, each as a chunk. -/
def pieceN (s p j : Nat) : Nat := s * (j + 1) / p - s * j / p
def piecesS (s p : Nat) : Nat → List UInt8
  | 0 => []
  | k + 1 => piecesS s p k ++ chunkE (xs (pieceN s p k))
theorem piece_mono (s p j : Nat) : s * j / p ≤ s * (j + 1) / p := Nat.div_le_div_right (Nat.mul_le_mul_left s (by omega))
theorem piece_pos {s p j : Nat} (hp : 1 ≤ p) (hp4 : p ≤ 4) (hs : 16374 ≤ s) : 0 < pieceN s p j := by
  unfold pieceN
  have h1 : s * (j + 1) = s * j + s := Nat.mul_succ s j
  have h2 : s * j / p + 1 ≤ (s * j + s) / p := by
    rw [Nat.le_div_iff_mul_le (by omega), Nat.add_mul, Nat.one_mul]
    have := Nat.div_mul_le_self (s * j) p
    omega
  rw [h1]
  omega
theorem piece_le (s p : Nat) (hp : 1 ≤ p) (k : Nat) (hk : k ≤ p) : s * k / p ≤ s := by
  have : s * k ≤ s * p := Nat.mul_le_mul_left s hk
  calc s * k / p ≤ s * p / p := Nat.div_le_div_right this
    _ = s := Nat.mul_div_cancel s (by omega)
theorem gather_pieces {s p : Nat} (hp : 1 ≤ p) (hp4 : p ≤ 4) (hs : 16374 ≤ s) (hs2 : s ≤ 20000) : ∀ (k : Nat), k ≤ p → ∀ T,
    (s * k / p ≤ 16384 ∧ gatherS (piecesS s p k ++ T) [] = gatherS T (xs (s * k / p))) ∨ (16384 < s * k / p ∧ (gatherS (piecesS s p k ++ T) []).2.1 = 2) := by
  intro k
  induction k with
  | zero =>
    intro _ T
    left
    rw [Nat.mul_zero, Nat.zero_div]
    exact ⟨by omega, rfl⟩
  | succ k ih =>
    intro hk T
    have hm := piece_mono s p k
    have hle := piece_le s p hp (k + 1) hk
    have hpos := piece_pos (j := k) hp hp4 hs
    have hne : xs (pieceN s p k) ≠ [] := by
      intro h
      have := congrArg List.length h
      rw [List.length_replicate] at this
      simp at this
      omega
    have hsum : s * k / p + pieceN s p k = s * (k + 1) / p := by unfold pieceN; omega
    have hN : pieceN s p k ≤ 20000 := Nat.le_trans (Nat.sub_le _ _) (Nat.le_trans hle hs2)
    rw [show piecesS s p (k + 1) ++ T = piecesS s p k ++ (chunkE (xs (pieceN s p k)) ++ T) by rw [piecesS, List.append_assoc]]
    rcases ih (by omega) (chunkE (xs (pieceN s p k)) ++ T) with ⟨h1, h2⟩ | ⟨h1, h2⟩
    · rw [h2]
      by_cases hl : s * (k + 1) / p ≤ 16384
      · left
        refine ⟨hl, ?_⟩
        rw [gather_chunk hne (by rw [List.length_replicate, List.length_replicate]; omega), ← hsum, List.replicate_append_replicate]
      · right
        refine ⟨by omega, ?_⟩
        rw [gatherS_long (step_of_long hne (by rw [List.length_replicate]; omega) (by rw [List.length_replicate, List.length_replicate]; omega))]
    · right
      exact ⟨by omega, h2⟩
theorem chunkE_len2 {p : List UInt8} (h : p.length ≤ 99999) : (chunkE p).length ≤ p.length + 8 ∧ p.length + 3 ≤ (chunkE p).length := by
  have hd : Lib.nDigits p.length ≤ 5 := by
    have h1 := Lib.nDigits_unique
    rcases Nat.lt_or_ge p.length 10 with h0 | h0
    · rw [Lib.nDigits_small h0]; omega
    rcases Nat.lt_or_ge p.length 100 with h2 | h2
    · rw [h1 1 _ (by omega) (by omega)]; omega
    rcases Nat.lt_or_ge p.length 1000 with h3 | h3
    · rw [h1 2 _ (by omega) (by omega)]; omega
    rcases Nat.lt_or_ge p.length 10000 with h4 | h4
    · rw [h1 3 _ (by omega) (by omega)]; omega
    · rw [h1 4 _ (by omega) (by omega)]; omega
  unfold chunkE
  simp only [List.length_append, List.length_cons, List.length_nil, Lib.decDigits_length]
  omega
theorem pieces_len {s p : Nat} (hp : 1 ≤ p) (hs2 : s ≤ 20000) : ∀ k, k ≤ p → (piecesS s p k).length ≤ s * k / p + 8 * k := by
  intro k
  induction k with
  | zero => intro _; simp [piecesS]
  | succ k ih =>
    intro hk
    have hm := piece_mono s p k
    have hle := piece_le s p hp (k + 1) hk
    have h1 := ih (by omega)
    have h2 := (chunkE_len2 (p := xs (pieceN s p k)) (by rw [List.length_replicate]; have hN : pieceN s p k ≤ 20000 := Nat.le_trans (Nat.sub_le _ _) (Nat.le_trans hle hs2); omega)).1
    rw [List.length_replicate] at h2
    have hsum : s * k / p + pieceN s p k = s * (k + 1) / p := by unfold pieceN; omega
    have hN : pieceN s p k ≤ 20000 := Nat.le_trans (Nat.sub_le _ _) (Nat.le_trans hle hs2)
    rw [piecesS, List.length_append]
    omega
end Go.Proofs.YtmmbhmfbhleglaaDoor
