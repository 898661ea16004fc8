/- Messages one behind the other, in any cuts, as plain facts on lists. Nothing of the program stands here. -/
import Derived.Test.YtdjknljhpbebiaaDoorFSd
namespace Go.Proofs.YtdjknljhpbebiaaDoor
open Go
structure Good (ch : Bool) (s : List UInt8) : Prop where
  len : s.length ≤ 5000
  ne : ch = true → s ≠ []
  no : ch = false → 93 ∉ s
def encAll (ch : Bool) (ls : List (List UInt8)) : List UInt8 := (ls.map fun s => encS s ch).flatten
theorem encAll_nil (ch : Bool) : encAll ch [] = [] := rfl
theorem encAll_cons (ch : Bool) (s : List UInt8) (ls : List (List UInt8)) : encAll ch (s :: ls) = encS s ch ++ encAll ch ls := by simp [encAll]
theorem encAll_app (ch : Bool) (a b : List (List UInt8)) : encAll ch (a ++ b) = encAll ch a ++ encAll ch b := by simp [encAll]
/-- What waits, what is still to come, and the messages that are not told yet. -/
def Sync (ch : Bool) (W M R : List UInt8) (ls : List (List UInt8)) : Prop :=
  (M = [] ∧ W ++ R = encAll ch ls) ∨ (ch = true ∧ ∃ s rest, ls = s :: rest ∧ M = s ∧ W ++ R = [10, 35, 35, 10] ++ encAll ch rest)
/-- W ++ R = A ++ B: one of them ends first. -/
theorem app_cases {W R A B : List UInt8} (h : W ++ R = A ++ B) : (∃ X, W = A ++ X ∧ X ++ R = B) ∨ (W.length < A.length ∧ W = A.take W.length ∧ R ≠ []) := by
  by_cases hl : A.length ≤ W.length
  · left
    have e : A = W.take A.length := by
      have := congrArg (List.take A.length) h
      rw [List.take_left, List.take_append_of_le_length hl] at this
      exact this.symm
    refine ⟨W.drop A.length, ?_, ?_⟩
    · conv => lhs; rw [← List.take_append_drop A.length W]
      rw [← e]
    · have := congrArg (List.drop A.length) h
      rw [List.drop_left, List.drop_append_of_le_length hl] at this
      exact this
  · right
    refine ⟨by omega, ?_, ?_⟩
    · have := congrArg (List.take W.length) h
      rw [List.take_left, List.take_append_of_le_length (by omega)] at this
      exact this
    · rintro rfl
      have := congrArg List.length h
      simp only [List.append_nil, List.length_append] at this
      omega
theorem occ_no93 {l : List UInt8} {k : Nat} (h : ∀ i, i < k → l[i]? ≠ some 93) : Lib.NoOcc l endM k := by
  intro i hi
  unfold Lib.occAt
  cases hc : endM.isPrefixOf (l.drop i) with
  | false => rfl
  | true =>
    exfalso
    rw [List.isPrefixOf_iff_prefix] at hc
    obtain ⟨t, ht⟩ := hc
    refine h i hi ?_
    have := congrArg (fun x : List UInt8 => x[0]?) ht
    simp only [List.getElem?_drop, Nat.add_zero] at this
    rw [← this]
    rfl
theorem get_no {s : List UInt8} (h : 93 ∉ s) (i : Nat) : s[i]? ≠ some 93 := fun e => h (List.mem_of_getElem? e)
theorem cut_msg {s X : List UInt8} (hs : 93 ∉ s) (hl : s.length ≤ 5000) : cutS (s ++ endM ++ X) [] = (s, 0, X, []) := by
  have h6 : endM.length = 6 := rfl
  have e0 : (s ++ endM ++ X).take 16390 = s ++ endM ++ X.take (16390 - (s.length + 6)) := by
    rw [List.take_append, List.take_of_length_le (by rw [List.length_append]; omega), List.length_append, h6]
  have hi : Lib.index ((s ++ endM ++ X).take 16390) endM = s.length := by
    rw [e0]
    refine Lib.index_hit (occ_no93 (fun i hi => ?_)) (by rw [List.length_append, List.length_append]; omega) ?_
    · rw [List.append_assoc, List.getElem?_append_left hi]
      exact get_no hs i
    · unfold Lib.occAt
      rw [List.append_assoc, List.drop_left, List.isPrefixOf_iff_prefix]
      exact List.prefix_append _ _
  unfold cutS
  rw [hi, if_pos (by omega), Int.toNat_natCast, List.append_assoc, List.take_left, ← List.append_assoc]
  rw [show s.length + 6 = (s ++ endM).length by rw [List.length_append]; rfl, List.drop_left]
theorem cut_part {s W : List UInt8} (hs : 93 ∉ s) (hl : s.length ≤ 5000) (h1 : W.length < (s ++ endM).length) (h2 : W = (s ++ endM).take W.length) : cutS W [] = ([], 4, W, []) := by
  have h6 : (s ++ endM).length = s.length + 6 := by rw [List.length_append]; rfl
  have hi : Lib.index (W.take 16390) endM = -1 := by
    rw [List.take_of_length_le (by omega)]
    refine Lib.index_past (by decide) (i := s.length) (occ_no93 (fun i hi => ?_)) (by show W.length < s.length + 6; omega)
    by_cases hw : i < W.length
    · rw [h2, List.getElem?_take_of_lt hw, List.getElem?_append_left hi]
      exact get_no hs i
    · rw [List.getElem?_eq_none (by omega)]
      simp
  unfold cutS
  rw [hi, if_neg (by decide), if_neg (by omega)]
theorem take_short {A B : List UInt8} {n : Nat} (h : n ≤ A.length) : (A ++ B).take n = A.take n := List.take_append_of_le_length h
/-- A beginning of a chunk. -/
theorem step_part {s W : List UInt8} (hs : s ≠ []) (hl : s.length ≤ 5000) (h1 : W.length < (chunkE s).length) (h2 : W = (chunkE s).take W.length) : stepS W [] = .wait := by
  obtain ⟨D, hD⟩ : ∃ D, D = Lib.decDigits s.length := ⟨_, rfl⟩
  have hDl : D.length ≤ 5 := by rw [hD]; exact digits_len (by omega)
  have hD10 : ∀ c ∈ D, c ≠ 10 := by rw [hD]; exact digits_no10 _
  have hne : D ≠ [] := by rw [hD]; exact decDigits_ne _
  have hpos : 0 < s.length := List.length_pos_iff.2 hs
  have hE : chunkE s = [10, 35] ++ D ++ [10] ++ s := by unfold chunkE; rw [← hD]
  rw [hE] at h1 h2
  by_cases hw : W.length ≤ 2 + D.length
  · have hW : W = ([10, 35] ++ D).take W.length := by
      conv => lhs; rw [h2]
      rw [List.append_assoc _ [10] s, take_short (by simp; omega)]
    have hno : ∀ j, 1 ≤ j → W[j]? ≠ some 10 := by
      intro j hj h
      have hjl := (List.getElem?_eq_some_iff.1 h).1
      rw [hW, List.getElem?_take_of_lt (by omega)] at h
      by_cases hj1 : j = 1
      · subst hj1
        simp at h
      · rw [List.getElem?_append_right (by simp; omega)] at h
        exact hD10 _ (List.mem_of_getElem? h) rfl
    have he := endAt_miss hno
    have ht : W.take (endAt W) = W := List.take_of_length_le he
    unfold stepS
    rw [ht, if_neg, if_pos (by omega)]
    rintro (h | h)
    · omega
    · apply h
      rw [hW, List.take_take, List.length_take]
      by_cases h2l : W.length ≤ 2
      · rw [Nat.min_eq_right h2l, take_short (by simpa using h2l)]
        congr 1
        simp
        omega
      · rw [Nat.min_eq_left (by omega), take_short (by simp), List.take_of_length_le (by simp), List.take_of_length_le (by simp; omega)]
  · obtain ⟨s', hs'⟩ : ∃ s', W = [10, 35] ++ D ++ [10] ++ s' := by
      refine ⟨W.drop (3 + D.length), ?_⟩
      conv => lhs; rw [← List.take_append_drop (3 + D.length) W]
      congr 1
      conv => lhs; rw [h2]
      rw [List.take_take, Nat.min_eq_left (by omega), take_short (by simp; omega), List.take_of_length_le (by simp; omega)]
    have hsl : s'.length < s.length := by
      have := congrArg List.length hs'
      simp only [List.length_append, List.length_cons, List.length_nil] at this h1
      omega
    rw [hs']
    have he : endAt ([10, 35] ++ D ++ [10] ++ s') = 2 + D.length := endAt_chunk _ _ hD10
    unfold stepS
    rw [he, take_head]
    rw [if_neg, if_neg, if_neg]
    · rw [show (([10, 35] : List UInt8) ++ D).drop 2 = D from rfl, hD, sizeS_digits hpos]
      simp only []
      rw [if_neg (by simp; omega), if_pos]
      rw [← hD]
      simp only [List.length_append, List.length_cons, List.length_nil]
      omega
    · intro h
      have h2 : D = [35] := by simpa using h
      have := decDigits_mem s.length s.length (Nat.le_refl _) 35 (by rw [← hD, h2]; simp)
      simp at this
    · simp only [List.length_append, List.length_cons, List.length_nil]
      omega
    · rintro (h | h)
      · simp only [List.length_append, List.length_cons, List.length_nil] at h
        omega
      · apply h
        cases D with
        | nil => exact absurd rfl hne
        | cons a D => simp
/-- A beginning of the last head. -/
theorem step_part2 {W M : List UInt8} (h1 : W.length < 4) (h2 : W = ([10, 35, 35, 10] : List UInt8).take W.length) : stepS W M = .wait := by
  have : W = [] ∨ W = [10] ∨ W = [10, 35] ∨ W = [10, 35, 35] := by
    obtain ⟨k, hk⟩ : ∃ k, k = W.length := ⟨_, rfl⟩
    rw [← hk] at h1 h2
    have : k = 0 ∨ k = 1 ∨ k = 2 ∨ k = 3 := by omega
    rcases this with rfl | rfl | rfl | rfl
    · exact .inl h2
    · exact .inr (.inl h2)
    · exact .inr (.inr (.inl h2))
    · exact .inr (.inr (.inr h2))
  rcases this with rfl | rfl | rfl | rfl <;> rfl
theorem next_ok {W M a W' M' : List UInt8} {ch : Bool} {e : Nat} (h : rawS ⟨W, M, ch, false⟩ = (a, e, W', M')) (he : e ≠ 2 ∧ e ≠ 3) : nextS ⟨W, M, ch, false⟩ = (a, e, ⟨W', M', ch, false⟩) := next_of_ok rfl h he
theorem next_nil0 : nextS ⟨[], [], true, false⟩ = ([], 4, ⟨[], [], true, false⟩) := next_ok (gather_nil []) ⟨by decide, by decide⟩
theorem next_sync {ch : Bool} {W M R : List UInt8} {ls : List (List UInt8)} (hg : ∀ s ∈ ls, Good ch s) (h : Sync ch W M R ls) :
    (∃ W' M', nextS ⟨W, M, ch, false⟩ = ([], 4, ⟨W', M', ch, false⟩) ∧ Sync ch W' M' R ls ∧ (R = [] → ls = [])) ∨
    (∃ s rest W' M', ls = s :: rest ∧ nextS ⟨W, M, ch, false⟩ = (s, 0, ⟨W', M', ch, false⟩) ∧ Sync ch W' M' R rest) := by
  have lastB : ∀ (W s : List UInt8) (rest : List (List UInt8)), ch = true → s ≠ [] → W ++ R = [10, 35, 35, 10] ++ encAll ch rest →
      (gatherS W s = ([], 4, W, s) ∧ R ≠ []) ∨ (∃ W', gatherS W s = (s, 0, W', []) ∧ W' ++ R = encAll ch rest) := by
    intro W s rest hch hs hW
    rcases app_cases hW with ⟨X, rfl, hX⟩ | ⟨h1, h2, h3⟩
    · exact .inr ⟨X, gather_end X hs, hX⟩
    · exact .inl ⟨gatherS_wait (step_part2 h1 h2), h3⟩
  cases ch with
  | false =>
    rcases h with ⟨rfl, hW⟩ | ⟨hf, _⟩
    · cases ls with
      | nil =>
        rw [encAll_nil, List.append_eq_nil_iff] at hW
        obtain ⟨rfl, rfl⟩ := hW
        exact .inl ⟨[], [], rfl, .inl ⟨rfl, rfl⟩, fun _ => rfl⟩
      | cons s rest =>
        have gs := hg s (by simp)
        rw [encAll_cons, show encS s false = s ++ endM from rfl] at hW
        rcases app_cases hW with ⟨X, rfl, hX⟩ | ⟨h1, h2, h3⟩
        · exact .inr ⟨s, rest, X, [], rfl, next_ok (cut_msg (gs.no rfl) gs.len) ⟨by decide, by decide⟩, .inl ⟨rfl, hX⟩⟩
        · exact .inl ⟨W, [], next_ok (cut_part (gs.no rfl) gs.len h1 h2) ⟨by decide, by decide⟩, .inl ⟨rfl, by rw [encAll_cons]; exact hW⟩, fun hr => absurd hr h3⟩
    · cases hf
  | true =>
    rcases h with ⟨rfl, hW⟩ | ⟨_, s, rest, rfl, rfl, hW⟩
    · cases ls with
      | nil =>
        rw [encAll_nil, List.append_eq_nil_iff] at hW
        obtain ⟨rfl, rfl⟩ := hW
        exact .inl ⟨[], [], next_nil0, .inl ⟨rfl, rfl⟩, fun _ => rfl⟩
      | cons s rest =>
        have gs := hg s (by simp)
        have hne := gs.ne rfl
        have hW0 := hW
        rw [encAll_cons, encS_chunk hne, List.append_assoc] at hW
        rcases app_cases hW with ⟨X, rfl, hX⟩ | ⟨h1, h2, h3⟩
        · have hgc : gatherS (chunkE s ++ X) [] = gatherS X s := by
            have := gather_chunk (p := s) (T := X) (M := []) hne (by have := gs.len; simp; omega)
            rwa [List.nil_append] at this
          rcases lastB X s rest rfl hne hX with ⟨h4, h5⟩ | ⟨W', h4, h5⟩
          · exact .inl ⟨X, s, next_ok (by show gatherS _ _ = _; rw [hgc, h4]) ⟨by decide, by decide⟩, .inr ⟨rfl, s, rest, rfl, rfl, hX⟩, fun hr => absurd hr h5⟩
          · exact .inr ⟨s, rest, W', [], rfl, next_ok (by show gatherS _ _ = _; rw [hgc, h4]) ⟨by decide, by decide⟩, .inl ⟨rfl, h5⟩⟩
        · exact .inl ⟨W, [], next_ok (gatherS_wait (step_part hne gs.len h1 h2)) ⟨by decide, by decide⟩, .inl ⟨rfl, hW0⟩, fun hr => absurd hr h3⟩
    · have gs := hg M (by simp)
      rcases lastB W M rest rfl (gs.ne rfl) hW with ⟨h4, h5⟩ | ⟨W', h4, h5⟩
      · exact .inl ⟨W, M, next_ok h4 ⟨by decide, by decide⟩, .inr ⟨rfl, M, rest, rfl, rfl, hW⟩, fun hr => absurd hr h5⟩
      · exact .inr ⟨M, rest, W', [], rfl, next_ok h4 ⟨by decide, by decide⟩, .inl ⟨rfl, h5⟩⟩
theorem sync_feed {ch : Bool} {W M R a b : List UInt8} {ls : List (List UInt8)} (h : Sync ch W M R ls) (hR : R = a ++ b) : Sync ch (W ++ a) M b ls := by
  subst hR
  rcases h with ⟨h1, h2⟩ | ⟨h1, s, rest, h2, h3, h4⟩
  · exact .inl ⟨h1, by rw [List.append_assoc]; exact h2⟩
  · exact .inr ⟨h1, s, rest, h2, h3, by rw [List.append_assoc]; exact h4⟩
end Go.Proofs.YtdjknljhpbebiaaDoor
