/- Messages in a stream of bytes, as plain functions on lists. Nothing of the program stands here. -/
import Derived.Lib.Atoi
import Derived.Lib.ItoaNum
import Derived.Lib.IndexMore
import Derived.Lib.IndexLaws
import Derived.Lib.Hide
namespace Go.Proofs.YtmmbhmfbhleglaaDoor
open Go
def endM : List UInt8 := [93, 93, 62, 93, 93, 62]
/-- A size: digits alone, none of them a zero ahead. -/
def sizeS : List UInt8 → Option Nat
  | [] => none
  | c :: r => if c = 48 then none else Lib.decNat (c :: r)
theorem sizeS_cons (c : UInt8) (r : List UInt8) : sizeS (c :: r) = if c = 48 then none else Lib.decNat (c :: r) := rfl
/-- Where the first end of a line stands, the first byte left out. -/
def endAt (l : List UInt8) : Nat := 1 + (l.drop 1).findIdx (· == 10)
theorem endAt_pos (l : List UInt8) : 1 ≤ endAt l := by unfold endAt; omega
theorem endAt_hit {l : List UInt8} {i : Nat} (h1 : 1 ≤ i) (hi : l[i]? = some 10) (hn : ∀ j, 1 ≤ j → j < i → l[j]? ≠ some 10) : endAt l = i := by
  have hlt := (List.getElem?_eq_some_iff.1 hi).1
  have e : (l.drop 1).findIdx (· == 10) = i - 1 := by
    rw [List.findIdx_eq (by simp; omega)]
    have hg : ∀ k (hk : k < (l.drop 1).length), some ((l.drop 1)[k]) = l[1 + k]? := fun k hk => by
      rw [← List.getElem?_eq_getElem hk, List.getElem?_drop]
    refine ⟨?_, fun j hj => ?_⟩
    · have := hg (i - 1) (by simp; omega)
      rw [show 1 + (i - 1) = i by omega, hi] at this
      exact beq_iff_eq.2 (Option.some.inj this)
    · have hj2 : j < (l.drop 1).length := by simp; omega
      have := hg j hj2
      have h2 := hn (1 + j) (by omega) (by omega)
      rw [← this] at h2
      simp only [ne_eq, Option.some.injEq] at h2
      simpa using h2
  unfold endAt
  omega
theorem endAt_miss {l : List UInt8} (hn : ∀ j, 1 ≤ j → l[j]? ≠ some 10) : l.length ≤ endAt l := by
  unfold endAt
  have e : (l.drop 1).findIdx (· == 10) = (l.drop 1).length := by
    rw [List.findIdx_eq_length]
    intro x hx
    obtain ⟨j, hj, rfl⟩ := List.mem_iff_getElem.1 hx
    have h2 := hn (1 + j) (by omega)
    rw [← List.getElem?_drop, List.getElem?_eq_getElem hj] at h2
    simpa using h2
  rw [e]
  simp
  omega
theorem endAt_spec (l : List UInt8) : (endAt l < l.length → l[endAt l]? = some 10) ∧ ∀ j, 1 ≤ j → j < endAt l → l[j]? ≠ some 10 := by
  have e : endAt l = 1 + (l.drop 1).findIdx (· == 10) := rfl
  constructor
  · intro h
    have h1 : (l.drop 1).findIdx (· == 10) < (l.drop 1).length := by rw [List.length_drop]; omega
    have h2 := List.findIdx_getElem (w := h1)
    rw [beq_iff_eq] at h2
    rw [e, ← List.getElem?_drop, List.getElem?_eq_getElem h1, h2]
  · intro j hj hlt
    have h2 := List.not_of_lt_findIdx (xs := l.drop 1) (p := (· == 10)) (i := j - 1) (by omega)
    intro h3
    have h4 : (l.drop 1)[j - 1]? = some 10 := by rw [List.getElem?_drop, show 1 + (j - 1) = j by omega]; exact h3
    have h5 := (List.getElem?_eq_some_iff.1 h4).2
    rw [h5] at h2
    simp at h2
theorem endAt_unique {l : List UInt8} {i : Nat} (h1 : 1 ≤ i) (h2 : i < l.length) (hi : l[i]? = some 10) (hn : ∀ j, 1 ≤ j → j < i → l[j]? ≠ some 10) : endAt l = i := endAt_hit h1 hi hn
inductive StepR where
  | form | wait | long
  | done (W : List UInt8)
  | more (W M : List UInt8)
/-- One head, and its chunk. -/
def stepS (W M : List UInt8) : StepR :=
  if 9 < (W.take (endAt W)).length ∨ (W.take (endAt W)).take 2 ≠ ([10, 35] : List UInt8).take (W.take (endAt W)).length then .form
  else if ¬ endAt W < W.length then .wait
  else if W.take (endAt W) = [10, 35, 35] then (if M = [] then .form else .done (W.drop (endAt W + 1)))
  else match sizeS ((W.take (endAt W)).drop 2) with
    | none => .form
    | some n => if 16384 < M.length + n then .long else if W.length < endAt W + 1 + n then .wait else .more (W.drop (endAt W + 1 + n)) (M ++ (W.drop (endAt W + 1)).take n)
theorem stepS_more {W M W' M' : List UInt8} (h : stepS W M = .more W' M') : W'.length < W.length := by
  unfold stepS at h
  split at h
  · cases h
  · split at h
    · cases h
    · split at h
      · split at h <;> cases h
      · split at h
        · cases h
        · split at h
          · cases h
          · split at h
            · cases h
            · simp only [StepR.more.injEq] at h
              rw [← h.1, List.length_drop]
              omega
/-- What the next message of chunks is, what error, what waits then, and what the part of a message is. -/
def gatherS (W M : List UInt8) : List UInt8 × Nat × List UInt8 × List UInt8 :=
  match _h : stepS W M with
  | .form => ([], 3, W, M)
  | .wait => ([], 4, W, M)
  | .long => ([], 2, W, M)
  | .done W' => (M, 0, W', [])
  | .more W' M' => gatherS W' M'
termination_by W.length
decreasing_by exact stepS_more _h
theorem gatherS_more {W M W' M' : List UInt8} (h : stepS W M = .more W' M') : gatherS W M = gatherS W' M' := by
  conv => lhs; unfold gatherS
  split <;> rename_i h2 <;> rw [h2] at h <;> first | (cases h; done) | (simp only [StepR.more.injEq] at h; rw [h.1, h.2])
theorem gatherS_form {W M : List UInt8} (h : stepS W M = .form) : gatherS W M = ([], 3, W, M) := by
  unfold gatherS; split <;> rename_i h2 <;> rw [h2] at h <;> first | rfl | cases h
theorem gatherS_wait {W M : List UInt8} (h : stepS W M = .wait) : gatherS W M = ([], 4, W, M) := by
  unfold gatherS; split <;> rename_i h2 <;> rw [h2] at h <;> first | rfl | cases h
theorem gatherS_long {W M : List UInt8} (h : stepS W M = .long) : gatherS W M = ([], 2, W, M) := by
  unfold gatherS; split <;> rename_i h2 <;> rw [h2] at h <;> first | rfl | cases h
theorem gatherS_done {W M W' : List UInt8} (h : stepS W M = .done W') : gatherS W M = (M, 0, W', []) := by
  unfold gatherS; split <;> rename_i h2 <;> rw [h2] at h <;> first | (cases h; done) | (simp only [StepR.done.injEq] at h; rw [h])
/-- The first framing. -/
def cutS (W M : List UInt8) : List UInt8 × Nat × List UInt8 × List UInt8 :=
  if 0 ≤ Lib.index (W.take 16390) endM then (W.take (Lib.index (W.take 16390) endM).toNat, 0, W.drop ((Lib.index (W.take 16390) endM).toNat + 6), M)
  else if 16390 ≤ W.length then ([], 2, W, M) else ([], 4, W, M)
structure St where
  W : List UInt8
  M : List UInt8
  ch : Bool
  ov : Bool
def rawS (s : St) : List UInt8 × Nat × List UInt8 × List UInt8 := if s.ch then gatherS s.W s.M else cutS s.W s.M
def nextS (s : St) : List UInt8 × Nat × St :=
  if s.ov then ([], 9, s)
  else if (rawS s).2.1 = 2 ∨ (rawS s).2.1 = 3 then ([], (rawS s).2.1, ⟨[], [], false, true⟩)
  else ((rawS s).1, (rawS s).2.1, ⟨(rawS s).2.2.1, (rawS s).2.2.2, s.ch, false⟩)
def feedS (s : St) (b : List UInt8) : St := if s.ov then s else { s with W := s.W ++ b }
def switchS (s : St) : St := { s with ch := true }
def encS (m : List UInt8) (ch : Bool) : List UInt8 :=
  if ch then (if m = [] then [] else [10, 35] ++ Lib.decDigits m.length ++ [10] ++ m ++ [10, 35, 35, 10]) else m ++ endM

/- Sizes and their digits. -/
theorem decFrom_app (l : List UInt8) (c : UInt8) : ∀ acc, Lib.decFrom acc (l ++ [c]) = (Lib.decFrom acc l).bind fun n => (Lib.digitVal c).map fun d => n * 10 + d := by
  induction l with
  | nil =>
    intro acc
    simp only [List.nil_append, Lib.decFrom]
    cases Lib.digitVal c <;> rfl
  | cons b l ih =>
    intro acc
    simp only [List.cons_append, Lib.decFrom]
    cases Lib.digitVal b with
    | none => rfl
    | some d => exact ih _
theorem digitVal_of (n : Nat) (h : n < 10) : Lib.digitVal (UInt8.ofNat (48 + n)) = some n := by
  have e : (UInt8.ofNat (48 + n)).toNat = 48 + n := by simp; omega
  unfold Lib.digitVal
  rw [e, if_pos (by omega)]
  congr 1
  omega
theorem decFrom_digits : ∀ (k u : Nat), u ≤ k → Lib.decFrom 0 (Lib.decDigits u) = some u := by
  intro k
  induction k with
  | zero =>
    intro u hu
    obtain rfl : u = 0 := by omega
    rw [Lib.decDigits, dif_pos (by omega)]
    rfl
  | succ k ih =>
    intro u hu
    rw [Lib.decDigits]
    by_cases h : u < 10
    · rw [dif_pos h]
      simp only [Lib.decFrom, digitVal_of u h]
      simp
    · rw [dif_neg h, decFrom_app, ih (u / 10) (by omega), digitVal_of _ (by omega)]
      simp
      omega
theorem decDigits_head : ∀ (k u : Nat), u ≤ k → 0 < u → ∃ c r, Lib.decDigits u = c :: r ∧ c ≠ 48 ∧ c ≠ 45 ∧ c ≠ 43 := by
  intro k
  induction k with
  | zero => intro u h1 h2; omega
  | succ k ih =>
    intro u h1 h2
    rw [Lib.decDigits]
    by_cases h : u < 10
    · rw [dif_pos h]
      have e : (UInt8.ofNat (48 + u)).toNat = 48 + u := by simp; omega
      refine ⟨_, _, rfl, ?_, ?_, ?_⟩ <;> (intro hc; have := congrArg UInt8.toNat hc; rw [e] at this; simp at this; omega)
    · rw [dif_neg h]
      obtain ⟨c, r, e, h3⟩ := ih (u / 10) (by omega) (by omega)
      exact ⟨c, r ++ _, by rw [e]; rfl, h3⟩
theorem decDigits_ne (u : Nat) : Lib.decDigits u ≠ [] := by
  rw [Lib.decDigits]
  split <;> simp
theorem sizeS_digits {u : Nat} (h : 0 < u) : sizeS (Lib.decDigits u) = some u := by
  obtain ⟨c, r, e, h1, _⟩ := decDigits_head u u (Nat.le_refl _) h
  have h2 := decFrom_digits u u (Nat.le_refl _)
  rw [e] at h2 ⊢
  rw [sizeS_cons, if_neg h1, Lib.decNat]
  simpa using h2
/-- What digits spell has these digits, if the first one is no zero. -/
theorem digits_of : ∀ (k : Nat) (l : List UInt8) (n : Nat), l.length ≤ k → l ≠ [] → l.head? ≠ some 48 → Lib.decFrom 0 l = some n → Lib.decDigits n = l ∧ 0 < n := by
  intro k
  induction k with
  | zero =>
    intro l n h1 h2
    exact absurd (List.eq_nil_of_length_eq_zero (by omega)) h2
  | succ k ih =>
    intro l n h1 h2 h3 h4
    obtain ⟨p, c, rfl⟩ : ∃ p c, l = p ++ [c] := ⟨l.dropLast, l.getLast h2, (List.dropLast_concat_getLast h2).symm⟩
    rw [decFrom_app, Option.bind_eq_some_iff] at h4
    obtain ⟨m, hm, h5⟩ := h4
    rw [Option.map_eq_some_iff] at h5
    obtain ⟨d, hd, rfl⟩ := h5
    have hd2 := Lib.digitVal_eq hd
    have hc : c = UInt8.ofNat (48 + d) := by
      apply UInt8.toNat_inj.1
      have : (UInt8.ofNat (48 + d)).toNat = 48 + d := by simp; omega
      rw [this]
      omega
    cases p with
    | nil =>
      simp only [Lib.decFrom, Option.some.injEq] at hm
      subst hm
      simp only [List.nil_append, List.head?_cons, ne_eq, Option.some.injEq] at h3
      have h6 : d ≠ 0 := by
        rintro rfl
        exact h3 hc
      rw [Lib.decDigits, dif_pos (by omega)]
      simp only [Nat.zero_mul, Nat.zero_add, List.nil_append]
      exact ⟨by rw [hc], by omega⟩
    | cons b p =>
      obtain ⟨h6, h7⟩ := ih (b :: p) m (by simp at h1 ⊢; omega) (by simp) (by simpa using h3) hm
      rw [Lib.decDigits, dif_neg (by omega)]
      refine ⟨?_, by omega⟩
      rw [show (m * 10 + d) / 10 = m by omega, show (m * 10 + d) % 10 = d by omega, h6, hc]
theorem sizeS_some {ds : List UInt8} {n : Nat} (h : sizeS ds = some n) : Lib.atoi ds = some (n : Int) ∧ 0 < n ∧ Lib.decDigits n = ds := by
  cases ds with
  | nil => cases h
  | cons c r =>
    rw [sizeS_cons] at h
    by_cases hc : c = 48
    · rw [if_pos hc] at h; cases h
    · rw [if_neg hc] at h
      obtain ⟨_, h2⟩ := Lib.decNat_some h
      obtain ⟨h3, h4⟩ := digits_of _ (c :: r) n (Nat.le_refl _) (by simp) (by simpa using hc) h2
      refine ⟨?_, h4, h3⟩
      obtain ⟨c', r', e, h5, h6, h7⟩ := decDigits_head n n (Nat.le_refl _) h4
      rw [h3] at e
      simp only [List.cons.injEq] at e
      obtain ⟨rfl, rfl⟩ := e
      have e2 : Lib.atoi (c :: r) = if c == 45 then (Lib.decNat r).map fun (m : Nat) => -(m : Int) else if c == 43 then (Lib.decNat r).map fun (m : Nat) => (m : Int) else (Lib.decNat (c :: r)).map fun (m : Nat) => (m : Int) := rfl
      rw [e2, if_neg (by simpa using h6), if_neg (by simpa using h7), h]
      rfl
theorem sizeS_none {ds : List UInt8} (h : sizeS ds = none) {n : Int} (ha : Lib.atoi ds = some n) (hn : 0 < n) : Lib.itoa n ≠ ds := by
  intro he
  unfold Lib.itoa at he
  rw [if_neg (by omega)] at he
  rw [← he, sizeS_digits (by omega)] at h
  cases h
end Go.Proofs.YtmmbhmfbhleglaaDoor
