/- Blocks of one's own, in any places. -/
import Derived.Test.YtomlednobmaaeaaDoorRw
namespace Go.Proofs.YtomlednobmaaeaaDoor
open Go Go.RowKit
/-- These blocks hold these cells; all of them are apart, and lie behind w. -/
structure Bks (w wr : World) (bs : List (Nat × TypeId × List Value)) : Prop where
  blk : ∀ (j g : Nat) (T : TypeId) (cs : List Value), bs[j]? = some (g, T, cs) → Blk wr g T cs
  ne : ∀ (i j : Nat) (x y : Nat × TypeId × List Value), bs[i]? = some x → bs[j]? = some y → i ≠ j → x.1 ≠ y.1
  ge : ∀ (j : Nat) (x : Nat × TypeId × List Value), bs[j]? = some x → w.heap.size ≤ x.1
  kp : Kp0 w wr
section
variable {w wr wx : World} {bs : List (Nat × TypeId × List Value)}
theorem Bks.nil (w : World) : Bks w w [] := ⟨by simp, by simp, by simp, Kp.refl _ _⟩
theorem Bks.kp0 (h : Bks w wr bs) (hk : Kp0 wr wx) : Bks w wx bs := ⟨fun j g T cs hj => (h.blk j g T cs hj).kp0 hk, h.ne, h.ge, h.kp.tr hk⟩
theorem Bks.drew (h : Bks w wr bs) : Bks w wr.drew bs := h.kp0 (Kp.refl _ _).drew
theorem Bks.at (h : Bks w wr bs) (j : Nat) {g : Nat} {T : TypeId} {cs : List Value} (hj : bs[j]? = some (g, T, cs)) : Blk wr g T cs := h.blk j g T cs hj
theorem Bks.push (h : Bks w wr bs) (T : TypeId) (cs : List Value) {g : Nat} (hg : g = wr.heap.size) : Bks w (wr.alloc (.cells cs.toArray T)) (bs ++ [(g, T, cs)]) := by
  subst hg
  have hlast : ∀ (j : Nat) (x : Nat × TypeId × List Value), (bs ++ [(wr.heap.size, T, cs)])[j]? = some x → (bs[j]? = some x ∧ x.1 < wr.heap.size) ∨ (j = bs.length ∧ x = (wr.heap.size, T, cs)) := by
    intro j x hj
    by_cases hl : j < bs.length
    · rw [List.getElem?_append_left hl] at hj
      exact .inl ⟨hj, (h.blk j x.1 x.2.1 x.2.2 hj).lt⟩
    · rw [List.getElem?_append_right (by omega)] at hj
      have hj0 : j - bs.length = 0 := by
        have := (List.getElem?_eq_some_iff.1 hj).1
        simp at this
        omega
      rw [hj0] at hj
      simp at hj
      exact .inr ⟨by omega, hj.symm⟩
  refine ⟨fun j g T' cs' hj => ?_, fun i j x y hi hj hne => ?_, fun j x hj => ?_, h.kp.alloc _⟩
  · rcases hlast j _ hj with ⟨h1, _⟩ | ⟨_, h1⟩
    · exact (h.blk j g T' cs' h1).kp0 ((Kp.refl _ _).alloc _)
    · simp only [Prod.mk.injEq] at h1
      obtain ⟨rfl, rfl, rfl⟩ := h1
      exact blk0 wr _ _
  · rcases hlast i _ hi with ⟨h1, l1⟩ | ⟨e1, h1⟩ <;> rcases hlast j _ hj with ⟨h2, l2⟩ | ⟨e2, h2⟩
    · exact h.ne i j x y h1 h2 hne
    · subst h2; exact Nat.ne_of_lt l1
    · subst h1; exact fun e => absurd l2 (by rw [← e]; exact Nat.lt_irrefl _)
    · omega
  · rcases hlast j _ hj with ⟨h1, _⟩ | ⟨_, h1⟩
    · exact h.ge j x h1
    · subst h1; exact h.kp.size
theorem Bks.store (h : Bks w wr bs) (j : Nat) {g : Nat} {T : TypeId} {old cs : List Value} (hj : bs[j]? = some (g, T, old)) (hA : Blk wx g T cs) (hS : Kp (fun b => b = g) wr wx) : Bks w wx (bs.set j (g, T, cs)) := by
  have hjl := (List.getElem?_eq_some_iff.1 hj).1
  have hget : ∀ (k : Nat) (x : Nat × TypeId × List Value), (bs.set j (g, T, cs))[k]? = some x → (k = j ∧ x = (g, T, cs)) ∨ (k ≠ j ∧ bs[k]? = some x) := by
    intro k x hk
    rw [List.getElem?_set] at hk
    by_cases e : j = k
    · rw [if_pos e, if_pos hjl] at hk
      exact .inl ⟨e.symm, (Option.some.inj hk).symm⟩
    · rw [if_neg e] at hk
      exact .inr ⟨fun e2 => e e2.symm, hk⟩
  refine ⟨fun k g' T' cs' hk => ?_, fun i k x y hi hk hne => ?_, fun k x hk => ?_, ?_⟩
  · rcases hget k _ hk with ⟨_, h1⟩ | ⟨e, h1⟩
    · simp only [Prod.mk.injEq] at h1
      obtain ⟨rfl, rfl, rfl⟩ := h1
      exact hA
    · exact (h.blk k g' T' cs' h1).keep hS (fun e2 => h.ne k j _ _ h1 hj e e2)
  · rcases hget i _ hi with ⟨e1, rfl⟩ | ⟨e1, h1⟩ <;> rcases hget k _ hk with ⟨e2, rfl⟩ | ⟨e2, h2⟩
    · omega
    · exact h.ne j k (g, T, old) y hj h2 (fun e => e2 e.symm)
    · exact h.ne i j x (g, T, old) h1 hj e1
    · exact h.ne i k _ _ h1 h2 hne
  · rcases hget k _ hk with ⟨_, rfl⟩ | ⟨_, h1⟩
    · exact h.ge j (g, T, old) hj
    · exact h.ge k _ h1
  · have hge := h.ge j (g, T, old) hj
    exact h.kp.trans hS (fun _ _ h => h) (fun i hi e => by subst e; exact absurd hi (Nat.not_lt.2 hge))
theorem Bks.set (h : Bks w wr bs) (j : Nat) {g : Nat} {T : TypeId} {cs : List Value} (hj : bs[j]? = some (g, T, cs)) (i : Nat) (v : Value) : Bks w (wr.setCell ⟨g, i, none⟩ v) (bs.set j (g, T, cs.set i v)) :=
  h.store j hj ((h.at j hj).set' i v) ((Kp.refl (fun b => b = g) wr).setCell (p := ⟨g, i, none⟩) (fun _ => rfl) _)
theorem Bks.take (h : Bks w wr bs) (n : Nat) : Bks w wr (bs.take n) := by
  have hget : ∀ (k : Nat) (x : Nat × TypeId × List Value), (bs.take n)[k]? = some x → bs[k]? = some x := by
    intro k x hk
    rw [List.getElem?_take] at hk
    split at hk
    · exact hk
    · cases hk
  exact ⟨fun j g T cs hj => h.blk j g T cs (hget _ _ hj), fun i j x y hi hj => h.ne i j x y (hget _ _ hi) (hget _ _ hj), fun j x hj => h.ge j x (hget _ _ hj), h.kp⟩
end
end Go.Proofs.YtomlednobmaaeaaDoor
