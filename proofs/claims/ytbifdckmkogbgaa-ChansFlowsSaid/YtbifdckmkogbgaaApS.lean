/- A string's bytes appended to a slice of one's own: where the row lies. Nothing of the program stands here. -/
import Derived.Test.YtbifdckmkogbgaaOw
import Derived.Lib.AppendStr
namespace Go.Proofs.Ytbifdckmkogbgaa
open Go Go.RowKit
section
variable {P : Program} {w : World} {ops : Array Oper} {rest : List Oper} {o : Oper} {a : Act} {Q : Exit → Act → World → Prop}
theorem run_append_str_at (t u ty e : TypeId) (ht : P.underlying t = some (.slice e)) (hu : P.underlying u = some .string) (hi : (P.info? e).map (fun i => (i.zero, i.size, i.bytes)) = some (some (.int .u8 0), 1, 1))
    {B : Nat} {v : Value} {xs : List Value} (hown : Own B e w v xs) (s : ByteArray) (h63 : xs.length + s.size ≤ 140737488355328) (hbase : B ≤ w.heap.size) :
    ∃ v' w', (Builtin.append_ #[t, u] ty #[v, .string s]).run P w = .ok v' w' ∧ Own B e w' v' (xs ++ bys s.toList) ∧ Kp (fun b => v.ownBlock = some b) w w' ∧ (∀ b, v'.ownBlock = some b → v.ownBlock = some b ∨ w.heap.size ≤ b) := by
  obtain ⟨i, hi, hz0, hz1, hz2⟩ := info_parts hi
  obtain ⟨v', w', hrun, r1, r2, _⟩ := Lib.run_append_own_string (P := P) w B t u ty e i ht hu hi hz0 hz1 hz2 v _ xs hown s (by unfold maxLen; omega) h63 hbase
  have hO : Own B e w' v' (xs ++ bys s.toList) := by
    rw [bys_str] at r1
    unfold Own
    rw [List.length_append, bys_len, size_toList]
    exact r1
  refine ⟨v', w', hrun, hO, (Kp.refl (fun b => v.ownBlock = some b) w).grown r2 (fun k hk _ => hk), ?_⟩
  rcases hown.2 with ⟨rfl, h0⟩ | ⟨g, cap, cur, rfl, hbg, hg, hnc, hcm, hcs, htake⟩
  · have hx0 : xs = [] := List.eq_nil_of_length_eq_zero h0
    subst hx0
    obtain ⟨v2, w2, hrun2, q1, _, _⟩ := Lib.run_append_own_string (P := P) w w.heap.size t u ty e i ht hu hi hz0 hz1 hz2 _ _ [] (World.ownsRow_nil w w.heap.size e 1) s (by simp at h63; unfold maxLen; omega) (by simpa using h63) (Nat.le_refl _)
    rw [hrun] at hrun2
    simp only [Result.ok.injEq] at hrun2
    obtain ⟨rfl, rfl⟩ := hrun2
    exact fun b hb => .inr (World.ownsRow.lt q1 b hb).1
  · by_cases hroom : xs.length + s.size ≤ cap
    · have hr := Lib.run_append_room_string (P := P) w t u ty e i ht hu hi hz1 g xs.length cap cur hg s hroom (by rw [hcs]; omega)
      rw [hrun] at hr
      simp only [Result.ok.injEq] at hr
      rw [hr.1]
      exact fun b hb => .inl hb
    · have holds : ∀ j u, xs[j]? = some u → w.cell? ((⟨g, 0, none⟩ : Addr).add j) = some u := hown.cells (g := g) rfl
      have hr := Lib.run_append_grow_string (P := P) w t u ty e i (.int .u8 0) ht hu hi hz0 ⟨g, 0, none⟩ xs.length cap xs (by rw [hz1, Nat.mul_one]) holds s (by omega) (by omega) (by rw [hz2]; exact growslice_fits (by omega) (by omega))
      rw [hrun] at hr
      simp only [Result.ok.injEq] at hr
      rw [hr.1]
      exact fun b hb => .inr (Nat.le_of_eq (Option.some.inj hb))
theorem wp_append_str_at (s x : Operand) (t u : TypeId) (ho : o.op = .call { callee := .builtin .append, args := #[s, x], argTypes := #[t, u] })
    {B e : Nat} (ht : P.underlying t = some (.slice e)) (hu : P.underlying u = some .string) (hi : (P.info? e).map (fun i => (i.zero, i.size, i.bytes)) = some (some (.int .u8 0), 1, 1))
    {v : Value} {xs : List Value} (st : ByteArray) (hs : a.eval s = v) (hx : a.eval x = .string st) (hown : Own B e w v xs) (h63 : xs.length + st.size ≤ 140737488355328) (hbase : B ≤ w.heap.size) {K : Act → World → Prop}
    (h : ∀ v' w', Own B e w' v' (xs ++ bys st.toList) → Kp (fun b => v.ownBlock = some b) w w' → (∀ b, v'.ownBlock = some b → v.ownBlock = some b ∨ w.heap.size ≤ b) → K (a.put o.dst v') w') : o.wp P a w K Q := by
  obtain ⟨v', w', hrun, r1, r2, r3⟩ := run_append_str_at (P := P) t u o.type e ht hu hi hown st h63 hbase
  unfold Oper.wp
  simp [execOp, ho, resolve, invoke, builtin, hs, hx, hrun, Result.andThen]
  exact h v' w' r1 r2 r3
end
end Go.Proofs.Ytbifdckmkogbgaa
