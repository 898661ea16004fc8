/- Append of rows whose elements have several cells: to a row of one's own whatever is appended, to a slice without room. Nothing of the program stands here. -/
import Derived.Test.YtmamcnhofgfolaaSa
namespace Go.Proofs.Ytmamcnhofgfolaa
open Go Go.RowKit
section
variable {P : Program} {w : World} {ops : Array Oper} {rest : List Oper} {o : Oper} {a : Act} {Q : Exit → Act → World → Prop} {F G : Nat → Prop}
theorem RdF.addr {k n : Nat} {ad : Addr} {cap : Nat} {xs : List Value} (h : RdF F w k (.slice (some ad) n cap) n xs) : ∀ j u, xs[j]? = some u → w.cell? (ad.add j) = some u := by
  obtain ⟨ao, cap', h1, h2, h3, h4, h5, h6⟩ := h
  simp only [Value.slice.injEq] at h1
  obtain ⟨rfl, _, rfl⟩ := h1
  exact fun j u hu => (h6 ad rfl j u hu).2
theorem RdF.none0 {k n cap : Nat} {xs : List Value} (h : RdF F w k (.slice none n cap) n xs) : n = 0 ∧ cap = 0 ∧ xs = [] := by
  obtain ⟨ao, cap', h1, h2, h3, h4, h5, h6⟩ := h
  simp only [Value.slice.injEq] at h1
  obtain ⟨rfl, _, rfl⟩ := h1
  have h0 := h5 rfl
  have hn : n = 0 := by omega
  refine ⟨hn, h0, List.eq_nil_of_length_eq_zero ?_⟩
  rw [h2, hn, Nat.zero_mul]
theorem wp_append_rk (s x : Operand) (t : TypeId) (ho : o.op = .call { callee := .builtin .append, args := #[s, x], argTypes := #[t, t] })
    {e size bytes : Nat} {z : Value} (ht : P.underlying t = some (.slice e)) (hi : (P.info? e).map (fun i => (i.zero, i.size, i.bytes)) = some (some z, size, bytes)) (hz : z.cells.size = size) (hsz : 0 < size)
    {B n : Nat} {v : Value} {xs : List Value} (hs : a.eval s = v) (hown : w.ownsRow B e size v n xs) {y : Value} {m : Nat} {ys : List Value} (hx : a.eval x = y) (hy : RdF F w size y m ys) (h1 : ∀ u ∈ ys, u.oneCell' = true)
    (h63 : n + m ≤ maxLen) (hbytes : (n + m) * bytes ≤ 140737488355328) (hbase : B ≤ w.heap.size) {K : Act → World → Prop}
    (h : ∀ v' w', w'.ownsRow B e size v' (n + m) (xs ++ ys) → Kp (fun b => v.ownBlock = some b) w w' → (∀ b, v'.ownBlock = some b → v.ownBlock = some b ∨ w.heap.size ≤ b) → K (a.put o.dst v') w') : o.wp P a w K Q := by
  obtain ⟨ao, cap, rfl, hc1, hc2, hc3⟩ := hy.shape
  cases ao with
  | some ad => exact wp_append_k s x t ho ht hi hz hsz hs hown ad m cap ys hx hy.choose_spec.choose_spec.2.1 hy.addr h1 h63 hbytes hbase (fun v' w' q1 q2 q3 _ => h v' w' q1 q2 q3)
  | none =>
    obtain ⟨rfl, rfl, rfl⟩ := hy.none0
    obtain ⟨i, hi, hz0, hz1, hz2⟩ := info_parts hi
    have hrun := run_append_owned_none (P := P) (w := w) B t o.type e i size ht hi v n xs hown
    unfold Oper.wp
    simp [execOp, ho, resolve, invoke, builtin, hs, hx, hrun, Result.andThen]
    exact h v w (by rw [List.append_nil, Nat.add_zero]; exact hown) (Kp.refl _ _) (fun b hb => .inl hb)
theorem wl_append_rk (hgd : o.guard = none) (s x : Operand) (t : TypeId) (ho : o.op = .call { callee := .builtin .append, args := #[s, x], argTypes := #[t, t] })
    {e size bytes : Nat} {z : Value} (ht : P.underlying t = some (.slice e)) (hi : (P.info? e).map (fun i => (i.zero, i.size, i.bytes)) = some (some z, size, bytes)) (hz : z.cells.size = size) (hsz : 0 < size)
    {B n : Nat} {v : Value} {xs : List Value} (hs : a.eval s = v) (hown : w.ownsRow B e size v n xs) {y : Value} {m : Nat} {ys : List Value} (hx : a.eval x = y) (hy : RdF F w size y m ys) (h1 : ∀ u ∈ ys, u.oneCell' = true)
    (h63 : n + m ≤ maxLen) (hbytes : (n + m) * bytes ≤ 140737488355328) (hbase : B ≤ w.heap.size)
    (h : ∀ v' w', w'.ownsRow B e size v' (n + m) (xs ++ ys) → Kp (fun b => v.ownBlock = some b) w w' → (∀ b, v'.ownBlock = some b → v.ownBlock = some b ∨ w.heap.size ≤ b) → wpList P ops Q rest (a.put o.dst v') w') : wpList P ops Q (o :: rest) a w :=
  wpList_plain hgd fun _ hK => wp_append_rk s x t ho ht hi hz hsz hs hown hx hy h1 h63 hbytes hbase (fun v' w' q1 q2 q3 => hK _ _ (h v' w' q1 q2 q3))
/-- To a slice without room: a new row. -/
theorem wp_append_nk (s x : Operand) (t : TypeId) (ho : o.op = .call { callee := .builtin .append, args := #[s, x], argTypes := #[t, t] })
    {e size bytes : Nat} {z : Value} (ht : P.underlying t = some (.slice e)) (hi : (P.info? e).map (fun i => (i.zero, i.size, i.bytes)) = some (some z, size, bytes)) (hz : z.cells.size = size) (hsz : 0 < size)
    {ao : Option Addr} {n : Nat} {xs : List Value} (hs : a.eval s = .slice ao n n) (hr : RdF G w size (.slice ao n n) n xs) {y : Value} {m : Nat} {ys : List Value} (hx : a.eval x = y) (hy : RdF F w size y m ys) (hm : 0 < m) (h1 : ∀ u ∈ ys, u.oneCell' = true)
    (h63 : n + m ≤ maxLen) (hbytes : (n + m) * bytes ≤ 140737488355328) {K : Act → World → Prop}
    (h : ∀ v' w', w'.ownsRow w.heap.size e size v' (n + m) (xs ++ ys) → Kp0 w w' → K (a.put o.dst v') w') : o.wp P a w K Q := by
  obtain ⟨yo, ycap, rfl, _, _, hyn⟩ := hy.shape
  have hyl : ys.length = m * size := hy.choose_spec.choose_spec.2.1
  cases yo with
  | none =>
    have := hy.none0
    omega
  | some ad =>
    cases ao with
    | some b =>
      obtain ⟨i, hi, hz0, hz1, hz2⟩ := info_parts hi
      obtain ⟨v', w', hrun, r1, r2⟩ := run_append_arg_grows (P := P) w t o.type e i z size bytes ht hi hz0 hz1 hz2 hz hsz b n n xs hr.choose_spec.choose_spec.2.1 hr.addr ad m ycap ys hyl hy.addr (by omega) h63 hbytes
      unfold Oper.wp
      simp [execOp, ho, resolve, invoke, builtin, hs, hx, hrun, Result.andThen]
      exact h v' w' r1 ⟨r2.os, r2.tape, r2.output, r2.size, fun k hk _ => r2.block k hk (by simp)⟩
    | none =>
      obtain ⟨rfl, _, rfl⟩ := hr.none0
      exact wp_append_k s x t ho ht hi hz hsz hs (World.ownsRow_nil w w.heap.size e size) ad m ycap ys hx hyl hy.addr h1 h63 hbytes (Nat.le_refl _) (fun v' w' q1 q2 _ _ => h v' w' q1 (q2.mono (fun k _ hk => by cases hk)))
theorem wl_append_nk (hgd : o.guard = none) (s x : Operand) (t : TypeId) (ho : o.op = .call { callee := .builtin .append, args := #[s, x], argTypes := #[t, t] })
    {e size bytes : Nat} {z : Value} (ht : P.underlying t = some (.slice e)) (hi : (P.info? e).map (fun i => (i.zero, i.size, i.bytes)) = some (some z, size, bytes)) (hz : z.cells.size = size) (hsz : 0 < size)
    {ao : Option Addr} {n : Nat} {xs : List Value} (hs : a.eval s = .slice ao n n) (hr : RdF G w size (.slice ao n n) n xs) {y : Value} {m : Nat} {ys : List Value} (hx : a.eval x = y) (hy : RdF F w size y m ys) (hm : 0 < m) (h1 : ∀ u ∈ ys, u.oneCell' = true)
    (h63 : n + m ≤ maxLen) (hbytes : (n + m) * bytes ≤ 140737488355328)
    (h : ∀ v' w', w'.ownsRow w.heap.size e size v' (n + m) (xs ++ ys) → Kp0 w w' → wpList P ops Q rest (a.put o.dst v') w') : wpList P ops Q (o :: rest) a w :=
  wpList_plain hgd fun _ hK => wp_append_nk s x t ho ht hi hz hsz hs hr hx hy hm h1 h63 hbytes (fun v' w' q1 q2 => hK _ _ (h v' w' q1 q2))
/-- Pieces of a slice. -/
theorem RdF.taken {k n cap : Nat} {ao : Option Addr} {xs : List Value} (h : RdF F w k (.slice ao n cap) n xs) (i c : Nat) (hi : i ≤ n) (hc : i ≤ c) (hcc : c ≤ cap) : RdF F w k (.slice ao i c) i (xs.take (i * k)) := by
  obtain ⟨ao', cap', h1, h2, h3, h4, h5, h6⟩ := h
  simp only [Value.slice.injEq] at h1
  obtain ⟨rfl, _, rfl⟩ := h1
  refine ⟨ao, c, rfl, ?_, hc, by omega, (fun e => by have := h5 e; omega), fun ad e j u hu => ?_⟩
  · rw [List.length_take, h2, Nat.min_eq_left (Nat.mul_le_mul_right _ hi)]
  · rw [List.getElem?_take] at hu
    split at hu
    · exact h6 ad e j u hu
    · cases hu
theorem RdF.dropped {k n cap : Nat} {ad : Addr} {xs : List Value} (h : RdF F w k (.slice (some ad) n cap) n xs) (i : Nat) (hi : i ≤ n) : RdF F w k (.slice (some (ad.add (i * k))) (n - i) (cap - i)) (n - i) (xs.drop (i * k)) := by
  obtain ⟨ao', cap', h1, h2, h3, h4, h5, h6⟩ := h
  simp only [Value.slice.injEq] at h1
  obtain ⟨rfl, _, rfl⟩ := h1
  refine ⟨_, _, rfl, ?_, by omega, by omega, (fun e => by cases e), fun ad' e j u hu => ?_⟩
  · rw [List.length_drop, h2, Nat.sub_mul]
  · cases e
    rw [List.getElem?_drop] at hu
    have := h6 ad rfl _ _ hu
    rw [add_block, Addr.add_add]
    exact this
theorem RdF.cutI {k n cap : Nat} {ao : Option Addr} {xs : List Value} (h : RdF F w k (.slice ao n cap) n xs) (i : Nat) (hi : i ≤ n) : RdF F w k (.slice (if cap = i then ao else ao.map (fun x => x.add (i * k))) (n - i) (cap - i)) (n - i) (xs.drop (i * k)) := by
  obtain ⟨_, _, hs, hnc, hcc, hno⟩ := h.shape
  simp only [Value.slice.injEq] at hs
  obtain ⟨rfl, _, rfl⟩ := hs
  cases ao with
  | none =>
    obtain ⟨rfl, rfl, rfl⟩ := h.none0
    obtain rfl : i = 0 := by omega
    simpa using h
  | some ad =>
    by_cases hc : cap = i
    · rw [if_pos hc]
      have hl : xs.length = n * k := h.choose_spec.choose_spec.2.1
      have h0 : n - i = 0 := by omega
      have hn : n = i := by omega
      have he : xs.drop (i * k) = [] := List.drop_of_length_le (by rw [hl, hn]; exact Nat.le_refl _)
      rw [h0, he]
      exact ⟨_, _, rfl, by simp, by omega, by omega, (fun e => by cases e), fun ad' e j u hu => by simp at hu⟩
    · rw [if_neg hc]
      exact h.dropped i hi
theorem RdF.made {T : TypeId} {k : Nat} {cs : List Value} (w : World) (h : cs.length = k) : RdF (fun i => w.heap.size ≤ i) (w.alloc (.cells cs.toArray T)) k (.slice (some ⟨w.heap.size, 0, none⟩) 1 1) 1 cs := by
  refine ⟨_, _, rfl, by omega, Nat.le_refl _, by decide, (fun e => by cases e), fun ad e j u hu => ?_⟩
  cases e
  refine ⟨Nat.le_refl _, ?_⟩
  rw [Addr.add_lit, Nat.zero_add]
  exact (blk0 w T cs).cellV j hu
theorem ownK_base {B C e size n : Nat} {v : Value} {xs : List Value} (h : w.ownsRow B e size v n xs) (hc : C ≤ B) : w.ownsRow C e size v n xs := by
  refine ⟨h.1, ?_⟩
  rcases h.2 with h0 | ⟨g, cap, cur, hv, hb, r⟩
  · exact .inl h0
  · exact .inr ⟨g, cap, cur, hv, Nat.le_trans hc hb, r⟩
end
end Go.Proofs.Ytmamcnhofgfolaa
