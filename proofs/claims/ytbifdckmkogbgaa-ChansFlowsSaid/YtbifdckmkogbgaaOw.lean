/- Slices of one's own that begin anywhere in their block: cut, and appended to. Nothing of the program stands here. -/
import Derived.Test.YtbifdckmkogbgaaBlk
import Derived.ArgAppend
namespace Go.Proofs.Ytbifdckmkogbgaa
open Go Go.RowKit
/-- A slice whose block is the call's own from B on; behind it there is room of its own. -/
def Ow (B : Nat) (e : TypeId) (w : World) (v : Value) (xs : List Value) : Prop :=
  (v = .slice none 0 0 ∧ xs = []) ∨ ∃ g o cap cur, v = .slice (some ⟨g, o, none⟩) xs.length cap ∧ B ≤ g ∧ w.heap[g]? = some (.cells cur e (0, 0)) ∧ xs.length ≤ cap ∧ cap ≤ maxLen ∧ o + cap ≤ cur.size ∧ (∀ i u, xs[i]? = some u → cur[o + i]? = some u)
section
variable {B : Nat} {e : TypeId} {w w' : World} {v : Value} {xs : List Value}
theorem Ow.nil (B : Nat) (e : TypeId) (w : World) : Ow B e w (.slice none 0 0) [] := .inl ⟨rfl, rfl⟩
theorem Ow.rd (h : Ow B e w v xs) : Rd w v xs := by
  rcases h with ⟨rfl, rfl⟩ | ⟨g, o, cap, cur, rfl, hb, hh, hn, hc, hs, ht⟩
  · exact Rd.nil w
  · refine ⟨some ⟨g, o, none⟩, cap, rfl, hn, hc, by simp, fun ad e' i u hu => ?_⟩
    cases e'
    rw [Addr.add_lit, cell_of_row w g (o + i) cur e (0, 0) hh]
    exact ht i u hu
theorem Ow.sl (h : Ow B e w v xs) : ∃ a n k, v = .slice a n k := by
  rcases h with ⟨rfl, rfl⟩ | ⟨g, o, cap, cur, rfl, _⟩
  · exact ⟨_, _, _, rfl⟩
  · exact ⟨_, _, _, rfl⟩
theorem Ow.keep (h : Ow B e w v xs) {S : Nat → Prop} (hk : Kp S w w') (hs : ∀ b, v.ownBlock = some b → B ≤ b → b < w.heap.size → ¬ S b) : Ow B e w' v xs := by
  rcases h with h0 | ⟨g, o, cap, cur, rfl, hb, hh, r⟩
  · exact .inl h0
  · have hl := (Array.getElem?_eq_some_iff.1 hh).1
    exact .inr ⟨g, o, cap, cur, rfl, hb, by rw [hk.block g hl (hs g rfl hb hl)]; exact hh, r⟩
theorem Ow.keep0 (h : Ow B e w v xs) (hk : Kp0 w w') : Ow B e w' v xs := h.keep hk (fun _ _ _ _ h => h)
theorem Ow.lt (h : Ow B e w v xs) : ∀ b, v.ownBlock = some b → B ≤ b ∧ b < w.heap.size := by
  rcases h with ⟨rfl, _⟩ | ⟨g, o, cap, cur, rfl, hb, hh, r⟩
  · intro b hb; cases hb
  · intro b he
    obtain rfl : g = b := Option.some.inj he
    exact ⟨hb, (Array.getElem?_eq_some_iff.1 hh).1⟩
theorem Ow.of_own (h : Own B e w v xs) : Ow B e w v xs := by
  rcases h.2 with ⟨rfl, h0⟩ | ⟨g, cap, cur, hv, hb, hg, hnc, hcm, hcs, ht⟩
  · exact .inl ⟨rfl, List.eq_nil_of_length_eq_zero h0⟩
  · refine .inr ⟨g, 0, cap, cur, hv, hb, hg, hnc, hcm, by omega, fun i u hu => ?_⟩
    have hi := (List.getElem?_eq_some_iff.1 hu).1
    rw [Nat.mul_one] at ht
    rw [← ht, List.getElem?_take_of_lt hi] at hu
    rw [Nat.zero_add]
    simpa using hu
theorem Ow.shapeB {l : List UInt8} (h : Ow B e w v (bys l)) : ∃ ao cap, v = .slice ao l.length cap ∧ l.length ≤ cap ∧ cap ≤ 9223372036854775807 ∧ (ao = none → cap = 0) := h.rd.shapeB
theorem Ow.posB {l : List UInt8} (h : Ow B e w v (bys l)) (hx : 0 < l.length) : ∃ b o cap, v = .slice (some ⟨b, o, none⟩) l.length cap ∧ l.length ≤ cap ∧ cap ≤ 9223372036854775807 ∧ ∀ i (hi : i < l.length), w.cell? ⟨b, o + i, none⟩ = some (.int .u8 ((l[i]'hi).toNat : Int)) := h.rd.posB hx
/-- Cut off in front. -/
theorem Ow.cut {ao : Option Addr} {n cap : Nat} (h : Ow B e w (.slice ao n cap) xs) (k : Nat) (hk : k ≤ n) : Ow B e w (sliced ao k n cap 1) (xs.drop k) := by
  rcases h with ⟨hv, rfl⟩ | ⟨g, o, cap', cur, hv, hb, hh, hn, hc, hs, ht⟩
  · simp only [Value.slice.injEq] at hv
    obtain ⟨rfl, rfl, rfl⟩ := hv
    obtain rfl : k = 0 := by omega
    exact .inl ⟨by simp [sliced], by simp⟩
  · simp only [Value.slice.injEq] at hv
    obtain ⟨rfl, rfl, rfl⟩ := hv
    unfold sliced
    by_cases hck : cap = k
    · obtain rfl : k = xs.length := by omega
      refine .inr ⟨g, o, 0, cur, ?_, hb, hh, by simp, by omega, by omega, by simp⟩
      subst hck
      simp
    · refine .inr ⟨g, o + k, cap - k, cur, ?_, hb, hh, by simp; omega, by omega, by omega, fun i u hu => ?_⟩
      · rw [if_neg hck]
        simp [Addr.add_lit]
      · rw [List.getElem?_drop] at hu
        have := ht (k + i) u hu
        rwa [← Nat.add_assoc] at this
theorem Ow.cut_block {ao : Option Addr} {n cap k : Nat} : ∀ b, (sliced ao k n cap 1).ownBlock = some b → (Value.slice ao n cap).ownBlock = some b := by
  intro b hb
  unfold sliced at hb
  cases ao with
  | none => simp [Value.ownBlock] at hb
  | some a =>
    by_cases hc : cap = k
    · rw [if_pos hc] at hb; exact hb
    · rw [if_neg hc] at hb
      simp only [Option.map_some, Value.ownBlock, add_block] at hb
      exact hb
end
theorem setCells_keep (b : Nat) : ∀ (vs : List Value) (o : Nat) (w : World), Kp (fun i => i = b) w (w.setCells b o vs) := by
  intro vs
  induction vs with
  | nil => exact fun o w => Kp.refl _ _
  | cons v vs ih => exact fun o w => ((Kp.refl (fun i => i = b) w).setCell (p := ⟨b, o, none⟩) (fun _ => rfl) v).tr (ih (o + 1) _)
theorem setCells_blk (b : Nat) : ∀ (vs : List Value) (o : Nat) (w : World) (cs : Array Value) (T : TypeId) (fz : Nat × Nat), w.heap[b]? = some (.cells cs T fz) →
    ∃ cs', (w.setCells b o vs).heap[b]? = some (.cells cs' T fz) ∧ cs'.size = cs.size ∧ (∀ i, i < o → cs'[i]? = cs[i]?) ∧ (∀ i u, o + vs.length ≤ cs.size → vs[i]? = some u → cs'[o + i]? = some u) := by
  intro vs
  induction vs with
  | nil => exact fun o w cs T fz h => ⟨cs, h, rfl, fun _ _ => rfl, by simp⟩
  | cons v vs ih =>
    intro o w cs T fz h
    obtain ⟨cs', h1, h2, h3, h4⟩ := ih (o + 1) _ _ T fz (blk_set h o v)
    refine ⟨cs', h1, by rw [h2]; simp, fun i hi => ?_, fun i u hl hu => ?_⟩
    · rw [h3 i (by omega), Array.getElem?_setIfInBounds_ne (by omega)]
    · cases i with
      | zero =>
        simp at hu
        subst hu
        simp only [List.length_cons] at hl
        rw [Nat.add_zero, h3 o (by omega), Array.getElem?_setIfInBounds_self_of_lt (by omega)]
      | succ i =>
        have := h4 i u (by simp only [List.length_cons] at hl; simp; omega) (by simpa using hu)
        rw [← this]
        congr 1
        omega
section
variable {P : Program} {w : World} {ops : Array Oper} {rest : List Oper} {o : Oper} {a : Act} {Q : Exit → Act → World → Prop}
/-- APPEND to a slice of one's own, wherever it begins, as a run. -/
theorem run_append_ow (t ty e bytes : Nat) (z : Value) (ht : P.underlying t = some (.slice e)) (hi : (P.info? e).map (fun i => (i.zero, i.size, i.bytes)) = some (some z, 1, bytes)) (hz : z.cells.size = 1)
    {B : Nat} {v y : Value} {xs ys : List Value} (hown : Ow B e w v xs) (hrd : Rd w y ys) (h1 : ∀ u ∈ ys, u.oneCell' = true)
    (h63 : xs.length + ys.length ≤ maxLen) (hbytes : (xs.length + ys.length) * bytes ≤ 140737488355328) (hbase : B ≤ w.heap.size) :
    ∃ v' w', (Builtin.append_ #[t, t] ty #[v, y]).run P w = .ok v' w' ∧ Ow B e w' v' (xs ++ ys) ∧ Kp (fun b => v.ownBlock = some b) w w' ∧ (∀ b, v'.ownBlock = some b → v.ownBlock = some b ∨ w.heap.size ≤ b) := by
  obtain ⟨i, hi, hz0, hz1, hz2⟩ := info_parts hi
  have he : (xs ++ ys).length = xs.length + ys.length := by simp
  have none0 : ∀ (ad : Addr) (cap : Nat), y = .slice (some ad) ys.length cap → (∀ i u, ys[i]? = some u → w.cell? (ad.add i) = some u) → v = .slice none 0 0 → xs = [] →
      ∃ v' w', (Builtin.append_ #[t, t] ty #[v, y]).run P w = .ok v' w' ∧ Ow B e w' v' (xs ++ ys) ∧ Kp (fun b => v.ownBlock = some b) w w' ∧ (∀ b, v'.ownBlock = some b → v.ownBlock = some b ∨ w.heap.size ≤ b) := by
    rintro ad cap rfl hc rfl rfl
    obtain ⟨v', w', hrun, r1, r2, _⟩ := run_append_own (P := P) w w.heap.size t ty e i z 1 bytes ht hi hz0 hz1 hz2 hz (by decide) _ 0 [] (World.ownsRow_nil w w.heap.size e 1) ad ys.length cap ys (by simp) hc h1 (by simpa using h63) (by simpa using hbytes) (Nat.le_refl _)
    have hO : Own w.heap.size e w' v' ([] ++ ys) := by unfold Own; rw [List.nil_append] at r1 ⊢; rw [Nat.zero_add] at r1; exact r1
    refine ⟨v', w', hrun, Ow.of_own (hO.base hbase), ⟨r2.os, r2.tape, r2.output, r2.size, fun k hk hn => r2.block k hk (by simp [Value.ownBlock])⟩, fun b hb => .inr (hO.lt b hb).1⟩
  obtain ⟨ao, cap, rfl, hc1, hc2, hn, hcells⟩ := hrd
  rcases hown with ⟨rfl, rfl⟩ | ⟨g, off, c2, cur, rfl, hbg, hg, hnc, hcm, hcs, hat⟩
  · cases ao with
    | none =>
      obtain rfl := hn rfl
      obtain rfl : ys = [] := List.eq_nil_of_length_eq_zero (by omega)
      have hrun := run_append_owned_none (P := P) (w := w) B t ty e i 1 ht hi (.slice none 0 0) 0 [] (World.ownsRow_nil w B e 1)
      exact ⟨_, _, hrun, Ow.nil _ _ _, Kp.refl _ _, fun b hb => .inl hb⟩
    | some ad => exact none0 ad cap rfl (hcells ad rfl) rfl rfl
  · have holds : ∀ j u, xs[j]? = some u → w.cell? ((⟨g, off, none⟩ : Addr).add j) = some u := fun j u hu => by
      rw [Addr.add_lit, cell_of_row w g (off + j) cur e (0, 0) hg]; exact hat j u hu
    have room : ∀ (ad : Option Addr), (xs.length + ys.length ≤ c2) → (Builtin.append_ #[t, t] ty #[.slice (some ⟨g, off, none⟩) xs.length c2, .slice ad ys.length cap]).run P w = .ok (.slice (some ⟨g, off, none⟩) (xs.length + ys.length) c2) (w.setCells g (off + xs.length) ys) →
        ∃ v' w', (Builtin.append_ #[t, t] ty #[.slice (some ⟨g, off, none⟩) xs.length c2, .slice ad ys.length cap]).run P w = .ok v' w' ∧ Ow B e w' v' (xs ++ ys) ∧ Kp (fun b => (Value.slice (some ⟨g, off, none⟩) xs.length c2).ownBlock = some b) w w' ∧ (∀ b, v'.ownBlock = some b → (Value.slice (some ⟨g, off, none⟩) xs.length c2).ownBlock = some b ∨ w.heap.size ≤ b) := by
      intro ad hroom hr
      obtain ⟨cs', q1, q2, q3, q4⟩ := setCells_blk g ys (off + xs.length) w cur e (0, 0) hg
      refine ⟨_, _, hr, .inr ⟨g, off, c2, cs', by rw [he], hbg, q1, by omega, hcm, by omega, fun j u hu => ?_⟩, (setCells_keep g ys _ w).mono (fun k _ hk => by subst hk; rfl), fun b hb => .inl hb⟩
      by_cases hj : j < xs.length
      · rw [List.getElem?_append_left hj] at hu
        rw [q3 _ (by omega)]
        exact hat j u hu
      · rw [List.getElem?_append_right (by omega)] at hu
        have hl : off + xs.length + ys.length ≤ cur.size := by omega
        have := q4 _ u hl hu
        rw [← this]
        congr 1
        omega
    cases ao with
    | none =>
      obtain rfl := hn rfl
      obtain rfl : ys = [] := List.eq_nil_of_length_eq_zero (by omega)
      refine room none (by simpa using hnc) ?_
      have hf : (Builtin.firstCells i.size 0 (.slice none 0 0)).run P w = .ok #[] w := by simp [Builtin.firstCells, go_sem]
      simp [Builtin.append_, run_underlying ht, sizeOf, typeInfo, hi, Builtin.lenOf, hnc, hf, World.setCells, go_sem]
    | some ad =>
      by_cases hroom : xs.length + ys.length ≤ c2
      · refine room (some ad) hroom ?_
        have hr := run_append_room_cells (P := P) w t ty e i ht hi g off xs.length c2 ad ys.length cap ys (by rw [hz1, Nat.mul_one]) (hcells ad rfl) h1 hroom
          (fun j hj => by rw [hz1, Nat.mul_one, cell_of_row w g _ cur e (0, 0) hg, Array.getElem?_eq_getElem (by omega)]; rfl) (fun j _ => blk_frozen hg _)
        rw [hz1, Nat.mul_one] at hr
        exact hr
      · obtain ⟨v', w', hrun, r1, r2⟩ := run_append_arg_grows (P := P) w t ty e i z 1 bytes ht hi hz0 hz1 hz2 hz (by decide) ⟨g, off, none⟩ xs.length c2 xs (by simp) holds ad ys.length cap ys (by simp) (hcells ad rfl) (by omega) h63 hbytes
        have hO : Own w.heap.size e w' v' (xs ++ ys) := by unfold Own; rw [he]; exact r1
        exact ⟨v', w', hrun, Ow.of_own (hO.base hbase), ⟨r2.os, r2.tape, r2.output, r2.size, fun k hk hn => r2.block k hk (by simp)⟩, fun b hb => .inr (hO.lt b hb).1⟩
/-- APPEND to a slice of one's own, as a law for the walk. -/
theorem wp_append_ow (s x : Operand) (t : TypeId) (ho : o.op = .call { callee := .builtin .append, args := #[s, x], argTypes := #[t, t] })
    {B e bytes : Nat} {z : Value} (ht : P.underlying t = some (.slice e)) (hi : (P.info? e).map (fun i => (i.zero, i.size, i.bytes)) = some (some z, 1, bytes)) (hz : z.cells.size = 1)
    {v y : Value} {xs ys : List Value} (hs : a.eval s = v) (hx : a.eval x = y) (hown : Ow B e w v xs) (hrd : Rd w y ys) (h1 : ∀ u ∈ ys, u.oneCell' = true)
    (h63 : xs.length + ys.length ≤ maxLen) (hbytes : (xs.length + ys.length) * bytes ≤ 140737488355328) (hbase : B ≤ w.heap.size) {K : Act → World → Prop}
    (h : ∀ v' w', Ow B e w' v' (xs ++ ys) → Kp (fun b => v.ownBlock = some b) w w' → (∀ b, v'.ownBlock = some b → v.ownBlock = some b ∨ w.heap.size ≤ b) → K (a.put o.dst v') w') : o.wp P a w K Q := by
  obtain ⟨v', w', hrun, r1, r2, r3⟩ := run_append_ow (P := P) t o.type e bytes z ht hi hz hown hrd h1 h63 hbytes hbase
  unfold Oper.wp
  simp [execOp, ho, resolve, invoke, builtin, hs, hx, hrun, Result.andThen]
  exact h v' w' r1 r2 r3
theorem wl_append_ow (hgd : o.guard = none) (s x : Operand) (t : TypeId) (ho : o.op = .call { callee := .builtin .append, args := #[s, x], argTypes := #[t, t] })
    {B e bytes : Nat} {z : Value} (ht : P.underlying t = some (.slice e)) (hi : (P.info? e).map (fun i => (i.zero, i.size, i.bytes)) = some (some z, 1, bytes)) (hz : z.cells.size = 1)
    {v y : Value} {xs ys : List Value} (hs : a.eval s = v) (hx : a.eval x = y) (hown : Ow B e w v xs) (hrd : Rd w y ys) (h1 : ∀ u ∈ ys, u.oneCell' = true)
    (h63 : xs.length + ys.length ≤ maxLen) (hbytes : (xs.length + ys.length) * bytes ≤ 140737488355328) (hbase : B ≤ w.heap.size)
    (h : ∀ v' w', Ow B e w' v' (xs ++ ys) → Kp (fun b => v.ownBlock = some b) w w' → (∀ b, v'.ownBlock = some b → v.ownBlock = some b ∨ w.heap.size ≤ b) → wpList P ops Q rest (a.put o.dst v') w') : wpList P ops Q (o :: rest) a w :=
  wpList_plain hgd fun _ hK => wp_append_ow s x t ho ht hi hz hs hx hown hrd h1 h63 hbytes hbase (fun v' w' q1 q2 q3 => hK _ _ (h v' w' q1 q2 q3))
end
end Go.Proofs.Ytbifdckmkogbgaa
