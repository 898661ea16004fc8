/- Marks in memory: what is chosen of nodes. -/
import Derived.Test.YtmamcnhofgfolaaTrX
namespace Go.Proofs.Ytmamcnhofgfolaa
open Go Go.RowKit
/-- A mark. -/
inductive PM where
  | mk (on al : Bool) (ks : List PM)
def PM.on : PM → Bool
  | .mk a _ _ => a
def PM.al : PM → Bool
  | .mk _ a _ => a
def PM.ks : PM → List PM
  | .mk _ _ a => a
/-- None of it, all of it. -/
def pm0 : PM := .mk false false []
def pm1 : PM := .mk true true []
def mcs : List PM → List Value → List Value
  | n :: ns, v :: vs => .bool n.on :: .bool n.al :: v :: mcs ns vs
  | _, _ => []
mutual
def MkV (F : Nat → Prop) (w : World) : PM → Value → Prop
  | .mk _ _ ks, v => ∃ vs, RdF F w 3 v ks.length (mcs ks vs) ∧ MksV F w ks vs
def MksV (F : Nat → Prop) (w : World) : List PM → List Value → Prop
  | [], vs => vs = []
  | n :: ns, vs => ∃ v rest, vs = v :: rest ∧ MkV F w n v ∧ MksV F w ns rest
end
def RowM (F : Nat → Prop) (w : World) (v : Value) (ns : List PM) : Prop := ∃ vs, RdF F w 3 v ns.length (mcs ns vs) ∧ MksV F w ns vs
def mvl (n : PM) (v : Value) : List Value := [.bool n.on, .bool n.al, v]
def MrkA (n : PM) (v : Value) : Value := .agg #[.bool n.on, .bool n.al, v]
def mk0 : List Value := [.bool false, .bool false, .slice none 0 0]
section
variable {F G : Nat → Prop} {w w1 : World} {S0 : Nat → Prop}
mutual
theorem MkV.keep (hk : Kp S0 w w1) (hs : ∀ i, F i → i < w.heap.size → ¬ S0 i) (hF : ∀ i, F i → i < w.heap.size → G i) : ∀ (n : PM) (v : Value), MkV F w n v → MkV G w1 n v
  | .mk _ _ ks, v, h => by
    unfold MkV at h ⊢
    obtain ⟨vs, h1, h2⟩ := h
    exact ⟨vs, (h1.lt.keep hk (fun i hi => hs i hi.1 hi.2)).mono (fun i hi => hF i hi.1 hi.2), MksV.keep hk hs hF ks vs h2⟩
theorem MksV.keep (hk : Kp S0 w w1) (hs : ∀ i, F i → i < w.heap.size → ¬ S0 i) (hF : ∀ i, F i → i < w.heap.size → G i) : ∀ (ns : List PM) (vs : List Value), MksV F w ns vs → MksV G w1 ns vs
  | [], vs, h => by unfold MksV at h ⊢; exact h
  | n :: ns, vs, h => by
    unfold MksV at h ⊢
    obtain ⟨v, rest, h1, h2, h3⟩ := h
    exact ⟨v, rest, h1, MkV.keep hk hs hF n v h2, MksV.keep hk hs hF ns rest h3⟩
end
theorem RowM.keep {v : Value} {ns : List PM} (h : RowM F w v ns) (hk : Kp S0 w w1) (hs : ∀ i, F i → i < w.heap.size → ¬ S0 i) (hF : ∀ i, F i → i < w.heap.size → G i) : RowM G w1 v ns := by
  obtain ⟨vs, h1, h2⟩ := h
  exact ⟨vs, (h1.lt.keep hk (fun i hi => hs i hi.1 hi.2)).mono (fun i hi => hF i hi.1 hi.2), MksV.keep hk hs hF ns vs h2⟩
theorem RowM.kp0 {v : Value} {ns : List PM} (h : RowM F w v ns) (hk : Kp0 w w1) : RowM F w1 v ns := h.keep hk (fun _ _ _ h => h) (fun _ h _ => h)
theorem RowM.mono {v : Value} {ns : List PM} (h : RowM F w v ns) (hF : ∀ i, F i → i < w.heap.size → G i) : RowM G w v ns := h.keep (Kp.refl (fun _ => False) w) (fun _ _ _ h => h) hF
theorem mcs_len : ∀ (ns : List PM) (vs : List Value), MksV F w ns vs → (mcs ns vs).length = ns.length * 3
  | [], vs, h => by unfold MksV at h; subst h; rfl
  | n :: ns, vs, h => by
    unfold MksV at h
    obtain ⟨v, rest, rfl, h2, h3⟩ := h
    have := mcs_len ns rest h3
    simp only [mcs, List.length_cons, this]
    omega
theorem MkV.row {n : PM} {v : Value} (h : MkV F w n v) : RowM F w v n.ks := by
  cases n
  unfold MkV at h
  exact h
theorem RowM.nd {n : PM} {v : Value} (h : RowM F w v n.ks) : MkV F w n v := by
  cases n
  unfold MkV
  exact h
theorem mcs_get : ∀ (ns : List PM) (vs : List Value), MksV F w ns vs → ∀ (i : Nat) (h : i < ns.length), ∃ v, (mcs ns vs)[i * 3]? = some (.bool (ns[i]).on) ∧ (mcs ns vs)[i * 3 + 1]? = some (.bool (ns[i]).al) ∧ (mcs ns vs)[i * 3 + 2]? = some v ∧ RowM F w v (ns[i]).ks
  | [], vs, h, i, hi => by simp at hi
  | n :: ns, vs, h, i, hi => by
    unfold MksV at h
    obtain ⟨v, rest, rfl, h2, h3⟩ := h
    cases i with
    | zero => exact ⟨v, rfl, rfl, rfl, h2.row⟩
    | succ i =>
      obtain ⟨v', g0, g1, g2, g3⟩ := mcs_get ns rest h3 i (by simpa using hi)
      refine ⟨v', ?_⟩
      rw [show (i + 1) * 3 = i * 3 + 1 + 1 + 1 by omega]
      simp only [mcs, List.getElem?_cons_succ, List.getElem_cons_succ, show ∀ j, i * 3 + 1 + 1 + 1 + j = (i * 3 + j) + 1 + 1 + 1 from fun j => by omega]
      exact ⟨g0, g1, g2, g3⟩
theorem RowM.at {v : Value} {ns : List PM} (h : RowM F w v ns) (i : Nat) (hi : i < ns.length) :
    ∃ b o cap kv, v = .slice (some ⟨b, o, none⟩) ns.length cap ∧ ns.length ≤ cap ∧ cap ≤ 9223372036854775807 ∧ w.cell? ⟨b, o + i * 3, none⟩ = some (.bool (ns[i]).on) ∧ w.cell? ⟨b, o + i * 3 + 1, none⟩ = some (.bool (ns[i]).al) ∧ w.cell? ⟨b, o + i * 3 + 2, none⟩ = some kv ∧ RowM F w kv (ns[i]).ks ∧ F b ∧ b < w.heap.size := by
  obtain ⟨vs, h1, h2⟩ := h
  obtain ⟨b, o, cap, rfl, h3, h4, hF, hb, h5⟩ := h1.pos (by rw [mcs_len ns vs h2]; omega)
  obtain ⟨kv, g0, g1, g2, g3⟩ := mcs_get ns vs h2 i hi
  exact ⟨b, o, cap, kv, rfl, h3, h4, h5 _ _ g0, by rw [Nat.add_assoc]; exact h5 _ _ g1, by rw [Nat.add_assoc]; exact h5 _ _ g2, g3, hF, hb⟩
theorem RowM.shape {v : Value} {ns : List PM} (h : RowM F w v ns) : ∃ ao cap, v = .slice ao ns.length cap ∧ ns.length ≤ cap ∧ cap ≤ 9223372036854775807 ∧ (ao = none → cap = 0) := by
  obtain ⟨vs, h1, h2⟩ := h
  exact h1.shape
theorem RowM.nil (F : Nat → Prop) (w : World) : RowM F w (.slice none 0 0) [] := ⟨[], RdF.nil _ _ _, by unfold MksV; rfl⟩
theorem mcs_app : ∀ (a b : List PM) (va vb : List Value), a.length = va.length → mcs (a ++ b) (va ++ vb) = mcs a va ++ mcs b vb
  | [], b, [], vb, _ => rfl
  | [], b, v :: va, vb, h => by simp at h
  | x :: a, b, [], vb, h => by simp at h
  | x :: a, b, v :: va, vb, h => by
    simp only [List.cons_append, mcs]
    rw [mcs_app a b va vb (by simpa using h)]
theorem MksV.len : ∀ (ns : List PM) (vs : List Value), MksV F w ns vs → ns.length = vs.length
  | [], vs, h => by unfold MksV at h; subst h; rfl
  | n :: ns, vs, h => by
    unfold MksV at h
    obtain ⟨v, rest, rfl, h2, h3⟩ := h
    simp only [List.length_cons, MksV.len ns rest h3]
theorem MksV.app : ∀ (a b : List PM) (va vb : List Value), MksV F w a va → MksV F w b vb → MksV F w (a ++ b) (va ++ vb)
  | [], b, va, vb, h, hb => by unfold MksV at h; subst h; exact hb
  | n :: ns, b, va, vb, h, hb => by
    unfold MksV at h
    obtain ⟨v, rest, rfl, h2, h3⟩ := h
    rw [List.cons_append, List.cons_append]
    unfold MksV
    exact ⟨v, rest ++ vb, rfl, h2, MksV.app ns b rest vb h3 hb⟩
theorem MksV.cut : ∀ (ns : List PM) (vs : List Value) (i : Nat), MksV F w ns vs → MksV F w (ns.take i) (vs.take i) ∧ MksV F w (ns.drop i) (vs.drop i)
  | [], vs, i, h => by unfold MksV at h; subst h; simp only [List.take_nil, List.drop_nil]; unfold MksV; exact ⟨rfl, rfl⟩
  | n :: ns, vs, 0, h => by
    refine ⟨?_, h⟩
    rw [List.take_zero, List.take_zero]
    unfold MksV
    rfl
  | n :: ns, vs, i + 1, h => by
    unfold MksV at h
    obtain ⟨v, rest, rfl, h2, h3⟩ := h
    have ih := MksV.cut ns rest i h3
    refine ⟨?_, ih.2⟩
    rw [List.take_succ_cons, List.take_succ_cons]
    unfold MksV
    exact ⟨v, rest.take i, rfl, h2, ih.1⟩
theorem MksV.one {n : PM} {v : Value} (h : RowM F w v n.ks) : MksV F w [n] [v] := by
  unfold MksV
  exact ⟨v, [], rfl, h.nd, by unfold MksV; rfl⟩
theorem mcs_take (ns : List PM) (vs : List Value) (i : Nat) (h : MksV F w ns vs) : (mcs ns vs).take (i * 3) = mcs (ns.take i) (vs.take i) ∧ (mcs ns vs).drop (i * 3) = mcs (ns.drop i) (vs.drop i) := by
  rcases Nat.lt_or_ge ns.length i with hi | hi
  · have h1 := mcs_len ns vs h
    have h2 := MksV.len ns vs h
    rw [List.take_of_length_le (by omega), List.drop_of_length_le (by omega), List.take_of_length_le (by omega), List.take_of_length_le (by omega), List.drop_of_length_le (by omega), List.drop_of_length_le (by omega)]
    exact ⟨rfl, rfl⟩
  · have h2 := MksV.len ns vs h
    have hl : (mcs (ns.take i) (vs.take i)).length = i * 3 := by rw [mcs_len _ _ (MksV.cut ns vs i h).1, List.length_take, Nat.min_eq_left hi]
    have e : mcs ns vs = mcs (ns.take i) (vs.take i) ++ mcs (ns.drop i) (vs.drop i) := by
      rw [← mcs_app _ _ _ _ (by rw [List.length_take, List.length_take, h2]), List.take_append_drop, List.take_append_drop]
    constructor
    · rw [e, List.take_append_of_le_length (by omega), List.take_of_length_le (by omega)]
    · rw [e, List.drop_append_of_le_length (by omega), List.drop_of_length_le (by omega), List.nil_append]
theorem mcs_ones : ∀ (ns : List PM) (vs : List Value), (∀ v ∈ vs, v.oneCell' = true) → ∀ u ∈ mcs ns vs, u.oneCell' = true
  | [], vs, _, u, hu => by cases vs <;> simp [mcs] at hu
  | n :: ns, [], _, u, hu => by simp [mcs] at hu
  | n :: ns, v :: vs, h, u, hu => by
    simp only [mcs, List.mem_cons] at hu
    rcases hu with rfl | rfl | rfl | hu
    · rfl
    · rfl
    · exact h _ (by simp)
    · exact mcs_ones ns vs (fun v hv => h v (by simp [hv])) u hu
theorem MksV.ones : ∀ (ns : List PM) (vs : List Value), MksV F w ns vs → ∀ v ∈ vs, v.oneCell' = true
  | [], vs, h, v, hv => by unfold MksV at h; subst h; simp at hv
  | n :: ns, vs, h, v, hv => by
    unfold MksV at h
    obtain ⟨v', rest, rfl, h2, h3⟩ := h
    rcases List.mem_cons.1 hv with rfl | hv
    · obtain ⟨ao, cap, rfl, _⟩ := h2.row.shape
      rfl
    · exact MksV.ones ns rest h3 v hv
theorem RowM.onesM {F : Nat → Prop} {w : World} {x : PM} {v : Value} {ns : List PM} (h : RowM F w v ns) : Ones (mvl x v) := by
  intro u hu
  obtain ⟨_, _, e, _⟩ := h.shape
  simp only [mvl, List.mem_cons, List.not_mem_nil, or_false] at hu
  rcases hu with rfl | rfl | rfl
  · rfl
  · rfl
  · rw [e]; rfl
end
theorem infoMk {n : PM} {v : Value} : (Try.prog.info? 74).map (·.size) = some (mvl n v).length := by
  show _ = some 3
  kernel_rfl
theorem infoM : (Try.prog.info? 74).map (fun i => (i.zero, i.size, i.bytes)) = some (some (.agg #[.bool false, .bool false, .slice none 0 0]), 3, 32) := by kernel_rfl
theorem asMk : AllocAs 74 mk0 := by
  intro w ev op ho
  unfold execOp
  simp only [ho]
  kernel_rfl
theorem mk0_rep (F : Nat → Prop) (w : World) : ∀ n, MksV F w (List.replicate n pm0) (List.replicate n (.slice none 0 0))
  | 0 => by unfold MksV; rfl
  | n + 1 => by
    rw [List.replicate_succ, List.replicate_succ]
    unfold MksV
    exact ⟨_, _, rfl, RowM.nd (RowM.nil _ _), mk0_rep F w n⟩
theorem made_mk (n : Nat) : (madeCells #[.bool false, .bool false, .slice none 0 0] (n * 3)).toList = mcs (List.replicate n pm0) (List.replicate n (.slice none 0 0)) := by
  unfold madeCells
  rw [Array.toList_map, Array.toList_range]
  induction n with
  | zero => rfl
  | succ n ih =>
    have e : List.range ((n + 1) * 3) = List.range (n * 3) ++ [n * 3, n * 3 + 1, n * 3 + 2] := by
      rw [show (n + 1) * 3 = n * 3 + 1 + 1 + 1 by omega, List.range_succ, List.range_succ, List.range_succ]
      simp only [List.append_assoc, List.cons_append, List.nil_append]
    rw [e, List.map_append, ih, List.replicate_succ', List.replicate_succ', mcs_app _ _ _ _ (by simp)]
    congr 1
    have e0 : n * 3 % 3 = 0 := by omega
    have e1 : (n * 3 + 1) % 3 = 1 := by omega
    have e2 : (n * 3 + 2) % 3 = 2 := by omega
    simp only [List.map_cons, List.map_nil, List.size_toArray, List.length_cons, List.length_nil, Nat.zero_add, Nat.reduceAdd, e0, e1, e2]
    rfl
theorem mkM (n : Nat) (hn : n ≤ 1000000) (u : World) : (Instr.makeSlice 55 (.int .i64 (n : Int)) (.int .i64 (n : Int))).run Try.prog u =
      .ok (.slice (some ⟨u.heap.size, 0, none⟩) n n) (u.alloc (.cells (mcs (List.replicate n pm0) (List.replicate n (.slice none 0 0))).toArray 74)) := by
  obtain ⟨i0, hi, hz0, hz1, hz2⟩ := info_parts infoM
  have h := run_make (P := Try.prog) u 55 74 i0 (.agg #[.bool false, .bool false, .slice none 0 0]) Try.underlying55 hi hz0 .i64 .i64 (n : Int) (n : Int) (by omega) (Int.le_refl _) (by rw [hz2]; omega) (by omega)
  have e : (n : Int).toNat = n := by omega
  have e2 : madeCells #[.bool false, .bool false, .slice none 0 0] (n * 3) = (mcs (List.replicate n pm0) (List.replicate n (.slice none 0 0))).toArray := by
    apply Array.ext'
    rw [made_mk]
  rw [e] at h
  rw [← e2]
  simpa [hz1, Value.cells] using h
/-- A value of several cells goes into a part of a block. -/
theorem wp_store_part {P : Program} {op : Oper} {a : Act} {w : World} {K : Act → World → Prop} {Q : Exit → Act → World → Prop} (ty : TypeId) (x y : Operand) (ho : op.op = .store ty x y)
    (g o : Nat) (T : TypeId) (old cs : List Value) (hx : a.eval x = .pointer (some ⟨g, o, none⟩)) (hy : a.eval y = .agg cs.toArray) (hA : Blk w g T old)
    (hi : (P.info? ty).map (·.size) = some cs.length) (hl : o + cs.length ≤ old.length) (h1 : Ones cs)
    (h : ∀ w', Blk w' g T (old.take o ++ cs ++ old.drop (o + cs.length)) → Kp (fun b => b = g) w w' → K (a.put op.dst undef) w') : op.wp P a w K Q := by
  have hs := run_storeCells_at (P := P) g o T cs 0 old.toArray w hA (by simpa using hl) h1
  have hst : (storeVar ty ⟨g, o, none⟩ (.agg cs.toArray)).run P w = .ok () (w.setRow g (old.take o ++ cs ++ old.drop (o + cs.length)).toArray) := by
    cases hq : P.info? ty with
    | none => simp [hq] at hi
    | some i =>
      have hz : cs.length = i.size := by simp [hq] at hi; omega
      simp only [Nat.add_zero] at hs
      simp [storeVar, sizeOf, typeInfo, hq, Value.cells, hz] at hs ⊢
      exact hs
  unfold Oper.wp execOp
  simp only [ho, hx, hy, Instr.storeAt, Instr.sureAddr, Sem.run_bind, Sem.run_pure, Result.andThen_ok, hst]
  exact h _ (set_blk hA).1 (set_blk hA).2
theorem wl_store_partM {P : Program} {ops : Array Oper} {rest : List Oper} {op : Oper} {a : Act} {w : World} {Q : Exit → Act → World → Prop} (hgd : op.guard = none) (ty : TypeId) (x y : Operand) (ho : op.op = .store ty x y)
    (g o : Nat) (T : TypeId) (old cs : List Value) (hx : a.eval x = .pointer (some ⟨g, o, none⟩)) (hy : a.eval y = .agg cs.toArray) (hA : Blk w g T old)
    (hi : (P.info? ty).map (·.size) = some cs.length) (hl : o + cs.length ≤ old.length) (h1 : Ones cs)
    (h : ∀ w', Blk w' g T (old.take o ++ cs ++ old.drop (o + cs.length)) → Kp (fun b => b = g) w w' → wpList P ops Q rest (a.put op.dst undef) w') : wpList P ops Q (op :: rest) a w :=
  wpList_plain hgd fun _ hK => wp_store_part ty x y ho g o T old cs hx hy hA hi hl h1 (fun w' h1 h2 => hK _ _ (h w' h1 h2))
/-- A block of marks; what they lead to lies at or behind B, beside it. -/
def ArrM (B g : Nat) (w : World) (ms : List PM) : Prop := ∃ vs, Blk w g 74 (mcs ms vs) ∧ MksV (fun i => B ≤ i ∧ i ≠ g) w ms vs
section
variable {B g : Nat} {w w' : World} {ms : List PM} {v : Value}
theorem ArrM.made (B n : Nat) (u : World) : ArrM B u.heap.size (u.alloc (.cells (mcs (List.replicate n pm0) (List.replicate n (.slice none 0 0))).toArray 74)) (List.replicate n pm0) := ⟨_, blk0 _ _ _, mk0_rep _ _ n⟩
theorem ArrM.kp0 (h : ArrM B g w ms) (hk : Kp0 w w') : ArrM B g w' ms := by
  obtain ⟨vs, h1, h2⟩ := h
  exact ⟨vs, h1.kp0 hk, MksV.keep hk (fun _ _ _ h => h) (fun _ h _ => h) _ _ h2⟩
theorem ArrM.keep {S0 : Nat → Prop} (h : ArrM B g w ms) (hk : Kp S0 w w') (hg : ¬ S0 g) (hs : ∀ i, B ≤ i → i < w.heap.size → i ≠ g → ¬ S0 i) : ArrM B g w' ms := by
  obtain ⟨vs, h1, h2⟩ := h
  exact ⟨vs, h1.keep hk hg, MksV.keep hk (fun i hi hl => hs i hi.1 hl hi.2) (fun _ h _ => h) _ _ h2⟩
theorem ArrM.lt (h : ArrM B g w ms) : g < w.heap.size := by
  obtain ⟨vs, h1, h2⟩ := h
  exact h1.lt
theorem ArrM.row (h : ArrM B g w ms) (hB : B ≤ g) (hl : ms.length ≤ 1000000) : RowM (fun i => B ≤ i) w (.slice (some ⟨g, 0, none⟩) ms.length ms.length) ms := by
  obtain ⟨vs, h1, h2⟩ := h
  refine ⟨vs, ⟨some ⟨g, 0, none⟩, ms.length, rfl, mcs_len _ _ h2, Nat.le_refl _, by omega, by simp, fun ad e i u hu => ?_⟩, MksV.keep (Kp.refl (fun _ => False) w) (fun _ _ _ h => h) (fun i hi _ => hi.1) _ _ h2⟩
  cases e
  exact ⟨hB, by rw [Addr.add_lit, Nat.zero_add]; exact h1.cellV i hu⟩
/-- The mark at a place. -/
theorem ArrM.at (h : ArrM B g w ms) (i : Nat) (hi : i < ms.length) : ∃ kv, w.cell? ⟨g, i * 3, none⟩ = some (.bool (ms[i]).on) ∧ w.cell? ⟨g, i * 3 + 1, none⟩ = some (.bool (ms[i]).al) ∧ w.cell? ⟨g, i * 3 + 2, none⟩ = some kv ∧ RowM (fun i => B ≤ i ∧ i ≠ g) w kv (ms[i]).ks := by
  obtain ⟨vs, h1, h2⟩ := h
  obtain ⟨kv, g0, g1, g2, g3⟩ := mcs_get ms vs h2 i hi
  exact ⟨kv, h1.cellV _ g0, h1.cellV _ g1, h1.cellV _ g2, g3⟩
/-- Another mark at a place. -/
theorem ArrM.put {vs : List Value} {m : PM} {kv : Value} {i : Nat} (hv : MksV (fun i => B ≤ i ∧ i ≠ g) w ms vs) (hA : Blk w' g 74 ((mcs ms vs).take (i * 3) ++ mvl m kv ++ (mcs ms vs).drop (i * 3 + 3))) (hk : Kp (fun b => b = g) w w') (hi : i < ms.length)
    (hm : RowM (fun i => B ≤ i ∧ i ≠ g) w kv m.ks) : ArrM B g w' (ms.set i m) := by
  have hl := MksV.len _ _ hv
  refine ⟨vs.take i ++ kv :: vs.drop (i + 1), ?_, ?_⟩
  · rw [(mcs_take ms vs i hv).1, show i * 3 + 3 = (i + 1) * 3 by omega, (mcs_take ms vs (i + 1) hv).2] at hA
    rw [List.set_eq_take_append_cons_drop, if_pos hi, mcs_app _ _ _ _ (by rw [List.length_take, List.length_take, hl])]
    rw [List.append_assoc] at hA
    exact hA
  · rw [List.set_eq_take_append_cons_drop, if_pos hi]
    have hc := MksV.cut ms vs i hv
    have hd := MksV.cut ms vs (i + 1) hv
    have hkk : ∀ (l : List PM) (us : List Value), MksV (fun i => B ≤ i ∧ i ≠ g) w l us → MksV (fun i => B ≤ i ∧ i ≠ g) w' l us := fun l us h => MksV.keep hk (fun i hi _ => hi.2) (fun _ h _ => h) _ _ h
    refine MksV.app _ _ _ _ (hkk _ _ hc.1) ?_
    unfold MksV
    exact ⟨kv, _, rfl, (hm.keep hk (fun i hi _ => hi.2) (fun _ h _ => h)).nd, hkk _ _ hd.2⟩
end
/-- A row of one's own of marks that lead to blocks at or behind B, beside its own. -/
def AccM (B : Nat) (w : World) (v : Value) (ms : List PM) : Prop := ∃ vs, w.ownsRow B 74 3 v ms.length (mcs ms vs) ∧ MksV (fun i => B ≤ i ∧ v.ownBlock ≠ some i) w ms vs
section
variable {B : Nat} {w w' : World} {v : Value} {ms : List PM}
theorem AccM.nil (B : Nat) (w : World) : AccM B w (.slice none 0 0) [] := ⟨[], World.ownsRow_nil _ _ _ _, by unfold MksV; rfl⟩
theorem AccM.kp0 (h : AccM B w v ms) (hk : Kp0 w w') : AccM B w' v ms := by
  obtain ⟨vs, h1, h2⟩ := h
  exact ⟨vs, own_keepB h1 hk (fun _ _ h => h), MksV.keep hk (fun _ _ _ h => h) (fun _ h _ => h) _ _ h2⟩
theorem AccM.keep {S0 : Nat → Prop} (h : AccM B w v ms) (hk : Kp S0 w w') (hs : ∀ i, B ≤ i → i < w.heap.size → ¬ S0 i) : AccM B w' v ms := by
  obtain ⟨vs, h1, h2⟩ := h
  exact ⟨vs, own_keepB h1 hk (fun b hb => hs b (World.ownsRow.lt h1 b hb).1 (World.ownsRow.lt h1 b hb).2), MksV.keep hk (fun i hi hl => hs i hi.1 hl) (fun _ h _ => h) _ _ h2⟩
theorem AccM.lt (h : AccM B w v ms) : ∀ b, v.ownBlock = some b → B ≤ b ∧ b < w.heap.size := by
  obtain ⟨vs, h1, h2⟩ := h
  exact fun b hb => World.ownsRow.lt h1 b hb
theorem AccM.row (h : AccM B w v ms) : RowM (fun i => B ≤ i) w v ms := by
  obtain ⟨vs, h1, h2⟩ := h
  exact ⟨vs, RdF.own h1, MksV.keep (Kp.refl (fun _ => False) w) (fun _ _ _ h => h) (fun i hi _ => hi.1) _ _ h2⟩
theorem AccM.more {K : Nat → Prop} {n : PM} {kv v' : Value} {vs : List Value} (h1 : w.ownsRow B 74 3 v ms.length (mcs ms vs))
    (h3 : MksV (fun i => B ≤ i ∧ v.ownBlock ≠ some i) w ms vs)
    (hn : RowM K w kv n.ks) (hK : ∀ i, K i → i < w.heap.size → B ≤ i ∧ v.ownBlock ≠ some i)
    (hk : Kp (fun b => v.ownBlock = some b) w w') (hb : ∀ b, v'.ownBlock = some b → v.ownBlock = some b ∨ w.heap.size ≤ b)
    (hr : w'.ownsRow B 74 3 v' (ms.length + 1) (mcs ms vs ++ mvl n kv)) : AccM B w' v' (ms ++ [n]) := by
  have hF : ∀ i, (B ≤ i ∧ v.ownBlock ≠ some i) → i < w.heap.size → (B ≤ i ∧ v'.ownBlock ≠ some i) := fun i hi hl => ⟨hi.1, fun e => by
    rcases hb i e with h | h
    · exact hi.2 h
    · omega⟩
  have hn' : RowM (fun i => B ≤ i ∧ v'.ownBlock ≠ some i) w' kv n.ks := hn.keep hk (fun i hi hl => (hK i hi hl).2) (fun i hi hl => hF i (hK i hi hl) hl)
  refine ⟨vs ++ [kv], ?_, ?_⟩
  · rw [List.length_append, mcs_app _ _ _ _ (MksV.len _ _ h3)]
    exact hr
  · exact MksV.app _ _ _ _ (MksV.keep hk (fun i hi _ => hi.2) hF _ _ h3) (MksV.one hn')
end
mutual
/-- What either chooses. -/
def bothT : PM → PM → PM
  | .mk a b ks, m => .mk (a || m.on) (b || m.al) (bothsT ks m.ks)
def bothsT : List PM → List PM → List PM
  | [], l => l
  | x :: xs, l => match l with
    | [] => x :: xs
    | y :: ys => bothT x y :: bothsT xs ys
end
mutual
theorem bothT_r0 : ∀ m : PM, bothT m pm0 = m
  | .mk a b ks => by
    unfold bothT
    show PM.mk (a || false) (b || false) (bothsT ks []) = _
    rw [bothsT_r0 ks, Bool.or_false, Bool.or_false]
theorem bothsT_r0 : ∀ l : List PM, bothsT l [] = l
  | [] => rfl
  | x :: xs => rfl
end
theorem bothT_l0 (m : PM) : bothT pm0 m = m := by
  cases m
  unfold pm0 bothT
  simp [PM.on, PM.al, PM.ks, bothsT]
theorem bothsT_len : ∀ k l : List PM, (bothsT k l).length = max k.length l.length
  | [], l => by simp [bothsT]
  | x :: xs, [] => by simp [bothsT]
  | x :: xs, y :: ys => by simp only [bothsT, List.length_cons, bothsT_len xs ys]; omega
theorem bothsT_get : ∀ (k l : List PM) (i : Nat) (h : i < (bothsT k l).length), (bothsT k l)[i] = bothT (k.getD i pm0) (l.getD i pm0)
  | [], l, i, h => by
    simp only [bothsT] at h ⊢
    rw [List.getD_nil, bothT_l0, List.getD_eq_getElem?_getD, List.getElem?_eq_getElem h]
    rfl
  | x :: xs, [], i, h => by
    simp only [bothsT] at h ⊢
    rw [List.getD_nil, bothT_r0, List.getD_eq_getElem?_getD, List.getElem?_eq_getElem h]
    rfl
  | x :: xs, y :: ys, 0, h => by simp only [bothsT, List.getElem_cons_zero, List.getD_cons_zero]
  | x :: xs, y :: ys, i + 1, h => by
    simp only [bothsT, List.getElem_cons_succ, List.getD_cons_succ]
    exact bothsT_get xs ys i (by simpa [bothsT] using h)
mutual
def mOk : PM → Bool
  | .mk _ _ ks => decide (ks.length ≤ 1000000) && msOk ks
def msOk : List PM → Bool
  | [] => true
  | n :: ns => mOk n && msOk ns
end
theorem msOk_mem {n : PM} : ∀ {ns : List PM}, msOk ns = true → n ∈ ns → mOk n = true
  | [], _, h => by cases h
  | m :: ns, h, hm => by
    unfold msOk at h
    rw [Bool.and_eq_true] at h
    rcases List.mem_cons.1 hm with rfl | hm
    · exact h.1
    · exact msOk_mem h.2 hm
theorem mOk_ks {n : PM} (h : mOk n = true) : n.ks.length ≤ 1000000 ∧ msOk n.ks = true := by
  cases n
  unfold mOk at h
  simp only [Bool.and_eq_true, decide_eq_true_eq] at h
  exact h
theorem mOk_of {n : PM} (h : n.ks.length ≤ 1000000) (h2 : msOk n.ks = true) : mOk n = true := by
  cases n
  unfold mOk
  simp only [Bool.and_eq_true, decide_eq_true_eq]
  exact ⟨h, h2⟩
theorem msOk_of : ∀ {ns : List PM}, (∀ n ∈ ns, mOk n = true) → msOk ns = true
  | [], _ => rfl
  | m :: ns, h => by
    unfold msOk
    rw [Bool.and_eq_true]
    exact ⟨h m (by simp), msOk_of (fun n hn => h n (by simp [hn]))⟩
theorem mOk0 : mOk pm0 = true := rfl
theorem mOk1 : mOk pm1 = true := rfl
theorem msOk_getD {l : List PM} (h : msOk l = true) (i : Nat) : mOk (l.getD i pm0) = true := by
  rw [List.getD_eq_getElem?_getD]
  rcases Nat.lt_or_ge i l.length with hi | hi
  · rw [List.getElem?_eq_getElem hi]
    exact msOk_mem h (List.getElem_mem hi)
  · rw [List.getElem?_eq_none hi]
    rfl
mutual
theorem bothT_ok : ∀ a b : PM, mOk a = true → mOk b = true → mOk (bothT a b) = true
  | .mk x y ks, b, h, hb => by
    have h1 := mOk_ks h
    have h2 := mOk_ks hb
    unfold bothT
    refine mOk_of ?_ (bothsT_ok ks b.ks h1.2 h2.2)
    show (bothsT ks b.ks).length ≤ _
    rw [bothsT_len]
    have := h1.1
    have := h2.1
    show max ks.length b.ks.length ≤ _
    exact Nat.max_le.2 ⟨h1.1, h2.1⟩
theorem bothsT_ok : ∀ k l : List PM, msOk k = true → msOk l = true → msOk (bothsT k l) = true
  | [], l, _, h => h
  | x :: xs, [], h, _ => h
  | x :: xs, y :: ys, h, hb => by
    unfold msOk at h hb
    rw [Bool.and_eq_true] at h hb
    simp only [bothsT]
    unfold msOk
    rw [Bool.and_eq_true]
    exact ⟨bothT_ok x y h.1 hb.1, bothsT_ok xs ys h.2 hb.2⟩
end
mutual
/-- How many marks. -/
def cntM : PM → Nat
  | .mk _ _ ks => 1 + cntMs ks
def cntMs : List PM → Nat
  | [] => 0
  | e :: es => cntM e + cntMs es
end
theorem cntM_ks (m : PM) : cntM m = 1 + cntMs m.ks := by cases m; rw [cntM]; rfl
theorem cntMs_getD : ∀ (l : List PM) (i : Nat), cntM (l.getD i pm0) ≤ 1 + cntMs l ∧ (i < l.length → cntM (l.getD i pm0) ≤ cntMs l)
  | [], i => ⟨Nat.le_refl 1, fun h => by simp at h⟩
  | x :: xs, 0 => by
    rw [cntMs]
    exact ⟨by simp only [List.getD_cons_zero]; omega, fun _ => by simp only [List.getD_cons_zero]; omega⟩
  | x :: xs, i + 1 => by
    have := cntMs_getD xs i
    rw [cntMs]
    simp only [List.getD_cons_succ]
    exact ⟨by omega, fun h => by have := this.2 (by simpa using h); omega⟩
end Go.Proofs.Ytmamcnhofgfolaa
