/- A function's own blocks: what its parameters and variables hold, one behind the other. -/
import Derived.Test.YtbifdckmkogbgaaArK
import Derived.Test.YtbifdckmkogbgaaIdx
namespace Go.Proofs.Ytbifdckmkogbgaa
open Go Go.RowKit
theorem Blk.set' {w : World} {g : Nat} {T : TypeId} {cs : List Value} (h : Blk w g T cs) (i : Nat) (v : Value) : Blk (w.setCell ⟨g, i, none⟩ v) g T (cs.set i v) := by
  have := blk_set h i v
  unfold Blk
  rw [this]
  simp
theorem Blk.cellV {w : World} {g : Nat} {T : TypeId} {cs : List Value} (h : Blk w g T cs) (i : Nat) {v : Value} (hv : cs[i]? = some v) : w.cell? ⟨g, i, none⟩ = some v := by
  rw [blk_cell h i]
  simpa using hv
theorem Blk.other' {w : World} {g b i : Nat} {T : TypeId} {cs : List Value} (h : Blk w g T cs) (hb : b ≠ g) (v : Value) : Blk (w.setCell ⟨b, i, none⟩ v) g T cs :=
  h.keep ((Kp.refl (fun c => c = b) w).setCell (fun _ => rfl) _) (fun e => hb e.symm)
theorem Blk.drew' {w : World} {g : Nat} {T : TypeId} {cs : List Value} (h : Blk w g T cs) : Blk w.drew g T cs := h
/-- The blocks from w's end on hold these. -/
def Rows' (w wr : World) (rs : List (TypeId × List Value)) : Prop := (∀ j T cs, rs[j]? = some (T, cs) → Blk wr (w.heap.size + j) T cs) ∧ Kp0 w wr
section
variable {w wr wx : World} {rs : List (TypeId × List Value)}
theorem Rows'.nil (w : World) : Rows' w w [] := ⟨fun j T cs h => by simp at h, Kp.refl _ _⟩
theorem Rows'.push (h : Rows' w wr rs) (hs : wr.heap.size = w.heap.size + rs.length) (T : TypeId) (cs : List Value) :
    Rows' w (wr.alloc (.cells cs.toArray T)) (rs ++ [(T, cs)]) ∧ (wr.alloc (.cells cs.toArray T)).heap.size = w.heap.size + (rs ++ [(T, cs)]).length := by
  refine ⟨⟨fun j T' cs' hj => ?_, h.2.alloc _⟩, by simp [hs]; omega⟩
  by_cases hl : j < rs.length
  · rw [List.getElem?_append_left hl] at hj
    exact (h.1 j T' cs' hj).kp0 ((Kp.refl _ _).alloc _)
  · rw [List.getElem?_append_right (by omega)] at hj
    have hj0 : j - rs.length = 0 := by
      have := (List.getElem?_eq_some_iff.1 hj).1
      simp at this
      omega
    rw [hj0] at hj
    simp at hj
    obtain ⟨rfl, rfl⟩ := hj
    have := blk0 wr T cs
    rw [hs, show rs.length = j by omega] at this
    exact this
theorem Rows'.kp (h : Rows' w wr rs) : Kp0 w wr := h.2
theorem Rows'.kp0 (h : Rows' w wr rs) (hk : Kp0 wr wx) : Rows' w wx rs := ⟨fun j T cs hj => (h.1 j T cs hj).kp0 hk, h.2.tr hk⟩
theorem Rows'.drew (h : Rows' w wr rs) : Rows' w wr.drew rs := h.kp0 (Kp.refl _ _).drew
theorem Rows'.blk (h : Rows' w wr rs) (j : Nat) {T : TypeId} {cs : List Value} (hj : rs[j]? = some (T, cs)) {g : Nat} (hg : g = w.heap.size + j) : Blk wr g T cs := by subst hg; exact h.1 j T cs hj
theorem Rows'.set (h : Rows' w wr rs) (j : Nat) {T : TypeId} {cs : List Value} (hj : rs[j]? = some (T, cs)) (i : Nat) (v : Value) {g : Nat} (hg : g = w.heap.size + j) : Rows' w (wr.setCell ⟨g, i, none⟩ v) (rs.set j (T, cs.set i v)) := by
  subst hg
  refine ⟨fun k T' cs' hk => ?_, h.2.at (by omega) _⟩
  rw [List.getElem?_set] at hk
  by_cases e : j = k
  · subst e
    rw [if_pos rfl, if_pos (List.getElem?_eq_some_iff.1 hj).1] at hk
    obtain ⟨rfl, rfl⟩ : T = T' ∧ cs.set i v = cs' := by simpa using hk
    exact (h.1 j T cs hj).set' i v
  · rw [if_neg e] at hk
    exact (h.1 k T' cs' hk).other' (by omega) v
theorem Rows'.store (h : Rows' w wr rs) (j : Nat) {T : TypeId} {old cs : List Value} (hj : rs[j]? = some (T, old)) {g : Nat} (hg : g = w.heap.size + j) (hA : Blk wx g T cs) (hS : Kp (fun b => b = g) wr wx) : Rows' w wx (rs.set j (T, cs)) := by
  subst hg
  refine ⟨fun k T' cs' hk => ?_, h.2.trans hS (fun _ _ h => h) (fun i hi e => by omega)⟩
  rw [List.getElem?_set] at hk
  by_cases e : j = k
  · subst e
    rw [if_pos rfl, if_pos (List.getElem?_eq_some_iff.1 hj).1] at hk
    obtain ⟨rfl, rfl⟩ : T = T' ∧ cs = cs' := by simpa using hk
    exact hA
  · rw [if_neg e] at hk
    exact (h.1 k T' cs' hk).keep hS (fun e2 => e (by omega))
end
theorem rows1 (w : World) (T0 : TypeId) (c0 : List Value) : Rows' w (w.alloc (.cells c0.toArray T0)) [(T0, c0)] := ((Rows'.nil w).push rfl T0 c0).1
theorem rows2 (w : World) (T0 : TypeId) (c0 : List Value) (T1 : TypeId) (c1 : List Value) : Rows' w ((w.alloc (.cells c0.toArray T0)).alloc (.cells c1.toArray T1)) [(T0, c0), (T1, c1)] :=
  ((rows1 w T0 c0).push (by simp) T1 c1).1
theorem rows3 (w : World) (T0 : TypeId) (c0 : List Value) (T1 : TypeId) (c1 : List Value) (T2 : TypeId) (c2 : List Value) : Rows' w (((w.alloc (.cells c0.toArray T0)).alloc (.cells c1.toArray T1)).alloc (.cells c2.toArray T2)) [(T0, c0), (T1, c1), (T2, c2)] :=
  ((rows2 w T0 c0 T1 c1).push (by simp) T2 c2).1
theorem rows4 (w : World) (T0 : TypeId) (c0 : List Value) (T1 : TypeId) (c1 : List Value) (T2 : TypeId) (c2 : List Value) (T3 : TypeId) (c3 : List Value) : Rows' w ((((w.alloc (.cells c0.toArray T0)).alloc (.cells c1.toArray T1)).alloc (.cells c2.toArray T2)).alloc (.cells c3.toArray T3)) [(T0, c0), (T1, c1), (T2, c2), (T3, c3)] :=
  ((rows3 w T0 c0 T1 c1 T2 c2).push (by simp) T3 c3).1
theorem kis_get {k : IntKind} {ds : List Int} {n : Nat} {x : Int} (h : ds[n]? = some x) : (kis k ds)[n]? = some (.int k x) := by simp [kis, h]
theorem kis_set (k : IntKind) (ds : List Int) (n : Nat) (x : Int) : (kis k ds).set n (.int k x) = kis k (ds.set n x) := by simp [kis, List.map_set]
theorem run_load_mid {P : Program} {op : Oper} {a : Act} {w : World} (ty : TypeId) (x : Operand) (ho : op.op = .load ty x)
    (g o : Nat) (cs : List Value) (hx : a.eval x = .pointer (some ⟨g, o, none⟩)) (hA : w.rangeAt g o cs) (d : TypeDesc)
    (hu : P.underlying ty = some d) (hd : d.isRow = true) (hi : (P.info? ty).map (·.size) = some cs.length) : (execOp a.eval op).run P w = .ok (.value (.agg cs.toArray)) w := by
  unfold execOp
  simp only [ho, hx, Instr.loadAt, Instr.sureAddr, Sem.run_bind, Sem.run_pure, Result.andThen_ok, run_loadVar_mid w g o ty cs d hA hu hd hi]
theorem wl_quiet_val {P : Program} {ops : Array Oper} {rest : List Oper} {op : Oper} {a : Act} {w : World} {Q : Exit → Act → World → Prop} {v : Value} (hgd : op.guard = none)
    (hv : ∀ w, (execOp a.eval op).run P w = .ok (.value v) w) (h : wpList P ops Q rest (a.put op.dst v) w) : wpList P ops Q (op :: rest) a w :=
  wpList_plain hgd fun _ hK => by
    unfold Oper.wp
    rw [hv w]
    exact hK _ _ h
/-- A part of a block. -/
theorem Blk.part {w : World} {g : Nat} {T : TypeId} {cs ds : List Value} (h : Blk w g T cs) (o : Nat) (hd : ds = (cs.drop o).take ds.length) : w.rangeAt g o ds := by
  intro j v hv
  rw [blk_cell h]
  rw [hd] at hv
  rw [List.getElem?_take, List.getElem?_drop] at hv
  split at hv
  · simpa using hv
  · cases hv
end Go.Proofs.Ytbifdckmkogbgaa
