/- Values of several cells in a block. -/
import Derived.Test.YtbifdckmkogbgaaLib
import Derived.Deep.MidRow
namespace Go.Proofs.Ytbifdckmkogbgaa
open Go Go.RowKit
/-- Block g holds these cells. -/
def Blk (w : World) (g : Nat) (T : TypeId) (cs : List Value) : Prop := w.heap[g]? = some (.cells cs.toArray T (0, 0))
theorem Blk.lt {w : World} {g : Nat} {T : TypeId} {cs : List Value} (h : Blk w g T cs) : g < w.heap.size := blk_lt h
theorem Blk.keep {w w' : World} {g : Nat} {T : TypeId} {cs : List Value} (h : Blk w g T cs) {S : Nat → Prop} (hk : Kp S w w') (hs : ¬ S g) : Blk w' g T cs := blk_keep hk h hs
theorem Blk.kp0 {w w' : World} {g : Nat} {T : TypeId} {cs : List Value} (h : Blk w g T cs) (hk : Kp0 w w') : Blk w' g T cs := h.keep hk (fun h => h)
theorem Blk.range {w : World} {g : Nat} {T : TypeId} {cs : List Value} (h : Blk w g T cs) : w.rangeAt g 0 cs := by
  intro j v hv
  rw [Nat.zero_add, blk_cell h j]
  simpa using hv
theorem blk0 (w : World) (T : TypeId) (cs : List Value) : Blk (w.alloc (.cells cs.toArray T)) w.heap.size T cs := heap_alloc_new w _
/-- All of one cell each. -/
def Ones (cs : List Value) : Prop := ∀ v, v ∈ cs → v.oneCell' = true
theorem Ones.all {cs : List Value} (h : Ones cs) : cs.toArray.all (·.oneCell') = true := by
  rw [Array.all_eq_true_iff_forall_mem]
  intro v hv
  exact h v (by simpa using hv)
theorem set_blk {w : World} {g : Nat} {T : TypeId} {old cs : List Value} (h : Blk w g T old) : Blk (w.setRow g cs.toArray) g T cs ∧ Kp (fun b => b = g) w (w.setRow g cs.toArray) := by
  constructor
  · unfold Blk World.setRow
    simp only [Array.getElem?_modify, if_true]
    rw [show w.heap[g]? = _ from h]
    rfl
  · refine ⟨rfl, rfl, rfl, by simp [World.setRow], fun k _ hk => ?_⟩
    simp only [World.setRow, Array.getElem?_modify]
    rw [if_neg (fun e => hk e.symm)]
section
variable {P : Program} {ops : Array Oper} {rest : List Oper} {op : Oper} {a : Act} {w : World} {K : Act → World → Prop} {Q : Exit → Act → World → Prop}
theorem wp_store_blk (ty : TypeId) (x y : Operand) (ho : op.op = .store ty x y)
    (g : Nat) (T : TypeId) (old cs : List Value) (hx : a.eval x = .pointer (some ⟨g, 0, none⟩)) (hy : a.eval y = .agg cs.toArray) (hA : Blk w g T old)
    (hi : (P.info? ty).map (·.size) = some cs.length) (hl : old.length = cs.length) (h1 : Ones cs)
    (h : ∀ w', Blk w' g T cs → Kp (fun b => b = g) w w' → K (a.put op.dst undef) w') : op.wp P a w K Q := by
  have := run_storeVar_row (P := P) w g T ty old.toArray cs.toArray hA (by rw [List.size_toArray]; exact hi) (by simp [hl]) h1.all
  unfold Oper.wp execOp
  simp only [ho, hx, hy, Instr.storeAt, Instr.sureAddr, Sem.run_bind, Sem.run_pure, Result.andThen_ok, this]
  exact h _ (set_blk hA).1 (set_blk hA).2
theorem wl_store_blk (hgd : op.guard = none) (ty : TypeId) (x y : Operand) (ho : op.op = .store ty x y)
    (g : Nat) (T : TypeId) (old cs : List Value) (hx : a.eval x = .pointer (some ⟨g, 0, none⟩)) (hy : a.eval y = .agg cs.toArray) (hA : Blk w g T old)
    (hi : (P.info? ty).map (·.size) = some cs.length) (hl : old.length = cs.length) (h1 : Ones cs)
    (h : ∀ w', Blk w' g T cs → Kp (fun b => b = g) w w' → wpList P ops Q rest (a.put op.dst undef) w') : wpList P ops Q (op :: rest) a w :=
  wpList_plain hgd fun _ hK => wp_store_blk ty x y ho g T old cs hx hy hA hi hl h1 (fun w' h1 h2 => hK _ _ (h w' h1 h2))
theorem wl_load_blk (hgd : op.guard = none) (ty : TypeId) (x : Operand) (ho : op.op = .load ty x)
    (g : Nat) (T : TypeId) (cs : List Value) (hx : a.eval x = .pointer (some ⟨g, 0, none⟩)) (hA : Blk w g T cs) (d : TypeDesc)
    (hu : P.underlying ty = some d) (hd : d.isRow = true) (hi : (P.info? ty).map (·.size) = some cs.length)
    (h : wpList P ops Q rest (a.put op.dst (.agg cs.toArray)) w) : wpList P ops Q (op :: rest) a w :=
  wpList_load_mid hgd ty x ho g 0 hx cs d hA.range hu hd hi h
theorem run_load_blk (ty : TypeId) (x : Operand) (ho : op.op = .load ty x)
    (g : Nat) (T : TypeId) (cs : List Value) (hx : a.eval x = .pointer (some ⟨g, 0, none⟩)) (hA : Blk w g T cs) (d : TypeDesc)
    (hu : P.underlying ty = some d) (hd : d.isRow = true) (hi : (P.info? ty).map (·.size) = some cs.length) : (execOp a.eval op).run P w = .ok (.value (.agg cs.toArray)) w := by
  unfold execOp
  simp only [ho, hx, Instr.loadAt, Instr.sureAddr, Sem.run_bind, Sem.run_pure, Result.andThen_ok, run_loadVar_mid w g 0 ty cs d hA.range hu hd hi]
theorem len_of {T : TypeId} {m n : Nat} (h1 : (P.info? T).map (·.size) = some m) (h2 : (P.info? T).map (·.size) = some n) : m = n := by
  rw [h1] at h2
  exact Option.some.inj h2
end
end Go.Proofs.Ytbifdckmkogbgaa
