/- Arrays of int64 in a block. -/
import Derived.Test.YtcnehbfcagghpaaLib
import Derived.Test.YtcnehbfcagghpaaF3
import Derived.Deep.MidRow
namespace Go.Proofs.Ytcnehbfcagghpaa
open Go Go.RowKit
def i64s (ds : List Int) : List Value := ds.map (Value.int .i64)
theorem i64s_len (ds : List Int) : (i64s ds).length = ds.length := by simp [i64s]
/-- Block g holds these numbers. -/
def Arr (w : World) (g : Nat) (T : TypeId) (ds : List Int) : Prop := w.heap[g]? = some (.cells (i64s ds).toArray T (0, 0))
theorem Arr.lt {w : World} {g : Nat} {T : TypeId} {ds : List Int} (h : Arr w g T ds) : g < w.heap.size := blk_lt h
theorem Arr.cell {w : World} {g : Nat} {T : TypeId} {ds : List Int} (h : Arr w g T ds) (i : Nat) (hi : i < ds.length) : w.cell? ⟨g, i, none⟩ = some (.int .i64 (ds[i]'hi)) := by
  rw [blk_cell h i]
  simp [i64s, hi]
theorem Arr.frozen {w : World} {g : Nat} {T : TypeId} {ds : List Int} (h : Arr w g T ds) (i : Nat) : w.frozen? ⟨g, i, none⟩ = false := blk_frozen h i
theorem Arr.set {w : World} {g : Nat} {T : TypeId} {ds : List Int} (h : Arr w g T ds) (i : Nat) (x : Int) : Arr (w.setCell ⟨g, i, none⟩ (.int .i64 x)) g T (ds.set i x) := by
  have := blk_set h i (.int .i64 x)
  unfold Arr
  rw [this]
  simp [i64s, List.map_set]
theorem Arr.keep {w w' : World} {g : Nat} {T : TypeId} {ds : List Int} (h : Arr w g T ds) {S : Nat → Prop} (hk : Kp S w w') (hs : ¬ S g) : Arr w' g T ds := blk_keep hk h hs
theorem Arr.drew {w : World} {g : Nat} {T : TypeId} {ds : List Int} (h : Arr w g T ds) : Arr w.drew g T ds := h
theorem sixteen (ds : List Int) (h : ds.length = 16) : ∃ x0 x1 x2 x3 x4 x5 x6 x7 x8 x9 x10 x11 x12 x13 x14 x15, ds = [x0, x1, x2, x3, x4, x5, x6, x7, x8, x9, x10, x11, x12, x13, x14, x15] := by
  match ds, h with
  | [x0, x1, x2, x3, x4, x5, x6, x7, x8, x9, x10, x11, x12, x13, x14, x15], _ => exact ⟨x0, x1, x2, x3, x4, x5, x6, x7, x8, x9, x10, x11, x12, x13, x14, x15, rfl⟩
theorem Arr.cells16 {w : World} {g : Nat} {T : TypeId} {x0 x1 x2 x3 x4 x5 x6 x7 x8 x9 x10 x11 x12 x13 x14 x15 : Int} (h : Arr w g T [x0, x1, x2, x3, x4, x5, x6, x7, x8, x9, x10, x11, x12, x13, x14, x15]) :
    w.cell? ⟨g, 0, none⟩ = some (.int .i64 x0) ∧ w.cell? ⟨g, 1, none⟩ = some (.int .i64 x1) ∧ w.cell? ⟨g, 2, none⟩ = some (.int .i64 x2) ∧ w.cell? ⟨g, 3, none⟩ = some (.int .i64 x3) ∧ w.cell? ⟨g, 4, none⟩ = some (.int .i64 x4) ∧ w.cell? ⟨g, 5, none⟩ = some (.int .i64 x5) ∧ w.cell? ⟨g, 6, none⟩ = some (.int .i64 x6) ∧ w.cell? ⟨g, 7, none⟩ = some (.int .i64 x7) ∧ w.cell? ⟨g, 8, none⟩ = some (.int .i64 x8) ∧ w.cell? ⟨g, 9, none⟩ = some (.int .i64 x9) ∧ w.cell? ⟨g, 10, none⟩ = some (.int .i64 x10) ∧ w.cell? ⟨g, 11, none⟩ = some (.int .i64 x11) ∧ w.cell? ⟨g, 12, none⟩ = some (.int .i64 x12) ∧ w.cell? ⟨g, 13, none⟩ = some (.int .i64 x13) ∧ w.cell? ⟨g, 14, none⟩ = some (.int .i64 x14) ∧ w.cell? ⟨g, 15, none⟩ = some (.int .i64 x15) :=
  ⟨h.cell 0 (by simp), h.cell 1 (by simp), h.cell 2 (by simp), h.cell 3 (by simp), h.cell 4 (by simp), h.cell 5 (by simp), h.cell 6 (by simp), h.cell 7 (by simp), h.cell 8 (by simp), h.cell 9 (by simp), h.cell 10 (by simp), h.cell 11 (by simp), h.cell 12 (by simp), h.cell 13 (by simp), h.cell 14 (by simp), h.cell 15 (by simp)⟩
theorem Arr.frozen16 {w : World} {g : Nat} {T : TypeId} {ds : List Int} (h : Arr w g T ds) :
    w.frozen? ⟨g, 0, none⟩ = false ∧ w.frozen? ⟨g, 1, none⟩ = false ∧ w.frozen? ⟨g, 2, none⟩ = false ∧ w.frozen? ⟨g, 3, none⟩ = false ∧ w.frozen? ⟨g, 4, none⟩ = false ∧ w.frozen? ⟨g, 5, none⟩ = false ∧ w.frozen? ⟨g, 6, none⟩ = false ∧ w.frozen? ⟨g, 7, none⟩ = false ∧ w.frozen? ⟨g, 8, none⟩ = false ∧ w.frozen? ⟨g, 9, none⟩ = false ∧ w.frozen? ⟨g, 10, none⟩ = false ∧ w.frozen? ⟨g, 11, none⟩ = false ∧ w.frozen? ⟨g, 12, none⟩ = false ∧ w.frozen? ⟨g, 13, none⟩ = false ∧ w.frozen? ⟨g, 14, none⟩ = false ∧ w.frozen? ⟨g, 15, none⟩ = false :=
  ⟨h.frozen 0, h.frozen 1, h.frozen 2, h.frozen 3, h.frozen 4, h.frozen 5, h.frozen 6, h.frozen 7, h.frozen 8, h.frozen 9, h.frozen 10, h.frozen 11, h.frozen 12, h.frozen 13, h.frozen 14, h.frozen 15⟩
theorem Arr.range {w : World} {g : Nat} {T : TypeId} {ds : List Int} (h : Arr w g T ds) : w.rangeAt g 0 (i64s ds) := by
  intro j v hv
  rw [Nat.zero_add, blk_cell h j]
  simpa using hv
theorem Arr.there {w : World} {g : Nat} {T : TypeId} {ds : List Int} (h : Arr w g T ds) (n : Nat) (hn : n = ds.length) : w.there g 0 n := by
  intro j hj
  rw [Nat.zero_add]
  exact ⟨by rw [h.cell j (by omega)]; rfl, h.frozen j⟩
theorem i64s_one (ds : List Int) : ((i64s ds).toArray).all (·.oneCell') = true := by
  rw [Array.all_eq_true_iff_forall_mem]
  intro v hv
  simp only [i64s, List.mem_toArray, List.mem_map] at hv
  obtain ⟨x, _, rfl⟩ := hv
  rfl
theorem set_row {w : World} {g : Nat} {T : TypeId} {old ds : List Int} (h : Arr w g T old) : Arr (w.setRow g (i64s ds).toArray) g T ds ∧ Kp (fun b => b = g) w (w.setRow g (i64s ds).toArray) := by
  constructor
  · unfold Arr World.setRow
    simp only [Array.getElem?_modify, if_true]
    rw [show w.heap[g]? = _ from h]
    rfl
  · refine ⟨rfl, rfl, rfl, by simp [World.setRow], fun k _ hk => ?_⟩
    simp only [World.setRow, Array.getElem?_modify]
    rw [if_neg (fun e => hk e.symm)]
theorem wp_store_arr {P : Program} {op : Oper} {a : Act} {w : World} {K : Act → World → Prop} {Q : Exit → Act → World → Prop} (ty : TypeId) (x y : Operand) (ho : op.op = .store ty x y)
    (g : Nat) (T : TypeId) (old ds : List Int) (hx : a.eval x = .pointer (some ⟨g, 0, none⟩)) (hy : a.eval y = .agg (i64s ds).toArray) (hA : Arr w g T old)
    (hi : (P.info? ty).map (·.size) = some (i64s ds).toArray.size) (hl : old.length = ds.length)
    (h : ∀ w', Arr w' g T ds → Kp (fun b => b = g) w w' → K (a.put op.dst undef) w') : op.wp P a w K Q := by
  have := run_storeVar_row (P := P) w g T ty (i64s old).toArray (i64s ds).toArray hA hi (by simp [i64s_len, hl]) (i64s_one ds)
  unfold Oper.wp execOp
  simp only [ho, hx, hy, Instr.storeAt, Instr.sureAddr, Sem.run_bind, Sem.run_pure, Result.andThen_ok, this]
  exact h _ (set_row hA).1 (set_row hA).2
theorem wl_store_arr {P : Program} {ops : Array Oper} {rest : List Oper} {op : Oper} {a : Act} {w : World} {Q : Exit → Act → World → Prop} (hgd : op.guard = none) (ty : TypeId) (x y : Operand) (ho : op.op = .store ty x y)
    (g : Nat) (T : TypeId) (old ds : List Int) (hx : a.eval x = .pointer (some ⟨g, 0, none⟩)) (hy : a.eval y = .agg (i64s ds).toArray) (hA : Arr w g T old)
    (hi : (P.info? ty).map (·.size) = some (i64s ds).toArray.size) (hl : old.length = ds.length)
    (h : ∀ w', Arr w' g T ds → Kp (fun b => b = g) w w' → wpList P ops Q rest (a.put op.dst undef) w') : wpList P ops Q (op :: rest) a w :=
  wpList_plain hgd fun _ hK => wp_store_arr ty x y ho g T old ds hx hy hA hi hl (fun w' h1 h2 => hK _ _ (h w' h1 h2))
theorem wl_load_arr {P : Program} {ops : Array Oper} {rest : List Oper} {op : Oper} {a : Act} {w : World} {Q : Exit → Act → World → Prop} (hgd : op.guard = none) (ty : TypeId) (x : Operand) (ho : op.op = .load ty x)
    (g : Nat) (T : TypeId) (ds : List Int) (hx : a.eval x = .pointer (some ⟨g, 0, none⟩)) (hA : Arr w g T ds) (d : TypeDesc)
    (hu : P.underlying ty = some d) (hd : d.isRow = true) (hi : (P.info? ty).map (·.size) = some (i64s ds).length)
    (h : wpList P ops Q rest (a.put op.dst (.agg (i64s ds).toArray)) w) : wpList P ops Q (op :: rest) a w :=
  wpList_load_mid hgd ty x ho g 0 hx (i64s ds) d hA.range hu hd hi h
theorem ret_arr {P : Program} {fn : Func} {R : Ending → World → Prop} {a : Act} {w : World} (t : Tmp) (T U : TypeId) (g : Nat) (ds : List Int) (d : TypeDesc) (hr : fn.results = #[.cell t T]) (hx : a.tmps.getD t undef = .pointer (some ⟨g, 0, none⟩))
    (hA : Arr w g U ds) (hu : P.underlying T = some d) (hd : d.isRow = true) (hi : (P.info? T).map (·.size) = some (i64s ds).length) (hdf : a.defers = []) (hR : R (.returned (.agg (i64s ds).toArray)) w) : bodyPost P fn R .ret a w := by
  refine ⟨hdf, _, ?_, hR⟩
  have := run_loadVar_mid (P := P) w g 0 T (i64s ds) d hA.range hu hd hi
  rw [Array.getD_eq_getD_getElem?] at hx
  simp [results, hr, hx, asAddr, this]
end Go.Proofs.Ytcnehbfcagghpaa
