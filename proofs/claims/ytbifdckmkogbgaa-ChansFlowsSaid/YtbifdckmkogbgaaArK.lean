/- Arrays of ints of any kind in a block. -/
import Derived.Test.YtbifdckmkogbgaaLib
import Derived.Test.YtbifdckmkogbgaaBlk
import Derived.Deep.MidRow
import Derived.Lib.Hide
namespace Go.Proofs.Ytbifdckmkogbgaa
open Go Go.RowKit
def kis (k : IntKind) (ds : List Int) : List Value := ds.map (Value.int k)
theorem kis_len (k : IntKind) (ds : List Int) : (kis k ds).length = ds.length := by simp [kis]
theorem kis_ones (k : IntKind) (ds : List Int) : Ones (kis k ds) := by
  intro v hv
  obtain ⟨x, _, rfl⟩ := List.mem_map.1 hv
  rfl
/-- Block g holds these numbers. -/
def ArK (k : IntKind) (w : World) (g : Nat) (T : TypeId) (ds : List Int) : Prop := Blk w g T (kis k ds)
section
variable {k : IntKind} {w w' : World} {g : Nat} {T : TypeId} {ds : List Int}
theorem ArK.lt (h : ArK k w g T ds) : g < w.heap.size := blk_lt h
theorem ArK.cell (h : ArK k w g T ds) (i : Nat) (hi : i < ds.length) : w.cell? ⟨g, i, none⟩ = some (.int k (ds[i]'hi)) := by
  rw [blk_cell h i]
  simp [kis, hi]
theorem ArK.cell' (h : ArK k w g T ds) (i : Nat) {x : Int} (hi : ds[i]? = some x) : w.cell? ⟨g, i, none⟩ = some (.int k x) := by
  obtain ⟨h1, rfl⟩ := List.getElem?_eq_some_iff.1 hi
  exact h.cell i h1
theorem ArK.frozen (h : ArK k w g T ds) (i : Nat) : w.frozen? ⟨g, i, none⟩ = false := blk_frozen h i
theorem ArK.set (h : ArK k w g T ds) (i : Nat) (x : Int) : ArK k (w.setCell ⟨g, i, none⟩ (.int k x)) g T (ds.set i x) := by
  have := blk_set h i (.int k x)
  unfold ArK Blk
  rw [this]
  simp [kis, List.map_set]
theorem ArK.keep (h : ArK k w g T ds) {S : Nat → Prop} (hk : Kp S w w') (hs : ¬ S g) : ArK k w' g T ds := blk_keep hk h hs
theorem ArK.kp0 (h : ArK k w g T ds) (hk : Kp0 w w') : ArK k w' g T ds := h.keep hk (fun h => h)
theorem ArK.other (h : ArK k w g T ds) {b i : Nat} (hb : b ≠ g) (v : Value) : ArK k (w.setCell ⟨b, i, none⟩ v) g T ds :=
  h.keep ((Kp.refl (fun c => c = b) w).setCell (fun _ => rfl) _) (fun e => hb e.symm)
theorem ArK.drew (h : ArK k w g T ds) : ArK k w.drew g T ds := h
theorem ark0 (w : World) (T : TypeId) (ds : List Int) : ArK k (w.alloc (.cells (kis k ds).toArray T)) w.heap.size T ds := heap_alloc_new w _
theorem ark1 (w : World) (o : Obj) (T : TypeId) (ds : List Int) : ArK k ((w.alloc o).alloc (.cells (kis k ds).toArray T)) (w.heap.size + 1) T ds := by
  have := ark0 (k := k) (w.alloc o) T ds
  rwa [show (w.alloc o).heap.size = w.heap.size + 1 from by simp] at this
theorem ark2 (w : World) (o o2 : Obj) (T : TypeId) (ds : List Int) : ArK k (((w.alloc o).alloc o2).alloc (.cells (kis k ds).toArray T)) (w.heap.size + 1 + 1) T ds := by
  have := ark0 (k := k) ((w.alloc o).alloc o2) T ds
  rwa [show ((w.alloc o).alloc o2).heap.size = w.heap.size + 1 + 1 from by simp] at this
theorem ark3 (w : World) (o o2 o3 : Obj) (T : TypeId) (ds : List Int) : ArK k ((((w.alloc o).alloc o2).alloc o3).alloc (.cells (kis k ds).toArray T)) (w.heap.size + 1 + 1 + 1) T ds := by
  have := ark0 (k := k) (((w.alloc o).alloc o2).alloc o3) T ds
  rwa [show (((w.alloc o).alloc o2).alloc o3).heap.size = w.heap.size + 1 + 1 + 1 from by simp] at this
end
theorem Kp.at {w wr : World} (h : Kp0 w wr) {b i : Nat} (hb : w.heap.size ≤ b) (v : Value) : Kp0 w (wr.setCell ⟨b, i, none⟩ v) :=
  h.setCell (p := ⟨b, i, none⟩) (fun hlt => absurd hlt (by simp; omega)) _
/-- The first n of m, the others of l. -/
def upTo (n : Nat) (l m : List Int) : List Int := m.take n ++ l.drop n
theorem upTo_step {l m : List Int} {n : Nat} (h : l.length = m.length) (hn : n < l.length) : (upTo n l m)[n]? = some (l[n]'hn) ∧ (upTo n l m).set n (m[n]'(h ▸ hn)) = upTo (n + 1) l m := by
  have h1 : (m.take n).length = n := by rw [List.length_take]; omega
  constructor
  · rw [upTo, List.getElem?_append_right (by omega), h1, Nat.sub_self, List.drop_eq_getElem_cons hn]
    rfl
  · rw [upTo, List.set_append_right _ _ (by omega), h1, Nat.sub_self, List.drop_eq_getElem_cons hn, List.set_cons_zero, upTo, List.take_succ_eq_append_getElem (by omega), List.append_assoc, List.singleton_append]
theorem upTo_zero (l m : List Int) : upTo 0 l m = l := by simp [upTo]
theorem upTo_all {l m : List Int} {n : Nat} (h : l.length ≤ n) (h2 : m.length ≤ n) : upTo n l m = m := by
  rw [upTo, List.take_of_length_le h2, List.drop_eq_nil_of_le h, List.append_nil]
theorem upTo_len {l m : List Int} {n : Nat} (h : l.length = m.length) (hn : n ≤ l.length) : (upTo n l m).length = l.length := by
  simp [upTo]
  omega
/-- A block's cells, returned. -/
theorem ret_blk {P : Program} {fn : Func} {R : Ending → World → Prop} {a : Act} {w : World} (t : Tmp) (T U : TypeId) (g : Nat) (cs : List Value) (d : TypeDesc) (hr : fn.results = #[.cell t T]) (hx : a.tmps.getD t undef = .pointer (some ⟨g, 0, none⟩))
    (hA : Blk w g U cs) (hu : P.underlying T = some d) (hd : d.isRow = true) (hi : (P.info? T).map (·.size) = some cs.length) (hdf : a.defers = []) (hR : R (.returned (.agg cs.toArray)) w) : bodyPost P fn R .ret a w := by
  refine ⟨hdf, _, ?_, hR⟩
  have := run_loadVar_mid (P := P) w g 0 T cs d hA.range hu hd hi
  rw [Array.getD_eq_getD_getElem?] at hx
  simp [results, hr, hx, asAddr, this]
end Go.Proofs.Ytbifdckmkogbgaa
