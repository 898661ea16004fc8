/- Two arrays of numbers, held against each other. -/
import Derived.Test.YtjfphmmhikamaaaRd3
import Derived.ChangeKeysEq
namespace Go.Proofs.Ytjfphmmhikamaaa
open Go Go.RowKit
theorem run_eqItems_ints {P : Program} (w : World) (d : Nat) {e : TypeId} {k : IntKind} (hu : P.underlying e = some (.int k)) (us vs : List Int) : ∀ (js : List Nat), (∀ j, j ∈ js → j < us.length ∧ j < vs.length) →
    (Op.eqItems (d + 1) e 1 (us.map (Value.int k)).toArray (vs.map (Value.int k)).toArray js).run P w = .ok (js.all (fun j => us.getD j 0 == vs.getD j 0)) w
  | [], _ => by simp [Op.eqItems]
  | j :: js, h => by
    have he : P.plainKey e = true := by unfold Program.plainKey; rw [hu]
    obtain ⟨h1, h2⟩ := h j (by simp)
    have p1 := run_part_plain w he (xs := (us.map (Value.int k)).toArray) (off := j * 1) (v := .int k us[j]) (by simp [h1])
    have p2 := run_part_plain w he (xs := (vs.map (Value.int k)).toArray) (off := j * 1) (v := .int k vs[j]) (by simp [h2])
    have p3 := run_equalIn_int (P := P) w d e k k us[j] vs[j] hu
    have ih := run_eqItems_ints w d hu us vs js (fun i hi => h i (by simp [hi]))
    have e1 : us.getD j 0 = us[j] := by rw [List.getD_eq_getElem?_getD, List.getElem?_eq_getElem h1]; rfl
    have e2 : vs.getD j 0 = vs[j] := by rw [List.getD_eq_getElem?_getD, List.getElem?_eq_getElem h2]; rfl
    simp only [Op.eqItems, Sem.run_bind, p1, p2, p3, Result.andThen_ok, List.all_cons, e1, e2]
    cases hb : us[j] == vs[j]
    · simp
    · simpa using ih
theorem all_eq (us vs : List Int) (h : us.length = vs.length) : (List.range us.length).all (fun j => us.getD j 0 == vs.getD j 0) = (us == vs) := by
  rw [Bool.eq_iff_iff, List.all_eq_true, beq_iff_eq]
  constructor
  · intro hj
    refine List.ext_getElem h fun i h1 h2 => ?_
    have := hj i (List.mem_range.2 h1)
    rw [beq_iff_eq, List.getD_eq_getElem?_getD, List.getD_eq_getElem?_getD, List.getElem?_eq_getElem h1, List.getElem?_eq_getElem h2] at this
    exact this
  · rintro rfl j _
    exact beq_self_eq_true _
theorem run_equal_ints {P : Program} (w : World) {t e : TypeId} {n : Nat} {k : IntKind} (ht : P.underlying t = some (.array n e)) (hu : P.underlying e = some (.int k)) (hc : (P.info? e).map (·.size) = some 1) (us vs : List Int) (ha : us.length = n) (hb : vs.length = n) :
    (Op.equal t (.agg (us.map (Value.int k)).toArray) (.agg (vs.map (Value.int k)).toArray)).run P w = .ok (us == vs) w := by
  cases hi : P.info? e with
  | none => simp [hi] at hc
  | some i =>
    have hcs : P.cellsOf e = 1 := by simp [Program.cellsOf, hi] at hc ⊢; exact hc
    unfold Op.equal
    rw [show Op.maxDepth = 9998 + 1 + 1 from rfl, run_equalIn_array w _ _ _ ht hi, hcs, run_eqItems_ints w _ hu us vs _ (fun j hj => by rw [List.mem_range] at hj; omega), ← ha, all_eq us vs (by omega)]
theorem run_op_eql {P : Program} {op : Oper} {a : Act} (w : World) {t e u : TypeId} {n : Nat} {k : IntKind} (x y : Operand) (ho : op.op = .binOp .eql t x y u) (us vs : List Int) (hx : a.eval x = .agg (us.map (Value.int k)).toArray) (hy : a.eval y = .agg (vs.map (Value.int k)).toArray)
    (ht : P.underlying t = some (.array n e)) (hu : P.underlying e = some (.int k)) (hc : (P.info? e).map (·.size) = some 1) (hg : P.eqGuardType P.depth t = false) (ha : us.length = n) (hb : vs.length = n) :
    (execOp a.eval op).run P w = .ok (.value (.bool (us == vs))) w := by
  unfold execOp
  simp only [ho, hx, hy]
  simp [eqGuard, binOp, hg, run_equal_ints w ht hu hc us vs ha hb]
theorem run_op_neq {P : Program} {op : Oper} {a : Act} (w : World) {t e u : TypeId} {n : Nat} {k : IntKind} (x y : Operand) (ho : op.op = .binOp .neq t x y u) (us vs : List Int) (hx : a.eval x = .agg (us.map (Value.int k)).toArray) (hy : a.eval y = .agg (vs.map (Value.int k)).toArray)
    (ht : P.underlying t = some (.array n e)) (hu : P.underlying e = some (.int k)) (hc : (P.info? e).map (·.size) = some 1) (hg : P.eqGuardType P.depth t = false) (ha : us.length = n) (hb : vs.length = n) :
    (execOp a.eval op).run P w = .ok (.value (.bool (!(us == vs)))) w := by
  unfold execOp
  simp only [ho, hx, hy]
  simp [eqGuard, binOp, hg, run_equal_ints w ht hu hc us vs ha hb]
theorem digs_beq (m n : Nat) (hm : m < 57896044618658097711785492504343953926634992332820282019728792003956564819949) (hn : n < 57896044618658097711785492504343953926634992332820282019728792003956564819949) : (F3.digs 16 (m : Int) == F3.digs 16 (n : Int)) = decide (m = n) := by
  rw [Bool.eq_iff_iff, beq_iff_eq, decide_eq_true_iff]
  constructor
  · intro h
    have := congrArg F3.val h
    rw [num_val m hm, num_val n hn] at this
    omega
  · rintro rfl
    rfl
end Go.Proofs.Ytjfphmmhikamaaa
