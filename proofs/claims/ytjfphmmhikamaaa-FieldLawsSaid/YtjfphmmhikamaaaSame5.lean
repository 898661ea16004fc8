/- Package field: elements are numbers; the same ones; odd ones; sums and products. -/
import Derived.Test.YtjfphmmhikamaaaLeast5
import Derived.Test.YtjfphmmhikamaaaFld
namespace Go.Proofs.Ytjfphmmhikamaaa
open Go Go.RowKit
/-- Cells that tell a number. -/
def El (cs : List Value) (n : Nat) : Prop := ∃ l : List Int, F5.Ok l ∧ cs = kis .u64 l ∧ F5.val l % 57896044618658097711785492504343953926634992332820282019728792003956564819949 = (n : Int)
theorem fe_mk {l : List Int} {n : Nat} (h : F5.Ok l) (hv : F5.val l % 57896044618658097711785492504343953926634992332820282019728792003956564819949 = (n : Int)) : Fe El (kis .u64 l) n :=
  ⟨⟨l, h, rfl, hv⟩, by omega, infoE l h.1, kis_ones _ _⟩
theorem fe_inv {cs : List Value} {n : Nat} (h : Fe El cs n) : ∃ l : List Int, F5.Ok l ∧ cs = kis .u64 l ∧ F5.val l % 57896044618658097711785492504343953926634992332820282019728792003956564819949 = (n : Int) := h.1
theorem least_num {l : List Int} {n : Nat} (h : F5.Ok l) (hv : F5.val l % 57896044618658097711785492504343953926634992332820282019728792003956564819949 = (n : Int)) : F5.least l = F5.digs 5 (n : Int) := by rw [F5.least_eq l h, hv]
theorem least_fe (l : List Int) (n : Nat) (w : World) (h : F5.Ok l) (hv : F5.val l % 57896044618658097711785492504343953926634992332820282019728792003956564819949 = (n : Int)) :
    Calls Try.prog 55 #[.agg (kis .u64 l).toArray] w fun x w' => x = .returned (.agg (kis .u64 (F5.digs 5 (n : Int))).toArray) ∧ Kp0 w w' := by
  rw [← least_num h hv]
  exact least_any l w h
theorem digs5_beq (m n : Nat) (hm : m < 57896044618658097711785492504343953926634992332820282019728792003956564819949) (hn : n < 57896044618658097711785492504343953926634992332820282019728792003956564819949) : (F5.digs 5 (m : Int) == F5.digs 5 (n : Int)) = decide (m = n) := by
  rw [Bool.eq_iff_iff, beq_iff_eq, decide_eq_true_iff]
  constructor
  · intro h
    have := congrArg F5.val h
    rw [F5.val_digs5 _ (by omega) (by omega), F5.val_digs5 _ (by omega) (by omega)] at this
    omega
  · rintro rfl
    rfl
theorem part_elem (l : List Int) (h : l.length = 5) (w : World) : (part 43 (kis .u64 l).toArray 0).run Try.prog w = .ok (.agg (kis .u64 l).toArray) w := by
  obtain ⟨a, b, c, d, e, rfl⟩ := F5.five l h
  kernel_rfl
theorem elem_fields : ∃ s, (Try.prog.fieldsOf 45).toList = [s] ∧ s.name ≠ "_" ∧ s.type = 43 ∧ s.offset = 0 := by
  have h : (Try.prog.fieldsOf 45).toList.map (fun f => (f.name, f.type, f.offset)) = [("parts", 43, 0)] := by kernel_rfl
  cases hs : (Try.prog.fieldsOf 45).toList with
  | nil => rw [hs] at h; simp at h
  | cons s t =>
    rw [hs] at h
    cases t with
    | nil =>
      simp only [List.map_cons, List.map_nil, List.cons.injEq, Prod.mk.injEq, and_true] at h
      exact ⟨s, rfl, by rw [h.1]; decide, h.2.1, h.2.2⟩
    | cons u t => simp at h
theorem run_equal_elem (w : World) (us vs : List Int) (ha : us.length = 5) (hb : vs.length = 5) :
    (Op.equal 45 (.agg (kis .u64 us).toArray) (.agg (kis .u64 vs).toArray)).run Try.prog w = .ok (us == vs) w := by
  obtain ⟨s, hs, h1, h2, h3⟩ := elem_fields
  have hc : (Try.prog.info? 42).map (·.size) = some 1 := by kernel_rfl
  cases hi : Try.prog.info? 42 with
  | none => simp [hi] at hc
  | some i =>
    have hcs : Try.prog.cellsOf 42 = 1 := by simp [Program.cellsOf, hi] at hc ⊢; exact hc
    unfold Op.equal
    rw [show Op.maxDepth = 9997 + 1 + 1 + 1 from rfl, run_equalIn_struct w _ _ _ _ (by kernel_rfl) (by kernel_rfl), hs]
    simp only [Op.eqFields, Sem.run_bind, h1, h2, h3, ne_eq, not_false_eq_true, if_true, part_elem us ha, part_elem vs hb, Result.andThen_ok]
    rw [run_equalIn_array (n := 5) (e := 42) w _ _ _ (by kernel_rfl) hi, hcs]
    rw [show kis .u64 us = us.map (Value.int .u64) from rfl, show kis .u64 vs = vs.map (Value.int .u64) from rfl, run_eqItems_ints w _ (by kernel_rfl) us vs (List.range 5) (fun j hj => by rw [List.mem_range] at hj; omega)]
    have := all_eq us vs (by omega)
    rw [ha] at this
    rw [this]
    cases hq : us == vs <;> simp
theorem run_op_elem {op : Oper} {a : Act} (w : World) (x y : Operand) {u : TypeId} (ho : op.op = .binOp .eql 45 x y u) (us vs : List Int) (hx : a.eval x = .agg (kis .u64 us).toArray) (hy : a.eval y = .agg (kis .u64 vs).toArray)
    (ha : us.length = 5) (hb : vs.length = 5) : (execOp a.eval op).run Try.prog w = .ok (.value (.bool (us == vs))) w := by
  have hg : Try.prog.eqGuardType Try.prog.depth 45 = false := by kernel_rfl
  unfold execOp
  simp only [ho, hx, hy]
  simp [eqGuard, binOp, hg, run_equal_elem w us vs ha hb]
def SamR (w : World) (l f : List Int) (wr : World) : Prop := ArK .u64 wr w.heap.size 45 l ∧ ArK .u64 wr (w.heap.size + 1) 45 f ∧ Kp0 w wr
theorem SamR.start (w : World) (l f : List Int) : SamR w l f ((w.alloc (.cells (kis .u64 l).toArray 45)).alloc (.cells (kis .u64 f).toArray 45)) :=
  ⟨(ark0 w _ l).kp0 ((Kp.refl _ _).alloc _), ark1 w _ _ f, ((Kp.refl _ w).alloc _).alloc _⟩
theorem SamR.kp0 {w wr wx : World} {l f : List Int} (h : SamR w l f wr) (hk : Kp0 wr wx) : SamR w l f wx := ⟨h.1.kp0 hk, h.2.1.kp0 hk, h.2.2.tr hk⟩
theorem SamR.drew {w wr : World} {l f : List Int} (h : SamR w l f wr) : SamR w l f wr.drew := ⟨h.1, h.2.1, h.2.2.drew⟩
theorem dlen (n : Int) : (F5.digs 5 n).length = 5 := F5.digs_len 5 n
set_option maxRecDepth 20000 in
set_option maxHeartbeats 4000000 in
theorem same5_any (cs ds : List Value) (m n : Nat) (w : World) (h1 : Fe El cs m) (h2 : Fe El ds n) :
    Calls Try.prog 29 #[.agg cs.toArray, .agg ds.toArray] w fun e w' => e = .returned (.bool (decide (m = n))) ∧ Kp0 w w' := by
  obtain ⟨l, hl, rfl, hlv⟩ := fe_inv h1
  obtain ⟨f, hf, rfl, hfv⟩ := fe_inv h2
  have HB := Lib.hid (digs5_beq m n h1.2.1 h2.2.1)
  have HL := Lib.hid hl
  have HF := Lib.hid hf
  have HLV := Lib.hid hlv
  have HFV := Lib.hid hfv
  clear hl hf hlv hfv h1 h2
  go_enter Try.func29, Try.ntmps29
  go_upto_region 1 with (fail)
  have HR0 := Lib.hid (SamR.start w l f)
  change Code.wp _ _ _ _ ((w.alloc (.cells (kis .u64 l).toArray 45)).alloc (.cells (kis .u64 f).toArray 45))
  generalize ((w.alloc (.cells (kis .u64 l).toArray 45)).alloc (.cells (kis .u64 f).toArray 45)) = w1 at HR0
  refine wp_region_wall [] (fun w' : World => SamR w l f w') (.quiet 0 (.quiet 2 (.eff 1 (.eff 3 (.quiet 4 (.quiet 5 .done)))))) (by kernel_rfl) (by kernel_rfl) (by kernel_rfl) (by kernel_rfl) (fun _ d _ _ _ h => by cases d <;> exact h) HR0.out.drew ?_
  refine pw_quiet (v := .agg (kis .u64 l).toArray) rfl (by rfl) (fun wq hwq => run_load_blk 45 (.tmp 2) rfl w.heap.size _ _ rfl hwq.1 _ Try.underlying45 rfl (infoE _ HL.out.1)) rfl ?_
  simp only [List.setIfInBounds_toArray, List.set_cons_zero, List.set_cons_succ]
  refine pw_quiet (v := .agg (kis .u64 f).toArray) rfl (by rfl) (fun wq hwq => run_load_blk 45 (.tmp 3) rfl (w.heap.size + 1) _ _ rfl hwq.2.1 _ Try.underlying45 rfl (infoE _ HF.out.1)) rfl ?_
  simp only [List.setIfInBounds_toArray, List.set_cons_zero, List.set_cons_succ]
  refine pw_eff rfl (by rfl) (fun K hK => ?_)
  go_simp
  refine (least_fe l m _ HL.out HLV.out).mono ?_
  rintro e x1 ⟨rfl, hk1⟩
  simp only []
  have HX := Lib.hid (HR0.out.drew.kp0 hk1)
  clear hk1
  refine hK (fun w' : World => SamR w l f w') _ _ (fun x h => h) HX.out ?_
  clear hK K
  refine pw_eff rfl (by rfl) (fun K hK => ?_)
  go_simp
  refine (least_fe f n _ HF.out HFV.out).mono ?_
  rintro e x2 ⟨rfl, hk2⟩
  simp only []
  have HY := Lib.hid (HX.out.kp0 hk2)
  clear hk2
  refine hK (fun w' : World => SamR w l f w') _ _ (fun x h => h) HY.out ?_
  clear hK K
  refine pw_quiet (v := .bool (F5.digs 5 (m : Int) == F5.digs 5 (n : Int))) rfl (by rfl) (fun wq _ => run_op_elem wq (.tmp 6) (.tmp 8) rfl (F5.digs 5 (m : Int)) (F5.digs 5 (n : Int)) rfl rfl (dlen _) (dlen _)) rfl ?_
  rw [HB.out]
  simp only [List.setIfInBounds_toArray, List.set_cons_zero, List.set_cons_succ]
  refine pw_quiet (v := .bool (decide (m = n))) rfl (by rfl) (fun wq hwq => by go_simp) rfl ?_
  refine pw_done ?_
  go_wp2
  go_ret
  exact ⟨rfl, HY.out.2.2⟩
end Go.Proofs.Ytjfphmmhikamaaa
