/- Package field: the least way to tell a number. Package field: elements are numbers; the same ones; odd ones; sums and products. Package field: odd ones, small ones, sums and products. Package field: Pick. -/
import Derived.Test.YtcnehbfcagghpaaMulEm
import Derived.Test.YtcnehbfcagghpaaPw3
import Derived.Test.YtcnehbfcagghpaaFld
namespace Go.Proofs.Ytcnehbfcagghpaa
open Go Go.RowKit
namespace F5
theorem over_bound (l : List Int) (h : ∀ x, x ∈ l → 0 ≤ x ∧ x < 2251799813947392) (c : Int) (hc : 0 ≤ c ∧ c ≤ 19) : 0 ≤ over l c ∧ over l c ≤ 19 := by
  induction l generalizing c with
  | nil => exact hc
  | cons d t ih =>
    have := h d (by simp)
    exact ih (fun x hx => h x (by simp [hx])) _ (by omega)
theorem carry_b (l : List Int) (h : ∀ x, x ∈ l → 0 ≤ x ∧ x < 2251799813947392) (c : Int) (hc : 0 ≤ c ∧ c ≤ 361) : 0 ≤ (carry l c).2 ∧ (carry l c).2 ≤ 361 := by
  induction l generalizing c with
  | nil => exact hc
  | cons d t ih =>
    have := h d (by simp)
    exact ih (fun x hx => h x (by simp [hx])) _ (by omega)
theorem over_step {l : List Int} (h : Ok l) {n : Nat} (hn : n < 5) : ∃ x c, l[n]? = some x ∧ c = over (l.take n) 19 ∧ (0 ≤ x ∧ x < 2251799813947392) ∧ (0 ≤ c ∧ c ≤ 19) ∧ (x + c) / 2251799813685248 = over (l.take (n + 1)) 19 := by
  have h1 : n < l.length := by rw [h.1]; exact hn
  refine ⟨_, _, List.getElem?_eq_getElem h1, rfl, h.2 _ (List.getElem_mem _), over_bound _ (fun x hx => h.2 x (List.mem_of_mem_take hx)) 19 (by omega), ?_⟩
  rw [List.take_succ_eq_append_getElem h1, over_append]
theorem carry_step {l : List Int} (h : Ok l) {c0 : Int} (hc0 : 0 ≤ c0 ∧ c0 ≤ 361) {n : Nat} (hn : n < 5) : ∃ x c, ((carry (l.take n) c0).1 ++ l.drop n)[n]? = some x ∧ c = (carry (l.take n) c0).2 ∧ (0 ≤ x ∧ x < 2251799813947392) ∧ (0 ≤ c ∧ c ≤ 361) ∧ (c + x) / 2251799813685248 = (carry (l.take (n + 1)) c0).2 ∧ ((carry (l.take n) c0).1 ++ l.drop n).set n ((c + x) % 2251799813685248) = (carry (l.take (n + 1)) c0).1 ++ l.drop (n + 1) := by
  have h1 : n < l.length := by rw [h.1]; exact hn
  have h2 : (carry (l.take n) c0).1.length = n := by rw [carry_len, List.length_take]; omega
  refine ⟨l[n], _, ?_, rfl, h.2 _ (List.getElem_mem _), carry_b _ (fun x hx => h.2 x (List.mem_of_mem_take hx)) c0 hc0, ?_, ?_⟩
  · rw [List.getElem?_append_right (by omega), h2, Nat.sub_self, List.drop_eq_getElem_cons h1]
    rfl
  · rw [List.take_succ_eq_append_getElem h1, carry_append, Int.add_comm]
  · rw [List.take_succ_eq_append_getElem h1, carry_append, List.set_append_right _ _ (by omega), h2, Nat.sub_self, List.drop_eq_getElem_cons h1, List.set_cons_zero, Int.add_comm, List.append_assoc, List.singleton_append]
end F5
def LeaR (w : World) (l : List Int) (wr : World) : Prop := ArK .u64 wr w.heap.size 40 l ∧ ArK .u64 wr (w.heap.size + 1) 40 z5 ∧ Kp0 w wr
theorem LeaR.start (w : World) (l : List Int) : LeaR w l ((w.alloc (.cells (kis .u64 l).toArray 40)).alloc (.cells (kis .u64 z5).toArray 40)) :=
  ⟨(ark0 w _ l).kp0 ((Kp.refl _ _).alloc _), ark1 w _ _ z5, ((Kp.refl _ w).alloc _).alloc _⟩
theorem LeaR.set {w wr : World} {l : List Int} (h : LeaR w l wr) (i : Nat) (x : Int) : LeaR w (l.set i x) (wr.setCell ⟨w.heap.size, i, none⟩ (.int .u64 x)) := by
  obtain ⟨h1, h2, h3⟩ := h
  exact ⟨h1.set i x, h2.other (by omega) _, h3.at (by omega) _⟩
set_option maxRecDepth 20000 in
set_option maxHeartbeats 4000000 in
theorem least_any (l : List Int) (w : World) (hl : F5.Ok l) :
    Calls Try.prog 33 #[.agg (kis .u64 l).toArray] w fun x w' => x = .returned (.agg (kis .u64 (F5.least l)).toArray) ∧ Kp0 w w' := by
  have HS : Hid (∀ n, n < 5 → _) := Lib.hid (fun n (hn : n < 5) => F5.over_step hl hn)
  obtain ⟨c0, hc0⟩ : ∃ c0, c0 = F5.over l 19 := ⟨_, rfl⟩
  have hb0 : 0 ≤ c0 ∧ c0 ≤ 19 := by rw [hc0]; exact F5.over_bound l hl.2 19 (by omega)
  have HS2 : Hid (∀ n, n < 5 → _) := Lib.hid (fun n (hn : n < 5) => F5.carry_step hl (c0 := c0 * 19) (by omega) hn)
  have HC0 := Lib.hid hc0
  have HL := Lib.hid hl
  clear hl hc0
  go_enter Try.func33, Try.ntmps33
  go_upto_region 1 with (fail)
  have HR0 := Lib.hid (LeaR.start w l)
  change Code.wp _ _ _ _ ((w.alloc (.cells (kis .u64 l).toArray 40)).alloc (.cells (kis .u64 z5).toArray 40))
  generalize ((w.alloc (.cells (kis .u64 l).toArray 40)).alloc (.cells (kis .u64 z5).toArray 40)) = w1 at HR0
  go_wp2
  go_loopg [3, 6] 5 (fun g c i wr => ∃ (n : Nat), c = .int .u64 (F5.over (l.take n) 19) ∧ i = .int .i64 n ∧ n ≤ 5 ∧ g = 5 - n ∧ wr = w1)
  case atStart => exact ⟨0, rfl, rfl, by omega, rfl, rfl⟩
  case round =>
    obtain ⟨n, rfl, rfl, hn, rfl, rfl⟩ := hrel
    by_cases h : n < 5
    · obtain ⟨x, c, h1, h2, hx, hc, h3⟩ := HS.out n h
      rw [← h2]
      have hc1 := HR0.out.1.cell' n h1
      have H3 := Lib.hid h3
      clear h1 h2 h3
      go_wp2
      go_roundg (5 - (n + 1))
      case measure => omega
      case rel => exact ⟨n + 1, by rw [H3.out], by go_num, by omega, rfl, rfl⟩
    · obtain rfl : n = 5 := by omega
      rw [show F5.over (l.take 5) 19 = c0 by rw [HC0.out, List.take_of_length_le (by rw [HL.out.1]; omega)]]
      clear h HS
      go_wp2
      go_loopg [3, 19] 5 (fun g c i wx => ∃ (n : Nat), c = .int .u64 (F5.carry (l.take n) (c0 * 19)).2 ∧ i = .int .i64 n ∧ n ≤ 5 ∧ g = 5 - n ∧ LeaR w ((F5.carry (l.take n) (c0 * 19)).1 ++ l.drop n) wx)
      case atStart => exact ⟨0, rfl, rfl, by omega, rfl, HR0.out⟩
      case round =>
        obtain ⟨n, rfl, rfl, hn, rfl, hr⟩ := hrel
        have HR := Lib.hid hr
        clear hr
        by_cases h : n < 5
        · obtain ⟨x, c, h1, h2, hx, hc, h3, h4⟩ := HS2.out n h
          rw [← h2]
          have hc1 := HR.out.1.cell' n h1
          have hf1 := HR.out.1.frozen n
          have hm := F5.and51 (c + x) (by omega) (by omega)
          have H3 := Lib.hid h3
          have H4 := Lib.hid h4
          clear h1 h2 h3 h4
          go_wp2
          go_roundg (5 - (n + 1))
          case measure => omega
          case rel => exact ⟨n + 1, by rw [← H3.out], by go_num, by omega, rfl, H4.out ▸ HR.out.set n _⟩
        · obtain rfl : n = 5 := by omega
          have HE : Hid ((F5.carry (l.take 5) (c0 * 19)).1 ++ l.drop 5 = F5.least l) := Lib.hid (by rw [F5.least, ← HC0.out, List.take_of_length_le (by rw [HL.out.1]; omega), List.drop_eq_nil_of_le (by rw [HL.out.1]; omega), List.append_nil])
          have HLL : Hid ((F5.least l).length = 5) := Lib.hid (by rw [F5.least, F5.carry_len, HL.out.1])
          rw [HE.out] at HR
          generalize (F5.carry (l.take 5) (c0 * 19)).2 = cz
          go_wp2_with (first
            | (refine wl_load_blk rfl 40 (.tmp 1) rfl w.heap.size _ _ rfl HR.out.1 _ Try.underlying40 rfl (infoE _ HLL.out) ?_)
            | (refine wl_store_blk rfl 40 (.tmp 2) (.tmp 36) rfl (w.heap.size + 1) _ _ (kis .u64 (F5.least l)) rfl rfl HR.out.2.1 (infoE _ HLL.out) (by rw [kis_len, kis_len, HLL.out]; rfl) (kis_ones _ _) ?_
               intro w7 hA7 hK7
               have HA7 := Lib.hid hA7
               have HK7 := Lib.hid hK7
               clear hA7 hK7))
          refine ret_blk 2 40 40 (w.heap.size + 1) (kis .u64 (F5.least l)) _ rfl rfl HA7.out Try.underlying40 rfl (infoE _ HLL.out) rfl ?_
          exact ⟨rfl, HR.out.2.2.trans HK7.out (fun _ _ h => h) (fun i hi e => by omega)⟩
end Go.Proofs.Ytcnehbfcagghpaa
namespace Go.Proofs.Ytcnehbfcagghpaa
open Go Go.RowKit
/-- Cells that tell a number. -/
def El (cs : List Value) (n : Nat) : Prop := ∃ l : List Int, F5.Ok l ∧ cs = kis .u64 l ∧ F5.val l % 57896044618658097711785492504343953926634992332820282019728792003956564819949 = (n : Int)
theorem fe_mk {l : List Int} {n : Nat} (h : F5.Ok l) (hv : F5.val l % 57896044618658097711785492504343953926634992332820282019728792003956564819949 = (n : Int)) : Fe El (kis .u64 l) n :=
  ⟨⟨l, h, rfl, hv⟩, by omega, infoE l h.1, kis_ones _ _⟩
theorem fe_inv {cs : List Value} {n : Nat} (h : Fe El cs n) : ∃ l : List Int, F5.Ok l ∧ cs = kis .u64 l ∧ F5.val l % 57896044618658097711785492504343953926634992332820282019728792003956564819949 = (n : Int) := h.1
theorem least_num {l : List Int} {n : Nat} (h : F5.Ok l) (hv : F5.val l % 57896044618658097711785492504343953926634992332820282019728792003956564819949 = (n : Int)) : F5.least l = F5.digs 5 (n : Int) := by rw [F5.least_eq l h, hv]
theorem least_fe (l : List Int) (n : Nat) (w : World) (h : F5.Ok l) (hv : F5.val l % 57896044618658097711785492504343953926634992332820282019728792003956564819949 = (n : Int)) :
    Calls Try.prog 33 #[.agg (kis .u64 l).toArray] w fun x w' => x = .returned (.agg (kis .u64 (F5.digs 5 (n : Int))).toArray) ∧ Kp0 w w' := by
  rw [← least_num h hv]
  exact least_any l w h
theorem digs5_beq (m n : Nat) (hm : m < 57896044618658097711785492504343953926634992332820282019728792003956564819949) (hn : n < 57896044618658097711785492504343953926634992332820282019728792003956564819949) : (F5.digs 5 (m : Int) == F5.digs 5 (n : Int)) = decide (m = n) := by
  rw [Bool.eq_iff_iff, beq_iff_eq, decide_eq_true_iff]
  constructor
  · intro h
    have := congrArg F5.val h
    rw [F5.val_digs5 _ (by omega) (by omega), F5.val_digs5 _ (by omega) (by omega)] at this
    omega
  · rintro rfl
    rfl
theorem part_elem (l : List Int) (h : l.length = 5) (w : World) : (part 38 (kis .u64 l).toArray 0).run Try.prog w = .ok (.agg (kis .u64 l).toArray) w := by
  obtain ⟨a, b, c, d, e, rfl⟩ := F5.five l h
  kernel_rfl
theorem elem_fields : ∃ s, (Try.prog.fieldsOf 40).toList = [s] ∧ s.name ≠ "_" ∧ s.type = 38 ∧ s.offset = 0 := by
  have h : (Try.prog.fieldsOf 40).toList.map (fun f => (f.name, f.type, f.offset)) = [("parts", 38, 0)] := by kernel_rfl
  cases hs : (Try.prog.fieldsOf 40).toList with
  | nil => rw [hs] at h; simp at h
  | cons s t =>
    rw [hs] at h
    cases t with
    | nil =>
      simp only [List.map_cons, List.map_nil, List.cons.injEq, Prod.mk.injEq, and_true] at h
      exact ⟨s, rfl, by rw [h.1]; decide, h.2.1, h.2.2⟩
    | cons u t => simp at h
theorem run_equal_elem (w : World) (us vs : List Int) (ha : us.length = 5) (hb : vs.length = 5) :
    (Op.equal 40 (.agg (kis .u64 us).toArray) (.agg (kis .u64 vs).toArray)).run Try.prog w = .ok (us == vs) w := by
  obtain ⟨s, hs, h1, h2, h3⟩ := elem_fields
  have hc : (Try.prog.info? 37).map (·.size) = some 1 := by kernel_rfl
  cases hi : Try.prog.info? 37 with
  | none => simp [hi] at hc
  | some i =>
    have hcs : Try.prog.cellsOf 37 = 1 := by simp [Program.cellsOf, hi] at hc ⊢; exact hc
    unfold Op.equal
    rw [show Op.maxDepth = 9997 + 1 + 1 + 1 from rfl, run_equalIn_struct w _ _ _ _ (by kernel_rfl) (by kernel_rfl), hs]
    simp only [Op.eqFields, Sem.run_bind, h1, h2, h3, ne_eq, not_false_eq_true, if_true, part_elem us ha, part_elem vs hb, Result.andThen_ok]
    rw [run_equalIn_array (n := 5) (e := 37) w _ _ _ (by kernel_rfl) hi, hcs]
    rw [show kis .u64 us = us.map (Value.int .u64) from rfl, show kis .u64 vs = vs.map (Value.int .u64) from rfl, run_eqItems_ints w _ (by kernel_rfl) us vs (List.range 5) (fun j hj => by rw [List.mem_range] at hj; omega)]
    have := all_eq us vs (by omega)
    rw [ha] at this
    rw [this]
    cases hq : us == vs <;> simp
theorem run_op_elem {op : Oper} {a : Act} (w : World) (x y : Operand) {u : TypeId} (ho : op.op = .binOp .eql 40 x y u) (us vs : List Int) (hx : a.eval x = .agg (kis .u64 us).toArray) (hy : a.eval y = .agg (kis .u64 vs).toArray)
    (ha : us.length = 5) (hb : vs.length = 5) : (execOp a.eval op).run Try.prog w = .ok (.value (.bool (us == vs))) w := by
  have hg : Try.prog.eqGuardType Try.prog.depth 40 = false := by kernel_rfl
  unfold execOp
  simp only [ho, hx, hy]
  simp [eqGuard, binOp, hg, run_equal_elem w us vs ha hb]
def SamR (w : World) (l f : List Int) (wr : World) : Prop := ArK .u64 wr w.heap.size 40 l ∧ ArK .u64 wr (w.heap.size + 1) 40 f ∧ Kp0 w wr
theorem SamR.start (w : World) (l f : List Int) : SamR w l f ((w.alloc (.cells (kis .u64 l).toArray 40)).alloc (.cells (kis .u64 f).toArray 40)) :=
  ⟨(ark0 w _ l).kp0 ((Kp.refl _ _).alloc _), ark1 w _ _ f, ((Kp.refl _ w).alloc _).alloc _⟩
theorem SamR.kp0 {w wr wx : World} {l f : List Int} (h : SamR w l f wr) (hk : Kp0 wr wx) : SamR w l f wx := ⟨h.1.kp0 hk, h.2.1.kp0 hk, h.2.2.tr hk⟩
theorem SamR.drew {w wr : World} {l f : List Int} (h : SamR w l f wr) : SamR w l f wr.drew := ⟨h.1, h.2.1, h.2.2.drew⟩
theorem dlen (n : Int) : (F5.digs 5 n).length = 5 := F5.digs_len 5 n
end Go.Proofs.Ytcnehbfcagghpaa
namespace Go.Proofs.Ytcnehbfcagghpaa
open Go Go.RowKit
theorem and1 (x : Int) (h0 : 0 ≤ x) (h : x < 18446744073709551616) : bits .and .u64 x 1 = x % 2 := by
  have := bits_mask .u64 64 (by decide) (fun n h0 h1 => by simp [IntKind.wrap, IntKind.bits, IntKind.signed] at h1 ⊢; omega) 1 (by decide) x h0 (by omega)
  simpa using this
theorem parts_of (a b c d e : Int) (w : World) : (Instr.field 40 (.agg #[.int .u64 a, .int .u64 b, .int .u64 c, .int .u64 d, .int .u64 e]) 0).run Try.prog w = .ok (.agg #[.int .u64 a, .int .u64 b, .int .u64 c, .int .u64 d, .int .u64 e]) w := by kernel_rfl
theorem part0_of (a b c d e : Int) (w : World) : (Instr.index 38 (.agg #[.int .u64 a, .int .u64 b, .int .u64 c, .int .u64 d, .int .u64 e]) (.int .i64 0)).run Try.prog w = .ok (.int .u64 a) w := by kernel_rfl
theorem small_ok (n : Nat) (h : n < 4294967296) : F5.Ok [(n : Int), 0, 0, 0, 0] ∧ F5.val [(n : Int), 0, 0, 0, 0] % 57896044618658097711785492504343953926634992332820282019728792003956564819949 = (n : Int) := by
  refine ⟨⟨rfl, fun x hx => ?_⟩, ?_⟩
  · simp only [List.mem_cons, List.not_mem_nil, or_false] at hx
    omega
  · simp only [F5.val]
    omega
set_option maxRecDepth 20000 in
set_option maxHeartbeats 4000000 in
theorem small5_any (n : Nat) (w : World) (h : n < 4294967296) :
    Calls Try.prog 27 #[.int .u32 n] w fun e w' => e = .returned (.agg (kis .u64 [(n : Int), 0, 0, 0, 0]).toArray) ∧ Kp0 w w' := by
  go_enter Try.func27, Try.ntmps27
  go_upto_region 1 with (fail)
  have HR0 := Lib.hid (ark0 (k := .u64) w 40 z5)
  have HK0 := Lib.hid ((Kp.refl (fun _ => False) w).alloc (.cells (kis .u64 z5).toArray 40))
  change Code.wp _ _ _ _ (w.alloc (.cells (kis .u64 z5).toArray 40))
  generalize (w.alloc (.cells (kis .u64 z5).toArray 40)) = w1 at HR0 HK0
  go_wp2_with (
    (refine wl_store_blk rfl 40 (.tmp 2) (.tmp 6) rfl w.heap.size _ _ (kis .u64 [(n : Int), 0, 0, 0, 0]) rfl rfl HR0.out (infoE _ rfl) rfl (kis_ones _ _) ?_
     intro w7 hA7 hK7
     have HA7 := Lib.hid hA7
     have HK7 := Lib.hid hK7
     clear hA7 hK7))
  refine ret_blk 2 40 40 w.heap.size (kis .u64 [(n : Int), 0, 0, 0, 0]) _ rfl rfl HA7.out Try.underlying40 rfl (infoE _ rfl) rfl ?_
  exact ⟨rfl, HK0.out.trans HK7.out (fun _ _ h => h) (fun i hi e => by omega)⟩
theorem small_fe (n : Nat) (w : World) (h : n < 4294967296) : Calls Try.prog 27 #[.int .u32 n] w fun e w' => ∃ cs, e = .returned (.agg cs.toArray) ∧ Fe El cs n ∧ Kp0 w w' :=
  (small5_any n w h).mono fun _ _ ⟨h1, h2⟩ => ⟨_, h1, fe_mk (small_ok n h).1 (small_ok n h).2, h2⟩
theorem add_fe (cs ds : List Value) (m n : Nat) (w : World) (h1 : Fe El cs m) (h2 : Fe El ds n) : Calls Try.prog 40 #[.agg cs.toArray, .agg ds.toArray] w fun e w' => ∃ es, e = .returned (.agg es.toArray) ∧ Fe El es ((m + n) % 57896044618658097711785492504343953926634992332820282019728792003956564819949) ∧ Kp0 w w' := by
  obtain ⟨l, hl, rfl, hlv⟩ := fe_inv h1
  obtain ⟨f, hf, rfl, hfv⟩ := fe_inv h2
  refine (add5_any l f w hl hf).mono fun _ _ ⟨h3, h4⟩ => ⟨_, h3, fe_mk (F5.carried_ok _ (sum5_ok hl hf).1 (sum5_ok hl hf).2.1) ?_, h4⟩
  rw [F5.carried_val _ (sum5_ok hl hf).1, (sum5_ok hl hf).2.2]
  omega
theorem sub_fe (cs ds : List Value) (m n : Nat) (w : World) (h1 : Fe El cs m) (h2 : Fe El ds n) : Calls Try.prog 41 #[.agg cs.toArray, .agg ds.toArray] w fun e w' => ∃ es, e = .returned (.agg es.toArray) ∧ Fe El es ((m + 57896044618658097711785492504343953926634992332820282019728792003956564819949 - n) % 57896044618658097711785492504343953926634992332820282019728792003956564819949) ∧ Kp0 w w' := by
  have hn := h2.2.1
  obtain ⟨l, hl, rfl, hlv⟩ := fe_inv h1
  obtain ⟨f, hf, rfl, hfv⟩ := fe_inv h2
  refine (sub5_any l f w hl hf).mono fun _ _ ⟨h3, h4⟩ => ⟨_, h3, fe_mk (F5.carried_ok _ (diff5_ok hl hf).1 (diff5_ok hl hf).2.1) ?_, h4⟩
  rw [F5.carried_val _ (diff5_ok hl hf).1, (diff5_ok hl hf).2.2]
  omega
theorem mul_fe (cs ds : List Value) (m n : Nat) (w : World) (h1 : Fe El cs m) (h2 : Fe El ds n) : Calls Try.prog 31 #[.agg cs.toArray, .agg ds.toArray] w fun e w' => ∃ es, e = .returned (.agg es.toArray) ∧ Fe El es (m * n % 57896044618658097711785492504343953926634992332820282019728792003956564819949) ∧ Kp0 w w' := by
  obtain ⟨l, hl, rfl, hlv⟩ := fe_inv h1
  obtain ⟨f, hf, rfl, hfv⟩ := fe_inv h2
  refine (mul5_any l f w hl hf).mono fun _ _ ⟨⟨k, hk, hkv, h3⟩, h4⟩ => ⟨_, h3, fe_mk hk ?_, h4⟩
  rw [hkv, Int.mul_emod, hlv, hfv]
  simp
end Go.Proofs.Ytcnehbfcagghpaa
namespace Go.Proofs.Ytcnehbfcagghpaa
open Go Go.RowKit
def AddR' (w : World) (e f : List Int) (wr : World) : Prop := ArK .u64 wr w.heap.size 40 e ∧ ArK .u64 wr (w.heap.size + 1) 40 f ∧ ArK .u64 wr (w.heap.size + 1 + 1) 40 z5 ∧ Kp0 w wr
theorem AddR.swap {w wr : World} {e f : List Int} (h : AddR w e f wr) : AddR' w e f wr := h
theorem AddR'.set {w wr : World} {e f : List Int} (h : AddR' w e f wr) (i : Nat) (x : Int) : AddR' w e (f.set i x) (wr.setCell ⟨w.heap.size + 1, i, none⟩ (.int .u64 x)) := by
  obtain ⟨h1, h2, h3, h4⟩ := h
  exact ⟨h1.other (by omega) _, h2.set i x, h3.other (by omega) _, h4.at (by omega) _⟩
theorem AddR'.drew {w wr : World} {e f : List Int} (h : AddR' w e f wr) : AddR' w e f wr.drew := ⟨h.1, h.2.1, h.2.2.1, h.2.2.2.drew⟩
theorem xor_facts (b : Bool) (x y : Int) (hx : 0 ≤ x ∧ x < 18446744073709551616) (hy : 0 ≤ y ∧ y < 18446744073709551616) :
    ∃ q q' : Int, bits .xor .u64 x y = q ∧ bits .and .u64 (if b then 18446744073709551615 else 0) q = q' ∧ bits .xor .u64 y q' = (if b then x else y) := by
  obtain ⟨m, rfl⟩ := Int.eq_ofNat_of_zero_le hx.1
  obtain ⟨n, rfl⟩ := Int.eq_ofNat_of_zero_le hy.1
  have hm : m < 18446744073709551616 := by omega
  have hn : n < 18446744073709551616 := by omega
  have hq : m ^^^ n < 18446744073709551616 := Nat.xor_lt_two_pow (n := 64) hm hn
  refine ⟨((m ^^^ n : Nat) : Int), _, bits_xor_u64_nat m n hm hn, rfl, ?_⟩
  cases b with
  | true =>
    simp only [if_true]
    have := bits_and_u64_nat 18446744073709551615 (m ^^^ n) (by omega) hq
    rw [show ((18446744073709551615 : Nat) : Int) = 18446744073709551615 from rfl] at this
    rw [this, Nat.and_comm, show (m ^^^ n) &&& 18446744073709551615 = m ^^^ n from Nat.and_two_pow_sub_one_of_lt_two_pow (n := 64) hq, bits_xor_u64_nat n _ hn hq, Nat.xor_comm m n, ← Nat.xor_assoc, Nat.xor_self, Nat.zero_xor]
  | false =>
    simp only [Bool.false_eq_true, if_false]
    have := bits_and_u64_nat 0 (m ^^^ n) (by omega) hq
    rw [show ((0 : Nat) : Int) = 0 from rfl, Nat.zero_and] at this
    rw [this, bits_xor_u64_nat n 0 hn (by omega), Nat.xor_zero]
theorem pick_step (b : Bool) {e f : List Int} (he : F5.Ok e) (hf : F5.Ok f) {n : Nat} (hn : n < 5) : ∃ x y q q' r : Int, e[n]? = some x ∧ (upTo n f (if b then e else f))[n]? = some y ∧ bits .xor .u64 x y = q ∧ bits .and .u64 (if b then 18446744073709551615 else 0) q = q' ∧ bits .xor .u64 y q' = r ∧ (upTo n f (if b then e else f)).set n r = upTo (n + 1) f (if b then e else f) := by
  have h1 : n < e.length := by rw [he.1]; exact hn
  have h2 : n < f.length := by rw [hf.1]; exact hn
  obtain ⟨e1, e2⟩ := upTo_step (l := f) (m := if b then e else f) (n := n) (by cases b <;> simp [he.1, hf.1]) h2
  have hx := he.2 _ (List.getElem_mem h1)
  have hy := hf.2 _ (List.getElem_mem h2)
  obtain ⟨q, q', g1, g2, g3⟩ := xor_facts b e[n] f[n] (by omega) (by omega)
  refine ⟨_, _, q, q', _, List.getElem?_eq_getElem h1, e1, g1, g2, g3, ?_⟩
  rw [← e2]
  cases b <;> rfl
set_option maxRecDepth 20000 in
set_option maxHeartbeats 4000000 in
theorem pick5_any (b : Bool) (e f : List Int) (w : World) (he : F5.Ok e) (hf : F5.Ok f) :
    Calls Try.prog 48 #[.bool b, .agg (kis .u64 e).toArray, .agg (kis .u64 f).toArray] w fun x w' => x = .returned (.agg (kis .u64 (if b then e else f)).toArray) ∧ Kp0 w w' := by
  have HS : Hid (∀ n, n < 5 → _) := Lib.hid (fun n (hn : n < 5) => pick_step b he hf hn)
  obtain ⟨r5, hr5⟩ : ∃ r, r = (if b then e else f) := ⟨_, rfl⟩
  rw [← hr5] at HS ⊢
  have HL : Hid (e.length = 5 ∧ f.length = 5 ∧ r5.length = 5) := Lib.hid ⟨he.1, hf.1, by rw [hr5]; cases b <;> simp [he.1, hf.1]⟩
  clear he hf hr5
  go_enter Try.func48, Try.ntmps48
  go_upto_region 1 with (fail)
  have HR0 := Lib.hid (AddR.start w e f)
  change Code.wp _ _ _ _ (((w.alloc (.cells (kis .u64 e).toArray 40)).alloc (.cells (kis .u64 f).toArray 40)).alloc (.cells (kis .u64 z5).toArray 40))
  generalize (((w.alloc (.cells (kis .u64 e).toArray 40)).alloc (.cells (kis .u64 f).toArray 40)).alloc (.cells (kis .u64 z5).toArray 40)) = w1 at HR0
  have go : ∀ M : Int, M = (if b then 18446744073709551615 else 0) → Hid (∀ n, n < 5 → ∃ x y q q' r : Int, e[n]? = some x ∧ (upTo n f r5)[n]? = some y ∧ bits .xor .u64 x y = q ∧ bits .and .u64 M q = q' ∧ bits .xor .u64 y q' = r ∧ (upTo n f r5).set n r = upTo (n + 1) f r5) := fun M hM => by subst hM; exact HS
  clear HS
  cases b
  case' false => have HS := go 0 rfl
  case' true => have HS := go 18446744073709551615 rfl
  all_goals
    clear go
    go_wp2
    go_loopg [10] 5 (fun g i wr => ∃ (n : Nat), i = .int .i64 n ∧ n ≤ 5 ∧ g = 5 - n ∧ AddR' w e (upTo n f r5) wr)
    case atStart => exact ⟨0, rfl, by omega, rfl, by rw [upTo_zero]; exact HR0.out.swap⟩
    case round =>
      obtain ⟨n, rfl, hn, rfl, hr⟩ := hrel
      have HR := Lib.hid hr
      clear hr
      by_cases h : n < 5
      · obtain ⟨x, y, q, q', r, h1, h2, h3, h4, h5, h6⟩ := HS.out n h
        have hc1 := HR.out.1.cell' n h1
        have hc2 := HR.out.2.1.cell' n h2
        have hf1 := HR.out.2.1.frozen n
        have H6 := Lib.hid h6
        clear h1 h2 h6
        go_upto_region 7 with (fail)
        go_region
        all_goals
          go_wp2
          go_roundg (5 - (n + 1))
          case measure => omega
          case rel => exact ⟨n + 1, by go_num, by omega, rfl, (H6.out ▸ HR.out.set n r).drew⟩
      · obtain rfl : n = 5 := by omega
        rw [upTo_all (by rw [HL.out.2.1]; omega) (by rw [HL.out.2.2]; omega)] at HR
        go_wp2_with (first
          | (refine wl_load_blk rfl 40 (.tmp 5) rfl (w.heap.size + 1) _ _ rfl HR.out.2.1 _ Try.underlying40 rfl (infoE _ HL.out.2.2) ?_)
          | (refine wl_store_blk rfl 40 (.tmp 6) (.tmp 32) rfl (w.heap.size + 1 + 1) _ _ (kis .u64 r5) rfl rfl HR.out.2.2.1 (infoE _ HL.out.2.2) (by rw [kis_len, kis_len, HL.out.2.2]; rfl) (kis_ones _ _) ?_
             intro w7 hA7 hK7
             have HA7 := Lib.hid hA7
             have HK7 := Lib.hid hK7
             clear hA7 hK7))
        refine ret_blk 6 40 40 (w.heap.size + 1 + 1) (kis .u64 r5) _ rfl rfl HA7.out Try.underlying40 rfl (infoE _ HL.out.2.2) rfl ?_
        exact ⟨rfl, HR.out.2.2.2.trans HK7.out (fun _ _ h => h) (fun i hi e => by omega)⟩
theorem pick_fe (b : Bool) (cs ds : List Value) (m n : Nat) (w : World) (h1 : Fe El cs m) (h2 : Fe El ds n) : Calls Try.prog 48 #[.bool b, .agg cs.toArray, .agg ds.toArray] w fun e w' => e = .returned (.agg (if b then cs else ds).toArray) ∧ Kp0 w w' := by
  obtain ⟨l, hl, rfl, hlv⟩ := fe_inv h1
  obtain ⟨f, hf, rfl, hfv⟩ := fe_inv h2
  refine (pick5_any b l f w hl hf).mono fun _ _ ⟨h3, h4⟩ => ⟨?_, h4⟩
  rw [h3]
  cases b <;> rfl
end Go.Proofs.Ytcnehbfcagghpaa
