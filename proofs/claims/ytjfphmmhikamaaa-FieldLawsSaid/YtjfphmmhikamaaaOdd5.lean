/- Package field: odd ones, small ones, sums and products. -/
import Derived.Test.YtjfphmmhikamaaaSame5
namespace Go.Proofs.Ytjfphmmhikamaaa
open Go Go.RowKit
theorem and1 (x : Int) (h0 : 0 ≤ x) (h : x < 18446744073709551616) : bits .and .u64 x 1 = x % 2 := by
  have := bits_mask .u64 64 (by decide) (fun n h0 h1 => by simp [IntKind.wrap, IntKind.bits, IntKind.signed] at h1 ⊢; omega) 1 (by decide) x h0 (by omega)
  simpa using this
theorem parts_of (a b c d e : Int) (w : World) : (Instr.field 45 (.agg #[.int .u64 a, .int .u64 b, .int .u64 c, .int .u64 d, .int .u64 e]) 0).run Try.prog w = .ok (.agg #[.int .u64 a, .int .u64 b, .int .u64 c, .int .u64 d, .int .u64 e]) w := by kernel_rfl
theorem part0_of (a b c d e : Int) (w : World) : (Instr.index 43 (.agg #[.int .u64 a, .int .u64 b, .int .u64 c, .int .u64 d, .int .u64 e]) (.int .i64 0)).run Try.prog w = .ok (.int .u64 a) w := by kernel_rfl
set_option maxRecDepth 20000 in
set_option maxHeartbeats 4000000 in
theorem odd5_any (cs : List Value) (n : Nat) (w : World) (h1 : Fe El cs n) :
    Calls Try.prog 30 #[.agg cs.toArray] w fun e w' => e = .returned (.bool (decide (n % 2 = 1))) ∧ Kp0 w w' := by
  obtain ⟨l, hl, rfl, hlv⟩ := fe_inv h1
  obtain ⟨a, b, c, d, e, hd, ha, ha2⟩ : ∃ a b c d e : Int, F5.digs 5 (n : Int) = [a, b, c, d, e] ∧ (0 ≤ a ∧ a < 2251799813685248) ∧ a % 2 = (n : Int) % 2 := ⟨_, _, _, _, _, F5.digs5 _, by omega, by omega⟩
  have HL := Lib.hid hl
  have HLV := Lib.hid hlv
  have HD := Lib.hid hd
  have hm := and1 a (by omega) (by omega)
  have he : decide (n % 2 = 1) = decide (a % 2 = 1) := by
    rw [Bool.eq_iff_iff, decide_eq_true_iff, decide_eq_true_iff]
    omega
  rw [he]
  clear hl hlv h1 hd he ha2
  have hfl := parts_of a b c d e
  have hpl := part0_of a b c d e
  go_enter Try.func30, Try.ntmps30
  go_upto_region 1 with (fail)
  have HR0 := Lib.hid (ark0 (k := .u64) w 45 l)
  have HK0 := Lib.hid ((Kp.refl (fun _ => False) w).alloc (.cells (kis .u64 l).toArray 45))
  change Code.wp _ _ _ _ (w.alloc (.cells (kis .u64 l).toArray 45))
  generalize (w.alloc (.cells (kis .u64 l).toArray 45)) = w1 at HR0 HK0
  go_wp2_with (first
    | (refine wl_load_blk rfl 45 (.tmp 1) rfl w.heap.size _ _ rfl HR0.out _ Try.underlying45 rfl (infoE _ HL.out.1) ?_)
    | (go_at_call 55
       refine (least_fe l n _ HL.out HLV.out).mono ?_
       rintro ee x1 ⟨rfl, hk1⟩
       rw [HD.out]
       have HK1 := Lib.hid (HK0.out.tr hk1)
       clear hk1
       simp only [kis, List.map_cons, List.map_nil]))
  go_ret
  exact ⟨rfl, HK1.out⟩
theorem small_ok (n : Nat) (h : n < 4294967296) : F5.Ok [(n : Int), 0, 0, 0, 0] ∧ F5.val [(n : Int), 0, 0, 0, 0] % 57896044618658097711785492504343953926634992332820282019728792003956564819949 = (n : Int) := by
  refine ⟨⟨rfl, fun x hx => ?_⟩, ?_⟩
  · simp only [List.mem_cons, List.not_mem_nil, or_false] at hx
    omega
  · simp only [F5.val]
    omega
set_option maxRecDepth 20000 in
set_option maxHeartbeats 4000000 in
theorem small5_any (n : Nat) (w : World) (h : n < 4294967296) :
    Calls Try.prog 43 #[.int .u32 n] w fun e w' => e = .returned (.agg (kis .u64 [(n : Int), 0, 0, 0, 0]).toArray) ∧ Kp0 w w' := by
  go_enter Try.func43, Try.ntmps43
  go_upto_region 1 with (fail)
  have HR0 := Lib.hid (ark0 (k := .u64) w 45 z5)
  have HK0 := Lib.hid ((Kp.refl (fun _ => False) w).alloc (.cells (kis .u64 z5).toArray 45))
  change Code.wp _ _ _ _ (w.alloc (.cells (kis .u64 z5).toArray 45))
  generalize (w.alloc (.cells (kis .u64 z5).toArray 45)) = w1 at HR0 HK0
  go_wp2_with (
    (refine wl_store_blk rfl 45 (.tmp 2) (.tmp 6) rfl w.heap.size _ _ (kis .u64 [(n : Int), 0, 0, 0, 0]) rfl rfl HR0.out (infoE _ rfl) rfl (kis_ones _ _) ?_
     intro w7 hA7 hK7
     have HA7 := Lib.hid hA7
     have HK7 := Lib.hid hK7
     clear hA7 hK7))
  refine ret_blk 2 45 45 w.heap.size (kis .u64 [(n : Int), 0, 0, 0, 0]) _ rfl rfl HA7.out Try.underlying45 rfl (infoE _ rfl) rfl ?_
  exact ⟨rfl, HK0.out.trans HK7.out (fun _ _ h => h) (fun i hi e => by omega)⟩
theorem small_fe (n : Nat) (w : World) (h : n < 4294967296) : Calls Try.prog 43 #[.int .u32 n] w fun e w' => ∃ cs, e = .returned (.agg cs.toArray) ∧ Fe El cs n ∧ Kp0 w w' :=
  (small5_any n w h).mono fun _ _ ⟨h1, h2⟩ => ⟨_, h1, fe_mk (small_ok n h).1 (small_ok n h).2, h2⟩
theorem add_fe (cs ds : List Value) (m n : Nat) (w : World) (h1 : Fe El cs m) (h2 : Fe El ds n) : Calls Try.prog 32 #[.agg cs.toArray, .agg ds.toArray] w fun e w' => ∃ es, e = .returned (.agg es.toArray) ∧ Fe El es ((m + n) % 57896044618658097711785492504343953926634992332820282019728792003956564819949) ∧ Kp0 w w' := by
  obtain ⟨l, hl, rfl, hlv⟩ := fe_inv h1
  obtain ⟨f, hf, rfl, hfv⟩ := fe_inv h2
  refine (add5_any l f w hl hf).mono fun _ _ ⟨h3, h4⟩ => ⟨_, h3, fe_mk (F5.carried_ok _ (sum5_ok hl hf).1 (sum5_ok hl hf).2.1) ?_, h4⟩
  rw [F5.carried_val _ (sum5_ok hl hf).1, (sum5_ok hl hf).2.2]
  omega
theorem sub_fe (cs ds : List Value) (m n : Nat) (w : World) (h1 : Fe El cs m) (h2 : Fe El ds n) : Calls Try.prog 34 #[.agg cs.toArray, .agg ds.toArray] w fun e w' => ∃ es, e = .returned (.agg es.toArray) ∧ Fe El es ((m + 57896044618658097711785492504343953926634992332820282019728792003956564819949 - n) % 57896044618658097711785492504343953926634992332820282019728792003956564819949) ∧ Kp0 w w' := by
  have hn := h2.2.1
  obtain ⟨l, hl, rfl, hlv⟩ := fe_inv h1
  obtain ⟨f, hf, rfl, hfv⟩ := fe_inv h2
  refine (sub5_any l f w hl hf).mono fun _ _ ⟨h3, h4⟩ => ⟨_, h3, fe_mk (F5.carried_ok _ (diff5_ok hl hf).1 (diff5_ok hl hf).2.1) ?_, h4⟩
  rw [F5.carried_val _ (diff5_ok hl hf).1, (diff5_ok hl hf).2.2]
  omega
theorem mul_fe (cs ds : List Value) (m n : Nat) (w : World) (h1 : Fe El cs m) (h2 : Fe El ds n) : Calls Try.prog 36 #[.agg cs.toArray, .agg ds.toArray] w fun e w' => ∃ es, e = .returned (.agg es.toArray) ∧ Fe El es (m * n % 57896044618658097711785492504343953926634992332820282019728792003956564819949) ∧ Kp0 w w' := by
  obtain ⟨l, hl, rfl, hlv⟩ := fe_inv h1
  obtain ⟨f, hf, rfl, hfv⟩ := fe_inv h2
  refine (mul5_any l f w hl hf).mono fun _ _ ⟨⟨k, hk, hkv, h3⟩, h4⟩ => ⟨_, h3, fe_mk hk ?_, h4⟩
  rw [hkv, Int.mul_emod, hlv, hfv]
  simp
end Go.Proofs.Ytjfphmmhikamaaa
