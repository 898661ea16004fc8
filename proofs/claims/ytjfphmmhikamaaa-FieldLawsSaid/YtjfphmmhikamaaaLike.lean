/- The law's own helpers: like. -/
import Derived.Test.YtjfphmmhikamaaaFld
import Derived.Test.YtjfphmmhikamaaaReg4
namespace Go.Proofs.Ytjfphmmhikamaaa
open Go Go.RowKit
theorem kp_blk {w w' : World} {g : Nat} (h : Kp (fun b => b = g) w w') {B : World} (hB : Kp0 B w) (hg : B.heap.size ≤ g) : Kp0 B w' := hB.trans h (fun _ _ h => h) (fun i hi e => by omega)
theorem bys_ones (l : List UInt8) : Ones (bys l) := by
  intro v hv
  simp only [bys, List.mem_map] at hv
  obtain ⟨x, _, rfl⟩ := hv
  rfl
theorem info51 (l : List UInt8) (h : l.length = 32) : (Try.prog.info? 70).map (·.size) = some (bys l).length := by rw [bys_len, h]; kernel_rfl
theorem blk_rd {w : World} {g : Nat} {T : TypeId} {l : List UInt8} (h : Blk w g T (bys l)) (hl : l.length = 32) : Rd w (.slice (some ⟨g, 0, none⟩) 32 32) (bys l) := by
  refine ⟨some ⟨g, 0, none⟩, 32, by rw [bys_len, hl], by rw [bys_len, hl]; omega, by unfold maxLen; omega, by simp, ?_⟩
  intro ad e i u hu
  cases e
  rw [show ((⟨g, 0, none⟩ : Addr).add i) = ⟨g, i, none⟩ by unfold Addr.add; split <;> simp_all, blk_cell h i]
  simpa using hu
variable {R : List Value → Nat → Prop}
set_option maxRecDepth 20000 in
set_option maxHeartbeats 4000000 in
theorem like_any (F : Fld R) (cs : List Value) (n : Nat) (w : World) (hc : Fe R cs n) :
    Calls Try.prog 28 #[.agg cs.toArray, numV n] w fun e w' => e = .returned (.bool true) ∧ Kp0 w w' := by
  have HC := Lib.hid hc
  have HF := Lib.hid F
  clear hc F
  unfold numV
  go_enter Try.func28, Try.ntmps28
  go_upto_region 1 with (fail)
  obtain ⟨w0, hw0⟩ : ∃ w0, w0 = (w.alloc (.cells cs.toArray 45)).alloc (.cells (i64s (F3.digs 16 (n : Int))).toArray 47) := ⟨_, rfl⟩
  have H0 : Hid (Blk w0 w.heap.size 45 cs ∧ Arr w0 (w.heap.size + 1) 47 (F3.digs 16 (n : Int)) ∧ Kp0 w w0) := Lib.hid (by rw [hw0]; exact ⟨(blk0 w _ _).kp0 ((Kp.refl _ _).alloc _), arr1 w _ _ _, ((Kp.refl _ w).alloc _).alloc _⟩)
  change Code.wp _ _ _ _ ((w.alloc (.cells cs.toArray 45)).alloc (.cells (i64s (F3.digs 16 (n : Int))).toArray 47))
  rw [← hw0]
  clear hw0
  go_wp2_with (refine wl_load_blk rfl 45 (.tmp 2) rfl w.heap.size _ cs rfl H0.out.1 _ Try.underlying45 rfl HC.out.2.2.1 ?_)
  refine (HF.out.bytes cs n _ HC.out).mono ?_
  rintro e w1 ⟨rfl, hk1⟩
  have HK1 := Lib.hid hk1
  clear hk1
  go_upto_region 2 with (refine wl_store_blk rfl 70 (.tmp 5) (.tmp 7) rfl w1.heap.size _ (bys (List.replicate 32 0)) (bys (leB 32 n)) rfl rfl (blk0 w1 _ _) (info51 _ (leB_len _ _)) (by rw [bys_len, bys_len, leB_len]; rfl) (bys_ones _) ?_
                         intro w2 hA2 hK2
                         have HA2 := Lib.hid hA2
                         have HK2 : Hid (Kp0 w0 w2) := Lib.hid (kp_blk hK2 (HK1.out.alloc _) (by have := HK1.out.size; omega))
                         clear hA2 hK2)
  simp only [Act.put]
  obtain ⟨sz, hsz⟩ : ∃ sz : ByteArray, sz = ⟨(leB 32 n).toArray⟩ := ⟨_, rfl⟩
  have HSZ := Lib.hid hsz
  clear hsz
  obtain ⟨g, hg⟩ : ∃ g, g = w1.heap.size := ⟨_, rfl⟩
  rw [← hg] at HA2
  rw [← hg]
  clear hg
  have hcv : ∀ w' : World, Kp0 w2 w' → (convert 22 9 (.slice (some ⟨g, 0, none⟩) 32 32)).run Try.prog w' = .ok (.string sz) w' := fun w' hw => by
    rw [HSZ.out]
    exact run_string_of 22 5 9 Try.underlying22 Try.underlying5 Try.underlying9 ((blk_rd HA2.out (leB_len _ _)).keep0 hw)
  refine wp_region_wall [] (fun w' : World => Kp0 w2 w') (.quiet 0 (.quiet 1 (.quiet 2 (.eff 3 (.quiet 4 (.quiet 5 (.quiet 6 .done))))))) (by kernel_rfl) (by kernel_rfl) (by kernel_rfl) (by kernel_rfl) (fun _ d _ _ _ h => by cases d <;> exact h) ((Kp.refl _ _).drew) ?_
  repeat (first
          | (refine pw_quiet (v := ?_) rfl (by rfl) (fun wq hwq => ?_) rfl ?_; rotate_left 1; (focus (go_simp; try (with_reducible rfl); done)); simp only [List.setIfInBounds_toArray, List.set_cons_zero, List.set_cons_succ])
          | (refine pw_skip rfl (by rfl) rfl ?_; simp only [List.setIfInBounds_toArray, List.set_cons_zero, List.set_cons_succ]))
  refine pw_quiet (v := .agg (i64s (F3.digs 16 (n : Int))).toArray) rfl (by rfl) (fun wq hwq => run_load_arr 47 (.tmp 3) rfl (w.heap.size + 1) _ (F3.digs 16 (n : Int)) rfl (H0.out.2.1.kp0 (HK2.out.tr hwq)) _ Try.underlying47 rfl (infoN _ (numLen _))) rfl ?_
  simp only [List.setIfInBounds_toArray, List.set_cons_zero, List.set_cons_succ]
  refine pw_eff rfl (by rfl) (fun K hK => ?_)
  go_simp
  refine (bytes_any n _).mono ?_
  rintro e w3 ⟨v3, rfl, hv3, hk3⟩
  simp only []
  have HV3 := Lib.hid hv3
  have HK3 : Hid (Kp0 w2 w3) := Lib.hid ((Kp.refl _ w2).drew.tr hk3)
  clear hv3 hk3
  have hcv3 : ∀ w' : World, Kp0 w3 w' → (convert 22 9 v3).run Try.prog w' = .ok (.string sz) w' := fun w' hw => by
    rw [HSZ.out]
    exact run_string_of 22 5 9 Try.underlying22 Try.underlying5 Try.underlying9 (HV3.out.keep0 hw)
  refine hK (fun w' : World => Kp0 w3 w') _ _ (fun x h => HK3.out.tr h) (Kp.refl _ _) ?_
  clear hK K hcv
  repeat (first
          | (refine pw_quiet (v := ?_) rfl (by rfl) (fun wq hwq => ?_) rfl ?_; rotate_left 1; (focus (go_simp; try (with_reducible rfl); done)); simp only [List.setIfInBounds_toArray, List.set_cons_zero, List.set_cons_succ])
          | (refine pw_skip rfl (by rfl) rfl ?_; simp only [List.setIfInBounds_toArray, List.set_cons_zero, List.set_cons_succ]))
  refine pw_done ?_
  clear hcv3
  go_wp2
  go_ret
  exact ⟨rfl, (H0.out.2.2.tr HK2.out).tr HK3.out⟩
end Go.Proofs.Ytjfphmmhikamaaa
