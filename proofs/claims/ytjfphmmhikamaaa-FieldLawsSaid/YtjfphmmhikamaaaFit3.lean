/- The law's own helpers: fit. -/
import Derived.Test.YtjfphmmhikamaaaTwo
namespace Go.Proofs.Ytjfphmmhikamaaa
open Go Go.RowKit
/-- 2^255 - 18, as bytes. -/
def fitL : List UInt8 := 238 :: (List.replicate 30 255 ++ [127])
theorem fitL_read : readN fitL = 1 := by decide +kernel
theorem fit_loop : ((List.replicate 32 (255 : UInt8)).set 0 238).set 31 127 = fitL := rfl
theorem ones_set2 (n : Nat) (h : n < 32) : (List.replicate n (255 : UInt8) ++ List.replicate (32 - n) 0).set n 255 = List.replicate (n + 1) 255 ++ List.replicate (32 - (n + 1)) 0 := by
  rw [List.set_append_right _ _ (by simp), List.length_replicate, Nat.sub_self, List.replicate_succ', show 32 - n = (32 - (n + 1)) + 1 by omega, List.replicate_succ, List.set_cons_zero, List.append_assoc]
  rfl
theorem ones_at2 (k : Nat) (_ : k < 32) {hk : k < (List.replicate k (255 : UInt8) ++ List.replicate (32 - k) 0).length} : (List.replicate k (255 : UInt8) ++ List.replicate (32 - k) 0)[k]'hk = 0 := by
  rw [List.getElem_append_right (by simp)]
  simp
theorem fit_inv : invN ((1 + 1) % 57896044618658097711785492504343953926634992332820282019728792003956564819949) * 2 % 57896044618658097711785492504343953926634992332820282019728792003956564819949 = 1 := by
  rw [show (1 + 1) % 57896044618658097711785492504343953926634992332820282019728792003956564819949 = 2 from rfl, Nat.mul_comm]
  exact invN_mul 2 (by omega) (by omega)
variable {R : List Value → Nat → Prop}
set_option maxRecDepth 20000 in
set_option maxHeartbeats 4000000 in
theorem fit_any (F : Fld R) (w : World) : Calls Try.prog 25 #[] w fun e w' => e = .returned (.bool true) ∧ Kp0 w w' := by
  have HF := Lib.hid F
  clear F
  have hmk : ∀ u : World, (Instr.makeSlice 22 (.int .i64 32) (.int .i64 32)).run Try.prog u =
      .ok (.slice (some ⟨u.heap.size, 0, none⟩) 32 32) (u.alloc (.cells (bys (List.replicate 32 0)).toArray 5)) := fun u => by
    obtain ⟨i0, hi, hz0, hz1, hz2⟩ := info_parts infoB
    have h := run_make (P := Try.prog) u 22 5 i0 (.int .u8 0) Try.underlying22 hi hz0 .i64 .i64 (32 : Int) (32 : Int) (by omega) (Int.le_refl _) (by rw [hz2]; omega) (by omega)
    have e : (32 : Int).toNat = 32 := by omega
    rw [e] at h
    rw [show (bys (List.replicate 32 0)).toArray = madeCells #[.int .u8 0] 32 by kernel_rfl]
    simpa [hz1, Value.cells] using h
  go_enter Try.func25, Try.ntmps25
  go_wp2
  clear hmk
  go_loopg [8] 32 (fun g i wr => ∃ (k : Nat), i = .int .i64 k ∧ k ≤ 32 ∧ g = 32 - k ∧ Byt wr w.heap.size (List.replicate k 255 ++ List.replicate (32 - k) 0) ∧ Kp0 w wr)
  case atStart => exact ⟨0, rfl, by omega, rfl, heap_alloc_new w _, (Kp.refl _ w).alloc _⟩
  case round =>
    obtain ⟨k, rfl, hk, rfl, hB, hK⟩ := hrel
    have HB := Lib.hid hB
    have HK := Lib.hid hK
    clear hB hK
    by_cases h : k < 32
    · have hc := HB.out.cell k (by simp; omega)
      have hf := HB.out.frozen k
      rw [ones_at2 k h] at hc
      go_wp2
      go_roundg (32 - (k + 1))
      case measure => omega
      case rel =>
        refine ⟨k + 1, by go_num, by omega, rfl, ?_, HK.out.setCell (p := ⟨w.heap.size, k, none⟩) (fun hlt => absurd hlt (Nat.lt_irrefl _)) _⟩
        rw [← ones_set2 k h]
        exact HB.out.set k 255
    · obtain rfl : k = 32 := by omega
      have hc := HB.out.cell 0 (by simp)
      have hc2 := HB.out.cell 31 (by simp)
      have hf := HB.out.frozen 0
      have hf2 := HB.out.frozen 31
      go_wp2_with fail
      obtain ⟨w1, hw1⟩ : ∃ w1, w1 = (wr.setCell ⟨w.heap.size, 0, none⟩ (.int .u8 238)).setCell ⟨w.heap.size, 31, none⟩ (.int .u8 127) := ⟨_, rfl⟩
      rw [← hw1]
      have HL : Hid (Byt w1 w.heap.size fitL) := Lib.hid (by
        have := (HB.out.set 0 238).set 31 127
        rw [hw1]
        exact this)
      have HK1 : Hid (Kp0 w w1) := Lib.hid (by
        rw [hw1]
        exact (HK.out.setCell (p := ⟨w.heap.size, 0, none⟩) (fun hlt => absurd hlt (Nat.lt_irrefl _)) _).setCell (p := ⟨w.heap.size, 31, none⟩) (fun hlt => absurd hlt (Nat.lt_irrefl _)) _)
      clear hw1 hc hc2 hf hf2
      refine (HF.out.read (.slice (some ⟨w.heap.size, 0, none⟩) 32 32) fitL w1 (Byt.rd HL.out rfl) (fun g hg => by have := blk_lt HL.out; simp [Value.ownBlock] at hg; omega)).mono ?_
      rintro e w2 ⟨cs, rfl, hc, hk2⟩
      rw [fitL_read] at hc
      have HC := Lib.hid hc
      have HK2 := Lib.hid (HK1.out.tr hk2)
      obtain ⟨g, hg⟩ : ∃ g, g = w2.heap.size := ⟨_, rfl⟩
      have HG := Lib.hid hg
      clear hc hk2 hg
      go_upto_region 9 with (
        (refine wl_store_blk rfl 45 (.tmp 3) (.tmp 22) rfl w2.heap.size _ _ cs rfl rfl (blk0 w2 _ _) HC.out.2.2.1 (len_of (T := 45) (by kernel_rfl) HC.out.2.2.1) HC.out.2.2.2 ?_
         intro w3 hA3 hK3
         rw [← HG.out]
         rw [← HG.out] at hA3
         have HE := Lib.hid hA3
         have HK3 : Hid (Kp0 w w3) := Lib.hid (kp_blk hK3 (HK2.out.alloc _) (by have := HK2.out.size; omega))
         clear hA3 hK3))
      try simp only [Act.put]
      have HS0 : Hid (Kp0 w3 w3.drew) := Lib.hid ((Kp.refl _ w3).drew)
      refine wp_region_wall [] (fun w' : World => Kp0 w3 w') (.quiet 0 (.quiet 1 (.quiet 2 (.eff 3 (.eff 4 (.quiet 5 (.quiet 6 (.quiet 7 (.eff 8 (.quiet 9 (.quiet 10 (.quiet 11 (.quiet 12 (.eff 13 (.eff 14 (.eff 15 (.quiet 16 (.quiet 17 (.quiet 18 (.quiet 19 (.quiet 24 (.eff 20 (.eff 21 (.eff 22 (.eff 23 (.eff 25 (.quiet 26 (.quiet 27 .done)))))))))))))))))))))))))))) (by kernel_rfl) (by kernel_rfl) (by kernel_rfl) (by kernel_rfl) (fun _ d _ _ _ h => by cases d <;> exact h) HS0.out ?_
      repeat (first
              | (refine pw_quiet (v := .agg cs.toArray) rfl (by rfl) (fun wq hwq => run_load_blk 45 (.tmp 3) rfl g _ cs rfl (HE.out.kp0 hwq) _ Try.underlying45 rfl HC.out.2.2.1) rfl ?_; simp only [List.setIfInBounds_toArray, List.set_cons_zero, List.set_cons_succ])
              | (refine pw_quiet (v := ?_) rfl (by rfl) (fun wq hwq => ?_) rfl ?_; rotate_left 1; (focus (go_simp; try (with_reducible rfl); done)); simp only [List.setIfInBounds_toArray, List.set_cons_zero, List.set_cons_succ])
              | (refine pw_skip rfl (by rfl) rfl ?_; simp only [List.setIfInBounds_toArray, List.set_cons_zero, List.set_cons_succ]))
      refine pw_eff rfl (by rfl) (fun K hK => ?_)
      go_simp
      refine (HF.out.small 1 _ (by omega)).mono ?_
      rintro e x1 ⟨c1, rfl, hc1, hk1⟩
      have HC1 := Lib.hid hc1
      clear hc1
      simp only []
      have HS1 : Hid (Kp0 w3 x1) := Lib.hid (HS0.out.tr hk1)
      clear hk1
      refine hK (fun w' : World => Kp0 w3 w') _ _ (fun x h => h) HS1.out ?_
      clear hK K
      refine pw_eff rfl (by rfl) (fun K hK => ?_)
      go_simp
      refine (HF.out.same cs c1 1 1 _ HC.out HC1.out).mono ?_
      rw [decide_eq_true rfl]
      rintro e x2 ⟨rfl, hk2⟩
      simp only []
      have HS2 : Hid (Kp0 w3 x2) := Lib.hid (HS1.out.tr hk2)
      clear hk2
      refine hK (fun w' : World => Kp0 w3 w') _ _ (fun x h => h) HS2.out ?_
      clear hK K
      repeat (first
              | (refine pw_quiet (v := .agg cs.toArray) rfl (by rfl) (fun wq hwq => run_load_blk 45 (.tmp 3) rfl g _ cs rfl (HE.out.kp0 hwq) _ Try.underlying45 rfl HC.out.2.2.1) rfl ?_; simp only [List.setIfInBounds_toArray, List.set_cons_zero, List.set_cons_succ])
              | (refine pw_quiet (v := ?_) rfl (by rfl) (fun wq hwq => ?_) rfl ?_; rotate_left 1; (focus (go_simp; try (with_reducible rfl); done)); simp only [List.setIfInBounds_toArray, List.set_cons_zero, List.set_cons_succ])
              | (refine pw_skip rfl (by rfl) rfl ?_; simp only [List.setIfInBounds_toArray, List.set_cons_zero, List.set_cons_succ]))
      refine pw_eff rfl (by rfl) (fun K hK => ?_)
      go_simp
      refine (HF.out.odd cs 1 _ HC.out).mono ?_
      rw [decide_eq_true rfl]
      rintro e x3 ⟨rfl, hk3⟩
      simp only []
      have HS3 : Hid (Kp0 w3 x3) := Lib.hid (HS2.out.tr hk3)
      clear hk3
      refine hK (fun w' : World => Kp0 w3 w') _ _ (fun x h => h) HS3.out ?_
      clear hK K
      repeat (first
              | (refine pw_quiet (v := .agg cs.toArray) rfl (by rfl) (fun wq hwq => run_load_blk 45 (.tmp 3) rfl g _ cs rfl (HE.out.kp0 hwq) _ Try.underlying45 rfl HC.out.2.2.1) rfl ?_; simp only [List.setIfInBounds_toArray, List.set_cons_zero, List.set_cons_succ])
              | (refine pw_quiet (v := ?_) rfl (by rfl) (fun wq hwq => ?_) rfl ?_; rotate_left 1; (focus (go_simp; try (with_reducible rfl); done)); simp only [List.setIfInBounds_toArray, List.set_cons_zero, List.set_cons_succ])
              | (refine pw_skip rfl (by rfl) rfl ?_; simp only [List.setIfInBounds_toArray, List.set_cons_zero, List.set_cons_succ]))
      refine pw_eff rfl (by rfl) (fun K hK => ?_)
      go_simp
      refine (HF.out.sub cs cs 1 1 _ HC.out HC.out).mono ?_
      rintro e x4 ⟨c4, rfl, hc4, hk4⟩
      have HC4 := Lib.hid hc4
      clear hc4
      simp only []
      have HS4 : Hid (Kp0 w3 x4) := Lib.hid (HS3.out.tr hk4)
      clear hk4
      refine hK (fun w' : World => Kp0 w3 w') _ _ (fun x h => h) HS4.out ?_
      clear hK K
      refine pw_eff rfl (by rfl) (fun K hK => ?_)
      go_simp
      refine (HF.out.small 0 _ (by omega)).mono ?_
      rintro e x5 ⟨c5, rfl, hc5, hk5⟩
      have HC5 := Lib.hid hc5
      clear hc5
      simp only []
      have HS5 : Hid (Kp0 w3 x5) := Lib.hid (HS4.out.tr hk5)
      clear hk5
      refine hK (fun w' : World => Kp0 w3 w') _ _ (fun x h => h) HS5.out ?_
      clear hK K
      refine pw_eff rfl (by rfl) (fun K hK => ?_)
      go_simp
      refine (HF.out.same c4 c5 _ _ _ HC4.out HC5.out).mono ?_
      rw [decide_eq_true (by omega)]
      rintro e x6 ⟨rfl, hk6⟩
      simp only []
      have HS6 : Hid (Kp0 w3 x6) := Lib.hid (HS5.out.tr hk6)
      clear hk6
      refine hK (fun w' : World => Kp0 w3 w') _ _ (fun x h => h) HS6.out ?_
      clear hK K
      repeat (first
              | (refine pw_quiet (v := .agg cs.toArray) rfl (by rfl) (fun wq hwq => run_load_blk 45 (.tmp 3) rfl g _ cs rfl (HE.out.kp0 hwq) _ Try.underlying45 rfl HC.out.2.2.1) rfl ?_; simp only [List.setIfInBounds_toArray, List.set_cons_zero, List.set_cons_succ])
              | (refine pw_quiet (v := ?_) rfl (by rfl) (fun wq hwq => ?_) rfl ?_; rotate_left 1; (focus (go_simp; try (with_reducible rfl); done)); simp only [List.setIfInBounds_toArray, List.set_cons_zero, List.set_cons_succ])
              | (refine pw_skip rfl (by rfl) rfl ?_; simp only [List.setIfInBounds_toArray, List.set_cons_zero, List.set_cons_succ]))
      refine pw_eff rfl (by rfl) (fun K hK => ?_)
      go_simp
      refine (HF.out.add cs cs 1 1 _ HC.out HC.out).mono ?_
      rintro e x7 ⟨c7, rfl, hc7, hk7⟩
      have HC7 := Lib.hid hc7
      clear hc7
      simp only []
      have HS7 : Hid (Kp0 w3 x7) := Lib.hid (HS6.out.tr hk7)
      clear hk7
      refine hK (fun w' : World => Kp0 w3 w') _ _ (fun x h => h) HS7.out ?_
      clear hK K
      refine pw_eff rfl (by rfl) (fun K hK => ?_)
      go_simp
      refine (HF.out.inv c7 _ _ HC7.out).mono ?_
      rintro e x8 ⟨c8, rfl, hc8, hk8⟩
      have HC8 := Lib.hid hc8
      clear hc8
      simp only []
      have HS8 : Hid (Kp0 w3 x8) := Lib.hid (HS7.out.tr hk8)
      clear hk8
      refine hK (fun w' : World => Kp0 w3 w') _ _ (fun x h => h) HS8.out ?_
      clear hK K
      refine pw_eff rfl (by rfl) (fun K hK => ?_)
      go_simp
      refine (HF.out.small 2 _ (by omega)).mono ?_
      rintro e x9 ⟨c9, rfl, hc9, hk9⟩
      have HC9 := Lib.hid hc9
      clear hc9
      simp only []
      have HS9 : Hid (Kp0 w3 x9) := Lib.hid (HS8.out.tr hk9)
      clear hk9
      refine hK (fun w' : World => Kp0 w3 w') _ _ (fun x h => h) HS9.out ?_
      clear hK K
      refine pw_eff rfl (by rfl) (fun K hK => ?_)
      go_simp
      refine (HF.out.mul c8 c9 _ _ _ HC8.out HC9.out).mono ?_
      rintro e x10 ⟨c10, rfl, hc10, hk10⟩
      have HC10 := Lib.hid hc10
      clear hc10
      simp only []
      have HS10 : Hid (Kp0 w3 x10) := Lib.hid (HS9.out.tr hk10)
      clear hk10
      refine hK (fun w' : World => Kp0 w3 w') _ _ (fun x h => h) HS10.out ?_
      clear hK K
      refine pw_eff rfl (by rfl) (fun K hK => ?_)
      go_simp
      refine (HF.out.same c10 cs _ _ _ HC10.out HC.out).mono ?_
      rw [decide_eq_true fit_inv]
      rintro e x11 ⟨rfl, hk11⟩
      simp only []
      have HS11 : Hid (Kp0 w3 x11) := Lib.hid (HS10.out.tr hk11)
      clear hk11
      refine hK (fun w' : World => Kp0 w3 w') _ _ (fun x h => h) HS11.out ?_
      clear hK K
      repeat (first
              | (refine pw_quiet (v := .agg cs.toArray) rfl (by rfl) (fun wq hwq => run_load_blk 45 (.tmp 3) rfl g _ cs rfl (HE.out.kp0 hwq) _ Try.underlying45 rfl HC.out.2.2.1) rfl ?_; simp only [List.setIfInBounds_toArray, List.set_cons_zero, List.set_cons_succ])
              | (refine pw_quiet (v := ?_) rfl (by rfl) (fun wq hwq => ?_) rfl ?_; rotate_left 1; (focus (go_simp; try (with_reducible rfl); done)); simp only [List.setIfInBounds_toArray, List.set_cons_zero, List.set_cons_succ])
              | (refine pw_skip rfl (by rfl) rfl ?_; simp only [List.setIfInBounds_toArray, List.set_cons_zero, List.set_cons_succ]))
      refine pw_done ?_
      go_wp2
      go_ret
      exact ⟨rfl, HK3.out.tr HS11.out⟩
end Go.Proofs.Ytjfphmmhikamaaa
