/- The law FieldReads: its walk. -/
import Derived.Test.YtjfphmmhikamaaaFit3
namespace Go.Proofs.Ytjfphmmhikamaaa
open Go Go.RowKit
theorem TwoR.start (w : World) (z1 z2 z3 z4 : List Value) : TwoR w z1 z2 z3 z4 ((((w.alloc (.cells z1.toArray 45)).alloc (.cells z2.toArray 45)).alloc (.cells z3.toArray 47)).alloc (.cells z4.toArray 47)) := by
  refine ⟨?_, ?_, ?_, ?_, (((Kp.refl _ w).alloc _).alloc _).alloc _ |>.alloc _⟩
  · exact (blk0 w _ _).kp0 (((Kp.refl _ _).alloc _).alloc _ |>.alloc _)
  · have := (blk0 (w.alloc (.cells z1.toArray 45)) 45 z2).kp0 (((Kp.refl _ _).alloc (.cells z3.toArray 47)).alloc (.cells z4.toArray 47))
    rwa [size_alloc] at this
  · have := (blk0 ((w.alloc (.cells z1.toArray 45)).alloc (.cells z2.toArray 45)) 47 z3).kp0 ((Kp.refl _ _).alloc (.cells z4.toArray 47))
    rwa [size_alloc, size_alloc] at this
  · have := blk0 (((w.alloc (.cells z1.toArray 45)).alloc (.cells z2.toArray 45)).alloc (.cells z3.toArray 47)) 47 z4
    rwa [size_alloc, size_alloc, size_alloc] at this
theorem len32 (l : List UInt8) : ((l.length : Int) == 32) = decide (l.length = 32) := by
  rw [Bool.eq_iff_iff, beq_iff_eq, decide_eq_true_iff]
  omega
theorem readN_lt (l : List UInt8) : readN l < 57896044618658097711785492504343953926634992332820282019728792003956564819949 := by
  unfold readN
  split
  · exact Nat.mod_lt _ (by omega)
  · omega
theorem odd_fact (n : Nat) : (((n : Int) % 65536).tmod 2 == 1) = decide (n % 2 = 1) := by
  rw [Bool.eq_iff_iff, beq_iff_eq, decide_eq_true_iff, Int.tmod_eq_emod_of_nonneg (by omega)]
  omega
variable {R : List Value → Nat → Prop}
set_option maxRecDepth 20000 in
set_option maxHeartbeats 4000000 in
theorem freads_walk (F : Fld R) (va vb : Value) (la lb : List UInt8) (w : World) (hva : Rd w va (bys la)) (hvb : Rd w vb (bys lb)) (hoa : ∀ g, va.ownBlock = some g → g < w.heap.size) (hob : ∀ g, vb.ownBlock = some g → g < w.heap.size) :
    Calls Try.prog 5 #[va, vb] w fun e w' => e = .returned (.bool true) ∧ Kp0 w w' := by
  obtain ⟨ao, capa, rfl, ha1, ha2, ha3⟩ := hva.shapeB
  obtain ⟨bo, capb, rfl, hb1, hb2, hb3⟩ := hvb.shapeB
  have HF := Lib.hid F
  have HA := Lib.hid hva
  have HB := Lib.hid hvb
  have HOA := Lib.hid hoa
  have HOB := Lib.hid hob
  clear hva hvb hoa hob F
  go_enter Try.func5, Try.ntmps5
  go_wp2_with fail
  refine (fit_any HF.out _).mono ?_
  rintro e w1 ⟨rfl, hk1⟩
  have HK1 := Lib.hid hk1
  clear hk1
  obtain ⟨na, hna⟩ : ∃ n, n = okN la lb (readN la) := ⟨_, rfl⟩
  obtain ⟨nb, hnb⟩ : ∃ n, n = okN la lb (readN lb) := ⟨_, rfl⟩
  obtain ⟨bk, hbk⟩ : ∃ b, b = ok2 la lb := ⟨_, rfl⟩
  have HNA := Lib.hid hna
  have HNB := Lib.hid hnb
  have HBK := Lib.hid hbk
  clear hna hnb hbk
  go_wp2_with fail
  refine (two_any HF.out _ _ la lb w1 (HA.out.keep0 HK1.out) (HB.out.keep0 HK1.out) (fun g hg => by have := HOA.out g hg; have := HK1.out.size; omega) (fun g hg => by have := HOB.out g hg; have := HK1.out.size; omega)).mono ?_
  rw [← HNA.out, ← HNB.out, ← HBK.out]
  rintro e w2 ⟨ca, cb, rfl, hca, hcb, hk2⟩
  have HCA := Lib.hid hca
  have HCB := Lib.hid hcb
  have HK2 := Lib.hid (HK1.out.tr hk2)
  clear hca hcb hk2
  cases bk
  · have l32a := len32 la
    have l32b := len32 lb
    go_wp2_with (first
      | (refine wl_store_blk rfl 45 (.tmp 5) (.tmp 20) rfl w2.heap.size _ _ ca rfl rfl (TwoR.start w2 _ _ _ _).1 HCA.out.2.2.1 (len_of (T := 45) (by kernel_rfl) HCA.out.2.2.1) HCA.out.2.2.2 ?_
         intro y1 hA1 hK1
         have HT1 := Lib.hid ((TwoR.start w2 _ _ _ _).put4 hA1 hK1)
         clear hA1 hK1)
      | (refine wl_store_blk rfl 45 (.tmp 6) (.tmp 21) rfl (w2.heap.size + 1) _ _ cb rfl rfl HT1.out.2.1 HCB.out.2.2.1 (len_of (T := 45) (by kernel_rfl) HCB.out.2.2.1) HCB.out.2.2.2 ?_
         intro y2 hA2 hK2
         have HT2 := Lib.hid (HT1.out.put5 hA2 hK2)
         clear hA2 hK2)
      | (refine wl_store_blk rfl 47 (.tmp 7) (.tmp 22) rfl (w2.heap.size + 1 + 1) _ _ (i64s (F3.digs 16 (na : Int))) rfl rfl HT2.out.2.2.1 (infoN _ (numLen _)) (by rw [i64s_len, numLen]; rfl) (i64s_ones _) ?_
         intro y3 hA3 hK3
         have HT3 := Lib.hid (HT2.out.put6 hA3 hK3)
         clear hA3 hK3)
      | (refine wl_store_blk rfl 47 (.tmp 8) (.tmp 23) rfl (w2.heap.size + 1 + 1 + 1) _ _ (i64s (F3.digs 16 (nb : Int))) rfl rfl HT3.out.2.2.2.1 (infoN _ (numLen _)) (by rw [i64s_len, numLen]; rfl) (i64s_ones _) ?_
         intro y4 hA4 hK4
         have HT4 := Lib.hid (HT3.out.put7 hA4 hK4)
         clear hA4 hK4))
    refine (HF.out.read _ la y4 (HA.out.keep0 (HK2.out.tr HT4.out.2.2.2.2)) (fun g hg => by have := HOA.out g hg; have := HK2.out.size; have := HT4.out.1.lt; omega)).mono ?_
    rintro e w3 ⟨c3, rfl, hc3, hk3⟩
    have HC3 := Lib.hid hc3
    have HK3 : Hid (Kp0 w w3) := Lib.hid ((HK2.out.tr HT4.out.2.2.2.2).tr hk3)
    clear hc3 hk3
    go_wp2_with (
        (refine wl_store_blk rfl 45 (.tmp 10) (.tmp 30) rfl w3.heap.size _ _ c3 rfl rfl (blk0 w3 _ _) HC3.out.2.2.1 (len_of (T := 45) (by kernel_rfl) HC3.out.2.2.1) HC3.out.2.2.2 ?_
         intro w4 hA4 hK4
         have HK4 : Hid (Kp0 w w4) := Lib.hid (kp_blk hK4 (HK3.out.alloc _) HK3.out.size)
         clear hA4 hK4))
    refine (HF.out.read _ lb w4 (HB.out.keep0 HK4.out) (fun g hg => by have := HOB.out g hg; have := HK4.out.size; omega)).mono ?_
    rintro e w5 ⟨c5, rfl, hc5, hk5⟩
    have HC5 := Lib.hid hc5
    have HK5 : Hid (Kp0 w w5) := Lib.hid (HK4.out.tr hk5)
    clear hc5 hk5
    go_wp2_with (
        (refine wl_store_blk rfl 45 (.tmp 12) (.tmp 35) rfl w5.heap.size _ _ c5 rfl rfl (blk0 w5 _ _) HC5.out.2.2.1 (len_of (T := 45) (by kernel_rfl) HC5.out.2.2.1) HC5.out.2.2.2 ?_
         intro w6 hA6 hK6
         have HK6 : Hid (Kp0 w w6) := Lib.hid (kp_blk hK6 (HK5.out.alloc _) HK5.out.size)
         clear hA6 hK6))
    all_goals go_ret
    all_goals exact ⟨rfl, HK6.out⟩
  · have HLA : Hid (na < 57896044618658097711785492504343953926634992332820282019728792003956564819949) := Lib.hid (by rw [HNA.out, okN, if_pos (of_decide_eq_true HBK.out.symm)]; exact readN_lt la)
    have HLB : Hid (nb < 57896044618658097711785492504343953926634992332820282019728792003956564819949) := Lib.hid (by rw [HNB.out, okN, if_pos (of_decide_eq_true HBK.out.symm)]; exact readN_lt lb)
    have HCA' : Hid (Fe R ca na) := Lib.hid (by rw [HNA.out, okN, if_pos (of_decide_eq_true HBK.out.symm)]; exact HCA.out)
    have HCB' : Hid (Fe R cb nb) := Lib.hid (by rw [HNB.out, okN, if_pos (of_decide_eq_true HBK.out.symm)]; exact HCB.out)
    go_upto_region 8 with (first
      | (refine wl_store_blk rfl 45 (.tmp 5) (.tmp 20) rfl w2.heap.size _ _ ca rfl rfl (TwoR.start w2 _ _ _ _).1 HCA.out.2.2.1 (len_of (T := 45) (by kernel_rfl) HCA.out.2.2.1) HCA.out.2.2.2 ?_
         intro y1 hA1 hK1
         have HT1 := Lib.hid ((TwoR.start w2 _ _ _ _).put4 hA1 hK1)
         clear hA1 hK1)
      | (refine wl_store_blk rfl 45 (.tmp 6) (.tmp 21) rfl (w2.heap.size + 1) _ _ cb rfl rfl HT1.out.2.1 HCB.out.2.2.1 (len_of (T := 45) (by kernel_rfl) HCB.out.2.2.1) HCB.out.2.2.2 ?_
         intro y2 hA2 hK2
         have HT2 := Lib.hid (HT1.out.put5 hA2 hK2)
         clear hA2 hK2)
      | (refine wl_store_blk rfl 47 (.tmp 7) (.tmp 22) rfl (w2.heap.size + 1 + 1) _ _ (i64s (F3.digs 16 (na : Int))) rfl rfl HT2.out.2.2.1 (infoN _ (numLen _)) (by rw [i64s_len, numLen]; rfl) (i64s_ones _) ?_
         intro y3 hA3 hK3
         have HT3 := Lib.hid (HT2.out.put6 hA3 hK3)
         clear hA3 hK3)
      | (refine wl_store_blk rfl 47 (.tmp 8) (.tmp 23) rfl (w2.heap.size + 1 + 1 + 1) _ _ (i64s (F3.digs 16 (nb : Int))) rfl rfl HT3.out.2.2.2.1 (infoN _ (numLen _)) (by rw [i64s_len, numLen]; rfl) (i64s_ones _) ?_
         intro y4 hA4 hK4
         have HT4 := Lib.hid (HT3.out.put7 hA4 hK4)
         clear hA4 hK4))
    try simp only [Act.put]
    obtain ⟨d0, hd0⟩ : ∃ d0, d0 = (na : Int) % 65536 := ⟨_, rfl⟩
    have hodd : (d0.tmod 2 == 1) = decide (na % 2 = 1) := by rw [hd0]; exact odd_fact na
    have hd0b : 0 ≤ d0 ∧ d0 < 65536 := by omega
    have hc0 : ∀ w' : World, Kp0 y4 w' → w'.cell? ⟨w2.heap.size + 1 + 1, 0, none⟩ = some (.int .i64 d0) := fun w' hw => by
      rw [hd0]
      exact Arr.cell (HT4.out.2.2.1.kp0 hw) 0 (by rw [numLen]; omega)
    clear hd0
    have HS0 : Hid (Kp0 y4 y4.drew) := Lib.hid ((Kp.refl _ y4).drew)
    refine wp_region_wall [] (fun w' : World => Kp0 y4 w') (.quiet 0 (.quiet 1 (.eff 2 (.quiet 3 (.quiet 4 (.quiet 5 (.eff 6 (.quiet 7 (.quiet 8 (.quiet 9 (.quiet 10 (.quiet 12 (.quiet 13 (.quiet 14 (.eff 11 (.quiet 15 (.quiet 16 (.quiet 17 (.quiet 18 (.quiet 20 (.quiet 21 (.quiet 22 (.quiet 23 (.eff 19 (.quiet 24 (.quiet 25 (.quiet 26 (.quiet 27 (.quiet 28 (.quiet 30 (.eff 29 (.eff 31 (.quiet 32 (.quiet 33 (.quiet 34 (.quiet 35 (.quiet 37 (.eff 36 (.eff 38 (.quiet 39 (.quiet 40 .done))))))))))))))))))))))))))))))))))))))))) (by kernel_rfl) (by kernel_rfl) (by kernel_rfl) (by kernel_rfl) (fun _ d _ _ _ h => by cases d <;> exact h) HS0.out ?_
    repeat (first
      | (refine pw_quiet (v := .agg ca.toArray) rfl (by rfl) (fun wq hwq => run_load_blk 45 (.tmp 5) rfl w2.heap.size _ ca rfl (HT4.out.1.kp0 hwq) _ Try.underlying45 rfl HCA.out.2.2.1) rfl ?_; simp only [List.setIfInBounds_toArray, List.set_cons_zero, List.set_cons_succ])
      | (refine pw_quiet (v := .agg cb.toArray) rfl (by rfl) (fun wq hwq => run_load_blk 45 (.tmp 6) rfl (w2.heap.size + 1) _ cb rfl (HT4.out.2.1.kp0 hwq) _ Try.underlying45 rfl HCB.out.2.2.1) rfl ?_; simp only [List.setIfInBounds_toArray, List.set_cons_zero, List.set_cons_succ])
      | (refine pw_quiet (v := .agg (i64s (F3.digs 16 (na : Int))).toArray) rfl (by rfl) (fun wq hwq => run_load_blk 47 (.tmp 7) rfl (w2.heap.size + 1 + 1) _ (i64s (F3.digs 16 (na : Int))) rfl (HT4.out.2.2.1.kp0 hwq) _ Try.underlying47 rfl (infoN _ (numLen _))) rfl ?_; simp only [List.setIfInBounds_toArray, List.set_cons_zero, List.set_cons_succ])
      | (refine pw_quiet (v := .agg (i64s (F3.digs 16 (nb : Int))).toArray) rfl (by rfl) (fun wq hwq => run_load_blk 47 (.tmp 8) rfl (w2.heap.size + 1 + 1 + 1) _ (i64s (F3.digs 16 (nb : Int))) rfl (HT4.out.2.2.2.1.kp0 hwq) _ Try.underlying47 rfl (infoN _ (numLen _))) rfl ?_; simp only [List.setIfInBounds_toArray, List.set_cons_zero, List.set_cons_succ])
      | (refine pw_quiet (v := .bool (F3.digs 16 (na : Int) == F3.digs 16 (nb : Int))) rfl (by rfl) (fun wq _ => run_op_eql wq (.tmp 61) (.tmp 62) rfl (F3.digs 16 (na : Int)) (F3.digs 16 (nb : Int)) rfl rfl Try.underlying47 Try.underlying2 (by kernel_rfl) (by kernel_rfl) (numLen _) (numLen _)) rfl ?_; rw [digs_beq na nb HLA.out HLB.out]; simp only [List.setIfInBounds_toArray, List.set_cons_zero, List.set_cons_succ])
      | (refine pw_quiet (v := ?_) rfl (by rfl) (fun wq hwq => ?_) rfl ?_; rotate_left 1; (focus (go_simp; try (with_reducible rfl); done)); simp only [List.setIfInBounds_toArray, List.set_cons_zero, List.set_cons_succ])
      | (refine pw_skip rfl (by rfl) rfl ?_; simp only [List.setIfInBounds_toArray, List.set_cons_zero, List.set_cons_succ])
      | (refine pw_skipE rfl (by rfl) rfl ?_; simp only [List.setIfInBounds_toArray, List.set_cons_zero, List.set_cons_succ]))
    refine pw_eff rfl (by rfl) (fun K hK => ?_)
    go_simp
    refine (like_any HF.out ca na _ HCA'.out).mono ?_
    rintro e x1 ⟨rfl, hk1⟩
    simp only []
    have HS1 : Hid (Kp0 y4 x1) := Lib.hid (HS0.out.tr hk1)
    clear hk1
    refine hK (fun w' : World => Kp0 y4 w') _ _ (fun x h => h) HS1.out ?_
    clear hK K
    repeat (first
      | (refine pw_quiet (v := .agg ca.toArray) rfl (by rfl) (fun wq hwq => run_load_blk 45 (.tmp 5) rfl w2.heap.size _ ca rfl (HT4.out.1.kp0 hwq) _ Try.underlying45 rfl HCA.out.2.2.1) rfl ?_; simp only [List.setIfInBounds_toArray, List.set_cons_zero, List.set_cons_succ])
      | (refine pw_quiet (v := .agg cb.toArray) rfl (by rfl) (fun wq hwq => run_load_blk 45 (.tmp 6) rfl (w2.heap.size + 1) _ cb rfl (HT4.out.2.1.kp0 hwq) _ Try.underlying45 rfl HCB.out.2.2.1) rfl ?_; simp only [List.setIfInBounds_toArray, List.set_cons_zero, List.set_cons_succ])
      | (refine pw_quiet (v := .agg (i64s (F3.digs 16 (na : Int))).toArray) rfl (by rfl) (fun wq hwq => run_load_blk 47 (.tmp 7) rfl (w2.heap.size + 1 + 1) _ (i64s (F3.digs 16 (na : Int))) rfl (HT4.out.2.2.1.kp0 hwq) _ Try.underlying47 rfl (infoN _ (numLen _))) rfl ?_; simp only [List.setIfInBounds_toArray, List.set_cons_zero, List.set_cons_succ])
      | (refine pw_quiet (v := .agg (i64s (F3.digs 16 (nb : Int))).toArray) rfl (by rfl) (fun wq hwq => run_load_blk 47 (.tmp 8) rfl (w2.heap.size + 1 + 1 + 1) _ (i64s (F3.digs 16 (nb : Int))) rfl (HT4.out.2.2.2.1.kp0 hwq) _ Try.underlying47 rfl (infoN _ (numLen _))) rfl ?_; simp only [List.setIfInBounds_toArray, List.set_cons_zero, List.set_cons_succ])
      | (refine pw_quiet (v := .bool (F3.digs 16 (na : Int) == F3.digs 16 (nb : Int))) rfl (by rfl) (fun wq _ => run_op_eql wq (.tmp 61) (.tmp 62) rfl (F3.digs 16 (na : Int)) (F3.digs 16 (nb : Int)) rfl rfl Try.underlying47 Try.underlying2 (by kernel_rfl) (by kernel_rfl) (numLen _) (numLen _)) rfl ?_; rw [digs_beq na nb HLA.out HLB.out]; simp only [List.setIfInBounds_toArray, List.set_cons_zero, List.set_cons_succ])
      | (refine pw_quiet (v := ?_) rfl (by rfl) (fun wq hwq => ?_) rfl ?_; rotate_left 1; (focus (go_simp; try (with_reducible rfl); done)); simp only [List.setIfInBounds_toArray, List.set_cons_zero, List.set_cons_succ])
      | (refine pw_skip rfl (by rfl) rfl ?_; simp only [List.setIfInBounds_toArray, List.set_cons_zero, List.set_cons_succ])
      | (refine pw_skipE rfl (by rfl) rfl ?_; simp only [List.setIfInBounds_toArray, List.set_cons_zero, List.set_cons_succ]))
    refine pw_eff rfl (by rfl) (fun K hK => ?_)
    go_simp
    refine (like_any HF.out cb nb _ HCB'.out).mono ?_
    rintro e x2 ⟨rfl, hk2⟩
    simp only []
    have HS2 : Hid (Kp0 y4 x2) := Lib.hid (HS1.out.tr hk2)
    clear hk2
    refine hK (fun w' : World => Kp0 y4 w') _ _ (fun x h => h) HS2.out ?_
    clear hK K
    repeat (first
      | (refine pw_quiet (v := .agg ca.toArray) rfl (by rfl) (fun wq hwq => run_load_blk 45 (.tmp 5) rfl w2.heap.size _ ca rfl (HT4.out.1.kp0 hwq) _ Try.underlying45 rfl HCA.out.2.2.1) rfl ?_; simp only [List.setIfInBounds_toArray, List.set_cons_zero, List.set_cons_succ])
      | (refine pw_quiet (v := .agg cb.toArray) rfl (by rfl) (fun wq hwq => run_load_blk 45 (.tmp 6) rfl (w2.heap.size + 1) _ cb rfl (HT4.out.2.1.kp0 hwq) _ Try.underlying45 rfl HCB.out.2.2.1) rfl ?_; simp only [List.setIfInBounds_toArray, List.set_cons_zero, List.set_cons_succ])
      | (refine pw_quiet (v := .agg (i64s (F3.digs 16 (na : Int))).toArray) rfl (by rfl) (fun wq hwq => run_load_blk 47 (.tmp 7) rfl (w2.heap.size + 1 + 1) _ (i64s (F3.digs 16 (na : Int))) rfl (HT4.out.2.2.1.kp0 hwq) _ Try.underlying47 rfl (infoN _ (numLen _))) rfl ?_; simp only [List.setIfInBounds_toArray, List.set_cons_zero, List.set_cons_succ])
      | (refine pw_quiet (v := .agg (i64s (F3.digs 16 (nb : Int))).toArray) rfl (by rfl) (fun wq hwq => run_load_blk 47 (.tmp 8) rfl (w2.heap.size + 1 + 1 + 1) _ (i64s (F3.digs 16 (nb : Int))) rfl (HT4.out.2.2.2.1.kp0 hwq) _ Try.underlying47 rfl (infoN _ (numLen _))) rfl ?_; simp only [List.setIfInBounds_toArray, List.set_cons_zero, List.set_cons_succ])
      | (refine pw_quiet (v := .bool (F3.digs 16 (na : Int) == F3.digs 16 (nb : Int))) rfl (by rfl) (fun wq _ => run_op_eql wq (.tmp 61) (.tmp 62) rfl (F3.digs 16 (na : Int)) (F3.digs 16 (nb : Int)) rfl rfl Try.underlying47 Try.underlying2 (by kernel_rfl) (by kernel_rfl) (numLen _) (numLen _)) rfl ?_; rw [digs_beq na nb HLA.out HLB.out]; simp only [List.setIfInBounds_toArray, List.set_cons_zero, List.set_cons_succ])
      | (refine pw_quiet (v := ?_) rfl (by rfl) (fun wq hwq => ?_) rfl ?_; rotate_left 1; (focus (go_simp; try (with_reducible rfl); done)); simp only [List.setIfInBounds_toArray, List.set_cons_zero, List.set_cons_succ])
      | (refine pw_skip rfl (by rfl) rfl ?_; simp only [List.setIfInBounds_toArray, List.set_cons_zero, List.set_cons_succ])
      | (refine pw_skipE rfl (by rfl) rfl ?_; simp only [List.setIfInBounds_toArray, List.set_cons_zero, List.set_cons_succ]))
    refine pw_eff rfl (by rfl) (fun K hK => ?_)
    go_simp
    refine (HF.out.same ca cb na nb _ HCA'.out HCB'.out).mono ?_
    rintro e x3 ⟨rfl, hk3⟩
    simp only []
    have HS3 : Hid (Kp0 y4 x3) := Lib.hid (HS2.out.tr hk3)
    clear hk3
    refine hK (fun w' : World => Kp0 y4 w') _ _ (fun x h => h) HS3.out ?_
    clear hK K
    repeat (first
      | (refine pw_quiet (v := .agg ca.toArray) rfl (by rfl) (fun wq hwq => run_load_blk 45 (.tmp 5) rfl w2.heap.size _ ca rfl (HT4.out.1.kp0 hwq) _ Try.underlying45 rfl HCA.out.2.2.1) rfl ?_; simp only [List.setIfInBounds_toArray, List.set_cons_zero, List.set_cons_succ])
      | (refine pw_quiet (v := .agg cb.toArray) rfl (by rfl) (fun wq hwq => run_load_blk 45 (.tmp 6) rfl (w2.heap.size + 1) _ cb rfl (HT4.out.2.1.kp0 hwq) _ Try.underlying45 rfl HCB.out.2.2.1) rfl ?_; simp only [List.setIfInBounds_toArray, List.set_cons_zero, List.set_cons_succ])
      | (refine pw_quiet (v := .agg (i64s (F3.digs 16 (na : Int))).toArray) rfl (by rfl) (fun wq hwq => run_load_blk 47 (.tmp 7) rfl (w2.heap.size + 1 + 1) _ (i64s (F3.digs 16 (na : Int))) rfl (HT4.out.2.2.1.kp0 hwq) _ Try.underlying47 rfl (infoN _ (numLen _))) rfl ?_; simp only [List.setIfInBounds_toArray, List.set_cons_zero, List.set_cons_succ])
      | (refine pw_quiet (v := .agg (i64s (F3.digs 16 (nb : Int))).toArray) rfl (by rfl) (fun wq hwq => run_load_blk 47 (.tmp 8) rfl (w2.heap.size + 1 + 1 + 1) _ (i64s (F3.digs 16 (nb : Int))) rfl (HT4.out.2.2.2.1.kp0 hwq) _ Try.underlying47 rfl (infoN _ (numLen _))) rfl ?_; simp only [List.setIfInBounds_toArray, List.set_cons_zero, List.set_cons_succ])
      | (refine pw_quiet (v := .bool (F3.digs 16 (na : Int) == F3.digs 16 (nb : Int))) rfl (by rfl) (fun wq _ => run_op_eql wq (.tmp 61) (.tmp 62) rfl (F3.digs 16 (na : Int)) (F3.digs 16 (nb : Int)) rfl rfl Try.underlying47 Try.underlying2 (by kernel_rfl) (by kernel_rfl) (numLen _) (numLen _)) rfl ?_; rw [digs_beq na nb HLA.out HLB.out]; simp only [List.setIfInBounds_toArray, List.set_cons_zero, List.set_cons_succ])
      | (refine pw_quiet (v := ?_) rfl (by rfl) (fun wq hwq => ?_) rfl ?_; rotate_left 1; (focus (go_simp; try (with_reducible rfl); done)); simp only [List.setIfInBounds_toArray, List.set_cons_zero, List.set_cons_succ])
      | (refine pw_skip rfl (by rfl) rfl ?_; simp only [List.setIfInBounds_toArray, List.set_cons_zero, List.set_cons_succ])
      | (refine pw_skipE rfl (by rfl) rfl ?_; simp only [List.setIfInBounds_toArray, List.set_cons_zero, List.set_cons_succ]))
    refine pw_eff rfl (by rfl) (fun K hK => ?_)
    go_simp
    refine (HF.out.odd ca na _ HCA'.out).mono ?_
    rintro e x4 ⟨rfl, hk4⟩
    simp only []
    have HS4 : Hid (Kp0 y4 x4) := Lib.hid (HS3.out.tr hk4)
    clear hk4
    refine hK (fun w' : World => Kp0 y4 w') _ _ (fun x h => h) HS4.out ?_
    clear hK K
    repeat (first
      | (refine pw_quiet (v := .agg ca.toArray) rfl (by rfl) (fun wq hwq => run_load_blk 45 (.tmp 5) rfl w2.heap.size _ ca rfl (HT4.out.1.kp0 hwq) _ Try.underlying45 rfl HCA.out.2.2.1) rfl ?_; simp only [List.setIfInBounds_toArray, List.set_cons_zero, List.set_cons_succ])
      | (refine pw_quiet (v := .agg cb.toArray) rfl (by rfl) (fun wq hwq => run_load_blk 45 (.tmp 6) rfl (w2.heap.size + 1) _ cb rfl (HT4.out.2.1.kp0 hwq) _ Try.underlying45 rfl HCB.out.2.2.1) rfl ?_; simp only [List.setIfInBounds_toArray, List.set_cons_zero, List.set_cons_succ])
      | (refine pw_quiet (v := .agg (i64s (F3.digs 16 (na : Int))).toArray) rfl (by rfl) (fun wq hwq => run_load_blk 47 (.tmp 7) rfl (w2.heap.size + 1 + 1) _ (i64s (F3.digs 16 (na : Int))) rfl (HT4.out.2.2.1.kp0 hwq) _ Try.underlying47 rfl (infoN _ (numLen _))) rfl ?_; simp only [List.setIfInBounds_toArray, List.set_cons_zero, List.set_cons_succ])
      | (refine pw_quiet (v := .agg (i64s (F3.digs 16 (nb : Int))).toArray) rfl (by rfl) (fun wq hwq => run_load_blk 47 (.tmp 8) rfl (w2.heap.size + 1 + 1 + 1) _ (i64s (F3.digs 16 (nb : Int))) rfl (HT4.out.2.2.2.1.kp0 hwq) _ Try.underlying47 rfl (infoN _ (numLen _))) rfl ?_; simp only [List.setIfInBounds_toArray, List.set_cons_zero, List.set_cons_succ])
      | (refine pw_quiet (v := .bool (F3.digs 16 (na : Int) == F3.digs 16 (nb : Int))) rfl (by rfl) (fun wq _ => run_op_eql wq (.tmp 61) (.tmp 62) rfl (F3.digs 16 (na : Int)) (F3.digs 16 (nb : Int)) rfl rfl Try.underlying47 Try.underlying2 (by kernel_rfl) (by kernel_rfl) (numLen _) (numLen _)) rfl ?_; rw [digs_beq na nb HLA.out HLB.out]; simp only [List.setIfInBounds_toArray, List.set_cons_zero, List.set_cons_succ])
      | (refine pw_quiet (v := ?_) rfl (by rfl) (fun wq hwq => ?_) rfl ?_; rotate_left 1; (focus (go_simp; try (with_reducible rfl); done)); simp only [List.setIfInBounds_toArray, List.set_cons_zero, List.set_cons_succ])
      | (refine pw_skip rfl (by rfl) rfl ?_; simp only [List.setIfInBounds_toArray, List.set_cons_zero, List.set_cons_succ])
      | (refine pw_skipE rfl (by rfl) rfl ?_; simp only [List.setIfInBounds_toArray, List.set_cons_zero, List.set_cons_succ]))
    refine pw_eff rfl (by rfl) (fun K hK => ?_)
    go_simp
    refine (HF.out.pick true ca cb na nb _ HCA'.out HCB'.out).mono ?_
    rintro e x5 ⟨rfl, hk5⟩
    simp only []
    have HS5 : Hid (Kp0 y4 x5) := Lib.hid (HS4.out.tr hk5)
    clear hk5
    refine hK (fun w' : World => Kp0 y4 w') _ _ (fun x h => h) HS5.out ?_
    clear hK K
    refine pw_eff rfl (by rfl) (fun K hK => ?_)
    go_simp
    refine (like_any HF.out ca na _ HCA'.out).mono ?_
    rintro e x6 ⟨rfl, hk6⟩
    simp only []
    have HS6 : Hid (Kp0 y4 x6) := Lib.hid (HS5.out.tr hk6)
    clear hk6
    refine hK (fun w' : World => Kp0 y4 w') _ _ (fun x h => h) HS6.out ?_
    clear hK K
    repeat (first
      | (refine pw_quiet (v := .agg ca.toArray) rfl (by rfl) (fun wq hwq => run_load_blk 45 (.tmp 5) rfl w2.heap.size _ ca rfl (HT4.out.1.kp0 hwq) _ Try.underlying45 rfl HCA.out.2.2.1) rfl ?_; simp only [List.setIfInBounds_toArray, List.set_cons_zero, List.set_cons_succ])
      | (refine pw_quiet (v := .agg cb.toArray) rfl (by rfl) (fun wq hwq => run_load_blk 45 (.tmp 6) rfl (w2.heap.size + 1) _ cb rfl (HT4.out.2.1.kp0 hwq) _ Try.underlying45 rfl HCB.out.2.2.1) rfl ?_; simp only [List.setIfInBounds_toArray, List.set_cons_zero, List.set_cons_succ])
      | (refine pw_quiet (v := .agg (i64s (F3.digs 16 (na : Int))).toArray) rfl (by rfl) (fun wq hwq => run_load_blk 47 (.tmp 7) rfl (w2.heap.size + 1 + 1) _ (i64s (F3.digs 16 (na : Int))) rfl (HT4.out.2.2.1.kp0 hwq) _ Try.underlying47 rfl (infoN _ (numLen _))) rfl ?_; simp only [List.setIfInBounds_toArray, List.set_cons_zero, List.set_cons_succ])
      | (refine pw_quiet (v := .agg (i64s (F3.digs 16 (nb : Int))).toArray) rfl (by rfl) (fun wq hwq => run_load_blk 47 (.tmp 8) rfl (w2.heap.size + 1 + 1 + 1) _ (i64s (F3.digs 16 (nb : Int))) rfl (HT4.out.2.2.2.1.kp0 hwq) _ Try.underlying47 rfl (infoN _ (numLen _))) rfl ?_; simp only [List.setIfInBounds_toArray, List.set_cons_zero, List.set_cons_succ])
      | (refine pw_quiet (v := .bool (F3.digs 16 (na : Int) == F3.digs 16 (nb : Int))) rfl (by rfl) (fun wq _ => run_op_eql wq (.tmp 61) (.tmp 62) rfl (F3.digs 16 (na : Int)) (F3.digs 16 (nb : Int)) rfl rfl Try.underlying47 Try.underlying2 (by kernel_rfl) (by kernel_rfl) (numLen _) (numLen _)) rfl ?_; rw [digs_beq na nb HLA.out HLB.out]; simp only [List.setIfInBounds_toArray, List.set_cons_zero, List.set_cons_succ])
      | (refine pw_quiet (v := ?_) rfl (by rfl) (fun wq hwq => ?_) rfl ?_; rotate_left 1; (focus (go_simp; try (with_reducible rfl); done)); simp only [List.setIfInBounds_toArray, List.set_cons_zero, List.set_cons_succ])
      | (refine pw_skip rfl (by rfl) rfl ?_; simp only [List.setIfInBounds_toArray, List.set_cons_zero, List.set_cons_succ])
      | (refine pw_skipE rfl (by rfl) rfl ?_; simp only [List.setIfInBounds_toArray, List.set_cons_zero, List.set_cons_succ]))
    refine pw_eff rfl (by rfl) (fun K hK => ?_)
    go_simp
    refine (HF.out.pick false ca cb na nb _ HCA'.out HCB'.out).mono ?_
    rintro e x7 ⟨rfl, hk7⟩
    simp only []
    have HS7 : Hid (Kp0 y4 x7) := Lib.hid (HS6.out.tr hk7)
    clear hk7
    refine hK (fun w' : World => Kp0 y4 w') _ _ (fun x h => h) HS7.out ?_
    clear hK K
    refine pw_eff rfl (by rfl) (fun K hK => ?_)
    go_simp
    refine (like_any HF.out cb nb _ HCB'.out).mono ?_
    rintro e x8 ⟨rfl, hk8⟩
    simp only []
    have HS8 : Hid (Kp0 y4 x8) := Lib.hid (HS7.out.tr hk8)
    clear hk8
    refine hK (fun w' : World => Kp0 y4 w') _ _ (fun x h => h) HS8.out ?_
    clear hK K
    repeat (first
      | (refine pw_quiet (v := .agg ca.toArray) rfl (by rfl) (fun wq hwq => run_load_blk 45 (.tmp 5) rfl w2.heap.size _ ca rfl (HT4.out.1.kp0 hwq) _ Try.underlying45 rfl HCA.out.2.2.1) rfl ?_; simp only [List.setIfInBounds_toArray, List.set_cons_zero, List.set_cons_succ])
      | (refine pw_quiet (v := .agg cb.toArray) rfl (by rfl) (fun wq hwq => run_load_blk 45 (.tmp 6) rfl (w2.heap.size + 1) _ cb rfl (HT4.out.2.1.kp0 hwq) _ Try.underlying45 rfl HCB.out.2.2.1) rfl ?_; simp only [List.setIfInBounds_toArray, List.set_cons_zero, List.set_cons_succ])
      | (refine pw_quiet (v := .agg (i64s (F3.digs 16 (na : Int))).toArray) rfl (by rfl) (fun wq hwq => run_load_blk 47 (.tmp 7) rfl (w2.heap.size + 1 + 1) _ (i64s (F3.digs 16 (na : Int))) rfl (HT4.out.2.2.1.kp0 hwq) _ Try.underlying47 rfl (infoN _ (numLen _))) rfl ?_; simp only [List.setIfInBounds_toArray, List.set_cons_zero, List.set_cons_succ])
      | (refine pw_quiet (v := .agg (i64s (F3.digs 16 (nb : Int))).toArray) rfl (by rfl) (fun wq hwq => run_load_blk 47 (.tmp 8) rfl (w2.heap.size + 1 + 1 + 1) _ (i64s (F3.digs 16 (nb : Int))) rfl (HT4.out.2.2.2.1.kp0 hwq) _ Try.underlying47 rfl (infoN _ (numLen _))) rfl ?_; simp only [List.setIfInBounds_toArray, List.set_cons_zero, List.set_cons_succ])
      | (refine pw_quiet (v := .bool (F3.digs 16 (na : Int) == F3.digs 16 (nb : Int))) rfl (by rfl) (fun wq _ => run_op_eql wq (.tmp 61) (.tmp 62) rfl (F3.digs 16 (na : Int)) (F3.digs 16 (nb : Int)) rfl rfl Try.underlying47 Try.underlying2 (by kernel_rfl) (by kernel_rfl) (numLen _) (numLen _)) rfl ?_; rw [digs_beq na nb HLA.out HLB.out]; simp only [List.setIfInBounds_toArray, List.set_cons_zero, List.set_cons_succ])
      | (refine pw_quiet (v := ?_) rfl (by rfl) (fun wq hwq => ?_) rfl ?_; rotate_left 1; (focus (go_simp; try (with_reducible rfl); done)); simp only [List.setIfInBounds_toArray, List.set_cons_zero, List.set_cons_succ])
      | (refine pw_skip rfl (by rfl) rfl ?_; simp only [List.setIfInBounds_toArray, List.set_cons_zero, List.set_cons_succ])
      | (refine pw_skipE rfl (by rfl) rfl ?_; simp only [List.setIfInBounds_toArray, List.set_cons_zero, List.set_cons_succ]))
    refine pw_done ?_
    go_wp2
    all_goals go_ret
    all_goals exact ⟨by simp, (HK2.out.tr HT4.out.2.2.2.2).tr HS8.out⟩
end Go.Proofs.Ytjfphmmhikamaaa
