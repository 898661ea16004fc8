/- The law FieldRoots: its walk. -/
import Derived.Test.YtjfphmmhikamaaaReads3
namespace Go.Proofs.Ytjfphmmhikamaaa
open Go Go.RowKit
theorem root_want (m : Nat) (h : m < 57896044618658097711785492504343953926634992332820282019728792003956564819949) : decide (Nt.rootOf 57896044618658097711785492504343953926634992332820282019728792003956564819949 19681161376707505956807079304988542015446066515923890162744021073123829784752 m * Nt.rootOf 57896044618658097711785492504343953926634992332820282019728792003956564819949 19681161376707505956807079304988542015446066515923890162744021073123829784752 m % 57896044618658097711785492504343953926634992332820282019728792003956564819949 = m) = true ↔ ∃ y, y * y % 57896044618658097711785492504343953926634992332820282019728792003956564819949 = m := by
  rw [decide_eq_true_iff]
  exact Nt.rootOf_iff Nt.pr25519 (by omega) (by decide +kernel) h
theorem neg_root {y m : Nat} (hy : y < 57896044618658097711785492504343953926634992332820282019728792003956564819949) (hm : m < 57896044618658097711785492504343953926634992332820282019728792003956564819949) (h : y * y % 57896044618658097711785492504343953926634992332820282019728792003956564819949 = m * m % 57896044618658097711785492504343953926634992332820282019728792003956564819949) (hn : ¬ y = m) : y = (0 + 57896044618658097711785492504343953926634992332820282019728792003956564819949 - m) % 57896044618658097711785492504343953926634992332820282019728792003956564819949 := by
  rcases Nt.two_roots Nt.pr25519 hy hm h with e | e
  · exact absurd e hn
  · omega
theorem rootOf_lt {p i a : Nat} (hp : 0 < p) : Nt.rootOf p i a < p := by
  unfold Nt.rootOf
  split
  · exact Nat.mod_lt _ hp
  · exact Nat.mod_lt _ hp
variable {R : List Value → Nat → Prop}
set_option maxRecDepth 20000 in
set_option maxHeartbeats 4000000 in
theorem froots_walk (F : Fld R) (va : Value) (la : List UInt8) (w : World) (hva : Rd w va (bys la)) (hoa : ∀ g, va.ownBlock = some g → g < w.heap.size) :
    Calls Try.prog 8 #[va] w fun e w' => e = .returned (.bool true) ∧ Kp0 w w' := by
  obtain ⟨ao, capa, rfl, ha1, ha2, ha3⟩ := hva.shapeB
  have HF := Lib.hid F
  have HA := Lib.hid hva
  have HOA := Lib.hid hoa
  clear hva hoa F
  go_enter Try.func8, Try.ntmps8
  go_wp2_with fail
  refine (fit_any HF.out _).mono ?_
  rintro e w1 ⟨rfl, hk1⟩
  have HK1 := Lib.hid hk1
  clear hk1
  obtain ⟨ba, hba⟩ : ∃ ba, ba = decide (la.length = 32) := ⟨_, rfl⟩
  have HBA := Lib.hid hba
  clear hba
  go_wp2_with fail
  refine (HF.out.read _ la w1 (HA.out.keep0 HK1.out) (fun g hg => by have := HOA.out g hg; have := HK1.out.size; omega)).mono ?_
  rw [← HBA.out]
  obtain ⟨m, hm⟩ : ∃ m, m = readN la := ⟨_, rfl⟩
  rw [← hm]
  have HM := Lib.hid hm
  clear hm
  rintro e w2 ⟨cs, rfl, hc, hk2⟩
  have HC := Lib.hid hc
  have HK2 := Lib.hid (HK1.out.tr hk2)
  obtain ⟨g, hg⟩ : ∃ g, g = w2.heap.size := ⟨_, rfl⟩
  have HG := Lib.hid hg
  clear hc hk2 hg
  cases ba
  · go_wp2_with (
      (refine wl_store_blk rfl 45 (.tmp 3) (.tmp 16) rfl w2.heap.size _ _ cs rfl rfl (blk0 w2 _ _) HC.out.2.2.1 (len_of (T := 45) (by kernel_rfl) HC.out.2.2.1) HC.out.2.2.2 ?_
       intro w3 hA3 hK3
       rw [← HG.out]
       rw [← HG.out] at hA3
       have HE := Lib.hid hA3
       have HK3 : Hid (Kp0 w w3) := Lib.hid (kp_blk hK3 (HK2.out.alloc _) (by have := HK2.out.size; omega))
       clear hA3 hK3))
    all_goals go_ret
    all_goals exact ⟨rfl, HK3.out⟩
  · go_wp2_with (first
      | (refine wl_store_blk rfl 45 (.tmp 3) (.tmp 16) rfl w2.heap.size _ _ cs rfl rfl (blk0 w2 _ _) HC.out.2.2.1 (len_of (T := 45) (by kernel_rfl) HC.out.2.2.1) HC.out.2.2.2 ?_
         intro w3 hA3 hK3
         rw [← HG.out]
         rw [← HG.out] at hA3
         have HE := Lib.hid hA3
         have HK3 : Hid (Kp0 w w3) := Lib.hid (kp_blk hK3 (HK2.out.alloc _) (by have := HK2.out.size; omega))
         clear hA3 hK3)
      | (refine wl_load_blk rfl 45 (.tmp 3) rfl g _ cs rfl HE.out _ Try.underlying45 rfl HC.out.2.2.1 ?_))
    refine (HF.out.root cs m w3 HC.out).mono ?_
    rintro e w4 ⟨cx, X, bx, rfl, hcx, hx1, hx0, hk4⟩
    have HCX := Lib.hid hcx
    have HX1 := Lib.hid hx1
    have HX0 := Lib.hid hx0
    have HK4 : Hid (Kp0 w3 w4) := Lib.hid hk4
    obtain ⟨g5, hg5⟩ : ∃ g, g = w4.heap.size := ⟨_, rfl⟩
    have HG5 := Lib.hid hg5
    clear hcx hx1 hx0 hk4 hg5
    go_wp2_with (first
      | (refine wl_store_blk rfl 45 (.tmp 5) (.tmp 23) rfl w4.heap.size _ _ cx rfl rfl (blk0 w4 _ _) HCX.out.2.2.1 (len_of (T := 45) (by kernel_rfl) HCX.out.2.2.1) HCX.out.2.2.2 ?_
         intro v5 hA5 hK5
         rw [← HG5.out]
         rw [← HG5.out] at hA5
         have HB5 := Lib.hid hA5
         have hh : Kp0 w4 v5 := kp_blk hK5 ((Kp.refl _ w4).alloc _) (Nat.le_refl _)
         have HE5 := Lib.hid ((HE.out.kp0 HK4.out).kp0 hh)
         have HK5 : Hid (Kp0 w v5) := Lib.hid ((HK3.out.tr HK4.out).tr hh)
         clear hA5 hK5 hh))
    refine (read_any _ la v5 (HA.out.keep0 HK5.out) (of_decide_eq_true HBA.out.symm) (fun g' hg => by have := HOA.out g' hg; have := HK5.out.size; omega)).mono ?_
    rw [show leN la % 57896044618658097711785492504343953926634992332820282019728792003956564819968 % 57896044618658097711785492504343953926634992332820282019728792003956564819949 = m by rw [HM.out, readN, if_pos (of_decide_eq_true HBA.out.symm)]]
    rintro e w6 ⟨rfl, hk6⟩
    have HK6 : Hid (Kp0 v5 w6) := Lib.hid hk6
    clear hk6
    go_wp2_with fail
    refine (root_any m w6 HC.out.2.1).mono ?_
    rintro e w7 ⟨⟨Z, hZ, rfl⟩, hk7⟩
    have HW : Hid (decide (Z * Z % 57896044618658097711785492504343953926634992332820282019728792003956564819949 = m) = bx) := Lib.hid (by
      rw [hZ, Bool.eq_iff_iff, root_want m HC.out.2.1]
      constructor
      · intro h
        cases bx
        · exact absurd h (HX0.out rfl)
        · rfl
      · intro h
        exact ⟨X, HX1.out h⟩)
    have HZL : Hid (Z < 57896044618658097711785492504343953926634992332820282019728792003956564819949) := Lib.hid (by rw [hZ]; exact rootOf_lt (by omega))
    have HK7a : Hid (Kp0 v5 w7) := Lib.hid (HK6.out.tr hk7)
    rw [HW.out]
    obtain ⟨g7, hg7⟩ : ∃ g, g = w7.heap.size := ⟨_, rfl⟩
    have HG7 := Lib.hid hg7
    clear hk7 hg7 hZ
    go_wp2_with (first
      | (refine wl_store_blk rfl 47 (.tmp 7) (.tmp 29) rfl w7.heap.size _ _ (i64s (F3.digs 16 (Z : Int))) rfl rfl (blk0 w7 _ _) (infoN _ (numLen _)) (by rw [i64s_len, numLen]; rfl) (i64s_ones _) ?_
         intro v7 hA7 hK7
         rw [← HG7.out]
         rw [← HG7.out] at hA7
         have HB7 := Lib.hid hA7
         have hh : Kp0 w7 v7 := kp_blk hK7 ((Kp.refl _ w7).alloc _) (Nat.le_refl _)
         have HE7 := Lib.hid ((HE5.out.kp0 HK7a.out).kp0 hh)
         have HX7 := Lib.hid ((HB5.out.kp0 HK7a.out).kp0 hh)
         have HK7 : Hid (Kp0 w v7) := Lib.hid ((HK5.out.tr HK7a.out).tr hh)
         clear hA7 hK7 hh)
      | (refine wl_load_blk rfl 45 (.tmp 3) rfl g _ cs rfl HE7.out _ Try.underlying45 rfl HC.out.2.2.1 ?_))
    refine (HF.out.mul cs cs m m _ HC.out HC.out).mono ?_
    rintro e w8a ⟨cq, rfl, hcq, hk8a⟩
    have HCQ := Lib.hid hcq
    have HK8a := Lib.hid hk8a
    clear hcq hk8a
    go_wp2_with fail
    refine (HF.out.root cq _ w8a HCQ.out).mono ?_
    rintro e w8 ⟨cy, Y, bY, rfl, hcy, hy1, hy0, hk8⟩
    have HCY := Lib.hid hcy
    obtain rfl : bY = true := by
      cases bY
      · exact absurd ⟨m, rfl⟩ (hy0 rfl)
      · rfl
    have HYY := Lib.hid (hy1 rfl)
    have HK78 : Hid (Kp0 v7 w8) := Lib.hid (HK8a.out.tr hk8)
    obtain ⟨g9, hg9⟩ : ∃ g, g = w8.heap.size := ⟨_, rfl⟩
    have HG9 := Lib.hid hg9
    clear hcy hy1 hy0 hk8 hg9
    by_cases hym : Y = m
    · have HYM := Lib.hid hym
      clear hym
      cases bx
      · go_upto_region 9 with (first
          | (refine wl_store_blk rfl 45 (.tmp 9) (.tmp 36) rfl w8.heap.size _ _ cy rfl rfl (blk0 w8 _ _) HCY.out.2.2.1 (len_of (T := 45) (by kernel_rfl) HCY.out.2.2.1) HCY.out.2.2.2 ?_
             intro v9 hA9 hK9
             rw [← HG9.out]
             rw [← HG9.out] at hA9
             have HB9 := Lib.hid hA9
             have hh : Kp0 w8 v9 := kp_blk hK9 ((Kp.refl _ w8).alloc _) (Nat.le_refl _)
             have HE9 := Lib.hid ((HE7.out.kp0 HK78.out).kp0 hh)
             have HX9 := Lib.hid ((HX7.out.kp0 HK78.out).kp0 hh)
             have HK9 : Hid (Kp0 w v9) := Lib.hid ((HK7.out.tr HK78.out).tr hh)
             clear hA9 hK9 hh))
        try simp only [Act.put]
        have HS0 : Hid (Kp0 v9 v9.drew) := Lib.hid ((Kp.refl _ v9).drew)
        refine wp_region_wall [] (fun w' : World => Kp0 v9 w') (.quiet 0 (.quiet 1 (.quiet 2 (.quiet 3 (.quiet 4 (.quiet 5 (.quiet 6 (.quiet 7 (.quiet 8 (.quiet 10 (.eff 9 (.eff 11 (.quiet 12 (.quiet 13 (.quiet 14 (.quiet 15 (.quiet 16 (.quiet 17 (.quiet 18 (.quiet 19 (.eff 20 (.quiet 21 (.quiet 22 (.quiet 24 (.eff 23 (.eff 25 (.eff 26 (.quiet 27 (.quiet 28 (.quiet 29 .done)))))))))))))))))))))))))))))) (by kernel_rfl) (by kernel_rfl) (by kernel_rfl) (by kernel_rfl) (fun _ d _ _ _ h => by cases d <;> exact h) HS0.out ?_
        repeat (first
          | (refine pw_quiet (v := .agg cs.toArray) rfl (by rfl) (fun wq hwq => run_load_blk 45 (.tmp 3) rfl g _ cs rfl (HE9.out.kp0 hwq) _ Try.underlying45 rfl HC.out.2.2.1) rfl ?_; simp only [List.setIfInBounds_toArray, List.set_cons_zero, List.set_cons_succ])
          | (refine pw_quiet (v := .agg cx.toArray) rfl (by rfl) (fun wq hwq => run_load_blk 45 (.tmp 5) rfl g5 _ cx rfl (HX9.out.kp0 hwq) _ Try.underlying45 rfl HCX.out.2.2.1) rfl ?_; simp only [List.setIfInBounds_toArray, List.set_cons_zero, List.set_cons_succ])
          | (refine pw_quiet (v := .agg cy.toArray) rfl (by rfl) (fun wq hwq => run_load_blk 45 (.tmp 9) rfl g9 _ cy rfl (HB9.out.kp0 hwq) _ Try.underlying45 rfl HCY.out.2.2.1) rfl ?_; simp only [List.setIfInBounds_toArray, List.set_cons_zero, List.set_cons_succ])
          | (refine pw_quiet (v := ?_) rfl (by rfl) (fun wq hwq => ?_) rfl ?_; rotate_left 1; (focus (go_simp; try (with_reducible rfl); done)); simp only [List.setIfInBounds_toArray, List.set_cons_zero, List.set_cons_succ])
          | (refine pw_skip rfl (by rfl) rfl ?_; simp only [List.setIfInBounds_toArray, List.set_cons_zero, List.set_cons_succ])
          | (refine pw_skipE rfl (by rfl) rfl ?_; simp only [List.setIfInBounds_toArray, List.set_cons_zero, List.set_cons_succ]))
        refine pw_eff rfl (by rfl) (fun K hK => ?_)
        go_simp
        refine (HF.out.same cy cs _ _ _ HCY.out HC.out).mono ?_
        rw [decide_eq_true HYM.out]
        rintro e x1 ⟨rfl, hk1⟩
        simp only []
        have HS1 : Hid (Kp0 v9 x1) := Lib.hid (HS0.out.tr hk1)
        clear hk1
        refine hK (fun w' : World => Kp0 v9 w') _ _ (fun x h => h) HS1.out ?_
        clear hK K
        repeat (first
          | (refine pw_quiet (v := .agg cs.toArray) rfl (by rfl) (fun wq hwq => run_load_blk 45 (.tmp 3) rfl g _ cs rfl (HE9.out.kp0 hwq) _ Try.underlying45 rfl HC.out.2.2.1) rfl ?_; simp only [List.setIfInBounds_toArray, List.set_cons_zero, List.set_cons_succ])
          | (refine pw_quiet (v := .agg cx.toArray) rfl (by rfl) (fun wq hwq => run_load_blk 45 (.tmp 5) rfl g5 _ cx rfl (HX9.out.kp0 hwq) _ Try.underlying45 rfl HCX.out.2.2.1) rfl ?_; simp only [List.setIfInBounds_toArray, List.set_cons_zero, List.set_cons_succ])
          | (refine pw_quiet (v := .agg cy.toArray) rfl (by rfl) (fun wq hwq => run_load_blk 45 (.tmp 9) rfl g9 _ cy rfl (HB9.out.kp0 hwq) _ Try.underlying45 rfl HCY.out.2.2.1) rfl ?_; simp only [List.setIfInBounds_toArray, List.set_cons_zero, List.set_cons_succ])
          | (refine pw_quiet (v := ?_) rfl (by rfl) (fun wq hwq => ?_) rfl ?_; rotate_left 1; (focus (go_simp; try (with_reducible rfl); done)); simp only [List.setIfInBounds_toArray, List.set_cons_zero, List.set_cons_succ])
          | (refine pw_skip rfl (by rfl) rfl ?_; simp only [List.setIfInBounds_toArray, List.set_cons_zero, List.set_cons_succ])
          | (refine pw_skipE rfl (by rfl) rfl ?_; simp only [List.setIfInBounds_toArray, List.set_cons_zero, List.set_cons_succ]))
        refine pw_done ?_
        go_wp2
        all_goals go_ret
        all_goals exact ⟨by simp, HK9.out.tr HS1.out⟩
      · have HXX := Lib.hid (HX1.out rfl)
        go_upto_region 9 with (first
          | (refine wl_store_blk rfl 45 (.tmp 9) (.tmp 36) rfl w8.heap.size _ _ cy rfl rfl (blk0 w8 _ _) HCY.out.2.2.1 (len_of (T := 45) (by kernel_rfl) HCY.out.2.2.1) HCY.out.2.2.2 ?_
             intro v9 hA9 hK9
             rw [← HG9.out]
             rw [← HG9.out] at hA9
             have HB9 := Lib.hid hA9
             have hh : Kp0 w8 v9 := kp_blk hK9 ((Kp.refl _ w8).alloc _) (Nat.le_refl _)
             have HE9 := Lib.hid ((HE7.out.kp0 HK78.out).kp0 hh)
             have HX9 := Lib.hid ((HX7.out.kp0 HK78.out).kp0 hh)
             have HK9 : Hid (Kp0 w v9) := Lib.hid ((HK7.out.tr HK78.out).tr hh)
             clear hA9 hK9 hh))
        try simp only [Act.put]
        have HS0 : Hid (Kp0 v9 v9.drew) := Lib.hid ((Kp.refl _ v9).drew)
        refine wp_region_wall [] (fun w' : World => Kp0 v9 w') (.quiet 0 (.quiet 1 (.quiet 2 (.quiet 3 (.quiet 4 (.quiet 5 (.quiet 6 (.quiet 7 (.quiet 8 (.quiet 10 (.eff 9 (.eff 11 (.quiet 12 (.quiet 13 (.quiet 14 (.quiet 15 (.quiet 16 (.quiet 17 (.quiet 18 (.quiet 19 (.eff 20 (.quiet 21 (.quiet 22 (.quiet 24 (.eff 23 (.eff 25 (.eff 26 (.quiet 27 (.quiet 28 (.quiet 29 .done)))))))))))))))))))))))))))))) (by kernel_rfl) (by kernel_rfl) (by kernel_rfl) (by kernel_rfl) (fun _ d _ _ _ h => by cases d <;> exact h) HS0.out ?_
        repeat (first
          | (refine pw_quiet (v := .agg cs.toArray) rfl (by rfl) (fun wq hwq => run_load_blk 45 (.tmp 3) rfl g _ cs rfl (HE9.out.kp0 hwq) _ Try.underlying45 rfl HC.out.2.2.1) rfl ?_; simp only [List.setIfInBounds_toArray, List.set_cons_zero, List.set_cons_succ])
          | (refine pw_quiet (v := .agg cx.toArray) rfl (by rfl) (fun wq hwq => run_load_blk 45 (.tmp 5) rfl g5 _ cx rfl (HX9.out.kp0 hwq) _ Try.underlying45 rfl HCX.out.2.2.1) rfl ?_; simp only [List.setIfInBounds_toArray, List.set_cons_zero, List.set_cons_succ])
          | (refine pw_quiet (v := .agg cy.toArray) rfl (by rfl) (fun wq hwq => run_load_blk 45 (.tmp 9) rfl g9 _ cy rfl (HB9.out.kp0 hwq) _ Try.underlying45 rfl HCY.out.2.2.1) rfl ?_; simp only [List.setIfInBounds_toArray, List.set_cons_zero, List.set_cons_succ])
          | (refine pw_quiet (v := ?_) rfl (by rfl) (fun wq hwq => ?_) rfl ?_; rotate_left 1; (focus (go_simp; try (with_reducible rfl); done)); simp only [List.setIfInBounds_toArray, List.set_cons_zero, List.set_cons_succ])
          | (refine pw_skip rfl (by rfl) rfl ?_; simp only [List.setIfInBounds_toArray, List.set_cons_zero, List.set_cons_succ])
          | (refine pw_skipE rfl (by rfl) rfl ?_; simp only [List.setIfInBounds_toArray, List.set_cons_zero, List.set_cons_succ]))
        refine pw_eff rfl (by rfl) (fun K hK => ?_)
        go_simp
        refine (HF.out.mul cx cx _ _ _ HCX.out HCX.out).mono ?_
        rintro e x1 ⟨c1, rfl, hc1, hk1⟩
        have Hc1 := Lib.hid hc1
        clear hc1
        simp only []
        have HS1 : Hid (Kp0 v9 x1) := Lib.hid (HS0.out.tr hk1)
        clear hk1
        refine hK (fun w' : World => Kp0 v9 w') _ _ (fun x h => h) HS1.out ?_
        clear hK K
        refine pw_eff rfl (by rfl) (fun K hK => ?_)
        go_simp
        refine (HF.out.same c1 cs _ _ _ Hc1.out HC.out).mono ?_
        rw [HXX.out, decide_eq_true rfl]
        rintro e x2 ⟨rfl, hk2⟩
        simp only []
        have HS2 : Hid (Kp0 v9 x2) := Lib.hid (HS1.out.tr hk2)
        clear hk2
        refine hK (fun w' : World => Kp0 v9 w') _ _ (fun x h => h) HS2.out ?_
        clear hK K
        repeat (first
          | (refine pw_quiet (v := .agg cs.toArray) rfl (by rfl) (fun wq hwq => run_load_blk 45 (.tmp 3) rfl g _ cs rfl (HE9.out.kp0 hwq) _ Try.underlying45 rfl HC.out.2.2.1) rfl ?_; simp only [List.setIfInBounds_toArray, List.set_cons_zero, List.set_cons_succ])
          | (refine pw_quiet (v := .agg cx.toArray) rfl (by rfl) (fun wq hwq => run_load_blk 45 (.tmp 5) rfl g5 _ cx rfl (HX9.out.kp0 hwq) _ Try.underlying45 rfl HCX.out.2.2.1) rfl ?_; simp only [List.setIfInBounds_toArray, List.set_cons_zero, List.set_cons_succ])
          | (refine pw_quiet (v := .agg cy.toArray) rfl (by rfl) (fun wq hwq => run_load_blk 45 (.tmp 9) rfl g9 _ cy rfl (HB9.out.kp0 hwq) _ Try.underlying45 rfl HCY.out.2.2.1) rfl ?_; simp only [List.setIfInBounds_toArray, List.set_cons_zero, List.set_cons_succ])
          | (refine pw_quiet (v := ?_) rfl (by rfl) (fun wq hwq => ?_) rfl ?_; rotate_left 1; (focus (go_simp; try (with_reducible rfl); done)); simp only [List.setIfInBounds_toArray, List.set_cons_zero, List.set_cons_succ])
          | (refine pw_skip rfl (by rfl) rfl ?_; simp only [List.setIfInBounds_toArray, List.set_cons_zero, List.set_cons_succ])
          | (refine pw_skipE rfl (by rfl) rfl ?_; simp only [List.setIfInBounds_toArray, List.set_cons_zero, List.set_cons_succ]))
        refine pw_eff rfl (by rfl) (fun K hK => ?_)
        go_simp
        refine (HF.out.same cy cs _ _ _ HCY.out HC.out).mono ?_
        rw [decide_eq_true HYM.out]
        rintro e x3 ⟨rfl, hk3⟩
        simp only []
        have HS3 : Hid (Kp0 v9 x3) := Lib.hid (HS2.out.tr hk3)
        clear hk3
        refine hK (fun w' : World => Kp0 v9 w') _ _ (fun x h => h) HS3.out ?_
        clear hK K
        repeat (first
          | (refine pw_quiet (v := .agg cs.toArray) rfl (by rfl) (fun wq hwq => run_load_blk 45 (.tmp 3) rfl g _ cs rfl (HE9.out.kp0 hwq) _ Try.underlying45 rfl HC.out.2.2.1) rfl ?_; simp only [List.setIfInBounds_toArray, List.set_cons_zero, List.set_cons_succ])
          | (refine pw_quiet (v := .agg cx.toArray) rfl (by rfl) (fun wq hwq => run_load_blk 45 (.tmp 5) rfl g5 _ cx rfl (HX9.out.kp0 hwq) _ Try.underlying45 rfl HCX.out.2.2.1) rfl ?_; simp only [List.setIfInBounds_toArray, List.set_cons_zero, List.set_cons_succ])
          | (refine pw_quiet (v := .agg cy.toArray) rfl (by rfl) (fun wq hwq => run_load_blk 45 (.tmp 9) rfl g9 _ cy rfl (HB9.out.kp0 hwq) _ Try.underlying45 rfl HCY.out.2.2.1) rfl ?_; simp only [List.setIfInBounds_toArray, List.set_cons_zero, List.set_cons_succ])
          | (refine pw_quiet (v := ?_) rfl (by rfl) (fun wq hwq => ?_) rfl ?_; rotate_left 1; (focus (go_simp; try (with_reducible rfl); done)); simp only [List.setIfInBounds_toArray, List.set_cons_zero, List.set_cons_succ])
          | (refine pw_skip rfl (by rfl) rfl ?_; simp only [List.setIfInBounds_toArray, List.set_cons_zero, List.set_cons_succ])
          | (refine pw_skipE rfl (by rfl) rfl ?_; simp only [List.setIfInBounds_toArray, List.set_cons_zero, List.set_cons_succ]))
        refine pw_done ?_
        go_wp2
        all_goals go_ret
        all_goals exact ⟨by simp, HK9.out.tr HS3.out⟩
    · have HYN := Lib.hid (neg_root HCY.out.2.1 HC.out.2.1 HYY.out hym)
      have HYM := Lib.hid hym
      clear hym
      cases bx
      · go_upto_region 9 with (first
          | (refine wl_store_blk rfl 45 (.tmp 9) (.tmp 36) rfl w8.heap.size _ _ cy rfl rfl (blk0 w8 _ _) HCY.out.2.2.1 (len_of (T := 45) (by kernel_rfl) HCY.out.2.2.1) HCY.out.2.2.2 ?_
             intro v9 hA9 hK9
             rw [← HG9.out]
             rw [← HG9.out] at hA9
             have HB9 := Lib.hid hA9
             have hh : Kp0 w8 v9 := kp_blk hK9 ((Kp.refl _ w8).alloc _) (Nat.le_refl _)
             have HE9 := Lib.hid ((HE7.out.kp0 HK78.out).kp0 hh)
             have HX9 := Lib.hid ((HX7.out.kp0 HK78.out).kp0 hh)
             have HK9 : Hid (Kp0 w v9) := Lib.hid ((HK7.out.tr HK78.out).tr hh)
             clear hA9 hK9 hh))
        try simp only [Act.put]
        have HS0 : Hid (Kp0 v9 v9.drew) := Lib.hid ((Kp.refl _ v9).drew)
        refine wp_region_wall [] (fun w' : World => Kp0 v9 w') (.quiet 0 (.quiet 1 (.quiet 2 (.quiet 3 (.quiet 4 (.quiet 5 (.quiet 6 (.quiet 7 (.quiet 8 (.quiet 10 (.eff 9 (.eff 11 (.quiet 12 (.quiet 13 (.quiet 14 (.quiet 15 (.quiet 16 (.quiet 17 (.quiet 18 (.quiet 19 (.eff 20 (.quiet 21 (.quiet 22 (.quiet 24 (.eff 23 (.eff 25 (.eff 26 (.quiet 27 (.quiet 28 (.quiet 29 .done)))))))))))))))))))))))))))))) (by kernel_rfl) (by kernel_rfl) (by kernel_rfl) (by kernel_rfl) (fun _ d _ _ _ h => by cases d <;> exact h) HS0.out ?_
        repeat (first
          | (refine pw_quiet (v := .agg cs.toArray) rfl (by rfl) (fun wq hwq => run_load_blk 45 (.tmp 3) rfl g _ cs rfl (HE9.out.kp0 hwq) _ Try.underlying45 rfl HC.out.2.2.1) rfl ?_; simp only [List.setIfInBounds_toArray, List.set_cons_zero, List.set_cons_succ])
          | (refine pw_quiet (v := .agg cx.toArray) rfl (by rfl) (fun wq hwq => run_load_blk 45 (.tmp 5) rfl g5 _ cx rfl (HX9.out.kp0 hwq) _ Try.underlying45 rfl HCX.out.2.2.1) rfl ?_; simp only [List.setIfInBounds_toArray, List.set_cons_zero, List.set_cons_succ])
          | (refine pw_quiet (v := .agg cy.toArray) rfl (by rfl) (fun wq hwq => run_load_blk 45 (.tmp 9) rfl g9 _ cy rfl (HB9.out.kp0 hwq) _ Try.underlying45 rfl HCY.out.2.2.1) rfl ?_; simp only [List.setIfInBounds_toArray, List.set_cons_zero, List.set_cons_succ])
          | (refine pw_quiet (v := ?_) rfl (by rfl) (fun wq hwq => ?_) rfl ?_; rotate_left 1; (focus (go_simp; try (with_reducible rfl); done)); simp only [List.setIfInBounds_toArray, List.set_cons_zero, List.set_cons_succ])
          | (refine pw_skip rfl (by rfl) rfl ?_; simp only [List.setIfInBounds_toArray, List.set_cons_zero, List.set_cons_succ])
          | (refine pw_skipE rfl (by rfl) rfl ?_; simp only [List.setIfInBounds_toArray, List.set_cons_zero, List.set_cons_succ]))
        refine pw_eff rfl (by rfl) (fun K hK => ?_)
        go_simp
        refine (HF.out.same cy cs _ _ _ HCY.out HC.out).mono ?_
        rw [decide_eq_false HYM.out]
        rintro e x1 ⟨rfl, hk1⟩
        simp only []
        have HS1 : Hid (Kp0 v9 x1) := Lib.hid (HS0.out.tr hk1)
        clear hk1
        refine hK (fun w' : World => Kp0 v9 w') _ _ (fun x h => h) HS1.out ?_
        clear hK K
        repeat (first
          | (refine pw_quiet (v := .agg cs.toArray) rfl (by rfl) (fun wq hwq => run_load_blk 45 (.tmp 3) rfl g _ cs rfl (HE9.out.kp0 hwq) _ Try.underlying45 rfl HC.out.2.2.1) rfl ?_; simp only [List.setIfInBounds_toArray, List.set_cons_zero, List.set_cons_succ])
          | (refine pw_quiet (v := .agg cx.toArray) rfl (by rfl) (fun wq hwq => run_load_blk 45 (.tmp 5) rfl g5 _ cx rfl (HX9.out.kp0 hwq) _ Try.underlying45 rfl HCX.out.2.2.1) rfl ?_; simp only [List.setIfInBounds_toArray, List.set_cons_zero, List.set_cons_succ])
          | (refine pw_quiet (v := .agg cy.toArray) rfl (by rfl) (fun wq hwq => run_load_blk 45 (.tmp 9) rfl g9 _ cy rfl (HB9.out.kp0 hwq) _ Try.underlying45 rfl HCY.out.2.2.1) rfl ?_; simp only [List.setIfInBounds_toArray, List.set_cons_zero, List.set_cons_succ])
          | (refine pw_quiet (v := ?_) rfl (by rfl) (fun wq hwq => ?_) rfl ?_; rotate_left 1; (focus (go_simp; try (with_reducible rfl); done)); simp only [List.setIfInBounds_toArray, List.set_cons_zero, List.set_cons_succ])
          | (refine pw_skip rfl (by rfl) rfl ?_; simp only [List.setIfInBounds_toArray, List.set_cons_zero, List.set_cons_succ])
          | (refine pw_skipE rfl (by rfl) rfl ?_; simp only [List.setIfInBounds_toArray, List.set_cons_zero, List.set_cons_succ]))
        refine pw_eff rfl (by rfl) (fun K hK => ?_)
        go_simp
        refine (HF.out.small 0 _ (by omega)).mono ?_
        rintro e x2 ⟨c3, rfl, hc2, hk2⟩
        have Hc3 := Lib.hid hc2
        clear hc2
        simp only []
        have HS2 : Hid (Kp0 v9 x2) := Lib.hid (HS1.out.tr hk2)
        clear hk2
        refine hK (fun w' : World => Kp0 v9 w') _ _ (fun x h => h) HS2.out ?_
        clear hK K
        refine pw_eff rfl (by rfl) (fun K hK => ?_)
        go_simp
        refine (HF.out.sub c3 cs _ _ _ Hc3.out HC.out).mono ?_
        rintro e x3 ⟨c4, rfl, hc3, hk3⟩
        have Hc4 := Lib.hid hc3
        clear hc3
        simp only []
        have HS3 : Hid (Kp0 v9 x3) := Lib.hid (HS2.out.tr hk3)
        clear hk3
        refine hK (fun w' : World => Kp0 v9 w') _ _ (fun x h => h) HS3.out ?_
        clear hK K
        refine pw_eff rfl (by rfl) (fun K hK => ?_)
        go_simp
        refine (HF.out.same cy c4 _ _ _ HCY.out Hc4.out).mono ?_
        rw [decide_eq_true HYN.out]
        rintro e x4 ⟨rfl, hk4⟩
        simp only []
        have HS4 : Hid (Kp0 v9 x4) := Lib.hid (HS3.out.tr hk4)
        clear hk4
        refine hK (fun w' : World => Kp0 v9 w') _ _ (fun x h => h) HS4.out ?_
        clear hK K
        repeat (first
          | (refine pw_quiet (v := .agg cs.toArray) rfl (by rfl) (fun wq hwq => run_load_blk 45 (.tmp 3) rfl g _ cs rfl (HE9.out.kp0 hwq) _ Try.underlying45 rfl HC.out.2.2.1) rfl ?_; simp only [List.setIfInBounds_toArray, List.set_cons_zero, List.set_cons_succ])
          | (refine pw_quiet (v := .agg cx.toArray) rfl (by rfl) (fun wq hwq => run_load_blk 45 (.tmp 5) rfl g5 _ cx rfl (HX9.out.kp0 hwq) _ Try.underlying45 rfl HCX.out.2.2.1) rfl ?_; simp only [List.setIfInBounds_toArray, List.set_cons_zero, List.set_cons_succ])
          | (refine pw_quiet (v := .agg cy.toArray) rfl (by rfl) (fun wq hwq => run_load_blk 45 (.tmp 9) rfl g9 _ cy rfl (HB9.out.kp0 hwq) _ Try.underlying45 rfl HCY.out.2.2.1) rfl ?_; simp only [List.setIfInBounds_toArray, List.set_cons_zero, List.set_cons_succ])
          | (refine pw_quiet (v := ?_) rfl (by rfl) (fun wq hwq => ?_) rfl ?_; rotate_left 1; (focus (go_simp; try (with_reducible rfl); done)); simp only [List.setIfInBounds_toArray, List.set_cons_zero, List.set_cons_succ])
          | (refine pw_skip rfl (by rfl) rfl ?_; simp only [List.setIfInBounds_toArray, List.set_cons_zero, List.set_cons_succ])
          | (refine pw_skipE rfl (by rfl) rfl ?_; simp only [List.setIfInBounds_toArray, List.set_cons_zero, List.set_cons_succ]))
        refine pw_done ?_
        go_wp2
        all_goals go_ret
        all_goals exact ⟨by simp, HK9.out.tr HS4.out⟩
      · have HXX := Lib.hid (HX1.out rfl)
        go_upto_region 9 with (first
          | (refine wl_store_blk rfl 45 (.tmp 9) (.tmp 36) rfl w8.heap.size _ _ cy rfl rfl (blk0 w8 _ _) HCY.out.2.2.1 (len_of (T := 45) (by kernel_rfl) HCY.out.2.2.1) HCY.out.2.2.2 ?_
             intro v9 hA9 hK9
             rw [← HG9.out]
             rw [← HG9.out] at hA9
             have HB9 := Lib.hid hA9
             have hh : Kp0 w8 v9 := kp_blk hK9 ((Kp.refl _ w8).alloc _) (Nat.le_refl _)
             have HE9 := Lib.hid ((HE7.out.kp0 HK78.out).kp0 hh)
             have HX9 := Lib.hid ((HX7.out.kp0 HK78.out).kp0 hh)
             have HK9 : Hid (Kp0 w v9) := Lib.hid ((HK7.out.tr HK78.out).tr hh)
             clear hA9 hK9 hh))
        try simp only [Act.put]
        have HS0 : Hid (Kp0 v9 v9.drew) := Lib.hid ((Kp.refl _ v9).drew)
        refine wp_region_wall [] (fun w' : World => Kp0 v9 w') (.quiet 0 (.quiet 1 (.quiet 2 (.quiet 3 (.quiet 4 (.quiet 5 (.quiet 6 (.quiet 7 (.quiet 8 (.quiet 10 (.eff 9 (.eff 11 (.quiet 12 (.quiet 13 (.quiet 14 (.quiet 15 (.quiet 16 (.quiet 17 (.quiet 18 (.quiet 19 (.eff 20 (.quiet 21 (.quiet 22 (.quiet 24 (.eff 23 (.eff 25 (.eff 26 (.quiet 27 (.quiet 28 (.quiet 29 .done)))))))))))))))))))))))))))))) (by kernel_rfl) (by kernel_rfl) (by kernel_rfl) (by kernel_rfl) (fun _ d _ _ _ h => by cases d <;> exact h) HS0.out ?_
        repeat (first
          | (refine pw_quiet (v := .agg cs.toArray) rfl (by rfl) (fun wq hwq => run_load_blk 45 (.tmp 3) rfl g _ cs rfl (HE9.out.kp0 hwq) _ Try.underlying45 rfl HC.out.2.2.1) rfl ?_; simp only [List.setIfInBounds_toArray, List.set_cons_zero, List.set_cons_succ])
          | (refine pw_quiet (v := .agg cx.toArray) rfl (by rfl) (fun wq hwq => run_load_blk 45 (.tmp 5) rfl g5 _ cx rfl (HX9.out.kp0 hwq) _ Try.underlying45 rfl HCX.out.2.2.1) rfl ?_; simp only [List.setIfInBounds_toArray, List.set_cons_zero, List.set_cons_succ])
          | (refine pw_quiet (v := .agg cy.toArray) rfl (by rfl) (fun wq hwq => run_load_blk 45 (.tmp 9) rfl g9 _ cy rfl (HB9.out.kp0 hwq) _ Try.underlying45 rfl HCY.out.2.2.1) rfl ?_; simp only [List.setIfInBounds_toArray, List.set_cons_zero, List.set_cons_succ])
          | (refine pw_quiet (v := ?_) rfl (by rfl) (fun wq hwq => ?_) rfl ?_; rotate_left 1; (focus (go_simp; try (with_reducible rfl); done)); simp only [List.setIfInBounds_toArray, List.set_cons_zero, List.set_cons_succ])
          | (refine pw_skip rfl (by rfl) rfl ?_; simp only [List.setIfInBounds_toArray, List.set_cons_zero, List.set_cons_succ])
          | (refine pw_skipE rfl (by rfl) rfl ?_; simp only [List.setIfInBounds_toArray, List.set_cons_zero, List.set_cons_succ]))
        refine pw_eff rfl (by rfl) (fun K hK => ?_)
        go_simp
        refine (HF.out.mul cx cx _ _ _ HCX.out HCX.out).mono ?_
        rintro e x1 ⟨c1, rfl, hc1, hk1⟩
        have Hc1 := Lib.hid hc1
        clear hc1
        simp only []
        have HS1 : Hid (Kp0 v9 x1) := Lib.hid (HS0.out.tr hk1)
        clear hk1
        refine hK (fun w' : World => Kp0 v9 w') _ _ (fun x h => h) HS1.out ?_
        clear hK K
        refine pw_eff rfl (by rfl) (fun K hK => ?_)
        go_simp
        refine (HF.out.same c1 cs _ _ _ Hc1.out HC.out).mono ?_
        rw [HXX.out, decide_eq_true rfl]
        rintro e x2 ⟨rfl, hk2⟩
        simp only []
        have HS2 : Hid (Kp0 v9 x2) := Lib.hid (HS1.out.tr hk2)
        clear hk2
        refine hK (fun w' : World => Kp0 v9 w') _ _ (fun x h => h) HS2.out ?_
        clear hK K
        repeat (first
          | (refine pw_quiet (v := .agg cs.toArray) rfl (by rfl) (fun wq hwq => run_load_blk 45 (.tmp 3) rfl g _ cs rfl (HE9.out.kp0 hwq) _ Try.underlying45 rfl HC.out.2.2.1) rfl ?_; simp only [List.setIfInBounds_toArray, List.set_cons_zero, List.set_cons_succ])
          | (refine pw_quiet (v := .agg cx.toArray) rfl (by rfl) (fun wq hwq => run_load_blk 45 (.tmp 5) rfl g5 _ cx rfl (HX9.out.kp0 hwq) _ Try.underlying45 rfl HCX.out.2.2.1) rfl ?_; simp only [List.setIfInBounds_toArray, List.set_cons_zero, List.set_cons_succ])
          | (refine pw_quiet (v := .agg cy.toArray) rfl (by rfl) (fun wq hwq => run_load_blk 45 (.tmp 9) rfl g9 _ cy rfl (HB9.out.kp0 hwq) _ Try.underlying45 rfl HCY.out.2.2.1) rfl ?_; simp only [List.setIfInBounds_toArray, List.set_cons_zero, List.set_cons_succ])
          | (refine pw_quiet (v := ?_) rfl (by rfl) (fun wq hwq => ?_) rfl ?_; rotate_left 1; (focus (go_simp; try (with_reducible rfl); done)); simp only [List.setIfInBounds_toArray, List.set_cons_zero, List.set_cons_succ])
          | (refine pw_skip rfl (by rfl) rfl ?_; simp only [List.setIfInBounds_toArray, List.set_cons_zero, List.set_cons_succ])
          | (refine pw_skipE rfl (by rfl) rfl ?_; simp only [List.setIfInBounds_toArray, List.set_cons_zero, List.set_cons_succ]))
        refine pw_eff rfl (by rfl) (fun K hK => ?_)
        go_simp
        refine (HF.out.same cy cs _ _ _ HCY.out HC.out).mono ?_
        rw [decide_eq_false HYM.out]
        rintro e x3 ⟨rfl, hk3⟩
        simp only []
        have HS3 : Hid (Kp0 v9 x3) := Lib.hid (HS2.out.tr hk3)
        clear hk3
        refine hK (fun w' : World => Kp0 v9 w') _ _ (fun x h => h) HS3.out ?_
        clear hK K
        repeat (first
          | (refine pw_quiet (v := .agg cs.toArray) rfl (by rfl) (fun wq hwq => run_load_blk 45 (.tmp 3) rfl g _ cs rfl (HE9.out.kp0 hwq) _ Try.underlying45 rfl HC.out.2.2.1) rfl ?_; simp only [List.setIfInBounds_toArray, List.set_cons_zero, List.set_cons_succ])
          | (refine pw_quiet (v := .agg cx.toArray) rfl (by rfl) (fun wq hwq => run_load_blk 45 (.tmp 5) rfl g5 _ cx rfl (HX9.out.kp0 hwq) _ Try.underlying45 rfl HCX.out.2.2.1) rfl ?_; simp only [List.setIfInBounds_toArray, List.set_cons_zero, List.set_cons_succ])
          | (refine pw_quiet (v := .agg cy.toArray) rfl (by rfl) (fun wq hwq => run_load_blk 45 (.tmp 9) rfl g9 _ cy rfl (HB9.out.kp0 hwq) _ Try.underlying45 rfl HCY.out.2.2.1) rfl ?_; simp only [List.setIfInBounds_toArray, List.set_cons_zero, List.set_cons_succ])
          | (refine pw_quiet (v := ?_) rfl (by rfl) (fun wq hwq => ?_) rfl ?_; rotate_left 1; (focus (go_simp; try (with_reducible rfl); done)); simp only [List.setIfInBounds_toArray, List.set_cons_zero, List.set_cons_succ])
          | (refine pw_skip rfl (by rfl) rfl ?_; simp only [List.setIfInBounds_toArray, List.set_cons_zero, List.set_cons_succ])
          | (refine pw_skipE rfl (by rfl) rfl ?_; simp only [List.setIfInBounds_toArray, List.set_cons_zero, List.set_cons_succ]))
        refine pw_eff rfl (by rfl) (fun K hK => ?_)
        go_simp
        refine (HF.out.small 0 _ (by omega)).mono ?_
        rintro e x4 ⟨c3, rfl, hc4, hk4⟩
        have Hc3 := Lib.hid hc4
        clear hc4
        simp only []
        have HS4 : Hid (Kp0 v9 x4) := Lib.hid (HS3.out.tr hk4)
        clear hk4
        refine hK (fun w' : World => Kp0 v9 w') _ _ (fun x h => h) HS4.out ?_
        clear hK K
        refine pw_eff rfl (by rfl) (fun K hK => ?_)
        go_simp
        refine (HF.out.sub c3 cs _ _ _ Hc3.out HC.out).mono ?_
        rintro e x5 ⟨c4, rfl, hc5, hk5⟩
        have Hc4 := Lib.hid hc5
        clear hc5
        simp only []
        have HS5 : Hid (Kp0 v9 x5) := Lib.hid (HS4.out.tr hk5)
        clear hk5
        refine hK (fun w' : World => Kp0 v9 w') _ _ (fun x h => h) HS5.out ?_
        clear hK K
        refine pw_eff rfl (by rfl) (fun K hK => ?_)
        go_simp
        refine (HF.out.same cy c4 _ _ _ HCY.out Hc4.out).mono ?_
        rw [decide_eq_true HYN.out]
        rintro e x6 ⟨rfl, hk6⟩
        simp only []
        have HS6 : Hid (Kp0 v9 x6) := Lib.hid (HS5.out.tr hk6)
        clear hk6
        refine hK (fun w' : World => Kp0 v9 w') _ _ (fun x h => h) HS6.out ?_
        clear hK K
        repeat (first
          | (refine pw_quiet (v := .agg cs.toArray) rfl (by rfl) (fun wq hwq => run_load_blk 45 (.tmp 3) rfl g _ cs rfl (HE9.out.kp0 hwq) _ Try.underlying45 rfl HC.out.2.2.1) rfl ?_; simp only [List.setIfInBounds_toArray, List.set_cons_zero, List.set_cons_succ])
          | (refine pw_quiet (v := .agg cx.toArray) rfl (by rfl) (fun wq hwq => run_load_blk 45 (.tmp 5) rfl g5 _ cx rfl (HX9.out.kp0 hwq) _ Try.underlying45 rfl HCX.out.2.2.1) rfl ?_; simp only [List.setIfInBounds_toArray, List.set_cons_zero, List.set_cons_succ])
          | (refine pw_quiet (v := .agg cy.toArray) rfl (by rfl) (fun wq hwq => run_load_blk 45 (.tmp 9) rfl g9 _ cy rfl (HB9.out.kp0 hwq) _ Try.underlying45 rfl HCY.out.2.2.1) rfl ?_; simp only [List.setIfInBounds_toArray, List.set_cons_zero, List.set_cons_succ])
          | (refine pw_quiet (v := ?_) rfl (by rfl) (fun wq hwq => ?_) rfl ?_; rotate_left 1; (focus (go_simp; try (with_reducible rfl); done)); simp only [List.setIfInBounds_toArray, List.set_cons_zero, List.set_cons_succ])
          | (refine pw_skip rfl (by rfl) rfl ?_; simp only [List.setIfInBounds_toArray, List.set_cons_zero, List.set_cons_succ])
          | (refine pw_skipE rfl (by rfl) rfl ?_; simp only [List.setIfInBounds_toArray, List.set_cons_zero, List.set_cons_succ]))
        refine pw_done ?_
        go_wp2
        all_goals go_ret
        all_goals exact ⟨by simp, HK9.out.tr HS6.out⟩
end Go.Proofs.Ytjfphmmhikamaaa
