/- The law FieldPowers: its walk. -/
import Derived.Test.YtjfphmmhikamaaaReads3
import Derived.Test.YtjfphmmhikamaaaReg3
namespace Go.Proofs.Ytjfphmmhikamaaa
open Go Go.RowKit
theorem pow_any2 (a : Nat) (v : Value) (l : List UInt8) (w : World) (ha : a < 57896044618658097711785492504343953926634992332820282019728792003956564819949) (hv : Rd w v (bys l)) (hvo : ∀ g, v.ownBlock = some g → g < w.heap.size) :
    Calls Try.prog 41 #[numV a, v] w fun e w' => e = .returned (numV (powN (leN l) a)) ∧ Kp0 w w' := pow_any a v l w ha hv hvo
theorem inv_any2 (a : Nat) (w : World) (ha : a < 57896044618658097711785492504343953926634992332820282019728792003956564819949) :
    Calls Try.prog 42 #[numV a] w fun e w' => e = .returned (numV (invN a)) ∧ Kp0 w w' := by
  have h := inv_any a w ha
  unfold invN powN eInv
  exact h
theorem inv_times (m : Nat) (h : m < 57896044618658097711785492504343953926634992332820282019728792003956564819949) : m * invN m % 57896044618658097711785492504343953926634992332820282019728792003956564819949 = if m = 0 then 0 else 1 := by
  split
  · next h0 => rw [h0, Nat.zero_mul, Nat.zero_mod]
  · next h0 => exact invN_mul m h (by omega)
variable {R : List Value → Nat → Prop}
set_option maxRecDepth 20000 in
set_option maxHeartbeats 4000000 in
theorem fpowers_walk (F : Fld R) (va vx : Value) (la lx : List UInt8) (w : World) (hva : Rd w va (bys la)) (hvb : Rd w vx (bys lx)) (hoa : ∀ g, va.ownBlock = some g → g < w.heap.size) (hob : ∀ g, vx.ownBlock = some g → g < w.heap.size) :
    Calls Try.prog 7 #[va, vx] w fun e w' => e = .returned (.bool true) ∧ Kp0 w w' := by
  obtain ⟨ao, capa, rfl, ha1, ha2, ha3⟩ := hva.shapeB
  obtain ⟨bo, capb, rfl, hb1, hb2, hb3⟩ := hvb.shapeB
  have HF := Lib.hid F
  have HA := Lib.hid hva
  have HB := Lib.hid hvb
  have HOA := Lib.hid hoa
  have HOB := Lib.hid hob
  clear hva hvb hoa hob F
  go_enter Try.func7, Try.ntmps7
  go_wp2_with fail
  refine (fit_any HF.out _).mono ?_
  rintro e w1 ⟨rfl, hk1⟩
  have HK1 := Lib.hid hk1
  clear hk1
  obtain ⟨ba, hba⟩ : ∃ ba, ba = decide (la.length = 32) := ⟨_, rfl⟩
  have HBA := Lib.hid hba
  clear hba
  go_wp2_with fail
  refine (HF.out.read _ la w1 (HA.out.keep0 HK1.out) (fun g hg => by have := HOA.out g hg; have := HK1.out.size; omega)).mono ?_
  rw [← HBA.out]
  obtain ⟨m, hm⟩ : ∃ m, m = readN la := ⟨_, rfl⟩
  rw [← hm]
  have HM := Lib.hid hm
  clear hm
  rintro e w2 ⟨cs, rfl, hc, hk2⟩
  have HC := Lib.hid hc
  have HK2 := Lib.hid (HK1.out.tr hk2)
  obtain ⟨g, hg⟩ : ∃ g, g = w2.heap.size := ⟨_, rfl⟩
  have HG := Lib.hid hg
  clear hc hk2 hg
  cases ba
  · go_wp2_with (
      (refine wl_store_blk rfl 45 (.tmp 5) (.tmp 14) rfl w2.heap.size _ _ cs rfl rfl (blk0 w2 _ _) HC.out.2.2.1 (len_of (T := 45) (by kernel_rfl) HC.out.2.2.1) HC.out.2.2.2 ?_
       intro w3 hA3 hK3
       rw [← HG.out]
       rw [← HG.out] at hA3
       have HE := Lib.hid hA3
       have HK3 : Hid (Kp0 w w3) := Lib.hid (kp_blk hK3 (HK2.out.alloc _) (by have := HK2.out.size; omega))
       clear hA3 hK3))
    all_goals go_ret
    all_goals exact ⟨rfl, HK3.out⟩
  · by_cases hlen : 100 < lx.length
    · go_wp2_with (
        (refine wl_store_blk rfl 45 (.tmp 5) (.tmp 14) rfl w2.heap.size _ _ cs rfl rfl (blk0 w2 _ _) HC.out.2.2.1 (len_of (T := 45) (by kernel_rfl) HC.out.2.2.1) HC.out.2.2.2 ?_
         intro w3 hA3 hK3
         rw [← HG.out]
         rw [← HG.out] at hA3
         have HE := Lib.hid hA3
         have HK3 : Hid (Kp0 w w3) := Lib.hid (kp_blk hK3 (HK2.out.alloc _) (by have := HK2.out.size; omega))
         clear hA3 hK3))
      all_goals go_ret
      all_goals exact ⟨rfl, HK3.out⟩
    · go_wp2_with (
        (refine wl_store_blk rfl 45 (.tmp 5) (.tmp 14) rfl w2.heap.size _ _ cs rfl rfl (blk0 w2 _ _) HC.out.2.2.1 (len_of (T := 45) (by kernel_rfl) HC.out.2.2.1) HC.out.2.2.2 ?_
         intro w3 hA3 hK3
         rw [← HG.out]
         rw [← HG.out] at hA3
         have HE := Lib.hid hA3
         have HK3 : Hid (Kp0 w w3) := Lib.hid (kp_blk hK3 (HK2.out.alloc _) (by have := HK2.out.size; omega))
         clear hA3 hK3))
      refine (read_any _ la w3 (HA.out.keep0 HK3.out) (of_decide_eq_true HBA.out.symm) (fun g' hg => by have := HOA.out g' hg; have := HK3.out.size; omega)).mono ?_
      rw [show leN la % 57896044618658097711785492504343953926634992332820282019728792003956564819968 % 57896044618658097711785492504343953926634992332820282019728792003956564819949 = m by rw [HM.out, readN, if_pos (of_decide_eq_true HBA.out.symm)]]
      rintro e w4 ⟨rfl, hk4⟩
      have HK4 : Hid (Kp0 w3 w4) := Lib.hid hk4
      obtain ⟨gn, hgn⟩ : ∃ g, g = w4.heap.size := ⟨_, rfl⟩
      have HGN := Lib.hid hgn
      clear hk4 hgn
      go_upto_region 7 with (
        (refine wl_store_blk rfl 47 (.tmp 7) (.tmp 24) rfl w4.heap.size _ _ (i64s (F3.digs 16 (m : Int))) rfl rfl (blk0 w4 _ _) (infoN _ (numLen _)) (by rw [i64s_len, numLen]; rfl) (i64s_ones _) ?_
         intro w5 hA5 hK5
         rw [← HGN.out]
         rw [← HGN.out] at hA5
         have HN5 := Lib.hid hA5
         have hh : Kp0 w3 w5 := kp_blk hK5 (HK4.out.alloc _) HK4.out.size
         have HE5 := Lib.hid (HE.out.kp0 hh)
         have HK5 : Hid (Kp0 w w5) := Lib.hid (HK3.out.tr hh)
         clear hA5 hK5 hh))
      try simp only [Act.put]
      go_cut [8] (fun p wx => ∃ gi cm, p = .pointer (some ⟨gi, 0, none⟩) ∧ Blk wx gi 45 cm ∧ Kp0 w5 wx ∧ Fe R cm (m * invN m % 57896044618658097711785492504343953926634992332820282019728792003956564819949))
      case first =>
        refine wp_region_tree (fun w' : World => Kp0 w5 w') (.quiet 0 (.quiet 1 (.two 2 (.two 3 (.eff 4 (.eff 5 .done)) 4 (.eff 3 (.eff 5 .done))) 4 (.eff 2 (.eff 3 (.eff 5 .done)))))) (by kernel_rfl) (by kernel_rfl) (by kernel_rfl) (by kernel_rfl) (fun _ d _ _ _ h => by cases d <;> exact h) ((Kp.refl _ w5).drew) ?_
        refine pt_quiet (v := .agg cs.toArray) rfl (by rfl) (fun wq hwq => run_load_blk 45 (.tmp 5) rfl g _ cs rfl (HE5.out.kp0 hwq) _ Try.underlying45 rfl HC.out.2.2.1) rfl ?_
        simp only [List.setIfInBounds_toArray, List.set_cons_zero, List.set_cons_succ]
        refine pt_quiet (v := .agg cs.toArray) rfl (by rfl) (fun wq hwq => run_load_blk 45 (.tmp 5) rfl g _ cs rfl (HE5.out.kp0 hwq) _ Try.underlying45 rfl HC.out.2.2.1) rfl ?_
        simp only [List.setIfInBounds_toArray, List.set_cons_zero, List.set_cons_succ]
        refine ⟨pt_one rfl (by rfl) (fun K hK => ?_), pt_one rfl (by rfl) (fun K hK => ?_)⟩
        · go_simp
          refine (HF.out.inv cs m _ HC.out).mono ?_
          rintro e xi ⟨ci, rfl, hci, hki⟩
          have HCI := Lib.hid hci
          have HKI : Hid (Kp0 w5 xi) := Lib.hid ((Kp.refl _ w5).drew.tr hki)
          clear hci hki
          simp only []
          refine hK (fun w' : World => Kp0 w5 w') _ _ (fun x h => h) HKI.out ?_
          clear hK K
          refine ⟨pt_one rfl (by rfl) (fun K hK => ?_), pt_one rfl (by rfl) (fun K hK => ?_)⟩
          · go_simp
            refine (HF.out.mul cs ci _ _ _ HC.out HCI.out).mono ?_
            rintro e xm ⟨cm, rfl, hcm, hkm⟩
            have HCM := Lib.hid hcm
            have HKM : Hid (Kp0 w5 xm) := Lib.hid (HKI.out.tr hkm)
            clear hcm hkm
            simp only []
            refine hK (fun w' : World => Kp0 w5 w') _ _ (fun x h => h) HKM.out ?_
            clear hK K
            refine pt_eff rfl (by rfl) (fun K hK => ?_)
            go_simp
            refine hK (fun w' : World => Kp0 w5 w') _ _ (fun x h => h) (HKM.out.alloc _) ?_
            clear hK K
            refine pt_eff rfl (by rfl) (fun K hK => ?_)
            refine wp_store_blk 45 (.tmp 8) (.tmp 28) rfl xm.heap.size _ _ cm rfl rfl (blk0 xm _ _) HCM.out.2.2.1 (len_of (T := 45) (by kernel_rfl) HCM.out.2.2.1) HCM.out.2.2.2 ?_
            intro x7 hA7 hK7
            have hle : w5.heap.size ≤ xm.heap.size := by exact HKM.out.size
            have HX7 : Hid (Kp0 w5 x7) := Lib.hid (kp_blk hK7 (HKM.out.alloc _) hle)
            have HA7 := Lib.hid hA7
            refine hK (fun w' : World => Kp0 w5 w') _ _ (fun x h => h) HX7.out ?_
            clear hK K hA7 hK7 hle
            refine pt_done ?_
            go_wp2
            go_meet
            exact ⟨_, cm, rfl, HA7.out, HX7.out, HCM.out⟩
          · go_simp
            refine hK (fun w' : World => Kp0 w5 w') _ _ (fun x h => h) (HKI.out.alloc _) ?_
            clear hK K
            refine pt_eff rfl (by rfl) (fun K hK => ?_)
            go_simp
            refine (HF.out.mul cs ci _ _ _ HC.out HCI.out).mono ?_
            rintro e xm ⟨cm, rfl, hcm, hkm⟩
            have HCM := Lib.hid hcm
            have HKM : Hid (Kp0 w5 xm) := Lib.hid ((HKI.out.alloc _).tr hkm)
            have HKX := Lib.hid hkm
            clear hcm hkm
            simp only []
            refine hK (fun w' : World => Kp0 w5 w') _ _ (fun x h => h) HKM.out ?_
            clear hK K
            refine pt_eff rfl (by rfl) (fun K hK => ?_)
            refine wp_store_blk 45 (.tmp 8) (.tmp 28) rfl xi.heap.size _ _ cm rfl rfl ((blk0 xi _ _).kp0 HKX.out) HCM.out.2.2.1 (len_of (T := 45) (by kernel_rfl) HCM.out.2.2.1) HCM.out.2.2.2 ?_
            intro x7 hA7 hK7
            have hle : w5.heap.size ≤ xi.heap.size := by exact HKI.out.size
            have HX7 : Hid (Kp0 w5 x7) := Lib.hid (kp_blk hK7 HKM.out hle)
            have HA7 := Lib.hid hA7
            refine hK (fun w' : World => Kp0 w5 w') _ _ (fun x h => h) HX7.out ?_
            clear hK K hA7 hK7 hle
            refine pt_done ?_
            go_wp2
            go_meet
            exact ⟨_, cm, rfl, HA7.out, HX7.out, HCM.out⟩
        · go_simp
          refine hK (fun w' : World => Kp0 w5 w') _ _ (fun x h => h) ((Kp.refl _ w5).drew.alloc _) ?_
          clear hK K
          refine pt_eff rfl (by rfl) (fun K hK => ?_)
          go_simp
          refine (HF.out.inv cs m _ HC.out).mono ?_
          rintro e xi ⟨ci, rfl, hci, hki⟩
          have HCI := Lib.hid hci
          have HKY := Lib.hid hki
          have HKI : Hid (Kp0 w5 xi) := Lib.hid (((Kp.refl _ w5).drew.alloc _).tr hki)
          clear hci hki
          simp only []
          refine hK (fun w' : World => Kp0 w5 w') _ _ (fun x h => h) HKI.out ?_
          clear hK K
          refine pt_eff rfl (by rfl) (fun K hK => ?_)
          go_simp
          refine (HF.out.mul cs ci _ _ _ HC.out HCI.out).mono ?_
          rintro e xm ⟨cm, rfl, hcm, hkm⟩
          have HCM := Lib.hid hcm
          have HKX := Lib.hid hkm
          have HKM : Hid (Kp0 w5 xm) := Lib.hid (HKI.out.tr hkm)
          clear hcm hkm
          simp only []
          refine hK (fun w' : World => Kp0 w5 w') _ _ (fun x h => h) HKM.out ?_
          clear hK K
          refine pt_eff rfl (by rfl) (fun K hK => ?_)
          refine wp_store_blk 45 (.tmp 8) (.tmp 28) rfl w5.heap.size _ _ cm rfl rfl (((blk0 w5.drew _ _).kp0 HKY.out).kp0 HKX.out) HCM.out.2.2.1 (len_of (T := 45) (by kernel_rfl) HCM.out.2.2.1) HCM.out.2.2.2 ?_
          intro x7 hA7 hK7
          have hle : w5.heap.size ≤ w5.heap.size := by exact Nat.le_refl _
          have HX7 : Hid (Kp0 w5 x7) := Lib.hid (kp_blk hK7 HKM.out hle)
          have HA7 := Lib.hid hA7
          refine hK (fun w' : World => Kp0 w5 w') _ _ (fun x h => h) HX7.out ?_
          clear hK K hA7 hK7 hle
          refine pt_done ?_
          go_wp2
          go_meet
          exact ⟨_, cm, rfl, HA7.out, HX7.out, HCM.out⟩
      case rest =>
        obtain ⟨gi, cm, rfl, hbm, hkc, hcm⟩ := hcut
        have HBM := Lib.hid hbm
        have HKC := Lib.hid hkc
        have HCM := Lib.hid hcm
        have HKW : Hid (Kp0 w wc) := Lib.hid (HK5.out.tr hkc)
        have HIT := Lib.hid (inv_times m HC.out.2.1)
        clear hbm hkc hcm
        go_upto_region 8 with (fail)
        by_cases hm0 : m = 0
        · have HM0 := Lib.hid hm0
          clear hm0
          have HS0 : Hid (Kp0 wc wc.drew) := Lib.hid ((Kp.refl _ wc).drew)
          refine wp_region_wall [] (fun w' : World => Kp0 wc w') (.quiet 0 (.quiet 1 (.quiet 3 (.quiet 4 (.eff 2 (.eff 5 (.eff 6 (.quiet 7 (.quiet 8 (.quiet 10 (.eff 9 (.eff 11 (.eff 12 (.quiet 13 (.quiet 14 (.quiet 15 (.eff 16 (.eff 17 (.quiet 18 (.quiet 19 (.eff 20 (.eff 21 (.quiet 22 (.quiet 23 (.eff 24 (.eff 25 (.quiet 26 (.quiet 27 (.quiet 28 (.quiet 29 .done)))))))))))))))))))))))))))))) (by kernel_rfl) (by kernel_rfl) (by kernel_rfl) (by kernel_rfl) (fun _ d _ _ _ h => by cases d <;> exact h) HS0.out ?_
          repeat (first
            | (refine pw_quiet (v := .agg cs.toArray) rfl (by rfl) (fun wq hwq => run_load_blk 45 (.tmp 5) rfl g _ cs rfl ((HE5.out.kp0 HKC.out).kp0 hwq) _ Try.underlying45 rfl HC.out.2.2.1) rfl ?_; simp only [List.setIfInBounds_toArray, List.set_cons_zero, List.set_cons_succ])
            | (refine pw_quiet (v := .agg cm.toArray) rfl (by rfl) (fun wq hwq => run_load_blk 45 (.tmp 8) rfl gi _ cm rfl (HBM.out.kp0 hwq) _ Try.underlying45 rfl HCM.out.2.2.1) rfl ?_; simp only [List.setIfInBounds_toArray, List.set_cons_zero, List.set_cons_succ])
            | (refine pw_quiet (v := .agg (i64s (F3.digs 16 (m : Int))).toArray) rfl (by rfl) (fun wq hwq => run_load_blk 47 (.tmp 7) rfl gn _ (i64s (F3.digs 16 (m : Int))) rfl ((HN5.out.kp0 HKC.out).kp0 hwq) _ Try.underlying47 rfl (infoN _ (numLen _))) rfl ?_; simp only [List.setIfInBounds_toArray, List.set_cons_zero, List.set_cons_succ])
            | (refine pw_quiet (v := ?_) rfl (by rfl) (fun wq hwq => ?_) rfl ?_; rotate_left 1; (focus (go_simp; try (with_reducible rfl); done)); simp only [List.setIfInBounds_toArray, List.set_cons_zero, List.set_cons_succ])
            | (refine pw_skip rfl (by rfl) rfl ?_; simp only [List.setIfInBounds_toArray, List.set_cons_zero, List.set_cons_succ])
            | (refine pw_skipE rfl (by rfl) rfl ?_; simp only [List.setIfInBounds_toArray, List.set_cons_zero, List.set_cons_succ]))
          refine pw_eff rfl (by rfl) (fun K hK => ?_)
          go_simp
          refine (HF.out.pow cs m _ lx _ HC.out ((HB.out.keep0 HKW.out).keep0 HS0.out) (fun g' hg => by have := HOB.out g' hg; have := HKW.out.size; have := HS0.out.size; omega)).mono ?_
          rintro e x1 ⟨c1, rfl, hc1, hk1⟩
          have Hc1 := Lib.hid hc1
          clear hc1
          simp only []
          have HS1 : Hid (Kp0 wc x1) := Lib.hid (HS0.out.tr hk1)
          clear hk1
          refine hK (fun w' : World => Kp0 wc w') _ _ (fun x h => h) HS1.out ?_
          clear hK K
          refine pw_eff rfl (by rfl) (fun K hK => ?_)
          go_simp
          refine (pow_any2 m _ lx _ HC.out.2.1 ((HB.out.keep0 HKW.out).keep0 HS1.out) (fun g' hg => by have := HOB.out g' hg; have := HKW.out.size; have := HS1.out.size; omega)).mono ?_
          rintro e x2 ⟨rfl, hk2⟩
          simp only []
          have HS2 : Hid (Kp0 wc x2) := Lib.hid (HS1.out.tr hk2)
          clear hk2
          refine hK (fun w' : World => Kp0 wc w') _ _ (fun x h => h) HS2.out ?_
          clear hK K
          refine pw_eff rfl (by rfl) (fun K hK => ?_)
          go_simp
          refine (like_any HF.out c1 _ _ Hc1.out).mono ?_
          rintro e x3 ⟨rfl, hk3⟩
          simp only []
          have HS3 : Hid (Kp0 wc x3) := Lib.hid (HS2.out.tr hk3)
          clear hk3
          refine hK (fun w' : World => Kp0 wc w') _ _ (fun x h => h) HS3.out ?_
          clear hK K
          repeat (first
            | (refine pw_quiet (v := .agg cs.toArray) rfl (by rfl) (fun wq hwq => run_load_blk 45 (.tmp 5) rfl g _ cs rfl ((HE5.out.kp0 HKC.out).kp0 hwq) _ Try.underlying45 rfl HC.out.2.2.1) rfl ?_; simp only [List.setIfInBounds_toArray, List.set_cons_zero, List.set_cons_succ])
            | (refine pw_quiet (v := .agg cm.toArray) rfl (by rfl) (fun wq hwq => run_load_blk 45 (.tmp 8) rfl gi _ cm rfl (HBM.out.kp0 hwq) _ Try.underlying45 rfl HCM.out.2.2.1) rfl ?_; simp only [List.setIfInBounds_toArray, List.set_cons_zero, List.set_cons_succ])
            | (refine pw_quiet (v := .agg (i64s (F3.digs 16 (m : Int))).toArray) rfl (by rfl) (fun wq hwq => run_load_blk 47 (.tmp 7) rfl gn _ (i64s (F3.digs 16 (m : Int))) rfl ((HN5.out.kp0 HKC.out).kp0 hwq) _ Try.underlying47 rfl (infoN _ (numLen _))) rfl ?_; simp only [List.setIfInBounds_toArray, List.set_cons_zero, List.set_cons_succ])
            | (refine pw_quiet (v := ?_) rfl (by rfl) (fun wq hwq => ?_) rfl ?_; rotate_left 1; (focus (go_simp; try (with_reducible rfl); done)); simp only [List.setIfInBounds_toArray, List.set_cons_zero, List.set_cons_succ])
            | (refine pw_skip rfl (by rfl) rfl ?_; simp only [List.setIfInBounds_toArray, List.set_cons_zero, List.set_cons_succ])
            | (refine pw_skipE rfl (by rfl) rfl ?_; simp only [List.setIfInBounds_toArray, List.set_cons_zero, List.set_cons_succ]))
          refine pw_eff rfl (by rfl) (fun K hK => ?_)
          go_simp
          refine (HF.out.inv cs m _ HC.out).mono ?_
          rintro e x4 ⟨c4, rfl, hc4, hk4⟩
          have Hc4 := Lib.hid hc4
          clear hc4
          simp only []
          have HS4 : Hid (Kp0 wc x4) := Lib.hid (HS3.out.tr hk4)
          clear hk4
          refine hK (fun w' : World => Kp0 wc w') _ _ (fun x h => h) HS4.out ?_
          clear hK K
          refine pw_eff rfl (by rfl) (fun K hK => ?_)
          go_simp
          refine (inv_any2 m _ HC.out.2.1).mono ?_
          rintro e x5 ⟨rfl, hk5⟩
          simp only []
          have HS5 : Hid (Kp0 wc x5) := Lib.hid (HS4.out.tr hk5)
          clear hk5
          refine hK (fun w' : World => Kp0 wc w') _ _ (fun x h => h) HS5.out ?_
          clear hK K
          refine pw_eff rfl (by rfl) (fun K hK => ?_)
          go_simp
          refine (like_any HF.out c4 _ _ Hc4.out).mono ?_
          rintro e x6 ⟨rfl, hk6⟩
          simp only []
          have HS6 : Hid (Kp0 wc x6) := Lib.hid (HS5.out.tr hk6)
          clear hk6
          refine hK (fun w' : World => Kp0 wc w') _ _ (fun x h => h) HS6.out ?_
          clear hK K
          repeat (first
            | (refine pw_quiet (v := .agg cs.toArray) rfl (by rfl) (fun wq hwq => run_load_blk 45 (.tmp 5) rfl g _ cs rfl ((HE5.out.kp0 HKC.out).kp0 hwq) _ Try.underlying45 rfl HC.out.2.2.1) rfl ?_; simp only [List.setIfInBounds_toArray, List.set_cons_zero, List.set_cons_succ])
            | (refine pw_quiet (v := .agg cm.toArray) rfl (by rfl) (fun wq hwq => run_load_blk 45 (.tmp 8) rfl gi _ cm rfl (HBM.out.kp0 hwq) _ Try.underlying45 rfl HCM.out.2.2.1) rfl ?_; simp only [List.setIfInBounds_toArray, List.set_cons_zero, List.set_cons_succ])
            | (refine pw_quiet (v := .agg (i64s (F3.digs 16 (m : Int))).toArray) rfl (by rfl) (fun wq hwq => run_load_blk 47 (.tmp 7) rfl gn _ (i64s (F3.digs 16 (m : Int))) rfl ((HN5.out.kp0 HKC.out).kp0 hwq) _ Try.underlying47 rfl (infoN _ (numLen _))) rfl ?_; simp only [List.setIfInBounds_toArray, List.set_cons_zero, List.set_cons_succ])
            | (refine pw_quiet (v := ?_) rfl (by rfl) (fun wq hwq => ?_) rfl ?_; rotate_left 1; (focus (go_simp; try (with_reducible rfl); done)); simp only [List.setIfInBounds_toArray, List.set_cons_zero, List.set_cons_succ])
            | (refine pw_skip rfl (by rfl) rfl ?_; simp only [List.setIfInBounds_toArray, List.set_cons_zero, List.set_cons_succ])
            | (refine pw_skipE rfl (by rfl) rfl ?_; simp only [List.setIfInBounds_toArray, List.set_cons_zero, List.set_cons_succ]))
          refine pw_eff rfl (by rfl) (fun K hK => ?_)
          go_simp
          refine (HF.out.small 1 _ (by omega)).mono ?_
          rintro e x7 ⟨c7, rfl, hc7, hk7⟩
          have Hc7 := Lib.hid hc7
          clear hc7
          simp only []
          have HS7 : Hid (Kp0 wc x7) := Lib.hid (HS6.out.tr hk7)
          clear hk7
          refine hK (fun w' : World => Kp0 wc w') _ _ (fun x h => h) HS7.out ?_
          clear hK K
          refine pw_eff rfl (by rfl) (fun K hK => ?_)
          go_simp
          refine (HF.out.same cm c7 _ _ _ HCM.out Hc7.out).mono ?_
          rw [HIT.out, if_pos HM0.out, decide_eq_false (by omega)]
          rintro e x8 ⟨rfl, hk8⟩
          simp only []
          have HS8 : Hid (Kp0 wc x8) := Lib.hid (HS7.out.tr hk8)
          clear hk8
          refine hK (fun w' : World => Kp0 wc w') _ _ (fun x h => h) HS8.out ?_
          clear hK K
          repeat (first
            | (refine pw_quiet (v := .agg cs.toArray) rfl (by rfl) (fun wq hwq => run_load_blk 45 (.tmp 5) rfl g _ cs rfl ((HE5.out.kp0 HKC.out).kp0 hwq) _ Try.underlying45 rfl HC.out.2.2.1) rfl ?_; simp only [List.setIfInBounds_toArray, List.set_cons_zero, List.set_cons_succ])
            | (refine pw_quiet (v := .agg cm.toArray) rfl (by rfl) (fun wq hwq => run_load_blk 45 (.tmp 8) rfl gi _ cm rfl (HBM.out.kp0 hwq) _ Try.underlying45 rfl HCM.out.2.2.1) rfl ?_; simp only [List.setIfInBounds_toArray, List.set_cons_zero, List.set_cons_succ])
            | (refine pw_quiet (v := .agg (i64s (F3.digs 16 (m : Int))).toArray) rfl (by rfl) (fun wq hwq => run_load_blk 47 (.tmp 7) rfl gn _ (i64s (F3.digs 16 (m : Int))) rfl ((HN5.out.kp0 HKC.out).kp0 hwq) _ Try.underlying47 rfl (infoN _ (numLen _))) rfl ?_; simp only [List.setIfInBounds_toArray, List.set_cons_zero, List.set_cons_succ])
            | (refine pw_quiet (v := ?_) rfl (by rfl) (fun wq hwq => ?_) rfl ?_; rotate_left 1; (focus (go_simp; try (with_reducible rfl); done)); simp only [List.setIfInBounds_toArray, List.set_cons_zero, List.set_cons_succ])
            | (refine pw_skip rfl (by rfl) rfl ?_; simp only [List.setIfInBounds_toArray, List.set_cons_zero, List.set_cons_succ])
            | (refine pw_skipE rfl (by rfl) rfl ?_; simp only [List.setIfInBounds_toArray, List.set_cons_zero, List.set_cons_succ]))
          refine pw_eff rfl (by rfl) (fun K hK => ?_)
          go_simp
          refine (HF.out.small 0 _ (by omega)).mono ?_
          rintro e x9 ⟨c9, rfl, hc9, hk9⟩
          have Hc9 := Lib.hid hc9
          clear hc9
          simp only []
          have HS9 : Hid (Kp0 wc x9) := Lib.hid (HS8.out.tr hk9)
          clear hk9
          refine hK (fun w' : World => Kp0 wc w') _ _ (fun x h => h) HS9.out ?_
          clear hK K
          refine pw_eff rfl (by rfl) (fun K hK => ?_)
          go_simp
          refine (HF.out.same cs c9 _ _ _ HC.out Hc9.out).mono ?_
          rw [HM0.out, decide_eq_true rfl]
          rintro e x10 ⟨rfl, hk10⟩
          simp only []
          have HS10 : Hid (Kp0 wc x10) := Lib.hid (HS9.out.tr hk10)
          clear hk10
          refine hK (fun w' : World => Kp0 wc w') _ _ (fun x h => h) HS10.out ?_
          clear hK K
          repeat (first
            | (refine pw_quiet (v := .agg cs.toArray) rfl (by rfl) (fun wq hwq => run_load_blk 45 (.tmp 5) rfl g _ cs rfl ((HE5.out.kp0 HKC.out).kp0 hwq) _ Try.underlying45 rfl HC.out.2.2.1) rfl ?_; simp only [List.setIfInBounds_toArray, List.set_cons_zero, List.set_cons_succ])
            | (refine pw_quiet (v := .agg cm.toArray) rfl (by rfl) (fun wq hwq => run_load_blk 45 (.tmp 8) rfl gi _ cm rfl (HBM.out.kp0 hwq) _ Try.underlying45 rfl HCM.out.2.2.1) rfl ?_; simp only [List.setIfInBounds_toArray, List.set_cons_zero, List.set_cons_succ])
            | (refine pw_quiet (v := .agg (i64s (F3.digs 16 (m : Int))).toArray) rfl (by rfl) (fun wq hwq => run_load_blk 47 (.tmp 7) rfl gn _ (i64s (F3.digs 16 (m : Int))) rfl ((HN5.out.kp0 HKC.out).kp0 hwq) _ Try.underlying47 rfl (infoN _ (numLen _))) rfl ?_; simp only [List.setIfInBounds_toArray, List.set_cons_zero, List.set_cons_succ])
            | (refine pw_quiet (v := ?_) rfl (by rfl) (fun wq hwq => ?_) rfl ?_; rotate_left 1; (focus (go_simp; try (with_reducible rfl); done)); simp only [List.setIfInBounds_toArray, List.set_cons_zero, List.set_cons_succ])
            | (refine pw_skip rfl (by rfl) rfl ?_; simp only [List.setIfInBounds_toArray, List.set_cons_zero, List.set_cons_succ])
            | (refine pw_skipE rfl (by rfl) rfl ?_; simp only [List.setIfInBounds_toArray, List.set_cons_zero, List.set_cons_succ]))
          refine pw_eff rfl (by rfl) (fun K hK => ?_)
          go_simp
          refine (HF.out.small 0 _ (by omega)).mono ?_
          rintro e x11 ⟨c11, rfl, hc11, hk11⟩
          have Hc11 := Lib.hid hc11
          clear hc11
          simp only []
          have HS11 : Hid (Kp0 wc x11) := Lib.hid (HS10.out.tr hk11)
          clear hk11
          refine hK (fun w' : World => Kp0 wc w') _ _ (fun x h => h) HS11.out ?_
          clear hK K
          refine pw_eff rfl (by rfl) (fun K hK => ?_)
          go_simp
          refine (HF.out.same cm c11 _ _ _ HCM.out Hc11.out).mono ?_
          rw [HIT.out, if_pos HM0.out, decide_eq_true rfl]
          rintro e x12 ⟨rfl, hk12⟩
          simp only []
          have HS12 : Hid (Kp0 wc x12) := Lib.hid (HS11.out.tr hk12)
          clear hk12
          refine hK (fun w' : World => Kp0 wc w') _ _ (fun x h => h) HS12.out ?_
          clear hK K
          repeat (first
            | (refine pw_quiet (v := .agg cs.toArray) rfl (by rfl) (fun wq hwq => run_load_blk 45 (.tmp 5) rfl g _ cs rfl ((HE5.out.kp0 HKC.out).kp0 hwq) _ Try.underlying45 rfl HC.out.2.2.1) rfl ?_; simp only [List.setIfInBounds_toArray, List.set_cons_zero, List.set_cons_succ])
            | (refine pw_quiet (v := .agg cm.toArray) rfl (by rfl) (fun wq hwq => run_load_blk 45 (.tmp 8) rfl gi _ cm rfl (HBM.out.kp0 hwq) _ Try.underlying45 rfl HCM.out.2.2.1) rfl ?_; simp only [List.setIfInBounds_toArray, List.set_cons_zero, List.set_cons_succ])
            | (refine pw_quiet (v := .agg (i64s (F3.digs 16 (m : Int))).toArray) rfl (by rfl) (fun wq hwq => run_load_blk 47 (.tmp 7) rfl gn _ (i64s (F3.digs 16 (m : Int))) rfl ((HN5.out.kp0 HKC.out).kp0 hwq) _ Try.underlying47 rfl (infoN _ (numLen _))) rfl ?_; simp only [List.setIfInBounds_toArray, List.set_cons_zero, List.set_cons_succ])
            | (refine pw_quiet (v := ?_) rfl (by rfl) (fun wq hwq => ?_) rfl ?_; rotate_left 1; (focus (go_simp; try (with_reducible rfl); done)); simp only [List.setIfInBounds_toArray, List.set_cons_zero, List.set_cons_succ])
            | (refine pw_skip rfl (by rfl) rfl ?_; simp only [List.setIfInBounds_toArray, List.set_cons_zero, List.set_cons_succ])
            | (refine pw_skipE rfl (by rfl) rfl ?_; simp only [List.setIfInBounds_toArray, List.set_cons_zero, List.set_cons_succ]))
          refine pw_done ?_
          go_wp2
          all_goals go_ret
          all_goals exact ⟨by simp, HKW.out.tr HS12.out⟩
        · have HM0 := Lib.hid hm0
          clear hm0
          have HS0 : Hid (Kp0 wc wc.drew) := Lib.hid ((Kp.refl _ wc).drew)
          refine wp_region_wall [] (fun w' : World => Kp0 wc w') (.quiet 0 (.quiet 1 (.quiet 3 (.quiet 4 (.eff 2 (.eff 5 (.eff 6 (.quiet 7 (.quiet 8 (.quiet 10 (.eff 9 (.eff 11 (.eff 12 (.quiet 13 (.quiet 14 (.quiet 15 (.eff 16 (.eff 17 (.quiet 18 (.quiet 19 (.eff 20 (.eff 21 (.quiet 22 (.quiet 23 (.eff 24 (.eff 25 (.quiet 26 (.quiet 27 (.quiet 28 (.quiet 29 .done)))))))))))))))))))))))))))))) (by kernel_rfl) (by kernel_rfl) (by kernel_rfl) (by kernel_rfl) (fun _ d _ _ _ h => by cases d <;> exact h) HS0.out ?_
          repeat (first
            | (refine pw_quiet (v := .agg cs.toArray) rfl (by rfl) (fun wq hwq => run_load_blk 45 (.tmp 5) rfl g _ cs rfl ((HE5.out.kp0 HKC.out).kp0 hwq) _ Try.underlying45 rfl HC.out.2.2.1) rfl ?_; simp only [List.setIfInBounds_toArray, List.set_cons_zero, List.set_cons_succ])
            | (refine pw_quiet (v := .agg cm.toArray) rfl (by rfl) (fun wq hwq => run_load_blk 45 (.tmp 8) rfl gi _ cm rfl (HBM.out.kp0 hwq) _ Try.underlying45 rfl HCM.out.2.2.1) rfl ?_; simp only [List.setIfInBounds_toArray, List.set_cons_zero, List.set_cons_succ])
            | (refine pw_quiet (v := .agg (i64s (F3.digs 16 (m : Int))).toArray) rfl (by rfl) (fun wq hwq => run_load_blk 47 (.tmp 7) rfl gn _ (i64s (F3.digs 16 (m : Int))) rfl ((HN5.out.kp0 HKC.out).kp0 hwq) _ Try.underlying47 rfl (infoN _ (numLen _))) rfl ?_; simp only [List.setIfInBounds_toArray, List.set_cons_zero, List.set_cons_succ])
            | (refine pw_quiet (v := ?_) rfl (by rfl) (fun wq hwq => ?_) rfl ?_; rotate_left 1; (focus (go_simp; try (with_reducible rfl); done)); simp only [List.setIfInBounds_toArray, List.set_cons_zero, List.set_cons_succ])
            | (refine pw_skip rfl (by rfl) rfl ?_; simp only [List.setIfInBounds_toArray, List.set_cons_zero, List.set_cons_succ])
            | (refine pw_skipE rfl (by rfl) rfl ?_; simp only [List.setIfInBounds_toArray, List.set_cons_zero, List.set_cons_succ]))
          refine pw_eff rfl (by rfl) (fun K hK => ?_)
          go_simp
          refine (HF.out.pow cs m _ lx _ HC.out ((HB.out.keep0 HKW.out).keep0 HS0.out) (fun g' hg => by have := HOB.out g' hg; have := HKW.out.size; have := HS0.out.size; omega)).mono ?_
          rintro e x1 ⟨c1, rfl, hc1, hk1⟩
          have Hc1 := Lib.hid hc1
          clear hc1
          simp only []
          have HS1 : Hid (Kp0 wc x1) := Lib.hid (HS0.out.tr hk1)
          clear hk1
          refine hK (fun w' : World => Kp0 wc w') _ _ (fun x h => h) HS1.out ?_
          clear hK K
          refine pw_eff rfl (by rfl) (fun K hK => ?_)
          go_simp
          refine (pow_any2 m _ lx _ HC.out.2.1 ((HB.out.keep0 HKW.out).keep0 HS1.out) (fun g' hg => by have := HOB.out g' hg; have := HKW.out.size; have := HS1.out.size; omega)).mono ?_
          rintro e x2 ⟨rfl, hk2⟩
          simp only []
          have HS2 : Hid (Kp0 wc x2) := Lib.hid (HS1.out.tr hk2)
          clear hk2
          refine hK (fun w' : World => Kp0 wc w') _ _ (fun x h => h) HS2.out ?_
          clear hK K
          refine pw_eff rfl (by rfl) (fun K hK => ?_)
          go_simp
          refine (like_any HF.out c1 _ _ Hc1.out).mono ?_
          rintro e x3 ⟨rfl, hk3⟩
          simp only []
          have HS3 : Hid (Kp0 wc x3) := Lib.hid (HS2.out.tr hk3)
          clear hk3
          refine hK (fun w' : World => Kp0 wc w') _ _ (fun x h => h) HS3.out ?_
          clear hK K
          repeat (first
            | (refine pw_quiet (v := .agg cs.toArray) rfl (by rfl) (fun wq hwq => run_load_blk 45 (.tmp 5) rfl g _ cs rfl ((HE5.out.kp0 HKC.out).kp0 hwq) _ Try.underlying45 rfl HC.out.2.2.1) rfl ?_; simp only [List.setIfInBounds_toArray, List.set_cons_zero, List.set_cons_succ])
            | (refine pw_quiet (v := .agg cm.toArray) rfl (by rfl) (fun wq hwq => run_load_blk 45 (.tmp 8) rfl gi _ cm rfl (HBM.out.kp0 hwq) _ Try.underlying45 rfl HCM.out.2.2.1) rfl ?_; simp only [List.setIfInBounds_toArray, List.set_cons_zero, List.set_cons_succ])
            | (refine pw_quiet (v := .agg (i64s (F3.digs 16 (m : Int))).toArray) rfl (by rfl) (fun wq hwq => run_load_blk 47 (.tmp 7) rfl gn _ (i64s (F3.digs 16 (m : Int))) rfl ((HN5.out.kp0 HKC.out).kp0 hwq) _ Try.underlying47 rfl (infoN _ (numLen _))) rfl ?_; simp only [List.setIfInBounds_toArray, List.set_cons_zero, List.set_cons_succ])
            | (refine pw_quiet (v := ?_) rfl (by rfl) (fun wq hwq => ?_) rfl ?_; rotate_left 1; (focus (go_simp; try (with_reducible rfl); done)); simp only [List.setIfInBounds_toArray, List.set_cons_zero, List.set_cons_succ])
            | (refine pw_skip rfl (by rfl) rfl ?_; simp only [List.setIfInBounds_toArray, List.set_cons_zero, List.set_cons_succ])
            | (refine pw_skipE rfl (by rfl) rfl ?_; simp only [List.setIfInBounds_toArray, List.set_cons_zero, List.set_cons_succ]))
          refine pw_eff rfl (by rfl) (fun K hK => ?_)
          go_simp
          refine (HF.out.inv cs m _ HC.out).mono ?_
          rintro e x4 ⟨c4, rfl, hc4, hk4⟩
          have Hc4 := Lib.hid hc4
          clear hc4
          simp only []
          have HS4 : Hid (Kp0 wc x4) := Lib.hid (HS3.out.tr hk4)
          clear hk4
          refine hK (fun w' : World => Kp0 wc w') _ _ (fun x h => h) HS4.out ?_
          clear hK K
          refine pw_eff rfl (by rfl) (fun K hK => ?_)
          go_simp
          refine (inv_any2 m _ HC.out.2.1).mono ?_
          rintro e x5 ⟨rfl, hk5⟩
          simp only []
          have HS5 : Hid (Kp0 wc x5) := Lib.hid (HS4.out.tr hk5)
          clear hk5
          refine hK (fun w' : World => Kp0 wc w') _ _ (fun x h => h) HS5.out ?_
          clear hK K
          refine pw_eff rfl (by rfl) (fun K hK => ?_)
          go_simp
          refine (like_any HF.out c4 _ _ Hc4.out).mono ?_
          rintro e x6 ⟨rfl, hk6⟩
          simp only []
          have HS6 : Hid (Kp0 wc x6) := Lib.hid (HS5.out.tr hk6)
          clear hk6
          refine hK (fun w' : World => Kp0 wc w') _ _ (fun x h => h) HS6.out ?_
          clear hK K
          repeat (first
            | (refine pw_quiet (v := .agg cs.toArray) rfl (by rfl) (fun wq hwq => run_load_blk 45 (.tmp 5) rfl g _ cs rfl ((HE5.out.kp0 HKC.out).kp0 hwq) _ Try.underlying45 rfl HC.out.2.2.1) rfl ?_; simp only [List.setIfInBounds_toArray, List.set_cons_zero, List.set_cons_succ])
            | (refine pw_quiet (v := .agg cm.toArray) rfl (by rfl) (fun wq hwq => run_load_blk 45 (.tmp 8) rfl gi _ cm rfl (HBM.out.kp0 hwq) _ Try.underlying45 rfl HCM.out.2.2.1) rfl ?_; simp only [List.setIfInBounds_toArray, List.set_cons_zero, List.set_cons_succ])
            | (refine pw_quiet (v := .agg (i64s (F3.digs 16 (m : Int))).toArray) rfl (by rfl) (fun wq hwq => run_load_blk 47 (.tmp 7) rfl gn _ (i64s (F3.digs 16 (m : Int))) rfl ((HN5.out.kp0 HKC.out).kp0 hwq) _ Try.underlying47 rfl (infoN _ (numLen _))) rfl ?_; simp only [List.setIfInBounds_toArray, List.set_cons_zero, List.set_cons_succ])
            | (refine pw_quiet (v := ?_) rfl (by rfl) (fun wq hwq => ?_) rfl ?_; rotate_left 1; (focus (go_simp; try (with_reducible rfl); done)); simp only [List.setIfInBounds_toArray, List.set_cons_zero, List.set_cons_succ])
            | (refine pw_skip rfl (by rfl) rfl ?_; simp only [List.setIfInBounds_toArray, List.set_cons_zero, List.set_cons_succ])
            | (refine pw_skipE rfl (by rfl) rfl ?_; simp only [List.setIfInBounds_toArray, List.set_cons_zero, List.set_cons_succ]))
          refine pw_eff rfl (by rfl) (fun K hK => ?_)
          go_simp
          refine (HF.out.small 1 _ (by omega)).mono ?_
          rintro e x7 ⟨c7, rfl, hc7, hk7⟩
          have Hc7 := Lib.hid hc7
          clear hc7
          simp only []
          have HS7 : Hid (Kp0 wc x7) := Lib.hid (HS6.out.tr hk7)
          clear hk7
          refine hK (fun w' : World => Kp0 wc w') _ _ (fun x h => h) HS7.out ?_
          clear hK K
          refine pw_eff rfl (by rfl) (fun K hK => ?_)
          go_simp
          refine (HF.out.same cm c7 _ _ _ HCM.out Hc7.out).mono ?_
          rw [HIT.out, if_neg HM0.out, decide_eq_true rfl]
          rintro e x8 ⟨rfl, hk8⟩
          simp only []
          have HS8 : Hid (Kp0 wc x8) := Lib.hid (HS7.out.tr hk8)
          clear hk8
          refine hK (fun w' : World => Kp0 wc w') _ _ (fun x h => h) HS8.out ?_
          clear hK K
          repeat (first
            | (refine pw_quiet (v := .agg cs.toArray) rfl (by rfl) (fun wq hwq => run_load_blk 45 (.tmp 5) rfl g _ cs rfl ((HE5.out.kp0 HKC.out).kp0 hwq) _ Try.underlying45 rfl HC.out.2.2.1) rfl ?_; simp only [List.setIfInBounds_toArray, List.set_cons_zero, List.set_cons_succ])
            | (refine pw_quiet (v := .agg cm.toArray) rfl (by rfl) (fun wq hwq => run_load_blk 45 (.tmp 8) rfl gi _ cm rfl (HBM.out.kp0 hwq) _ Try.underlying45 rfl HCM.out.2.2.1) rfl ?_; simp only [List.setIfInBounds_toArray, List.set_cons_zero, List.set_cons_succ])
            | (refine pw_quiet (v := .agg (i64s (F3.digs 16 (m : Int))).toArray) rfl (by rfl) (fun wq hwq => run_load_blk 47 (.tmp 7) rfl gn _ (i64s (F3.digs 16 (m : Int))) rfl ((HN5.out.kp0 HKC.out).kp0 hwq) _ Try.underlying47 rfl (infoN _ (numLen _))) rfl ?_; simp only [List.setIfInBounds_toArray, List.set_cons_zero, List.set_cons_succ])
            | (refine pw_quiet (v := ?_) rfl (by rfl) (fun wq hwq => ?_) rfl ?_; rotate_left 1; (focus (go_simp; try (with_reducible rfl); done)); simp only [List.setIfInBounds_toArray, List.set_cons_zero, List.set_cons_succ])
            | (refine pw_skip rfl (by rfl) rfl ?_; simp only [List.setIfInBounds_toArray, List.set_cons_zero, List.set_cons_succ])
            | (refine pw_skipE rfl (by rfl) rfl ?_; simp only [List.setIfInBounds_toArray, List.set_cons_zero, List.set_cons_succ]))
          refine pw_done ?_
          go_wp2
          all_goals go_ret
          all_goals exact ⟨by simp, HKW.out.tr HS8.out⟩
end Go.Proofs.Ytjfphmmhikamaaa
