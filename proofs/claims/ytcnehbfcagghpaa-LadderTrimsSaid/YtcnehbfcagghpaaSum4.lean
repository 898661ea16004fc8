/- The reference's ladder: the sum of two whose difference is known. -/
import Derived.Test.YtcnehbfcagghpaaDbl4
namespace Go.Proofs.Ytcnehbfcagghpaa
open Go Go.RowKit
open Edw (nA nS nM)
/-- What the sum keeps: the points, their difference, the result. -/
def SumS (w : World) (px pz qx qz u : Nat) (wx : World) : Prop := Arr wx w.heap.size 50 (ptL px pz) ∧ Arr wx (w.heap.size + 1) 50 (ptL qx qz) ∧ Arr wx (w.heap.size + 1 + 1) 46 (F3.digs 16 (u : Int)) ∧ Arr wx (w.heap.size + 1 + 1 + 1) 50 zpt ∧ Kp0 w wx
theorem SumS.start (w : World) (px pz qx qz u : Nat) : SumS w px pz qx qz u ((((w.alloc (.cells (i64s (ptL px pz)).toArray 50)).alloc (.cells (i64s (ptL qx qz)).toArray 50)).alloc (.cells (i64s (F3.digs 16 (u : Int))).toArray 46)).alloc (.cells (i64s zpt).toArray 50)) :=
  ⟨(arr0 w _ _).kp0 ((((Kp.refl _ _).alloc _).alloc _).alloc _), (arr1 w _ _ _).kp0 (((Kp.refl _ _).alloc _).alloc _), (arr2 w _ _ _ _).kp0 ((Kp.refl _ _).alloc _), arr3 w _ _ _ _ _, ((((Kp.refl _ w).alloc _).alloc _).alloc _).alloc _⟩
theorem SumS.kp0 {w wx wy : World} {px pz qx qz u : Nat} (h : SumS w px pz qx qz u wx) (hk : Kp0 wx wy) : SumS w px pz qx qz u wy := ⟨h.1.kp0 hk, h.2.1.kp0 hk, h.2.2.1.kp0 hk, h.2.2.2.1.kp0 hk, h.2.2.2.2.tr hk⟩
set_option maxRecDepth 20000 in
set_option maxHeartbeats 8000000 in
theorem sum_any (px pz qx qz u : Nat) (w : World) (h1 : px < 57896044618658097711785492504343953926634992332820282019728792003956564819949) (h2 : pz < 57896044618658097711785492504343953926634992332820282019728792003956564819949) (h3 : qx < 57896044618658097711785492504343953926634992332820282019728792003956564819949) (h4 : qz < 57896044618658097711785492504343953926634992332820282019728792003956564819949) (h5 : u < 57896044618658097711785492504343953926634992332820282019728792003956564819949) :
    Calls Try.prog 21 #[ptV px pz, ptV qx qz, numV u] w fun e w' => e = .returned (ptV (Edw.sXN 57896044618658097711785492504343953926634992332820282019728792003956564819949 px pz qx qz) (Edw.sZN 57896044618658097711785492504343953926634992332820282019728792003956564819949 u px pz qx qz)) ∧ Kp0 w w' := by
  obtain ⟨m1, hm1⟩ : ∃ v, v = nM 57896044618658097711785492504343953926634992332820282019728792003956564819949 px qx := ⟨_, rfl⟩
  obtain ⟨m2, hm2⟩ : ∃ v, v = nM 57896044618658097711785492504343953926634992332820282019728792003956564819949 pz qz := ⟨_, rfl⟩
  obtain ⟨a, ha⟩ : ∃ v, v = nS 57896044618658097711785492504343953926634992332820282019728792003956564819949 m1 m2 := ⟨_, rfl⟩
  obtain ⟨m3, hm3⟩ : ∃ v, v = nM 57896044618658097711785492504343953926634992332820282019728792003956564819949 px qz := ⟨_, rfl⟩
  obtain ⟨m4, hm4⟩ : ∃ v, v = nM 57896044618658097711785492504343953926634992332820282019728792003956564819949 pz qx := ⟨_, rfl⟩
  obtain ⟨b, hb⟩ : ∃ v, v = nS 57896044618658097711785492504343953926634992332820282019728792003956564819949 m3 m4 := ⟨_, rfl⟩
  obtain ⟨X, hX⟩ : ∃ v, v = nM 57896044618658097711785492504343953926634992332820282019728792003956564819949 a a := ⟨_, rfl⟩
  obtain ⟨bb, hbb⟩ : ∃ v, v = nM 57896044618658097711785492504343953926634992332820282019728792003956564819949 b b := ⟨_, rfl⟩
  obtain ⟨Z, hZ⟩ : ∃ v, v = nM 57896044618658097711785492504343953926634992332820282019728792003956564819949 u bb := ⟨_, rfl⟩
  have bm1 : m1 < 57896044618658097711785492504343953926634992332820282019728792003956564819949 := by rw [hm1]; exact Nat.mod_lt _ (by omega)
  have bm2 : m2 < 57896044618658097711785492504343953926634992332820282019728792003956564819949 := by rw [hm2]; exact Nat.mod_lt _ (by omega)
  have ba : a < 57896044618658097711785492504343953926634992332820282019728792003956564819949 := by rw [ha]; exact Nat.mod_lt _ (by omega)
  have bm3 : m3 < 57896044618658097711785492504343953926634992332820282019728792003956564819949 := by rw [hm3]; exact Nat.mod_lt _ (by omega)
  have bm4 : m4 < 57896044618658097711785492504343953926634992332820282019728792003956564819949 := by rw [hm4]; exact Nat.mod_lt _ (by omega)
  have bb0 : b < 57896044618658097711785492504343953926634992332820282019728792003956564819949 := by rw [hb]; exact Nat.mod_lt _ (by omega)
  have bX : X < 57896044618658097711785492504343953926634992332820282019728792003956564819949 := by rw [hX]; exact Nat.mod_lt _ (by omega)
  have bbb : bb < 57896044618658097711785492504343953926634992332820282019728792003956564819949 := by rw [hbb]; exact Nat.mod_lt _ (by omega)
  have bZ : Z < 57896044618658097711785492504343953926634992332820282019728792003956564819949 := by rw [hZ]; exact Nat.mod_lt _ (by omega)
  have Cm1 : Hid (∀ w : World, Calls Try.prog 24 #[numV px, numV qx] w fun e w' => e = .returned (numV m1) ∧ Kp0 w w') := Lib.hid (fun w => by rw [hm1]; exact mul_any px qx _ h1 h3)
  have Cm2 : Hid (∀ w : World, Calls Try.prog 24 #[numV pz, numV qz] w fun e w' => e = .returned (numV m2) ∧ Kp0 w w') := Lib.hid (fun w => by rw [hm2]; exact mul_any pz qz _ h2 h4)
  have Ca : Hid (∀ w : World, Calls Try.prog 35 #[numV m1, numV m2] w fun e w' => e = .returned (numV a) ∧ Kp0 w w') := Lib.hid (fun w => by rw [ha]; exact sub_any m1 m2 _ bm1 bm2)
  have Cm3 : Hid (∀ w : World, Calls Try.prog 24 #[numV px, numV qz] w fun e w' => e = .returned (numV m3) ∧ Kp0 w w') := Lib.hid (fun w => by rw [hm3]; exact mul_any px qz _ h1 h4)
  have Cm4 : Hid (∀ w : World, Calls Try.prog 24 #[numV pz, numV qx] w fun e w' => e = .returned (numV m4) ∧ Kp0 w w') := Lib.hid (fun w => by rw [hm4]; exact mul_any pz qx _ h2 h3)
  have Cb : Hid (∀ w : World, Calls Try.prog 35 #[numV m3, numV m4] w fun e w' => e = .returned (numV b) ∧ Kp0 w w') := Lib.hid (fun w => by rw [hb]; exact sub_any m3 m4 _ bm3 bm4)
  have CX : Hid (∀ w : World, Calls Try.prog 24 #[numV a, numV a] w fun e w' => e = .returned (numV X) ∧ Kp0 w w') := Lib.hid (fun w => by rw [hX]; exact mul_any a a _ ba ba)
  have Cbb : Hid (∀ w : World, Calls Try.prog 24 #[numV b, numV b] w fun e w' => e = .returned (numV bb) ∧ Kp0 w w') := Lib.hid (fun w => by rw [hbb]; exact mul_any b b _ bb0 bb0)
  have CZ : Hid (∀ w : World, Calls Try.prog 24 #[numV u, numV bb] w fun e w' => e = .returned (numV Z) ∧ Kp0 w w') := Lib.hid (fun w => by rw [hZ]; exact mul_any u bb _ h5 bbb)
  have HR : Hid (Edw.sXN 57896044618658097711785492504343953926634992332820282019728792003956564819949 px pz qx qz = X ∧ Edw.sZN 57896044618658097711785492504343953926634992332820282019728792003956564819949 u px pz qx qz = Z) := Lib.hid (by subst hZ hbb hX hb hm4 hm3 ha hm2 hm1; exact ⟨rfl, rfl⟩)
  rw [HR.out.1, HR.out.2]
  clear HR hm1 hm2 ha hm3 hm4 hb hX hbb hZ bm1 bm2 ba bm3 bm4 bb0 bX bbb bZ h1 h2 h3 h4 h5
  unfold ptV numV
  go_enter Try.func21, Try.ntmps21
  go_upto_region 1 with (fail)
  have HD0 := Lib.hid (SumS.start w px pz qx qz u)
  change Code.wp _ _ _ _ ((((w.alloc (.cells (i64s (ptL px pz)).toArray 50)).alloc (.cells (i64s (ptL qx qz)).toArray 50)).alloc (.cells (i64s (F3.digs 16 (u : Int))).toArray 46)).alloc (.cells (i64s zpt).toArray 50))
  generalize ((((w.alloc (.cells (i64s (ptL px pz)).toArray 50)).alloc (.cells (i64s (ptL qx qz)).toArray 50)).alloc (.cells (i64s (F3.digs 16 (u : Int))).toArray 46)).alloc (.cells (i64s zpt).toArray 50)) = w0 at HD0
  unfold numV at Cm1 Cm2 Ca Cm3 Cm4 Cb CX Cbb CZ
  go_cut [7] (fun p wx => ∃ g, p = .pointer (some ⟨g, 0, none⟩) ∧ Arr wx g 46 (F3.digs 16 (a : Int)) ∧ SumS w px pz qx qz u wx)
  case first =>
    have HK0 : Hid (Kp0 w0.drew w0.drew) := Lib.hid (Kp.refl _ _)
    refine wp_region_tree3 (fun w' : World => Kp0 w0.drew w') (.quiet 0 (.quiet 1 (.quiet 2 (.quiet 3 (.quiet 5 (.quiet 6 (.quiet 7 (.quiet 8 (.two 4 (.two 9 (.two 10 (.eff 11 (.eff 12 .done)) 11 (.eff 10 (.eff 12 .done))) 11 (.eff 9 (.eff 10 (.eff 12 .done)))) 11 (.eff 4 (.eff 9 (.eff 10 (.eff 12 .done))))))))))))) (by kernel_rfl) (by kernel_rfl) (by kernel_rfl) (by kernel_rfl) (fun _ d _ _ _ h => by cases d <;> exact h) HK0.out ?_
    repeat (first
      | (refine pu_quiet (v := .agg (i64s (F3.digs 16 (px : Int))).toArray) rfl (by rfl) (fun wq hwq => run_load_mid 46 (.tmp 9) rfl w.heap.size 0 _ rfl (pt_x (HD0.out.1.kp0 ((Kp.refl _ w0).drew.tr hwq))) _ Try.underlying46 rfl (infoN _ (numLen _))) rfl ?_; try simp only [List.setIfInBounds_toArray, List.set_cons_zero, List.set_cons_succ])
      | (refine pu_quiet (v := .agg (i64s (F3.digs 16 (qx : Int))).toArray) rfl (by rfl) (fun wq hwq => run_load_mid 46 (.tmp 11) rfl (w.heap.size + 1) 0 _ rfl (pt_x (HD0.out.2.1.kp0 ((Kp.refl _ w0).drew.tr hwq))) _ Try.underlying46 rfl (infoN _ (numLen _))) rfl ?_; try simp only [List.setIfInBounds_toArray, List.set_cons_zero, List.set_cons_succ])
      | (refine pu_quiet (v := .agg (i64s (F3.digs 16 (pz : Int))).toArray) rfl (by rfl) (fun wq hwq => run_load_mid 46 (.tmp 14) rfl w.heap.size 16 _ rfl (pt_z (HD0.out.1.kp0 ((Kp.refl _ w0).drew.tr hwq))) _ Try.underlying46 rfl (infoN _ (numLen _))) rfl ?_; try simp only [List.setIfInBounds_toArray, List.set_cons_zero, List.set_cons_succ])
      | (refine pu_quiet (v := .agg (i64s (F3.digs 16 (qz : Int))).toArray) rfl (by rfl) (fun wq hwq => run_load_mid 46 (.tmp 16) rfl (w.heap.size + 1) 16 _ rfl (pt_z (HD0.out.2.1.kp0 ((Kp.refl _ w0).drew.tr hwq))) _ Try.underlying46 rfl (infoN _ (numLen _))) rfl ?_; try simp only [List.setIfInBounds_toArray, List.set_cons_zero, List.set_cons_succ])
      | (refine pu_quiet (v := ?_) rfl (by rfl) (fun wq hwq => ?_) rfl ?_; rotate_left 1; (focus (go_simp; try (with_reducible rfl); done)); try simp only [List.setIfInBounds_toArray, List.set_cons_zero, List.set_cons_succ]))
    refine ⟨pu_one rfl (by rfl) (fun K hK => ?_), pu_one rfl (by rfl) (fun K hK => ?_)⟩
    · go_simp
      refine (Cm1.out _).mono ?_
      rintro e x1 ⟨rfl, hk⟩
      simp only []
      have HK1 : Hid (Kp0 w0.drew x1) := Lib.hid (HK0.out.tr hk)
      clear hk
      refine hK (fun w' : World => Kp0 w0.drew w') _ _ (fun x h => h) HK1.out ?_
      clear hK K
      refine ⟨pu_one rfl (by rfl) (fun K hK => ?_), pu_one rfl (by rfl) (fun K hK => ?_)⟩
      · go_simp
        refine (Cm2.out _).mono ?_
        rintro e x2 ⟨rfl, hk⟩
        simp only []
        have HK2 : Hid (Kp0 w0.drew x2) := Lib.hid (HK1.out.tr hk)
        clear hk
        refine hK (fun w' : World => Kp0 w0.drew w') _ _ (fun x h => h) HK2.out ?_
        clear hK K
        refine ⟨pu_one rfl (by rfl) (fun K hK => ?_), pu_one rfl (by rfl) (fun K hK => ?_)⟩
        · go_simp
          refine (Ca.out _).mono ?_
          rintro e x3 ⟨rfl, hk⟩
          simp only []
          have HK3 : Hid (Kp0 w0.drew x3) := Lib.hid (HK2.out.tr hk)
          clear hk
          refine hK (fun w' : World => Kp0 w0.drew w') _ _ (fun x h => h) HK3.out ?_
          clear hK K
          refine pu_eff rfl (by rfl) (fun K hK => ?_)
          go_simp
          refine hK (fun w' : World => Kp0 w0.drew w') _ _ (fun x h => h) (HK3.out.alloc _) ?_
          clear hK K
          have L11 : w0.drew.heap.size ≤ x3.heap.size := HK3.out.size
          have HK4 : Hid (Kp0 w0.drew (x3.alloc (.cells (i64s (zeros 16)).toArray 46))) := Lib.hid (HK3.out.alloc _)
          have F114 : Hid (Arr (x3.alloc (.cells (i64s (zeros 16)).toArray 46)) x3.heap.size 46 (zeros 16)) := Lib.hid (arr0 x3 _ _)
          change PU.wp _ _ _ _ _ _ (x3.alloc (.cells (i64s (zeros 16)).toArray 46))
          generalize (x3.alloc (.cells (i64s (zeros 16)).toArray 46)) = x4 at HK4 F114 ⊢
          refine pu_eff rfl (by rfl) (fun K hK => ?_)
          refine wp_store_arr 46 (.tmp 7) (.tmp 19) rfl x3.heap.size _ (zeros 16) (F3.digs 16 (a : Int)) rfl rfl F114.out (infoN' _ (numLen _)) (numLen _).symm ?_
          intro y5 hA hS
          have HS5 := Lib.hid hS
          have G115 := Lib.hid hA
          have HK5 : Hid (Kp0 w0.drew y5) := Lib.hid (HK4.out.trans hS (fun _ _ h => h) (fun i hi e => by omega))
          clear hA hS
          refine hK (fun w' : World => Kp0 w0.drew w') _ _ (fun x h => h) HK5.out ?_
          clear hK K
          refine pu_done ?_
          go_wp2
          go_meet
          exact ⟨x3.heap.size, rfl, G115.out, HD0.out.kp0 ((Kp.refl _ w0).drew.tr HK5.out)⟩
        · go_simp
          refine hK (fun w' : World => Kp0 w0.drew w') _ _ (fun x h => h) (HK2.out.alloc _) ?_
          clear hK K
          have L11 : w0.drew.heap.size ≤ x2.heap.size := HK2.out.size
          have HK6 : Hid (Kp0 w0.drew (x2.alloc (.cells (i64s (zeros 16)).toArray 46))) := Lib.hid (HK2.out.alloc _)
          have F116 : Hid (Arr (x2.alloc (.cells (i64s (zeros 16)).toArray 46)) x2.heap.size 46 (zeros 16)) := Lib.hid (arr0 x2 _ _)
          change PU.wp _ _ _ _ _ _ (x2.alloc (.cells (i64s (zeros 16)).toArray 46))
          generalize (x2.alloc (.cells (i64s (zeros 16)).toArray 46)) = x6 at HK6 F116 ⊢
          refine pu_eff rfl (by rfl) (fun K hK => ?_)
          go_simp
          refine (Ca.out _).mono ?_
          rintro e x7 ⟨rfl, hk⟩
          simp only []
          have HK7 : Hid (Kp0 w0.drew x7) := Lib.hid (HK6.out.tr hk)
          have F117 := Lib.hid (F116.out.kp0 hk)
          clear hk
          refine hK (fun w' : World => Kp0 w0.drew w') _ _ (fun x h => h) HK7.out ?_
          clear hK K
          refine pu_eff rfl (by rfl) (fun K hK => ?_)
          refine wp_store_arr 46 (.tmp 7) (.tmp 19) rfl x2.heap.size _ (zeros 16) (F3.digs 16 (a : Int)) rfl rfl F117.out (infoN' _ (numLen _)) (numLen _).symm ?_
          intro y8 hA hS
          have HS8 := Lib.hid hS
          have G118 := Lib.hid hA
          have HK8 : Hid (Kp0 w0.drew y8) := Lib.hid (HK7.out.trans hS (fun _ _ h => h) (fun i hi e => by omega))
          clear hA hS
          refine hK (fun w' : World => Kp0 w0.drew w') _ _ (fun x h => h) HK8.out ?_
          clear hK K
          refine pu_done ?_
          go_wp2
          go_meet
          exact ⟨x2.heap.size, rfl, G118.out, HD0.out.kp0 ((Kp.refl _ w0).drew.tr HK8.out)⟩
      · go_simp
        refine hK (fun w' : World => Kp0 w0.drew w') _ _ (fun x h => h) (HK1.out.alloc _) ?_
        clear hK K
        have L11 : w0.drew.heap.size ≤ x1.heap.size := HK1.out.size
        have HK9 : Hid (Kp0 w0.drew (x1.alloc (.cells (i64s (zeros 16)).toArray 46))) := Lib.hid (HK1.out.alloc _)
        have F119 : Hid (Arr (x1.alloc (.cells (i64s (zeros 16)).toArray 46)) x1.heap.size 46 (zeros 16)) := Lib.hid (arr0 x1 _ _)
        change PU.wp _ _ _ _ _ _ (x1.alloc (.cells (i64s (zeros 16)).toArray 46))
        generalize (x1.alloc (.cells (i64s (zeros 16)).toArray 46)) = x9 at HK9 F119 ⊢
        refine pu_eff rfl (by rfl) (fun K hK => ?_)
        go_simp
        refine (Cm2.out _).mono ?_
        rintro e x10 ⟨rfl, hk⟩
        simp only []
        have HK10 : Hid (Kp0 w0.drew x10) := Lib.hid (HK9.out.tr hk)
        have F1110 := Lib.hid (F119.out.kp0 hk)
        clear hk
        refine hK (fun w' : World => Kp0 w0.drew w') _ _ (fun x h => h) HK10.out ?_
        clear hK K
        refine pu_eff rfl (by rfl) (fun K hK => ?_)
        go_simp
        refine (Ca.out _).mono ?_
        rintro e x11 ⟨rfl, hk⟩
        simp only []
        have HK11 : Hid (Kp0 w0.drew x11) := Lib.hid (HK10.out.tr hk)
        have F1111 := Lib.hid (F1110.out.kp0 hk)
        clear hk
        refine hK (fun w' : World => Kp0 w0.drew w') _ _ (fun x h => h) HK11.out ?_
        clear hK K
        refine pu_eff rfl (by rfl) (fun K hK => ?_)
        refine wp_store_arr 46 (.tmp 7) (.tmp 19) rfl x1.heap.size _ (zeros 16) (F3.digs 16 (a : Int)) rfl rfl F1111.out (infoN' _ (numLen _)) (numLen _).symm ?_
        intro y12 hA hS
        have HS12 := Lib.hid hS
        have G1112 := Lib.hid hA
        have HK12 : Hid (Kp0 w0.drew y12) := Lib.hid (HK11.out.trans hS (fun _ _ h => h) (fun i hi e => by omega))
        clear hA hS
        refine hK (fun w' : World => Kp0 w0.drew w') _ _ (fun x h => h) HK12.out ?_
        clear hK K
        refine pu_done ?_
        go_wp2
        go_meet
        exact ⟨x1.heap.size, rfl, G1112.out, HD0.out.kp0 ((Kp.refl _ w0).drew.tr HK12.out)⟩
    · go_simp
      refine hK (fun w' : World => Kp0 w0.drew w') _ _ (fun x h => h) (HK0.out.alloc _) ?_
      clear hK K
      have L11 : w0.drew.heap.size ≤ w0.drew.heap.size := HK0.out.size
      have HK13 : Hid (Kp0 w0.drew (w0.drew.alloc (.cells (i64s (zeros 16)).toArray 46))) := Lib.hid (HK0.out.alloc _)
      have F1113 : Hid (Arr (w0.drew.alloc (.cells (i64s (zeros 16)).toArray 46)) w0.drew.heap.size 46 (zeros 16)) := Lib.hid (arr0 w0.drew _ _)
      change PU.wp _ _ _ _ _ _ (w0.drew.alloc (.cells (i64s (zeros 16)).toArray 46))
      generalize (w0.drew.alloc (.cells (i64s (zeros 16)).toArray 46)) = x13 at HK13 F1113 ⊢
      refine pu_eff rfl (by rfl) (fun K hK => ?_)
      go_simp
      refine (Cm1.out _).mono ?_
      rintro e x14 ⟨rfl, hk⟩
      simp only []
      have HK14 : Hid (Kp0 w0.drew x14) := Lib.hid (HK13.out.tr hk)
      have F1114 := Lib.hid (F1113.out.kp0 hk)
      clear hk
      refine hK (fun w' : World => Kp0 w0.drew w') _ _ (fun x h => h) HK14.out ?_
      clear hK K
      refine pu_eff rfl (by rfl) (fun K hK => ?_)
      go_simp
      refine (Cm2.out _).mono ?_
      rintro e x15 ⟨rfl, hk⟩
      simp only []
      have HK15 : Hid (Kp0 w0.drew x15) := Lib.hid (HK14.out.tr hk)
      have F1115 := Lib.hid (F1114.out.kp0 hk)
      clear hk
      refine hK (fun w' : World => Kp0 w0.drew w') _ _ (fun x h => h) HK15.out ?_
      clear hK K
      refine pu_eff rfl (by rfl) (fun K hK => ?_)
      go_simp
      refine (Ca.out _).mono ?_
      rintro e x16 ⟨rfl, hk⟩
      simp only []
      have HK16 : Hid (Kp0 w0.drew x16) := Lib.hid (HK15.out.tr hk)
      have F1116 := Lib.hid (F1115.out.kp0 hk)
      clear hk
      refine hK (fun w' : World => Kp0 w0.drew w') _ _ (fun x h => h) HK16.out ?_
      clear hK K
      refine pu_eff rfl (by rfl) (fun K hK => ?_)
      refine wp_store_arr 46 (.tmp 7) (.tmp 19) rfl w0.drew.heap.size _ (zeros 16) (F3.digs 16 (a : Int)) rfl rfl F1116.out (infoN' _ (numLen _)) (numLen _).symm ?_
      intro y17 hA hS
      have HS17 := Lib.hid hS
      have G1117 := Lib.hid hA
      have HK17 : Hid (Kp0 w0.drew y17) := Lib.hid (HK16.out.trans hS (fun _ _ h => h) (fun i hi e => by omega))
      clear hA hS
      refine hK (fun w' : World => Kp0 w0.drew w') _ _ (fun x h => h) HK17.out ?_
      clear hK K
      refine pu_done ?_
      go_wp2
      go_meet
      exact ⟨w0.drew.heap.size, rfl, G1117.out, HD0.out.kp0 ((Kp.refl _ w0).drew.tr HK17.out)⟩
  case rest =>
    obtain ⟨g, rfl, hg, hd⟩ := hcut
    have HG := Lib.hid hg
    have HD := Lib.hid hd
    clear hg hd HD0
    go_upto_region 2 with (fail)
    go_cut [8] (fun p wx => ∃ h, p = .pointer (some ⟨h, 0, none⟩) ∧ Arr wx h 46 (F3.digs 16 (b : Int)) ∧ Arr wx g 46 (F3.digs 16 (a : Int)) ∧ SumS w px pz qx qz u wx)
    case first =>
      have HK0 : Hid (Kp0 wc.drew wc.drew) := Lib.hid (Kp.refl _ _)
      refine wp_region_tree3 (fun w' : World => Kp0 wc.drew w') (.quiet 0 (.quiet 1 (.quiet 2 (.quiet 3 (.quiet 5 (.quiet 6 (.quiet 7 (.quiet 8 (.two 4 (.two 9 (.two 10 (.eff 11 (.eff 12 .done)) 11 (.eff 10 (.eff 12 .done))) 11 (.eff 9 (.eff 10 (.eff 12 .done)))) 11 (.eff 4 (.eff 9 (.eff 10 (.eff 12 .done))))))))))))) (by kernel_rfl) (by kernel_rfl) (by kernel_rfl) (by kernel_rfl) (fun _ d _ _ _ h => by cases d <;> exact h) HK0.out ?_
      repeat (first
        | (refine pu_quiet (v := .agg (i64s (F3.digs 16 (px : Int))).toArray) rfl (by rfl) (fun wq hwq => run_load_mid 46 (.tmp 20) rfl w.heap.size 0 _ rfl (pt_x (HD.out.1.kp0 ((Kp.refl _ wc).drew.tr hwq))) _ Try.underlying46 rfl (infoN _ (numLen _))) rfl ?_; try simp only [List.setIfInBounds_toArray, List.set_cons_zero, List.set_cons_succ])
        | (refine pu_quiet (v := .agg (i64s (F3.digs 16 (qz : Int))).toArray) rfl (by rfl) (fun wq hwq => run_load_mid 46 (.tmp 22) rfl (w.heap.size + 1) 16 _ rfl (pt_z (HD.out.2.1.kp0 ((Kp.refl _ wc).drew.tr hwq))) _ Try.underlying46 rfl (infoN _ (numLen _))) rfl ?_; try simp only [List.setIfInBounds_toArray, List.set_cons_zero, List.set_cons_succ])
        | (refine pu_quiet (v := .agg (i64s (F3.digs 16 (pz : Int))).toArray) rfl (by rfl) (fun wq hwq => run_load_mid 46 (.tmp 25) rfl w.heap.size 16 _ rfl (pt_z (HD.out.1.kp0 ((Kp.refl _ wc).drew.tr hwq))) _ Try.underlying46 rfl (infoN _ (numLen _))) rfl ?_; try simp only [List.setIfInBounds_toArray, List.set_cons_zero, List.set_cons_succ])
        | (refine pu_quiet (v := .agg (i64s (F3.digs 16 (qx : Int))).toArray) rfl (by rfl) (fun wq hwq => run_load_mid 46 (.tmp 27) rfl (w.heap.size + 1) 0 _ rfl (pt_x (HD.out.2.1.kp0 ((Kp.refl _ wc).drew.tr hwq))) _ Try.underlying46 rfl (infoN _ (numLen _))) rfl ?_; try simp only [List.setIfInBounds_toArray, List.set_cons_zero, List.set_cons_succ])
        | (refine pu_quiet (v := ?_) rfl (by rfl) (fun wq hwq => ?_) rfl ?_; rotate_left 1; (focus (go_simp; try (with_reducible rfl); done)); try simp only [List.setIfInBounds_toArray, List.set_cons_zero, List.set_cons_succ]))
      refine ⟨pu_one rfl (by rfl) (fun K hK => ?_), pu_one rfl (by rfl) (fun K hK => ?_)⟩
      · go_simp
        refine (Cm3.out _).mono ?_
        rintro e x1 ⟨rfl, hk⟩
        simp only []
        have HK1 : Hid (Kp0 wc.drew x1) := Lib.hid (HK0.out.tr hk)
        clear hk
        refine hK (fun w' : World => Kp0 wc.drew w') _ _ (fun x h => h) HK1.out ?_
        clear hK K
        refine ⟨pu_one rfl (by rfl) (fun K hK => ?_), pu_one rfl (by rfl) (fun K hK => ?_)⟩
        · go_simp
          refine (Cm4.out _).mono ?_
          rintro e x2 ⟨rfl, hk⟩
          simp only []
          have HK2 : Hid (Kp0 wc.drew x2) := Lib.hid (HK1.out.tr hk)
          clear hk
          refine hK (fun w' : World => Kp0 wc.drew w') _ _ (fun x h => h) HK2.out ?_
          clear hK K
          refine ⟨pu_one rfl (by rfl) (fun K hK => ?_), pu_one rfl (by rfl) (fun K hK => ?_)⟩
          · go_simp
            refine (Cb.out _).mono ?_
            rintro e x3 ⟨rfl, hk⟩
            simp only []
            have HK3 : Hid (Kp0 wc.drew x3) := Lib.hid (HK2.out.tr hk)
            clear hk
            refine hK (fun w' : World => Kp0 wc.drew w') _ _ (fun x h => h) HK3.out ?_
            clear hK K
            refine pu_eff rfl (by rfl) (fun K hK => ?_)
            go_simp
            refine hK (fun w' : World => Kp0 wc.drew w') _ _ (fun x h => h) (HK3.out.alloc _) ?_
            clear hK K
            have L11 : wc.drew.heap.size ≤ x3.heap.size := HK3.out.size
            have HK4 : Hid (Kp0 wc.drew (x3.alloc (.cells (i64s (zeros 16)).toArray 46))) := Lib.hid (HK3.out.alloc _)
            have F114 : Hid (Arr (x3.alloc (.cells (i64s (zeros 16)).toArray 46)) x3.heap.size 46 (zeros 16)) := Lib.hid (arr0 x3 _ _)
            change PU.wp _ _ _ _ _ _ (x3.alloc (.cells (i64s (zeros 16)).toArray 46))
            generalize (x3.alloc (.cells (i64s (zeros 16)).toArray 46)) = x4 at HK4 F114 ⊢
            refine pu_eff rfl (by rfl) (fun K hK => ?_)
            refine wp_store_arr 46 (.tmp 8) (.tmp 30) rfl x3.heap.size _ (zeros 16) (F3.digs 16 (b : Int)) rfl rfl F114.out (infoN' _ (numLen _)) (numLen _).symm ?_
            intro y5 hA hS
            have HS5 := Lib.hid hS
            have G115 := Lib.hid hA
            have HK5 : Hid (Kp0 wc.drew y5) := Lib.hid (HK4.out.trans hS (fun _ _ h => h) (fun i hi e => by omega))
            clear hA hS
            refine hK (fun w' : World => Kp0 wc.drew w') _ _ (fun x h => h) HK5.out ?_
            clear hK K
            refine pu_done ?_
            go_wp2
            go_meet
            exact ⟨x3.heap.size, rfl, G115.out, HG.out.kp0 ((Kp.refl _ wc).drew.tr HK5.out), HD.out.kp0 ((Kp.refl _ wc).drew.tr HK5.out)⟩
          · go_simp
            refine hK (fun w' : World => Kp0 wc.drew w') _ _ (fun x h => h) (HK2.out.alloc _) ?_
            clear hK K
            have L11 : wc.drew.heap.size ≤ x2.heap.size := HK2.out.size
            have HK6 : Hid (Kp0 wc.drew (x2.alloc (.cells (i64s (zeros 16)).toArray 46))) := Lib.hid (HK2.out.alloc _)
            have F116 : Hid (Arr (x2.alloc (.cells (i64s (zeros 16)).toArray 46)) x2.heap.size 46 (zeros 16)) := Lib.hid (arr0 x2 _ _)
            change PU.wp _ _ _ _ _ _ (x2.alloc (.cells (i64s (zeros 16)).toArray 46))
            generalize (x2.alloc (.cells (i64s (zeros 16)).toArray 46)) = x6 at HK6 F116 ⊢
            refine pu_eff rfl (by rfl) (fun K hK => ?_)
            go_simp
            refine (Cb.out _).mono ?_
            rintro e x7 ⟨rfl, hk⟩
            simp only []
            have HK7 : Hid (Kp0 wc.drew x7) := Lib.hid (HK6.out.tr hk)
            have F117 := Lib.hid (F116.out.kp0 hk)
            clear hk
            refine hK (fun w' : World => Kp0 wc.drew w') _ _ (fun x h => h) HK7.out ?_
            clear hK K
            refine pu_eff rfl (by rfl) (fun K hK => ?_)
            refine wp_store_arr 46 (.tmp 8) (.tmp 30) rfl x2.heap.size _ (zeros 16) (F3.digs 16 (b : Int)) rfl rfl F117.out (infoN' _ (numLen _)) (numLen _).symm ?_
            intro y8 hA hS
            have HS8 := Lib.hid hS
            have G118 := Lib.hid hA
            have HK8 : Hid (Kp0 wc.drew y8) := Lib.hid (HK7.out.trans hS (fun _ _ h => h) (fun i hi e => by omega))
            clear hA hS
            refine hK (fun w' : World => Kp0 wc.drew w') _ _ (fun x h => h) HK8.out ?_
            clear hK K
            refine pu_done ?_
            go_wp2
            go_meet
            exact ⟨x2.heap.size, rfl, G118.out, HG.out.kp0 ((Kp.refl _ wc).drew.tr HK8.out), HD.out.kp0 ((Kp.refl _ wc).drew.tr HK8.out)⟩
        · go_simp
          refine hK (fun w' : World => Kp0 wc.drew w') _ _ (fun x h => h) (HK1.out.alloc _) ?_
          clear hK K
          have L11 : wc.drew.heap.size ≤ x1.heap.size := HK1.out.size
          have HK9 : Hid (Kp0 wc.drew (x1.alloc (.cells (i64s (zeros 16)).toArray 46))) := Lib.hid (HK1.out.alloc _)
          have F119 : Hid (Arr (x1.alloc (.cells (i64s (zeros 16)).toArray 46)) x1.heap.size 46 (zeros 16)) := Lib.hid (arr0 x1 _ _)
          change PU.wp _ _ _ _ _ _ (x1.alloc (.cells (i64s (zeros 16)).toArray 46))
          generalize (x1.alloc (.cells (i64s (zeros 16)).toArray 46)) = x9 at HK9 F119 ⊢
          refine pu_eff rfl (by rfl) (fun K hK => ?_)
          go_simp
          refine (Cm4.out _).mono ?_
          rintro e x10 ⟨rfl, hk⟩
          simp only []
          have HK10 : Hid (Kp0 wc.drew x10) := Lib.hid (HK9.out.tr hk)
          have F1110 := Lib.hid (F119.out.kp0 hk)
          clear hk
          refine hK (fun w' : World => Kp0 wc.drew w') _ _ (fun x h => h) HK10.out ?_
          clear hK K
          refine pu_eff rfl (by rfl) (fun K hK => ?_)
          go_simp
          refine (Cb.out _).mono ?_
          rintro e x11 ⟨rfl, hk⟩
          simp only []
          have HK11 : Hid (Kp0 wc.drew x11) := Lib.hid (HK10.out.tr hk)
          have F1111 := Lib.hid (F1110.out.kp0 hk)
          clear hk
          refine hK (fun w' : World => Kp0 wc.drew w') _ _ (fun x h => h) HK11.out ?_
          clear hK K
          refine pu_eff rfl (by rfl) (fun K hK => ?_)
          refine wp_store_arr 46 (.tmp 8) (.tmp 30) rfl x1.heap.size _ (zeros 16) (F3.digs 16 (b : Int)) rfl rfl F1111.out (infoN' _ (numLen _)) (numLen _).symm ?_
          intro y12 hA hS
          have HS12 := Lib.hid hS
          have G1112 := Lib.hid hA
          have HK12 : Hid (Kp0 wc.drew y12) := Lib.hid (HK11.out.trans hS (fun _ _ h => h) (fun i hi e => by omega))
          clear hA hS
          refine hK (fun w' : World => Kp0 wc.drew w') _ _ (fun x h => h) HK12.out ?_
          clear hK K
          refine pu_done ?_
          go_wp2
          go_meet
          exact ⟨x1.heap.size, rfl, G1112.out, HG.out.kp0 ((Kp.refl _ wc).drew.tr HK12.out), HD.out.kp0 ((Kp.refl _ wc).drew.tr HK12.out)⟩
      · go_simp
        refine hK (fun w' : World => Kp0 wc.drew w') _ _ (fun x h => h) (HK0.out.alloc _) ?_
        clear hK K
        have L11 : wc.drew.heap.size ≤ wc.drew.heap.size := HK0.out.size
        have HK13 : Hid (Kp0 wc.drew (wc.drew.alloc (.cells (i64s (zeros 16)).toArray 46))) := Lib.hid (HK0.out.alloc _)
        have F1113 : Hid (Arr (wc.drew.alloc (.cells (i64s (zeros 16)).toArray 46)) wc.drew.heap.size 46 (zeros 16)) := Lib.hid (arr0 wc.drew _ _)
        change PU.wp _ _ _ _ _ _ (wc.drew.alloc (.cells (i64s (zeros 16)).toArray 46))
        generalize (wc.drew.alloc (.cells (i64s (zeros 16)).toArray 46)) = x13 at HK13 F1113 ⊢
        refine pu_eff rfl (by rfl) (fun K hK => ?_)
        go_simp
        refine (Cm3.out _).mono ?_
        rintro e x14 ⟨rfl, hk⟩
        simp only []
        have HK14 : Hid (Kp0 wc.drew x14) := Lib.hid (HK13.out.tr hk)
        have F1114 := Lib.hid (F1113.out.kp0 hk)
        clear hk
        refine hK (fun w' : World => Kp0 wc.drew w') _ _ (fun x h => h) HK14.out ?_
        clear hK K
        refine pu_eff rfl (by rfl) (fun K hK => ?_)
        go_simp
        refine (Cm4.out _).mono ?_
        rintro e x15 ⟨rfl, hk⟩
        simp only []
        have HK15 : Hid (Kp0 wc.drew x15) := Lib.hid (HK14.out.tr hk)
        have F1115 := Lib.hid (F1114.out.kp0 hk)
        clear hk
        refine hK (fun w' : World => Kp0 wc.drew w') _ _ (fun x h => h) HK15.out ?_
        clear hK K
        refine pu_eff rfl (by rfl) (fun K hK => ?_)
        go_simp
        refine (Cb.out _).mono ?_
        rintro e x16 ⟨rfl, hk⟩
        simp only []
        have HK16 : Hid (Kp0 wc.drew x16) := Lib.hid (HK15.out.tr hk)
        have F1116 := Lib.hid (F1115.out.kp0 hk)
        clear hk
        refine hK (fun w' : World => Kp0 wc.drew w') _ _ (fun x h => h) HK16.out ?_
        clear hK K
        refine pu_eff rfl (by rfl) (fun K hK => ?_)
        refine wp_store_arr 46 (.tmp 8) (.tmp 30) rfl wc.drew.heap.size _ (zeros 16) (F3.digs 16 (b : Int)) rfl rfl F1116.out (infoN' _ (numLen _)) (numLen _).symm ?_
        intro y17 hA hS
        have HS17 := Lib.hid hS
        have G1117 := Lib.hid hA
        have HK17 : Hid (Kp0 wc.drew y17) := Lib.hid (HK16.out.trans hS (fun _ _ h => h) (fun i hi e => by omega))
        clear hA hS
        refine hK (fun w' : World => Kp0 wc.drew w') _ _ (fun x h => h) HK17.out ?_
        clear hK K
        refine pu_done ?_
        go_wp2
        go_meet
        exact ⟨wc.drew.heap.size, rfl, G1117.out, HG.out.kp0 ((Kp.refl _ wc).drew.tr HK17.out), HD.out.kp0 ((Kp.refl _ wc).drew.tr HK17.out)⟩
    case rest =>
      obtain ⟨h, rfl, hh, hg, hd⟩ := hcut
      have HH5 := Lib.hid hh
      have HG5 := Lib.hid hg
      have HD5 := Lib.hid hd
      clear hh hg hd HG HD
      go_upto_region 3 with (fail)
      have HK0 : Hid (Kp0 wc.drew wc.drew) := Lib.hid (Kp.refl _ _)
      refine wp_region_wall [9] (fun w' : World => Kp0 wc.drew w') (.quiet 0 (.quiet 1 (.quiet 3 (.quiet 4 (.quiet 5 (.eff 2 (.eff 6 (.eff 7 (.quiet 8 (.wall 9 .done)))))))))) (by kernel_rfl) (by kernel_rfl) (by kernel_rfl) (by kernel_rfl) (fun _ d _ _ _ h => by cases d <;> exact h) HK0.out ?_
      repeat (first
        | (refine pw_quiet (v := .agg (i64s (F3.digs 16 (a : Int))).toArray) rfl (by rfl) (fun wq hwq => run_load_arr 46 (.tmp 7) rfl g _ (F3.digs 16 (a : Int)) rfl (HG5.out.kp0 ((Kp.refl _ wc).drew.tr hwq)) _ Try.underlying46 rfl (infoN _ (numLen _))) rfl ?_; try simp only [List.setIfInBounds_toArray, List.set_cons_zero, List.set_cons_succ])
        | (refine pw_quiet (v := .agg (i64s (F3.digs 16 (u : Int))).toArray) rfl (by rfl) (fun wq hwq => run_load_arr 46 (.tmp 5) rfl (w.heap.size + 1 + 1) _ (F3.digs 16 (u : Int)) rfl (HD5.out.2.2.1.kp0 ((Kp.refl _ wc).drew.tr hwq)) _ Try.underlying46 rfl (infoN _ (numLen _))) rfl ?_; try simp only [List.setIfInBounds_toArray, List.set_cons_zero, List.set_cons_succ])
        | (refine pw_quiet (v := .agg (i64s (F3.digs 16 (b : Int))).toArray) rfl (by rfl) (fun wq hwq => run_load_arr 46 (.tmp 8) rfl h _ (F3.digs 16 (b : Int)) rfl (HH5.out.kp0 ((Kp.refl _ wc).drew.tr hwq)) _ Try.underlying46 rfl (infoN _ (numLen _))) rfl ?_; try simp only [List.setIfInBounds_toArray, List.set_cons_zero, List.set_cons_succ])
        | (refine pw_quiet (v := ?_) rfl (by rfl) (fun wq hwq => ?_) rfl ?_; rotate_left 1; (focus (go_simp; try (with_reducible rfl); done)); try simp only [List.setIfInBounds_toArray, List.set_cons_zero, List.set_cons_succ]))
      refine pw_eff rfl (by rfl) (fun K hK => ?_)
      go_simp
      refine (CX.out _).mono ?_
      rintro e z1 ⟨rfl, hk⟩
      simp only []
      have HK1 : Hid (Kp0 wc.drew z1) := Lib.hid (HK0.out.tr hk)
      clear hk
      refine hK (fun w' : World => Kp0 wc.drew w') _ _ (fun x h => h) HK1.out ?_
      clear hK K
      refine pw_eff rfl (by rfl) (fun K hK => ?_)
      go_simp
      refine (Cbb.out _).mono ?_
      rintro e z2 ⟨rfl, hk⟩
      simp only []
      have HK2 : Hid (Kp0 wc.drew z2) := Lib.hid (HK1.out.tr hk)
      clear hk
      refine hK (fun w' : World => Kp0 wc.drew w') _ _ (fun x h => h) HK2.out ?_
      clear hK K
      refine pw_eff rfl (by rfl) (fun K hK => ?_)
      go_simp
      refine (CZ.out _).mono ?_
      rintro e z3 ⟨rfl, hk⟩
      simp only []
      have HK3 : Hid (Kp0 wc.drew z3) := Lib.hid (HK2.out.tr hk)
      clear hk
      refine hK (fun w' : World => Kp0 wc.drew w') _ _ (fun x h => h) HK3.out ?_
      clear hK K
      refine pw_quiet (v := .agg (i64s (ptL X Z)).toArray) rfl (by rfl) (fun wq hwq => run_build_pt wq _ _ 33 38 rfl X Z rfl rfl) rfl ?_
      try simp only [List.setIfInBounds_toArray, List.set_cons_zero, List.set_cons_succ]
      have HD8 := Lib.hid (HD5.out.kp0 ((Kp.refl _ wc).drew.tr HK3.out))
      refine pw_wall rfl (by rfl) (fun K hK => ?_)
      refine wp_store_arr 50 (.tmp 6) (.tmp 39) rfl (w.heap.size + 1 + 1 + 1) _ zpt (ptL X Z) rfl rfl HD8.out.2.2.2.1 (by rw [List.size_toArray]; exact infoT X Z) (by rw [ptL_len]; rfl) ?_
      intro w9 hA hS
      have HA9 := Lib.hid hA
      have HS9 := Lib.hid hS
      clear hA hS
      refine hK _ _ ?_
      clear hK K
      refine pw_done ?_
      go_wp2
      refine ret_arr 6 50 50 (w.heap.size + 1 + 1 + 1) (ptL X Z) _ rfl rfl HA9.out Try.underlying50 rfl (infoT X Z) rfl ?_
      exact ⟨rfl, HD8.out.2.2.2.2.trans HS9.out (fun _ _ h => h) (fun i hi e => by omega)⟩
end Go.Proofs.Ytcnehbfcagghpaa
