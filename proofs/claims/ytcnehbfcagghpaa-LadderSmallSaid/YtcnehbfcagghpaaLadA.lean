/- Package ladder: pick, swap, double, add. -/
import Derived.Test.YtcnehbfcagghpaaLad4
namespace Go.Proofs.Ytcnehbfcagghpaa
open Go Go.RowKit
open Edw (nA nS nM)
set_option maxRecDepth 20000 in
set_option maxHeartbeats 4000000 in
theorem fradd_any (x1 z1 x2 z2 : List Value) (m1 n1 m2 n2 : Nat) (u : List Value) (nu : Nat) (w : World) (h1 : Fe El x1 m1) (h2 : Fe El z1 n1) (h3 : Fe El x2 m2) (h4 : Fe El z2 n2) (h5 : Fe El u nu) : Calls Try.prog 30 #[.agg (x1 ++ z1).toArray, .agg (x2 ++ z2).toArray, .agg u.toArray] w fun e w' => ∃ cs ds, e = .returned (.agg (cs ++ ds).toArray) ∧ Fe El cs (Edw.psX 57896044618658097711785492504343953926634992332820282019728792003956564819949 m1 n1 m2 n2) ∧ Fe El ds (Edw.psZ 57896044618658097711785492504343953926634992332820282019728792003956564819949 nu m1 n1 m2 n2) ∧ Kp0 w w' := by
  have H1 := Lib.hid h1
  have H2 := Lib.hid h2
  have H3 := Lib.hid h3
  have H4 := Lib.hid h4
  clear h1 h2 h3 h4
  have H5 := Lib.hid h5
  clear h5
  go_enter Try.func30, Try.ntmps30
  go_upto_region 1 with (fail)
  obtain ⟨w0, hw0⟩ : ∃ w0, w0 = ((((w.alloc (.cells ((x1 ++ z1)).toArray 60)).alloc (.cells ((x2 ++ z2)).toArray 60)).alloc (.cells (u).toArray 40)).alloc (.cells (((kis .u64 z5) ++ (kis .u64 z5))).toArray 60)) := ⟨_, rfl⟩
  have B3_0 : Hid (Blk w0 w.heap.size 60 ((x1 ++ z1))) := Lib.hid (by rw [hw0]; exact (blk_n (w := w) (by simp)).kp0 (((((Kp.refl _ _).alloc _).alloc _).alloc _)))
  have B4_0 : Hid (Blk w0 (w.heap.size + 1) 60 ((x2 ++ z2))) := Lib.hid (by rw [hw0]; exact (blk_n (w := (w.alloc (.cells ((x1 ++ z1)).toArray 60))) (by simp)).kp0 ((((Kp.refl _ _).alloc _).alloc _)))
  have B5_0 : Hid (Blk w0 (w.heap.size + 1 + 1) 40 (u)) := Lib.hid (by rw [hw0]; exact (blk_n (w := ((w.alloc (.cells ((x1 ++ z1)).toArray 60)).alloc (.cells ((x2 ++ z2)).toArray 60))) (by simp)).kp0 (((Kp.refl _ _).alloc _)))
  have B6_0 : Hid (Blk w0 (w.heap.size + 1 + 1 + 1) 60 (((kis .u64 z5) ++ (kis .u64 z5)))) := Lib.hid (by rw [hw0]; exact blk_n (w := (((w.alloc (.cells ((x1 ++ z1)).toArray 60)).alloc (.cells ((x2 ++ z2)).toArray 60)).alloc (.cells (u).toArray 40))) (by simp))
  have KW_0 : Hid (Kp0 w w0) := Lib.hid (by rw [hw0]; exact (((((Kp.refl _ w).alloc _).alloc _).alloc _).alloc _))
  change Code.wp _ _ _ _ ((((w.alloc (.cells ((x1 ++ z1)).toArray 60)).alloc (.cells ((x2 ++ z2)).toArray 60)).alloc (.cells (u).toArray 40)).alloc (.cells (((kis .u64 z5) ++ (kis .u64 z5))).toArray 60))
  rw [← hw0]
  clear hw0
  go_cut [7] (fun p7 wx => ∃ g7 : Nat, ∃ e7 : List Value, p7 = .pointer (some ⟨g7, 0, none⟩) ∧ (w.heap.size < g7 ∧ (w.heap.size + 1) < g7 ∧ (w.heap.size + 1 + 1) < g7 ∧ (w.heap.size + 1 + 1 + 1) < g7 ∧ w.heap.size ≤ g7) ∧ Fe El e7 (nM 57896044618658097711785492504343953926634992332820282019728792003956564819949 (nA 57896044618658097711785492504343953926634992332820282019728792003956564819949 m1 n1) (nS 57896044618658097711785492504343953926634992332820282019728792003956564819949 m2 n2)) ∧ Blk wx g7 40 e7 ∧ Blk wx w.heap.size 60 ((x1 ++ z1)) ∧ Blk wx (w.heap.size + 1) 60 ((x2 ++ z2)) ∧ Blk wx (w.heap.size + 1 + 1) 40 (u) ∧ Blk wx (w.heap.size + 1 + 1 + 1) 60 (((kis .u64 z5) ++ (kis .u64 z5))) ∧ Kp0 w wx)
  case first =>
    have HK1_0 : Hid (Kp0 w0.drew w0.drew) := Lib.hid (Kp.refl _ _)
    refine wp_region_px 13 [] (fun w' : World => Kp0 w0.drew w') (.quiet 0 (.quiet 2 (.quiet 5 (.quiet 7 (.quiet 1 (.quiet 3 (.quiet 6 (.quiet 8 (.two 4 (.two 9 (.two 10 (.eff 11 (.eff 12 .done)) 11 (.eff 10 (.eff 12 .done))) 11 (.eff 9 (.eff 10 (.eff 12 .done)))) 11 (.eff 4 (.eff 9 (.eff 10 (.eff 12 .done))))))))))))) (by kernel_rfl) (by kernel_rfl) (by kernel_rfl) (by kernel_rfl) (fun _ d _ _ _ h => by cases d <;> exact h) HK1_0.out ?_
    refine px_quiet (v := ?_) rfl (by rfl) (fun wq hwq => ?_) rfl ?_; rotate_left 1; (focus (go_simp; try (with_reducible rfl); done)); try simp only [List.setIfInBounds_toArray, List.set_cons_zero, List.set_cons_succ]
    refine px_quiet (v := ?_) rfl (by rfl) (fun wq hwq => ?_) rfl ?_; rotate_left 1; (focus (go_simp; try (with_reducible rfl); done)); try simp only [List.setIfInBounds_toArray, List.set_cons_zero, List.set_cons_succ]
    refine px_quiet (v := ?_) rfl (by rfl) (fun wq hwq => ?_) rfl ?_; rotate_left 1; (focus (go_simp; try (with_reducible rfl); done)); try simp only [List.setIfInBounds_toArray, List.set_cons_zero, List.set_cons_succ]
    refine px_quiet (v := ?_) rfl (by rfl) (fun wq hwq => ?_) rfl ?_; rotate_left 1; (focus (go_simp; try (with_reducible rfl); done)); try simp only [List.setIfInBounds_toArray, List.set_cons_zero, List.set_cons_succ]
    refine px_quiet (v := .agg (x1).toArray) rfl (by rfl) (fun wq hwq => run_load_mid 40 (.tmp 11) rfl w.heap.size 0 _ rfl (blk_l (B3_0.out.kp0 ((Kp.refl _ w0).drew.tr hwq))) _ Try.underlying40 rfl H1.out.2.2.1) rfl ?_
    try simp only [List.setIfInBounds_toArray, List.set_cons_zero, List.set_cons_succ]
    refine px_quiet (v := .agg (z1).toArray) rfl (by rfl) (fun wq hwq => run_load_mid 40 (.tmp 13) rfl w.heap.size 5 _ rfl (blk_r (fe_len H1.out) (B3_0.out.kp0 ((Kp.refl _ w0).drew.tr hwq))) _ Try.underlying40 rfl H2.out.2.2.1) rfl ?_
    try simp only [List.setIfInBounds_toArray, List.set_cons_zero, List.set_cons_succ]
    refine px_quiet (v := .agg (x2).toArray) rfl (by rfl) (fun wq hwq => run_load_mid 40 (.tmp 16) rfl (w.heap.size + 1) 0 _ rfl (blk_l (B4_0.out.kp0 ((Kp.refl _ w0).drew.tr hwq))) _ Try.underlying40 rfl H3.out.2.2.1) rfl ?_
    try simp only [List.setIfInBounds_toArray, List.set_cons_zero, List.set_cons_succ]
    refine px_quiet (v := .agg (z2).toArray) rfl (by rfl) (fun wq hwq => run_load_mid 40 (.tmp 18) rfl (w.heap.size + 1) 5 _ rfl (blk_r (fe_len H3.out) (B4_0.out.kp0 ((Kp.refl _ w0).drew.tr hwq))) _ Try.underlying40 rfl H4.out.2.2.1) rfl ?_
    try simp only [List.setIfInBounds_toArray, List.set_cons_zero, List.set_cons_succ]
    refine ⟨px_one rfl (by rfl) (fun K hK => ?_), px_one rfl (by rfl) (fun K hK => ?_)⟩
    · go_simp
      refine (add_fe x1 z1 m1 n1 _ H1.out H2.out).mono ?_
      rintro e ww2 ⟨c2, rfl, hc, hk⟩
      simp only []
      have HC2 : Hid (Fe El c2 (nA 57896044618658097711785492504343953926634992332820282019728792003956564819949 m1 n1)) := Lib.hid hc
      clear hc
      have HK2 : Hid (Kp0 w0.drew ww2) := Lib.hid (HK1_0.out.tr hk)
      clear hk
      refine hK (fun w' : World => Kp0 w0.drew w') _ _ (fun x h => h) HK2.out ?_
      clear hK K
      refine ⟨px_one rfl (by rfl) (fun K hK => ?_), px_one rfl (by rfl) (fun K hK => ?_)⟩
      · go_simp
        refine (sub_fe x2 z2 m2 n2 _ H3.out H4.out).mono ?_
        rintro e ww3 ⟨c3, rfl, hc, hk⟩
        simp only []
        have HC3 : Hid (Fe El c3 (nS 57896044618658097711785492504343953926634992332820282019728792003956564819949 m2 n2)) := Lib.hid hc
        clear hc
        have HK3 : Hid (Kp0 w0.drew ww3) := Lib.hid (HK2.out.tr hk)
        clear hk
        refine hK (fun w' : World => Kp0 w0.drew w') _ _ (fun x h => h) HK3.out ?_
        clear hK K
        refine ⟨px_one rfl (by rfl) (fun K hK => ?_), px_one rfl (by rfl) (fun K hK => ?_)⟩
        · go_simp
          refine (mul_fe c2 c3 (nA 57896044618658097711785492504343953926634992332820282019728792003956564819949 m1 n1) (nS 57896044618658097711785492504343953926634992332820282019728792003956564819949 m2 n2) _ HC2.out HC3.out).mono ?_
          rintro e ww4 ⟨c4, rfl, hc, hk⟩
          simp only []
          have HC4 : Hid (Fe El c4 (nM 57896044618658097711785492504343953926634992332820282019728792003956564819949 (nA 57896044618658097711785492504343953926634992332820282019728792003956564819949 m1 n1) (nS 57896044618658097711785492504343953926634992332820282019728792003956564819949 m2 n2))) := Lib.hid hc
          clear hc
          have HK4 : Hid (Kp0 w0.drew ww4) := Lib.hid (HK3.out.tr hk)
          clear hk
          refine hK (fun w' : World => Kp0 w0.drew w') _ _ (fun x h => h) HK4.out ?_
          clear hK K
          refine px_eff rfl (by rfl) (fun K hK => ?_)
          go_simp
          refine hK (fun w' : World => Kp0 w0.drew w') _ _ (fun x h => h) (HK4.out.alloc _) ?_
          clear hK K
          have L7_5 : w0.drew.heap.size ≤ ww4.heap.size := HK4.out.size
          have HK5 : Hid (Kp0 w0.drew (ww4.alloc (.cells ((kis .u64 z5)).toArray 40))) := Lib.hid (HK4.out.alloc _)
          have B7_5 : Hid (Blk (ww4.alloc (.cells ((kis .u64 z5)).toArray 40)) ww4.heap.size 40 ((kis .u64 z5))) := Lib.hid (blk0 ww4 _ _)
          change PX.wp _ _ _ _ _ _ (ww4.alloc (.cells ((kis .u64 z5)).toArray 40))
          generalize (ww4.alloc (.cells ((kis .u64 z5)).toArray 40)) = ww5 at HK5 B7_5 ⊢
          refine px_eff rfl (by rfl) (fun K hK => ?_)
          refine wp_store_blk 40 (.tmp 7) (.tmp 21) rfl ww4.heap.size _ ((kis .u64 z5)) (c4) rfl rfl B7_5.out HC4.out.2.2.1 (len_of (T := 40) fe_z5.2.2.1 HC4.out.2.2.1) HC4.out.2.2.2 ?_
          intro ww6 hA hS
          have B7_6 := Lib.hid hA
          have HK6 : Hid (Kp0 w0.drew ww6) := Lib.hid (HK5.out.trans hS (fun _ _ h => h) (fun i hi e => by omega))
          clear hA hS
          refine hK (fun w' : World => Kp0 w0.drew w') _ _ (fun x h => h) HK6.out ?_
          clear hK K
          refine px_done ?_
          have O3 : w.heap.size < w0.drew.heap.size := B3_0.out.lt
          have O4 : (w.heap.size + 1) < w0.drew.heap.size := B4_0.out.lt
          have O5 : (w.heap.size + 1 + 1) < w0.drew.heap.size := B5_0.out.lt
          have O6 : (w.heap.size + 1 + 1 + 1) < w0.drew.heap.size := B6_0.out.lt
          have OW : w.heap.size ≤ w0.drew.heap.size := KW_0.out.size
          go_wp2
          go_meet
          exact ⟨ww4.heap.size, c4, rfl, ⟨by omega, by omega, by omega, by omega, by omega⟩, HC4.out, B7_6.out, B3_0.out.kp0 ((Kp.refl _ w0).drew.tr HK6.out), B4_0.out.kp0 ((Kp.refl _ w0).drew.tr HK6.out), B5_0.out.kp0 ((Kp.refl _ w0).drew.tr HK6.out), B6_0.out.kp0 ((Kp.refl _ w0).drew.tr HK6.out), KW_0.out.tr ((Kp.refl _ w0).drew.tr HK6.out)⟩
        · go_simp
          refine hK (fun w' : World => Kp0 w0.drew w') _ _ (fun x h => h) (HK3.out.alloc _) ?_
          clear hK K
          have L7_7 : w0.drew.heap.size ≤ ww3.heap.size := HK3.out.size
          have HK7 : Hid (Kp0 w0.drew (ww3.alloc (.cells ((kis .u64 z5)).toArray 40))) := Lib.hid (HK3.out.alloc _)
          have B7_7 : Hid (Blk (ww3.alloc (.cells ((kis .u64 z5)).toArray 40)) ww3.heap.size 40 ((kis .u64 z5))) := Lib.hid (blk0 ww3 _ _)
          change PX.wp _ _ _ _ _ _ (ww3.alloc (.cells ((kis .u64 z5)).toArray 40))
          generalize (ww3.alloc (.cells ((kis .u64 z5)).toArray 40)) = ww7 at HK7 B7_7 ⊢
          refine px_eff rfl (by rfl) (fun K hK => ?_)
          go_simp
          refine (mul_fe c2 c3 (nA 57896044618658097711785492504343953926634992332820282019728792003956564819949 m1 n1) (nS 57896044618658097711785492504343953926634992332820282019728792003956564819949 m2 n2) _ HC2.out HC3.out).mono ?_
          rintro e ww8 ⟨c8, rfl, hc, hk⟩
          simp only []
          have HC8 : Hid (Fe El c8 (nM 57896044618658097711785492504343953926634992332820282019728792003956564819949 (nA 57896044618658097711785492504343953926634992332820282019728792003956564819949 m1 n1) (nS 57896044618658097711785492504343953926634992332820282019728792003956564819949 m2 n2))) := Lib.hid hc
          clear hc
          have HK8 : Hid (Kp0 w0.drew ww8) := Lib.hid (HK7.out.tr hk)
          have B7_8 := Lib.hid (B7_7.out.kp0 hk)
          clear hk
          refine hK (fun w' : World => Kp0 w0.drew w') _ _ (fun x h => h) HK8.out ?_
          clear hK K
          refine px_eff rfl (by rfl) (fun K hK => ?_)
          refine wp_store_blk 40 (.tmp 7) (.tmp 21) rfl ww3.heap.size _ ((kis .u64 z5)) (c8) rfl rfl B7_8.out HC8.out.2.2.1 (len_of (T := 40) fe_z5.2.2.1 HC8.out.2.2.1) HC8.out.2.2.2 ?_
          intro ww9 hA hS
          have B7_9 := Lib.hid hA
          have HK9 : Hid (Kp0 w0.drew ww9) := Lib.hid (HK8.out.trans hS (fun _ _ h => h) (fun i hi e => by omega))
          clear hA hS
          refine hK (fun w' : World => Kp0 w0.drew w') _ _ (fun x h => h) HK9.out ?_
          clear hK K
          refine px_done ?_
          have O3 : w.heap.size < w0.drew.heap.size := B3_0.out.lt
          have O4 : (w.heap.size + 1) < w0.drew.heap.size := B4_0.out.lt
          have O5 : (w.heap.size + 1 + 1) < w0.drew.heap.size := B5_0.out.lt
          have O6 : (w.heap.size + 1 + 1 + 1) < w0.drew.heap.size := B6_0.out.lt
          have OW : w.heap.size ≤ w0.drew.heap.size := KW_0.out.size
          go_wp2
          go_meet
          exact ⟨ww3.heap.size, c8, rfl, ⟨by omega, by omega, by omega, by omega, by omega⟩, HC8.out, B7_9.out, B3_0.out.kp0 ((Kp.refl _ w0).drew.tr HK9.out), B4_0.out.kp0 ((Kp.refl _ w0).drew.tr HK9.out), B5_0.out.kp0 ((Kp.refl _ w0).drew.tr HK9.out), B6_0.out.kp0 ((Kp.refl _ w0).drew.tr HK9.out), KW_0.out.tr ((Kp.refl _ w0).drew.tr HK9.out)⟩
      · go_simp
        refine hK (fun w' : World => Kp0 w0.drew w') _ _ (fun x h => h) (HK2.out.alloc _) ?_
        clear hK K
        have L7_10 : w0.drew.heap.size ≤ ww2.heap.size := HK2.out.size
        have HK10 : Hid (Kp0 w0.drew (ww2.alloc (.cells ((kis .u64 z5)).toArray 40))) := Lib.hid (HK2.out.alloc _)
        have B7_10 : Hid (Blk (ww2.alloc (.cells ((kis .u64 z5)).toArray 40)) ww2.heap.size 40 ((kis .u64 z5))) := Lib.hid (blk0 ww2 _ _)
        change PX.wp _ _ _ _ _ _ (ww2.alloc (.cells ((kis .u64 z5)).toArray 40))
        generalize (ww2.alloc (.cells ((kis .u64 z5)).toArray 40)) = ww10 at HK10 B7_10 ⊢
        refine px_eff rfl (by rfl) (fun K hK => ?_)
        go_simp
        refine (sub_fe x2 z2 m2 n2 _ H3.out H4.out).mono ?_
        rintro e ww11 ⟨c11, rfl, hc, hk⟩
        simp only []
        have HC11 : Hid (Fe El c11 (nS 57896044618658097711785492504343953926634992332820282019728792003956564819949 m2 n2)) := Lib.hid hc
        clear hc
        have HK11 : Hid (Kp0 w0.drew ww11) := Lib.hid (HK10.out.tr hk)
        have B7_11 := Lib.hid (B7_10.out.kp0 hk)
        clear hk
        refine hK (fun w' : World => Kp0 w0.drew w') _ _ (fun x h => h) HK11.out ?_
        clear hK K
        refine px_eff rfl (by rfl) (fun K hK => ?_)
        go_simp
        refine (mul_fe c2 c11 (nA 57896044618658097711785492504343953926634992332820282019728792003956564819949 m1 n1) (nS 57896044618658097711785492504343953926634992332820282019728792003956564819949 m2 n2) _ HC2.out HC11.out).mono ?_
        rintro e ww12 ⟨c12, rfl, hc, hk⟩
        simp only []
        have HC12 : Hid (Fe El c12 (nM 57896044618658097711785492504343953926634992332820282019728792003956564819949 (nA 57896044618658097711785492504343953926634992332820282019728792003956564819949 m1 n1) (nS 57896044618658097711785492504343953926634992332820282019728792003956564819949 m2 n2))) := Lib.hid hc
        clear hc
        have HK12 : Hid (Kp0 w0.drew ww12) := Lib.hid (HK11.out.tr hk)
        have B7_12 := Lib.hid (B7_11.out.kp0 hk)
        clear hk
        refine hK (fun w' : World => Kp0 w0.drew w') _ _ (fun x h => h) HK12.out ?_
        clear hK K
        refine px_eff rfl (by rfl) (fun K hK => ?_)
        refine wp_store_blk 40 (.tmp 7) (.tmp 21) rfl ww2.heap.size _ ((kis .u64 z5)) (c12) rfl rfl B7_12.out HC12.out.2.2.1 (len_of (T := 40) fe_z5.2.2.1 HC12.out.2.2.1) HC12.out.2.2.2 ?_
        intro ww13 hA hS
        have B7_13 := Lib.hid hA
        have HK13 : Hid (Kp0 w0.drew ww13) := Lib.hid (HK12.out.trans hS (fun _ _ h => h) (fun i hi e => by omega))
        clear hA hS
        refine hK (fun w' : World => Kp0 w0.drew w') _ _ (fun x h => h) HK13.out ?_
        clear hK K
        refine px_done ?_
        have O3 : w.heap.size < w0.drew.heap.size := B3_0.out.lt
        have O4 : (w.heap.size + 1) < w0.drew.heap.size := B4_0.out.lt
        have O5 : (w.heap.size + 1 + 1) < w0.drew.heap.size := B5_0.out.lt
        have O6 : (w.heap.size + 1 + 1 + 1) < w0.drew.heap.size := B6_0.out.lt
        have OW : w.heap.size ≤ w0.drew.heap.size := KW_0.out.size
        go_wp2
        go_meet
        exact ⟨ww2.heap.size, c12, rfl, ⟨by omega, by omega, by omega, by omega, by omega⟩, HC12.out, B7_13.out, B3_0.out.kp0 ((Kp.refl _ w0).drew.tr HK13.out), B4_0.out.kp0 ((Kp.refl _ w0).drew.tr HK13.out), B5_0.out.kp0 ((Kp.refl _ w0).drew.tr HK13.out), B6_0.out.kp0 ((Kp.refl _ w0).drew.tr HK13.out), KW_0.out.tr ((Kp.refl _ w0).drew.tr HK13.out)⟩
    · go_simp
      refine hK (fun w' : World => Kp0 w0.drew w') _ _ (fun x h => h) (HK1_0.out.alloc _) ?_
      clear hK K
      have L7_14 : w0.drew.heap.size ≤ w0.drew.heap.size := HK1_0.out.size
      have HK14 : Hid (Kp0 w0.drew (w0.drew.alloc (.cells ((kis .u64 z5)).toArray 40))) := Lib.hid (HK1_0.out.alloc _)
      have B7_14 : Hid (Blk (w0.drew.alloc (.cells ((kis .u64 z5)).toArray 40)) w0.drew.heap.size 40 ((kis .u64 z5))) := Lib.hid (blk0 w0.drew _ _)
      change PX.wp _ _ _ _ _ _ (w0.drew.alloc (.cells ((kis .u64 z5)).toArray 40))
      generalize (w0.drew.alloc (.cells ((kis .u64 z5)).toArray 40)) = ww14 at HK14 B7_14 ⊢
      refine px_eff rfl (by rfl) (fun K hK => ?_)
      go_simp
      refine (add_fe x1 z1 m1 n1 _ H1.out H2.out).mono ?_
      rintro e ww15 ⟨c15, rfl, hc, hk⟩
      simp only []
      have HC15 : Hid (Fe El c15 (nA 57896044618658097711785492504343953926634992332820282019728792003956564819949 m1 n1)) := Lib.hid hc
      clear hc
      have HK15 : Hid (Kp0 w0.drew ww15) := Lib.hid (HK14.out.tr hk)
      have B7_15 := Lib.hid (B7_14.out.kp0 hk)
      clear hk
      refine hK (fun w' : World => Kp0 w0.drew w') _ _ (fun x h => h) HK15.out ?_
      clear hK K
      refine px_eff rfl (by rfl) (fun K hK => ?_)
      go_simp
      refine (sub_fe x2 z2 m2 n2 _ H3.out H4.out).mono ?_
      rintro e ww16 ⟨c16, rfl, hc, hk⟩
      simp only []
      have HC16 : Hid (Fe El c16 (nS 57896044618658097711785492504343953926634992332820282019728792003956564819949 m2 n2)) := Lib.hid hc
      clear hc
      have HK16 : Hid (Kp0 w0.drew ww16) := Lib.hid (HK15.out.tr hk)
      have B7_16 := Lib.hid (B7_15.out.kp0 hk)
      clear hk
      refine hK (fun w' : World => Kp0 w0.drew w') _ _ (fun x h => h) HK16.out ?_
      clear hK K
      refine px_eff rfl (by rfl) (fun K hK => ?_)
      go_simp
      refine (mul_fe c15 c16 (nA 57896044618658097711785492504343953926634992332820282019728792003956564819949 m1 n1) (nS 57896044618658097711785492504343953926634992332820282019728792003956564819949 m2 n2) _ HC15.out HC16.out).mono ?_
      rintro e ww17 ⟨c17, rfl, hc, hk⟩
      simp only []
      have HC17 : Hid (Fe El c17 (nM 57896044618658097711785492504343953926634992332820282019728792003956564819949 (nA 57896044618658097711785492504343953926634992332820282019728792003956564819949 m1 n1) (nS 57896044618658097711785492504343953926634992332820282019728792003956564819949 m2 n2))) := Lib.hid hc
      clear hc
      have HK17 : Hid (Kp0 w0.drew ww17) := Lib.hid (HK16.out.tr hk)
      have B7_17 := Lib.hid (B7_16.out.kp0 hk)
      clear hk
      refine hK (fun w' : World => Kp0 w0.drew w') _ _ (fun x h => h) HK17.out ?_
      clear hK K
      refine px_eff rfl (by rfl) (fun K hK => ?_)
      refine wp_store_blk 40 (.tmp 7) (.tmp 21) rfl w0.drew.heap.size _ ((kis .u64 z5)) (c17) rfl rfl B7_17.out HC17.out.2.2.1 (len_of (T := 40) fe_z5.2.2.1 HC17.out.2.2.1) HC17.out.2.2.2 ?_
      intro ww18 hA hS
      have B7_18 := Lib.hid hA
      have HK18 : Hid (Kp0 w0.drew ww18) := Lib.hid (HK17.out.trans hS (fun _ _ h => h) (fun i hi e => by omega))
      clear hA hS
      refine hK (fun w' : World => Kp0 w0.drew w') _ _ (fun x h => h) HK18.out ?_
      clear hK K
      refine px_done ?_
      have O3 : w.heap.size < w0.drew.heap.size := B3_0.out.lt
      have O4 : (w.heap.size + 1) < w0.drew.heap.size := B4_0.out.lt
      have O5 : (w.heap.size + 1 + 1) < w0.drew.heap.size := B5_0.out.lt
      have O6 : (w.heap.size + 1 + 1 + 1) < w0.drew.heap.size := B6_0.out.lt
      have OW : w.heap.size ≤ w0.drew.heap.size := KW_0.out.size
      go_wp2
      go_meet
      exact ⟨w0.drew.heap.size, c17, rfl, ⟨by omega, by omega, by omega, by omega, by omega⟩, HC17.out, B7_18.out, B3_0.out.kp0 ((Kp.refl _ w0).drew.tr HK18.out), B4_0.out.kp0 ((Kp.refl _ w0).drew.tr HK18.out), B5_0.out.kp0 ((Kp.refl _ w0).drew.tr HK18.out), B6_0.out.kp0 ((Kp.refl _ w0).drew.tr HK18.out), KW_0.out.tr ((Kp.refl _ w0).drew.tr HK18.out)⟩
  case rest =>
    obtain ⟨g7, e7, rfl, ho, hf7, hb7, ho3, ho4, ho5, ho6, hkw⟩ := hcut
    obtain ⟨o0, o1, o2, o3, o4⟩ := ho
    have HE7 := Lib.hid hf7
    have B7_19 := Lib.hid hb7
    clear hf7 hb7
    clear B3_0 B4_0 B6_0 B5_0 KW_0
    have B3_19 := Lib.hid ho3
    clear ho3
    have B4_19 := Lib.hid ho4
    clear ho4
    have B5_19 := Lib.hid ho5
    clear ho5
    have B6_19 := Lib.hid ho6
    clear ho6
    have KW_19 := Lib.hid hkw
    clear hkw
    go_upto_region 2 with (fail)
    go_cut [8] (fun p8 wx => ∃ g8 : Nat, ∃ e8 : List Value, p8 = .pointer (some ⟨g8, 0, none⟩) ∧ (w.heap.size < g8 ∧ (w.heap.size + 1) < g8 ∧ (w.heap.size + 1 + 1) < g8 ∧ (w.heap.size + 1 + 1 + 1) < g8 ∧ g7 < g8 ∧ w.heap.size ≤ g8) ∧ Fe El e8 (nM 57896044618658097711785492504343953926634992332820282019728792003956564819949 (nS 57896044618658097711785492504343953926634992332820282019728792003956564819949 m1 n1) (nA 57896044618658097711785492504343953926634992332820282019728792003956564819949 m2 n2)) ∧ Blk wx g8 40 e8 ∧ Blk wx w.heap.size 60 ((x1 ++ z1)) ∧ Blk wx (w.heap.size + 1) 60 ((x2 ++ z2)) ∧ Blk wx (w.heap.size + 1 + 1) 40 (u) ∧ Blk wx (w.heap.size + 1 + 1 + 1) 60 (((kis .u64 z5) ++ (kis .u64 z5))) ∧ Blk wx g7 40 (e7) ∧ Kp0 w wx)
    case first =>
      have HK20_0 : Hid (Kp0 wc.drew wc.drew) := Lib.hid (Kp.refl _ _)
      refine wp_region_px 13 [] (fun w' : World => Kp0 wc.drew w') (.quiet 0 (.quiet 2 (.quiet 5 (.quiet 7 (.quiet 1 (.quiet 3 (.quiet 6 (.quiet 8 (.two 4 (.two 9 (.two 10 (.eff 11 (.eff 12 .done)) 11 (.eff 10 (.eff 12 .done))) 11 (.eff 9 (.eff 10 (.eff 12 .done)))) 11 (.eff 4 (.eff 9 (.eff 10 (.eff 12 .done))))))))))))) (by kernel_rfl) (by kernel_rfl) (by kernel_rfl) (by kernel_rfl) (fun _ d _ _ _ h => by cases d <;> exact h) HK20_0.out ?_
      refine px_quiet (v := ?_) rfl (by rfl) (fun wq hwq => ?_) rfl ?_; rotate_left 1; (focus (go_simp; try (with_reducible rfl); done)); try simp only [List.setIfInBounds_toArray, List.set_cons_zero, List.set_cons_succ]
      refine px_quiet (v := ?_) rfl (by rfl) (fun wq hwq => ?_) rfl ?_; rotate_left 1; (focus (go_simp; try (with_reducible rfl); done)); try simp only [List.setIfInBounds_toArray, List.set_cons_zero, List.set_cons_succ]
      refine px_quiet (v := ?_) rfl (by rfl) (fun wq hwq => ?_) rfl ?_; rotate_left 1; (focus (go_simp; try (with_reducible rfl); done)); try simp only [List.setIfInBounds_toArray, List.set_cons_zero, List.set_cons_succ]
      refine px_quiet (v := ?_) rfl (by rfl) (fun wq hwq => ?_) rfl ?_; rotate_left 1; (focus (go_simp; try (with_reducible rfl); done)); try simp only [List.setIfInBounds_toArray, List.set_cons_zero, List.set_cons_succ]
      refine px_quiet (v := .agg (x1).toArray) rfl (by rfl) (fun wq hwq => run_load_mid 40 (.tmp 22) rfl w.heap.size 0 _ rfl (blk_l (B3_19.out.kp0 ((Kp.refl _ wc).drew.tr hwq))) _ Try.underlying40 rfl H1.out.2.2.1) rfl ?_
      try simp only [List.setIfInBounds_toArray, List.set_cons_zero, List.set_cons_succ]
      refine px_quiet (v := .agg (z1).toArray) rfl (by rfl) (fun wq hwq => run_load_mid 40 (.tmp 24) rfl w.heap.size 5 _ rfl (blk_r (fe_len H1.out) (B3_19.out.kp0 ((Kp.refl _ wc).drew.tr hwq))) _ Try.underlying40 rfl H2.out.2.2.1) rfl ?_
      try simp only [List.setIfInBounds_toArray, List.set_cons_zero, List.set_cons_succ]
      refine px_quiet (v := .agg (x2).toArray) rfl (by rfl) (fun wq hwq => run_load_mid 40 (.tmp 27) rfl (w.heap.size + 1) 0 _ rfl (blk_l (B4_19.out.kp0 ((Kp.refl _ wc).drew.tr hwq))) _ Try.underlying40 rfl H3.out.2.2.1) rfl ?_
      try simp only [List.setIfInBounds_toArray, List.set_cons_zero, List.set_cons_succ]
      refine px_quiet (v := .agg (z2).toArray) rfl (by rfl) (fun wq hwq => run_load_mid 40 (.tmp 29) rfl (w.heap.size + 1) 5 _ rfl (blk_r (fe_len H3.out) (B4_19.out.kp0 ((Kp.refl _ wc).drew.tr hwq))) _ Try.underlying40 rfl H4.out.2.2.1) rfl ?_
      try simp only [List.setIfInBounds_toArray, List.set_cons_zero, List.set_cons_succ]
      refine ⟨px_one rfl (by rfl) (fun K hK => ?_), px_one rfl (by rfl) (fun K hK => ?_)⟩
      · go_simp
        refine (sub_fe x1 z1 m1 n1 _ H1.out H2.out).mono ?_
        rintro e ww21 ⟨c21, rfl, hc, hk⟩
        simp only []
        have HC21 : Hid (Fe El c21 (nS 57896044618658097711785492504343953926634992332820282019728792003956564819949 m1 n1)) := Lib.hid hc
        clear hc
        have HK21 : Hid (Kp0 wc.drew ww21) := Lib.hid (HK20_0.out.tr hk)
        clear hk
        refine hK (fun w' : World => Kp0 wc.drew w') _ _ (fun x h => h) HK21.out ?_
        clear hK K
        refine ⟨px_one rfl (by rfl) (fun K hK => ?_), px_one rfl (by rfl) (fun K hK => ?_)⟩
        · go_simp
          refine (add_fe x2 z2 m2 n2 _ H3.out H4.out).mono ?_
          rintro e ww22 ⟨c22, rfl, hc, hk⟩
          simp only []
          have HC22 : Hid (Fe El c22 (nA 57896044618658097711785492504343953926634992332820282019728792003956564819949 m2 n2)) := Lib.hid hc
          clear hc
          have HK22 : Hid (Kp0 wc.drew ww22) := Lib.hid (HK21.out.tr hk)
          clear hk
          refine hK (fun w' : World => Kp0 wc.drew w') _ _ (fun x h => h) HK22.out ?_
          clear hK K
          refine ⟨px_one rfl (by rfl) (fun K hK => ?_), px_one rfl (by rfl) (fun K hK => ?_)⟩
          · go_simp
            refine (mul_fe c21 c22 (nS 57896044618658097711785492504343953926634992332820282019728792003956564819949 m1 n1) (nA 57896044618658097711785492504343953926634992332820282019728792003956564819949 m2 n2) _ HC21.out HC22.out).mono ?_
            rintro e ww23 ⟨c23, rfl, hc, hk⟩
            simp only []
            have HC23 : Hid (Fe El c23 (nM 57896044618658097711785492504343953926634992332820282019728792003956564819949 (nS 57896044618658097711785492504343953926634992332820282019728792003956564819949 m1 n1) (nA 57896044618658097711785492504343953926634992332820282019728792003956564819949 m2 n2))) := Lib.hid hc
            clear hc
            have HK23 : Hid (Kp0 wc.drew ww23) := Lib.hid (HK22.out.tr hk)
            clear hk
            refine hK (fun w' : World => Kp0 wc.drew w') _ _ (fun x h => h) HK23.out ?_
            clear hK K
            refine px_eff rfl (by rfl) (fun K hK => ?_)
            go_simp
            refine hK (fun w' : World => Kp0 wc.drew w') _ _ (fun x h => h) (HK23.out.alloc _) ?_
            clear hK K
            have L8_24 : wc.drew.heap.size ≤ ww23.heap.size := HK23.out.size
            have HK24 : Hid (Kp0 wc.drew (ww23.alloc (.cells ((kis .u64 z5)).toArray 40))) := Lib.hid (HK23.out.alloc _)
            have B8_24 : Hid (Blk (ww23.alloc (.cells ((kis .u64 z5)).toArray 40)) ww23.heap.size 40 ((kis .u64 z5))) := Lib.hid (blk0 ww23 _ _)
            change PX.wp _ _ _ _ _ _ (ww23.alloc (.cells ((kis .u64 z5)).toArray 40))
            generalize (ww23.alloc (.cells ((kis .u64 z5)).toArray 40)) = ww24 at HK24 B8_24 ⊢
            refine px_eff rfl (by rfl) (fun K hK => ?_)
            refine wp_store_blk 40 (.tmp 8) (.tmp 32) rfl ww23.heap.size _ ((kis .u64 z5)) (c23) rfl rfl B8_24.out HC23.out.2.2.1 (len_of (T := 40) fe_z5.2.2.1 HC23.out.2.2.1) HC23.out.2.2.2 ?_
            intro ww25 hA hS
            have B8_25 := Lib.hid hA
            have HK25 : Hid (Kp0 wc.drew ww25) := Lib.hid (HK24.out.trans hS (fun _ _ h => h) (fun i hi e => by omega))
            clear hA hS
            refine hK (fun w' : World => Kp0 wc.drew w') _ _ (fun x h => h) HK25.out ?_
            clear hK K
            refine px_done ?_
            have O3 : w.heap.size < wc.drew.heap.size := B3_19.out.lt
            have O4 : (w.heap.size + 1) < wc.drew.heap.size := B4_19.out.lt
            have O5 : (w.heap.size + 1 + 1) < wc.drew.heap.size := B5_19.out.lt
            have O6 : (w.heap.size + 1 + 1 + 1) < wc.drew.heap.size := B6_19.out.lt
            have O7 : g7 < wc.drew.heap.size := B7_19.out.lt
            have OW : w.heap.size ≤ wc.drew.heap.size := KW_19.out.size
            go_wp2
            go_meet
            exact ⟨ww23.heap.size, c23, rfl, ⟨by omega, by omega, by omega, by omega, by omega, by omega⟩, HC23.out, B8_25.out, B3_19.out.kp0 ((Kp.refl _ wc).drew.tr HK25.out), B4_19.out.kp0 ((Kp.refl _ wc).drew.tr HK25.out), B5_19.out.kp0 ((Kp.refl _ wc).drew.tr HK25.out), B6_19.out.kp0 ((Kp.refl _ wc).drew.tr HK25.out), B7_19.out.kp0 ((Kp.refl _ wc).drew.tr HK25.out), KW_19.out.tr ((Kp.refl _ wc).drew.tr HK25.out)⟩
          · go_simp
            refine hK (fun w' : World => Kp0 wc.drew w') _ _ (fun x h => h) (HK22.out.alloc _) ?_
            clear hK K
            have L8_26 : wc.drew.heap.size ≤ ww22.heap.size := HK22.out.size
            have HK26 : Hid (Kp0 wc.drew (ww22.alloc (.cells ((kis .u64 z5)).toArray 40))) := Lib.hid (HK22.out.alloc _)
            have B8_26 : Hid (Blk (ww22.alloc (.cells ((kis .u64 z5)).toArray 40)) ww22.heap.size 40 ((kis .u64 z5))) := Lib.hid (blk0 ww22 _ _)
            change PX.wp _ _ _ _ _ _ (ww22.alloc (.cells ((kis .u64 z5)).toArray 40))
            generalize (ww22.alloc (.cells ((kis .u64 z5)).toArray 40)) = ww26 at HK26 B8_26 ⊢
            refine px_eff rfl (by rfl) (fun K hK => ?_)
            go_simp
            refine (mul_fe c21 c22 (nS 57896044618658097711785492504343953926634992332820282019728792003956564819949 m1 n1) (nA 57896044618658097711785492504343953926634992332820282019728792003956564819949 m2 n2) _ HC21.out HC22.out).mono ?_
            rintro e ww27 ⟨c27, rfl, hc, hk⟩
            simp only []
            have HC27 : Hid (Fe El c27 (nM 57896044618658097711785492504343953926634992332820282019728792003956564819949 (nS 57896044618658097711785492504343953926634992332820282019728792003956564819949 m1 n1) (nA 57896044618658097711785492504343953926634992332820282019728792003956564819949 m2 n2))) := Lib.hid hc
            clear hc
            have HK27 : Hid (Kp0 wc.drew ww27) := Lib.hid (HK26.out.tr hk)
            have B8_27 := Lib.hid (B8_26.out.kp0 hk)
            clear hk
            refine hK (fun w' : World => Kp0 wc.drew w') _ _ (fun x h => h) HK27.out ?_
            clear hK K
            refine px_eff rfl (by rfl) (fun K hK => ?_)
            refine wp_store_blk 40 (.tmp 8) (.tmp 32) rfl ww22.heap.size _ ((kis .u64 z5)) (c27) rfl rfl B8_27.out HC27.out.2.2.1 (len_of (T := 40) fe_z5.2.2.1 HC27.out.2.2.1) HC27.out.2.2.2 ?_
            intro ww28 hA hS
            have B8_28 := Lib.hid hA
            have HK28 : Hid (Kp0 wc.drew ww28) := Lib.hid (HK27.out.trans hS (fun _ _ h => h) (fun i hi e => by omega))
            clear hA hS
            refine hK (fun w' : World => Kp0 wc.drew w') _ _ (fun x h => h) HK28.out ?_
            clear hK K
            refine px_done ?_
            have O3 : w.heap.size < wc.drew.heap.size := B3_19.out.lt
            have O4 : (w.heap.size + 1) < wc.drew.heap.size := B4_19.out.lt
            have O5 : (w.heap.size + 1 + 1) < wc.drew.heap.size := B5_19.out.lt
            have O6 : (w.heap.size + 1 + 1 + 1) < wc.drew.heap.size := B6_19.out.lt
            have O7 : g7 < wc.drew.heap.size := B7_19.out.lt
            have OW : w.heap.size ≤ wc.drew.heap.size := KW_19.out.size
            go_wp2
            go_meet
            exact ⟨ww22.heap.size, c27, rfl, ⟨by omega, by omega, by omega, by omega, by omega, by omega⟩, HC27.out, B8_28.out, B3_19.out.kp0 ((Kp.refl _ wc).drew.tr HK28.out), B4_19.out.kp0 ((Kp.refl _ wc).drew.tr HK28.out), B5_19.out.kp0 ((Kp.refl _ wc).drew.tr HK28.out), B6_19.out.kp0 ((Kp.refl _ wc).drew.tr HK28.out), B7_19.out.kp0 ((Kp.refl _ wc).drew.tr HK28.out), KW_19.out.tr ((Kp.refl _ wc).drew.tr HK28.out)⟩
        · go_simp
          refine hK (fun w' : World => Kp0 wc.drew w') _ _ (fun x h => h) (HK21.out.alloc _) ?_
          clear hK K
          have L8_29 : wc.drew.heap.size ≤ ww21.heap.size := HK21.out.size
          have HK29 : Hid (Kp0 wc.drew (ww21.alloc (.cells ((kis .u64 z5)).toArray 40))) := Lib.hid (HK21.out.alloc _)
          have B8_29 : Hid (Blk (ww21.alloc (.cells ((kis .u64 z5)).toArray 40)) ww21.heap.size 40 ((kis .u64 z5))) := Lib.hid (blk0 ww21 _ _)
          change PX.wp _ _ _ _ _ _ (ww21.alloc (.cells ((kis .u64 z5)).toArray 40))
          generalize (ww21.alloc (.cells ((kis .u64 z5)).toArray 40)) = ww29 at HK29 B8_29 ⊢
          refine px_eff rfl (by rfl) (fun K hK => ?_)
          go_simp
          refine (add_fe x2 z2 m2 n2 _ H3.out H4.out).mono ?_
          rintro e ww30 ⟨c30, rfl, hc, hk⟩
          simp only []
          have HC30 : Hid (Fe El c30 (nA 57896044618658097711785492504343953926634992332820282019728792003956564819949 m2 n2)) := Lib.hid hc
          clear hc
          have HK30 : Hid (Kp0 wc.drew ww30) := Lib.hid (HK29.out.tr hk)
          have B8_30 := Lib.hid (B8_29.out.kp0 hk)
          clear hk
          refine hK (fun w' : World => Kp0 wc.drew w') _ _ (fun x h => h) HK30.out ?_
          clear hK K
          refine px_eff rfl (by rfl) (fun K hK => ?_)
          go_simp
          refine (mul_fe c21 c30 (nS 57896044618658097711785492504343953926634992332820282019728792003956564819949 m1 n1) (nA 57896044618658097711785492504343953926634992332820282019728792003956564819949 m2 n2) _ HC21.out HC30.out).mono ?_
          rintro e ww31 ⟨c31, rfl, hc, hk⟩
          simp only []
          have HC31 : Hid (Fe El c31 (nM 57896044618658097711785492504343953926634992332820282019728792003956564819949 (nS 57896044618658097711785492504343953926634992332820282019728792003956564819949 m1 n1) (nA 57896044618658097711785492504343953926634992332820282019728792003956564819949 m2 n2))) := Lib.hid hc
          clear hc
          have HK31 : Hid (Kp0 wc.drew ww31) := Lib.hid (HK30.out.tr hk)
          have B8_31 := Lib.hid (B8_30.out.kp0 hk)
          clear hk
          refine hK (fun w' : World => Kp0 wc.drew w') _ _ (fun x h => h) HK31.out ?_
          clear hK K
          refine px_eff rfl (by rfl) (fun K hK => ?_)
          refine wp_store_blk 40 (.tmp 8) (.tmp 32) rfl ww21.heap.size _ ((kis .u64 z5)) (c31) rfl rfl B8_31.out HC31.out.2.2.1 (len_of (T := 40) fe_z5.2.2.1 HC31.out.2.2.1) HC31.out.2.2.2 ?_
          intro ww32 hA hS
          have B8_32 := Lib.hid hA
          have HK32 : Hid (Kp0 wc.drew ww32) := Lib.hid (HK31.out.trans hS (fun _ _ h => h) (fun i hi e => by omega))
          clear hA hS
          refine hK (fun w' : World => Kp0 wc.drew w') _ _ (fun x h => h) HK32.out ?_
          clear hK K
          refine px_done ?_
          have O3 : w.heap.size < wc.drew.heap.size := B3_19.out.lt
          have O4 : (w.heap.size + 1) < wc.drew.heap.size := B4_19.out.lt
          have O5 : (w.heap.size + 1 + 1) < wc.drew.heap.size := B5_19.out.lt
          have O6 : (w.heap.size + 1 + 1 + 1) < wc.drew.heap.size := B6_19.out.lt
          have O7 : g7 < wc.drew.heap.size := B7_19.out.lt
          have OW : w.heap.size ≤ wc.drew.heap.size := KW_19.out.size
          go_wp2
          go_meet
          exact ⟨ww21.heap.size, c31, rfl, ⟨by omega, by omega, by omega, by omega, by omega, by omega⟩, HC31.out, B8_32.out, B3_19.out.kp0 ((Kp.refl _ wc).drew.tr HK32.out), B4_19.out.kp0 ((Kp.refl _ wc).drew.tr HK32.out), B5_19.out.kp0 ((Kp.refl _ wc).drew.tr HK32.out), B6_19.out.kp0 ((Kp.refl _ wc).drew.tr HK32.out), B7_19.out.kp0 ((Kp.refl _ wc).drew.tr HK32.out), KW_19.out.tr ((Kp.refl _ wc).drew.tr HK32.out)⟩
      · go_simp
        refine hK (fun w' : World => Kp0 wc.drew w') _ _ (fun x h => h) (HK20_0.out.alloc _) ?_
        clear hK K
        have L8_33 : wc.drew.heap.size ≤ wc.drew.heap.size := HK20_0.out.size
        have HK33 : Hid (Kp0 wc.drew (wc.drew.alloc (.cells ((kis .u64 z5)).toArray 40))) := Lib.hid (HK20_0.out.alloc _)
        have B8_33 : Hid (Blk (wc.drew.alloc (.cells ((kis .u64 z5)).toArray 40)) wc.drew.heap.size 40 ((kis .u64 z5))) := Lib.hid (blk0 wc.drew _ _)
        change PX.wp _ _ _ _ _ _ (wc.drew.alloc (.cells ((kis .u64 z5)).toArray 40))
        generalize (wc.drew.alloc (.cells ((kis .u64 z5)).toArray 40)) = ww33 at HK33 B8_33 ⊢
        refine px_eff rfl (by rfl) (fun K hK => ?_)
        go_simp
        refine (sub_fe x1 z1 m1 n1 _ H1.out H2.out).mono ?_
        rintro e ww34 ⟨c34, rfl, hc, hk⟩
        simp only []
        have HC34 : Hid (Fe El c34 (nS 57896044618658097711785492504343953926634992332820282019728792003956564819949 m1 n1)) := Lib.hid hc
        clear hc
        have HK34 : Hid (Kp0 wc.drew ww34) := Lib.hid (HK33.out.tr hk)
        have B8_34 := Lib.hid (B8_33.out.kp0 hk)
        clear hk
        refine hK (fun w' : World => Kp0 wc.drew w') _ _ (fun x h => h) HK34.out ?_
        clear hK K
        refine px_eff rfl (by rfl) (fun K hK => ?_)
        go_simp
        refine (add_fe x2 z2 m2 n2 _ H3.out H4.out).mono ?_
        rintro e ww35 ⟨c35, rfl, hc, hk⟩
        simp only []
        have HC35 : Hid (Fe El c35 (nA 57896044618658097711785492504343953926634992332820282019728792003956564819949 m2 n2)) := Lib.hid hc
        clear hc
        have HK35 : Hid (Kp0 wc.drew ww35) := Lib.hid (HK34.out.tr hk)
        have B8_35 := Lib.hid (B8_34.out.kp0 hk)
        clear hk
        refine hK (fun w' : World => Kp0 wc.drew w') _ _ (fun x h => h) HK35.out ?_
        clear hK K
        refine px_eff rfl (by rfl) (fun K hK => ?_)
        go_simp
        refine (mul_fe c34 c35 (nS 57896044618658097711785492504343953926634992332820282019728792003956564819949 m1 n1) (nA 57896044618658097711785492504343953926634992332820282019728792003956564819949 m2 n2) _ HC34.out HC35.out).mono ?_
        rintro e ww36 ⟨c36, rfl, hc, hk⟩
        simp only []
        have HC36 : Hid (Fe El c36 (nM 57896044618658097711785492504343953926634992332820282019728792003956564819949 (nS 57896044618658097711785492504343953926634992332820282019728792003956564819949 m1 n1) (nA 57896044618658097711785492504343953926634992332820282019728792003956564819949 m2 n2))) := Lib.hid hc
        clear hc
        have HK36 : Hid (Kp0 wc.drew ww36) := Lib.hid (HK35.out.tr hk)
        have B8_36 := Lib.hid (B8_35.out.kp0 hk)
        clear hk
        refine hK (fun w' : World => Kp0 wc.drew w') _ _ (fun x h => h) HK36.out ?_
        clear hK K
        refine px_eff rfl (by rfl) (fun K hK => ?_)
        refine wp_store_blk 40 (.tmp 8) (.tmp 32) rfl wc.drew.heap.size _ ((kis .u64 z5)) (c36) rfl rfl B8_36.out HC36.out.2.2.1 (len_of (T := 40) fe_z5.2.2.1 HC36.out.2.2.1) HC36.out.2.2.2 ?_
        intro ww37 hA hS
        have B8_37 := Lib.hid hA
        have HK37 : Hid (Kp0 wc.drew ww37) := Lib.hid (HK36.out.trans hS (fun _ _ h => h) (fun i hi e => by omega))
        clear hA hS
        refine hK (fun w' : World => Kp0 wc.drew w') _ _ (fun x h => h) HK37.out ?_
        clear hK K
        refine px_done ?_
        have O3 : w.heap.size < wc.drew.heap.size := B3_19.out.lt
        have O4 : (w.heap.size + 1) < wc.drew.heap.size := B4_19.out.lt
        have O5 : (w.heap.size + 1 + 1) < wc.drew.heap.size := B5_19.out.lt
        have O6 : (w.heap.size + 1 + 1 + 1) < wc.drew.heap.size := B6_19.out.lt
        have O7 : g7 < wc.drew.heap.size := B7_19.out.lt
        have OW : w.heap.size ≤ wc.drew.heap.size := KW_19.out.size
        go_wp2
        go_meet
        exact ⟨wc.drew.heap.size, c36, rfl, ⟨by omega, by omega, by omega, by omega, by omega, by omega⟩, HC36.out, B8_37.out, B3_19.out.kp0 ((Kp.refl _ wc).drew.tr HK37.out), B4_19.out.kp0 ((Kp.refl _ wc).drew.tr HK37.out), B5_19.out.kp0 ((Kp.refl _ wc).drew.tr HK37.out), B6_19.out.kp0 ((Kp.refl _ wc).drew.tr HK37.out), B7_19.out.kp0 ((Kp.refl _ wc).drew.tr HK37.out), KW_19.out.tr ((Kp.refl _ wc).drew.tr HK37.out)⟩
    case rest =>
      obtain ⟨g8, e8, rfl, ho, hf8, hb8, ho3, ho4, ho5, ho6, ho7, hkw⟩ := hcut
      obtain ⟨o0, o1, o2, o3, o4, o5⟩ := ho
      have HE8 := Lib.hid hf8
      have B8_38 := Lib.hid hb8
      clear hf8 hb8
      clear KW_19 B5_19 B3_19 B4_19 B7_19 B6_19
      have B3_38 := Lib.hid ho3
      clear ho3
      have B4_38 := Lib.hid ho4
      clear ho4
      have B5_38 := Lib.hid ho5
      clear ho5
      have B6_38 := Lib.hid ho6
      clear ho6
      have B7_38 := Lib.hid ho7
      clear ho7
      have KW_38 := Lib.hid hkw
      clear hkw
      go_upto_region 3 with (fail)
      go_cut [9, 10] (fun p9 p10 wx => ∃ g9 g10 : Nat, ∃ e9 e10 : List Value, p9 = .pointer (some ⟨g9, 0, none⟩) ∧ p10 = .pointer (some ⟨g10, 0, none⟩) ∧ (w.heap.size < g9 ∧ (w.heap.size + 1) < g9 ∧ (w.heap.size + 1 + 1) < g9 ∧ (w.heap.size + 1 + 1 + 1) < g9 ∧ g7 < g9 ∧ g8 < g9 ∧ w.heap.size < g10 ∧ (w.heap.size + 1) < g10 ∧ (w.heap.size + 1 + 1) < g10 ∧ (w.heap.size + 1 + 1 + 1) < g10 ∧ g7 < g10 ∧ g8 < g10 ∧ g9 ≠ g10 ∧ w.heap.size ≤ g9 ∧ w.heap.size ≤ g10) ∧ Fe El e9 (nA 57896044618658097711785492504343953926634992332820282019728792003956564819949 (nM 57896044618658097711785492504343953926634992332820282019728792003956564819949 (nA 57896044618658097711785492504343953926634992332820282019728792003956564819949 m1 n1) (nS 57896044618658097711785492504343953926634992332820282019728792003956564819949 m2 n2)) (nM 57896044618658097711785492504343953926634992332820282019728792003956564819949 (nS 57896044618658097711785492504343953926634992332820282019728792003956564819949 m1 n1) (nA 57896044618658097711785492504343953926634992332820282019728792003956564819949 m2 n2))) ∧ Fe El e10 (nS 57896044618658097711785492504343953926634992332820282019728792003956564819949 (nM 57896044618658097711785492504343953926634992332820282019728792003956564819949 (nA 57896044618658097711785492504343953926634992332820282019728792003956564819949 m1 n1) (nS 57896044618658097711785492504343953926634992332820282019728792003956564819949 m2 n2)) (nM 57896044618658097711785492504343953926634992332820282019728792003956564819949 (nS 57896044618658097711785492504343953926634992332820282019728792003956564819949 m1 n1) (nA 57896044618658097711785492504343953926634992332820282019728792003956564819949 m2 n2))) ∧ Blk wx g9 40 e9 ∧ Blk wx g10 40 e10 ∧ Blk wx w.heap.size 60 ((x1 ++ z1)) ∧ Blk wx (w.heap.size + 1) 60 ((x2 ++ z2)) ∧ Blk wx (w.heap.size + 1 + 1) 40 (u) ∧ Blk wx (w.heap.size + 1 + 1 + 1) 60 (((kis .u64 z5) ++ (kis .u64 z5))) ∧ Blk wx g7 40 (e7) ∧ Blk wx g8 40 (e8) ∧ Kp0 w wx)
      case first =>
        have HK39_0 : Hid (Kp0 wc.drew wc.drew) := Lib.hid (Kp.refl _ _)
        refine wp_region_px 10 [] (fun w' : World => Kp0 wc.drew w') (.quiet 0 (.quiet 1 (.quiet 3 (.quiet 4 (.three 2 (.three 5 (.two 6 (.eff 7 (.eff 8 (.eff 9 .done))) 7 (.eff 6 (.eff 8 (.eff 9 .done)))) 6 (.two 5 (.eff 7 (.eff 8 (.eff 9 .done))) 7 (.eff 5 (.eff 8 (.eff 9 .done)))) 7 (.two 5 (.eff 6 (.eff 8 (.eff 9 .done))) 6 (.eff 5 (.eff 8 (.eff 9 .done))))) 6 (.two 2 (.two 5 (.eff 7 (.eff 8 (.eff 9 .done))) 7 (.eff 5 (.eff 8 (.eff 9 .done)))) 7 (.eff 2 (.eff 5 (.eff 8 (.eff 9 .done))))) 7 (.two 2 (.two 5 (.eff 6 (.eff 8 (.eff 9 .done))) 6 (.eff 5 (.eff 8 (.eff 9 .done)))) 6 (.eff 2 (.eff 5 (.eff 8 (.eff 9 .done)))))))))) (by kernel_rfl) (by kernel_rfl) (by kernel_rfl) (by kernel_rfl) (fun _ d _ _ _ h => by cases d <;> exact h) HK39_0.out ?_
        refine px_quiet (v := .agg (e7).toArray) rfl (by rfl) (fun wq hwq => run_load_blk 40 (.tmp 7) rfl g7 _ (e7) rfl (B7_38.out.kp0 ((Kp.refl _ wc).drew.tr hwq)) _ Try.underlying40 rfl HE7.out.2.2.1) rfl ?_
        try simp only [List.setIfInBounds_toArray, List.set_cons_zero, List.set_cons_succ]
        refine px_quiet (v := .agg (e8).toArray) rfl (by rfl) (fun wq hwq => run_load_blk 40 (.tmp 8) rfl g8 _ (e8) rfl (B8_38.out.kp0 ((Kp.refl _ wc).drew.tr hwq)) _ Try.underlying40 rfl HE8.out.2.2.1) rfl ?_
        try simp only [List.setIfInBounds_toArray, List.set_cons_zero, List.set_cons_succ]
        refine px_quiet (v := .agg (e7).toArray) rfl (by rfl) (fun wq hwq => run_load_blk 40 (.tmp 7) rfl g7 _ (e7) rfl (B7_38.out.kp0 ((Kp.refl _ wc).drew.tr hwq)) _ Try.underlying40 rfl HE7.out.2.2.1) rfl ?_
        try simp only [List.setIfInBounds_toArray, List.set_cons_zero, List.set_cons_succ]
        refine px_quiet (v := .agg (e8).toArray) rfl (by rfl) (fun wq hwq => run_load_blk 40 (.tmp 8) rfl g8 _ (e8) rfl (B8_38.out.kp0 ((Kp.refl _ wc).drew.tr hwq)) _ Try.underlying40 rfl HE8.out.2.2.1) rfl ?_
        try simp only [List.setIfInBounds_toArray, List.set_cons_zero, List.set_cons_succ]
        refine ⟨px_one rfl (by rfl) (fun K hK => ?_), px_one rfl (by rfl) (fun K hK => ?_), px_one rfl (by rfl) (fun K hK => ?_)⟩
        · go_simp
          refine (add_fe e7 e8 (nM 57896044618658097711785492504343953926634992332820282019728792003956564819949 (nA 57896044618658097711785492504343953926634992332820282019728792003956564819949 m1 n1) (nS 57896044618658097711785492504343953926634992332820282019728792003956564819949 m2 n2)) (nM 57896044618658097711785492504343953926634992332820282019728792003956564819949 (nS 57896044618658097711785492504343953926634992332820282019728792003956564819949 m1 n1) (nA 57896044618658097711785492504343953926634992332820282019728792003956564819949 m2 n2)) _ HE7.out HE8.out).mono ?_
          rintro e ww40 ⟨c40, rfl, hc, hk⟩
          simp only []
          have HC40 : Hid (Fe El c40 (nA 57896044618658097711785492504343953926634992332820282019728792003956564819949 (nM 57896044618658097711785492504343953926634992332820282019728792003956564819949 (nA 57896044618658097711785492504343953926634992332820282019728792003956564819949 m1 n1) (nS 57896044618658097711785492504343953926634992332820282019728792003956564819949 m2 n2)) (nM 57896044618658097711785492504343953926634992332820282019728792003956564819949 (nS 57896044618658097711785492504343953926634992332820282019728792003956564819949 m1 n1) (nA 57896044618658097711785492504343953926634992332820282019728792003956564819949 m2 n2)))) := Lib.hid hc
          clear hc
          have HK40 : Hid (Kp0 wc.drew ww40) := Lib.hid (HK39_0.out.tr hk)
          clear hk
          refine hK (fun w' : World => Kp0 wc.drew w') _ _ (fun x h => h) HK40.out ?_
          clear hK K
          refine ⟨px_one rfl (by rfl) (fun K hK => ?_), px_one rfl (by rfl) (fun K hK => ?_), px_one rfl (by rfl) (fun K hK => ?_)⟩
          · go_simp
            refine (sub_fe e7 e8 (nM 57896044618658097711785492504343953926634992332820282019728792003956564819949 (nA 57896044618658097711785492504343953926634992332820282019728792003956564819949 m1 n1) (nS 57896044618658097711785492504343953926634992332820282019728792003956564819949 m2 n2)) (nM 57896044618658097711785492504343953926634992332820282019728792003956564819949 (nS 57896044618658097711785492504343953926634992332820282019728792003956564819949 m1 n1) (nA 57896044618658097711785492504343953926634992332820282019728792003956564819949 m2 n2)) _ HE7.out HE8.out).mono ?_
            rintro e ww41 ⟨c41, rfl, hc, hk⟩
            simp only []
            have HC41 : Hid (Fe El c41 (nS 57896044618658097711785492504343953926634992332820282019728792003956564819949 (nM 57896044618658097711785492504343953926634992332820282019728792003956564819949 (nA 57896044618658097711785492504343953926634992332820282019728792003956564819949 m1 n1) (nS 57896044618658097711785492504343953926634992332820282019728792003956564819949 m2 n2)) (nM 57896044618658097711785492504343953926634992332820282019728792003956564819949 (nS 57896044618658097711785492504343953926634992332820282019728792003956564819949 m1 n1) (nA 57896044618658097711785492504343953926634992332820282019728792003956564819949 m2 n2)))) := Lib.hid hc
            clear hc
            have HK41 : Hid (Kp0 wc.drew ww41) := Lib.hid (HK40.out.tr hk)
            clear hk
            refine hK (fun w' : World => Kp0 wc.drew w') _ _ (fun x h => h) HK41.out ?_
            clear hK K
            refine ⟨px_one rfl (by rfl) (fun K hK => ?_), px_one rfl (by rfl) (fun K hK => ?_)⟩
            · go_simp
              refine hK (fun w' : World => Kp0 wc.drew w') _ _ (fun x h => h) (HK41.out.alloc _) ?_
              clear hK K
              have L9_42 : wc.drew.heap.size ≤ ww41.heap.size := HK41.out.size
              have HK42 : Hid (Kp0 wc.drew (ww41.alloc (.cells ((kis .u64 z5)).toArray 40))) := Lib.hid (HK41.out.alloc _)
              have B9_42 : Hid (Blk (ww41.alloc (.cells ((kis .u64 z5)).toArray 40)) ww41.heap.size 40 ((kis .u64 z5))) := Lib.hid (blk0 ww41 _ _)
              change PX.wp _ _ _ _ _ _ (ww41.alloc (.cells ((kis .u64 z5)).toArray 40))
              generalize (ww41.alloc (.cells ((kis .u64 z5)).toArray 40)) = ww42 at HK42 B9_42 ⊢
              refine px_eff rfl (by rfl) (fun K hK => ?_)
              go_simp
              refine hK (fun w' : World => Kp0 wc.drew w') _ _ (fun x h => h) (HK42.out.alloc _) ?_
              clear hK K
              have L10_43 : wc.drew.heap.size ≤ ww42.heap.size := HK42.out.size
              have N9_10_43 : ww41.heap.size < ww42.heap.size := B9_42.out.lt
              have HK43 : Hid (Kp0 wc.drew (ww42.alloc (.cells ((kis .u64 z5)).toArray 40))) := Lib.hid (HK42.out.alloc _)
              have B10_43 : Hid (Blk (ww42.alloc (.cells ((kis .u64 z5)).toArray 40)) ww42.heap.size 40 ((kis .u64 z5))) := Lib.hid (blk0 ww42 _ _)
              have B9_43 := Lib.hid (B9_42.out.kp0 ((Kp.refl (fun _ => False) ww42).alloc (.cells ((kis .u64 z5)).toArray 40)))
              change PX.wp _ _ _ _ _ _ (ww42.alloc (.cells ((kis .u64 z5)).toArray 40))
              generalize (ww42.alloc (.cells ((kis .u64 z5)).toArray 40)) = ww43 at HK43 B9_43 B10_43 ⊢
              refine px_eff rfl (by rfl) (fun K hK => ?_)
              refine wp_store_blk 40 (.tmp 9) (.tmp 35) rfl ww41.heap.size _ ((kis .u64 z5)) (c40) rfl rfl B9_43.out HC40.out.2.2.1 (len_of (T := 40) fe_z5.2.2.1 HC40.out.2.2.1) HC40.out.2.2.2 ?_
              intro ww44 hA hS
              have B9_44 := Lib.hid hA
              have B10_44 := Lib.hid (B10_43.out.keep hS (fun e => by omega))
              have HK44 : Hid (Kp0 wc.drew ww44) := Lib.hid (HK43.out.trans hS (fun _ _ h => h) (fun i hi e => by omega))
              clear hA hS
              refine hK (fun w' : World => Kp0 wc.drew w') _ _ (fun x h => h) HK44.out ?_
              clear hK K
              refine px_eff rfl (by rfl) (fun K hK => ?_)
              refine wp_store_blk 40 (.tmp 10) (.tmp 38) rfl ww42.heap.size _ ((kis .u64 z5)) (c41) rfl rfl B10_44.out HC41.out.2.2.1 (len_of (T := 40) fe_z5.2.2.1 HC41.out.2.2.1) HC41.out.2.2.2 ?_
              intro ww45 hA hS
              have B9_45 := Lib.hid (B9_44.out.keep hS (fun e => by omega))
              have B10_45 := Lib.hid hA
              have HK45 : Hid (Kp0 wc.drew ww45) := Lib.hid (HK44.out.trans hS (fun _ _ h => h) (fun i hi e => by omega))
              clear hA hS
              refine hK (fun w' : World => Kp0 wc.drew w') _ _ (fun x h => h) HK45.out ?_
              clear hK K
              refine px_done ?_
              have O3 : w.heap.size < wc.drew.heap.size := B3_38.out.lt
              have O4 : (w.heap.size + 1) < wc.drew.heap.size := B4_38.out.lt
              have O5 : (w.heap.size + 1 + 1) < wc.drew.heap.size := B5_38.out.lt
              have O6 : (w.heap.size + 1 + 1 + 1) < wc.drew.heap.size := B6_38.out.lt
              have O7 : g7 < wc.drew.heap.size := B7_38.out.lt
              have O8 : g8 < wc.drew.heap.size := B8_38.out.lt
              have OW : w.heap.size ≤ wc.drew.heap.size := KW_38.out.size
              go_wp2
              go_meet
              exact ⟨ww41.heap.size, ww42.heap.size, c40, c41, rfl, rfl, ⟨by omega, by omega, by omega, by omega, by omega, by omega, by omega, by omega, by omega, by omega, by omega, by omega, by omega, by omega, by omega⟩, HC40.out, HC41.out, B9_45.out, B10_45.out, B3_38.out.kp0 ((Kp.refl _ wc).drew.tr HK45.out), B4_38.out.kp0 ((Kp.refl _ wc).drew.tr HK45.out), B5_38.out.kp0 ((Kp.refl _ wc).drew.tr HK45.out), B6_38.out.kp0 ((Kp.refl _ wc).drew.tr HK45.out), B7_38.out.kp0 ((Kp.refl _ wc).drew.tr HK45.out), B8_38.out.kp0 ((Kp.refl _ wc).drew.tr HK45.out), KW_38.out.tr ((Kp.refl _ wc).drew.tr HK45.out)⟩
            · go_simp
              refine hK (fun w' : World => Kp0 wc.drew w') _ _ (fun x h => h) (HK41.out.alloc _) ?_
              clear hK K
              have L10_46 : wc.drew.heap.size ≤ ww41.heap.size := HK41.out.size
              have HK46 : Hid (Kp0 wc.drew (ww41.alloc (.cells ((kis .u64 z5)).toArray 40))) := Lib.hid (HK41.out.alloc _)
              have B10_46 : Hid (Blk (ww41.alloc (.cells ((kis .u64 z5)).toArray 40)) ww41.heap.size 40 ((kis .u64 z5))) := Lib.hid (blk0 ww41 _ _)
              change PX.wp _ _ _ _ _ _ (ww41.alloc (.cells ((kis .u64 z5)).toArray 40))
              generalize (ww41.alloc (.cells ((kis .u64 z5)).toArray 40)) = ww46 at HK46 B10_46 ⊢
              refine px_eff rfl (by rfl) (fun K hK => ?_)
              go_simp
              refine hK (fun w' : World => Kp0 wc.drew w') _ _ (fun x h => h) (HK46.out.alloc _) ?_
              clear hK K
              have L9_47 : wc.drew.heap.size ≤ ww46.heap.size := HK46.out.size
              have N10_9_47 : ww41.heap.size < ww46.heap.size := B10_46.out.lt
              have HK47 : Hid (Kp0 wc.drew (ww46.alloc (.cells ((kis .u64 z5)).toArray 40))) := Lib.hid (HK46.out.alloc _)
              have B9_47 : Hid (Blk (ww46.alloc (.cells ((kis .u64 z5)).toArray 40)) ww46.heap.size 40 ((kis .u64 z5))) := Lib.hid (blk0 ww46 _ _)
              have B10_47 := Lib.hid (B10_46.out.kp0 ((Kp.refl (fun _ => False) ww46).alloc (.cells ((kis .u64 z5)).toArray 40)))
              change PX.wp _ _ _ _ _ _ (ww46.alloc (.cells ((kis .u64 z5)).toArray 40))
              generalize (ww46.alloc (.cells ((kis .u64 z5)).toArray 40)) = ww47 at HK47 B10_47 B9_47 ⊢
              refine px_eff rfl (by rfl) (fun K hK => ?_)
              refine wp_store_blk 40 (.tmp 9) (.tmp 35) rfl ww46.heap.size _ ((kis .u64 z5)) (c40) rfl rfl B9_47.out HC40.out.2.2.1 (len_of (T := 40) fe_z5.2.2.1 HC40.out.2.2.1) HC40.out.2.2.2 ?_
              intro ww48 hA hS
              have B10_48 := Lib.hid (B10_47.out.keep hS (fun e => by omega))
              have B9_48 := Lib.hid hA
              have HK48 : Hid (Kp0 wc.drew ww48) := Lib.hid (HK47.out.trans hS (fun _ _ h => h) (fun i hi e => by omega))
              clear hA hS
              refine hK (fun w' : World => Kp0 wc.drew w') _ _ (fun x h => h) HK48.out ?_
              clear hK K
              refine px_eff rfl (by rfl) (fun K hK => ?_)
              refine wp_store_blk 40 (.tmp 10) (.tmp 38) rfl ww41.heap.size _ ((kis .u64 z5)) (c41) rfl rfl B10_48.out HC41.out.2.2.1 (len_of (T := 40) fe_z5.2.2.1 HC41.out.2.2.1) HC41.out.2.2.2 ?_
              intro ww49 hA hS
              have B10_49 := Lib.hid hA
              have B9_49 := Lib.hid (B9_48.out.keep hS (fun e => by omega))
              have HK49 : Hid (Kp0 wc.drew ww49) := Lib.hid (HK48.out.trans hS (fun _ _ h => h) (fun i hi e => by omega))
              clear hA hS
              refine hK (fun w' : World => Kp0 wc.drew w') _ _ (fun x h => h) HK49.out ?_
              clear hK K
              refine px_done ?_
              have O3 : w.heap.size < wc.drew.heap.size := B3_38.out.lt
              have O4 : (w.heap.size + 1) < wc.drew.heap.size := B4_38.out.lt
              have O5 : (w.heap.size + 1 + 1) < wc.drew.heap.size := B5_38.out.lt
              have O6 : (w.heap.size + 1 + 1 + 1) < wc.drew.heap.size := B6_38.out.lt
              have O7 : g7 < wc.drew.heap.size := B7_38.out.lt
              have O8 : g8 < wc.drew.heap.size := B8_38.out.lt
              have OW : w.heap.size ≤ wc.drew.heap.size := KW_38.out.size
              go_wp2
              go_meet
              exact ⟨ww46.heap.size, ww41.heap.size, c40, c41, rfl, rfl, ⟨by omega, by omega, by omega, by omega, by omega, by omega, by omega, by omega, by omega, by omega, by omega, by omega, by omega, by omega, by omega⟩, HC40.out, HC41.out, B9_49.out, B10_49.out, B3_38.out.kp0 ((Kp.refl _ wc).drew.tr HK49.out), B4_38.out.kp0 ((Kp.refl _ wc).drew.tr HK49.out), B5_38.out.kp0 ((Kp.refl _ wc).drew.tr HK49.out), B6_38.out.kp0 ((Kp.refl _ wc).drew.tr HK49.out), B7_38.out.kp0 ((Kp.refl _ wc).drew.tr HK49.out), B8_38.out.kp0 ((Kp.refl _ wc).drew.tr HK49.out), KW_38.out.tr ((Kp.refl _ wc).drew.tr HK49.out)⟩
          · go_simp
            refine hK (fun w' : World => Kp0 wc.drew w') _ _ (fun x h => h) (HK40.out.alloc _) ?_
            clear hK K
            have L9_50 : wc.drew.heap.size ≤ ww40.heap.size := HK40.out.size
            have HK50 : Hid (Kp0 wc.drew (ww40.alloc (.cells ((kis .u64 z5)).toArray 40))) := Lib.hid (HK40.out.alloc _)
            have B9_50 : Hid (Blk (ww40.alloc (.cells ((kis .u64 z5)).toArray 40)) ww40.heap.size 40 ((kis .u64 z5))) := Lib.hid (blk0 ww40 _ _)
            change PX.wp _ _ _ _ _ _ (ww40.alloc (.cells ((kis .u64 z5)).toArray 40))
            generalize (ww40.alloc (.cells ((kis .u64 z5)).toArray 40)) = ww50 at HK50 B9_50 ⊢
            refine ⟨px_one rfl (by rfl) (fun K hK => ?_), px_one rfl (by rfl) (fun K hK => ?_)⟩
            · go_simp
              refine (sub_fe e7 e8 (nM 57896044618658097711785492504343953926634992332820282019728792003956564819949 (nA 57896044618658097711785492504343953926634992332820282019728792003956564819949 m1 n1) (nS 57896044618658097711785492504343953926634992332820282019728792003956564819949 m2 n2)) (nM 57896044618658097711785492504343953926634992332820282019728792003956564819949 (nS 57896044618658097711785492504343953926634992332820282019728792003956564819949 m1 n1) (nA 57896044618658097711785492504343953926634992332820282019728792003956564819949 m2 n2)) _ HE7.out HE8.out).mono ?_
              rintro e ww51 ⟨c51, rfl, hc, hk⟩
              simp only []
              have HC51 : Hid (Fe El c51 (nS 57896044618658097711785492504343953926634992332820282019728792003956564819949 (nM 57896044618658097711785492504343953926634992332820282019728792003956564819949 (nA 57896044618658097711785492504343953926634992332820282019728792003956564819949 m1 n1) (nS 57896044618658097711785492504343953926634992332820282019728792003956564819949 m2 n2)) (nM 57896044618658097711785492504343953926634992332820282019728792003956564819949 (nS 57896044618658097711785492504343953926634992332820282019728792003956564819949 m1 n1) (nA 57896044618658097711785492504343953926634992332820282019728792003956564819949 m2 n2)))) := Lib.hid hc
              clear hc
              have HK51 : Hid (Kp0 wc.drew ww51) := Lib.hid (HK50.out.tr hk)
              have B9_51 := Lib.hid (B9_50.out.kp0 hk)
              clear hk
              refine hK (fun w' : World => Kp0 wc.drew w') _ _ (fun x h => h) HK51.out ?_
              clear hK K
              refine px_eff rfl (by rfl) (fun K hK => ?_)
              go_simp
              refine hK (fun w' : World => Kp0 wc.drew w') _ _ (fun x h => h) (HK51.out.alloc _) ?_
              clear hK K
              have L10_52 : wc.drew.heap.size ≤ ww51.heap.size := HK51.out.size
              have N9_10_52 : ww40.heap.size < ww51.heap.size := B9_51.out.lt
              have HK52 : Hid (Kp0 wc.drew (ww51.alloc (.cells ((kis .u64 z5)).toArray 40))) := Lib.hid (HK51.out.alloc _)
              have B10_52 : Hid (Blk (ww51.alloc (.cells ((kis .u64 z5)).toArray 40)) ww51.heap.size 40 ((kis .u64 z5))) := Lib.hid (blk0 ww51 _ _)
              have B9_52 := Lib.hid (B9_51.out.kp0 ((Kp.refl (fun _ => False) ww51).alloc (.cells ((kis .u64 z5)).toArray 40)))
              change PX.wp _ _ _ _ _ _ (ww51.alloc (.cells ((kis .u64 z5)).toArray 40))
              generalize (ww51.alloc (.cells ((kis .u64 z5)).toArray 40)) = ww52 at HK52 B9_52 B10_52 ⊢
              refine px_eff rfl (by rfl) (fun K hK => ?_)
              refine wp_store_blk 40 (.tmp 9) (.tmp 35) rfl ww40.heap.size _ ((kis .u64 z5)) (c40) rfl rfl B9_52.out HC40.out.2.2.1 (len_of (T := 40) fe_z5.2.2.1 HC40.out.2.2.1) HC40.out.2.2.2 ?_
              intro ww53 hA hS
              have B9_53 := Lib.hid hA
              have B10_53 := Lib.hid (B10_52.out.keep hS (fun e => by omega))
              have HK53 : Hid (Kp0 wc.drew ww53) := Lib.hid (HK52.out.trans hS (fun _ _ h => h) (fun i hi e => by omega))
              clear hA hS
              refine hK (fun w' : World => Kp0 wc.drew w') _ _ (fun x h => h) HK53.out ?_
              clear hK K
              refine px_eff rfl (by rfl) (fun K hK => ?_)
              refine wp_store_blk 40 (.tmp 10) (.tmp 38) rfl ww51.heap.size _ ((kis .u64 z5)) (c51) rfl rfl B10_53.out HC51.out.2.2.1 (len_of (T := 40) fe_z5.2.2.1 HC51.out.2.2.1) HC51.out.2.2.2 ?_
              intro ww54 hA hS
              have B9_54 := Lib.hid (B9_53.out.keep hS (fun e => by omega))
              have B10_54 := Lib.hid hA
              have HK54 : Hid (Kp0 wc.drew ww54) := Lib.hid (HK53.out.trans hS (fun _ _ h => h) (fun i hi e => by omega))
              clear hA hS
              refine hK (fun w' : World => Kp0 wc.drew w') _ _ (fun x h => h) HK54.out ?_
              clear hK K
              refine px_done ?_
              have O3 : w.heap.size < wc.drew.heap.size := B3_38.out.lt
              have O4 : (w.heap.size + 1) < wc.drew.heap.size := B4_38.out.lt
              have O5 : (w.heap.size + 1 + 1) < wc.drew.heap.size := B5_38.out.lt
              have O6 : (w.heap.size + 1 + 1 + 1) < wc.drew.heap.size := B6_38.out.lt
              have O7 : g7 < wc.drew.heap.size := B7_38.out.lt
              have O8 : g8 < wc.drew.heap.size := B8_38.out.lt
              have OW : w.heap.size ≤ wc.drew.heap.size := KW_38.out.size
              go_wp2
              go_meet
              exact ⟨ww40.heap.size, ww51.heap.size, c40, c51, rfl, rfl, ⟨by omega, by omega, by omega, by omega, by omega, by omega, by omega, by omega, by omega, by omega, by omega, by omega, by omega, by omega, by omega⟩, HC40.out, HC51.out, B9_54.out, B10_54.out, B3_38.out.kp0 ((Kp.refl _ wc).drew.tr HK54.out), B4_38.out.kp0 ((Kp.refl _ wc).drew.tr HK54.out), B5_38.out.kp0 ((Kp.refl _ wc).drew.tr HK54.out), B6_38.out.kp0 ((Kp.refl _ wc).drew.tr HK54.out), B7_38.out.kp0 ((Kp.refl _ wc).drew.tr HK54.out), B8_38.out.kp0 ((Kp.refl _ wc).drew.tr HK54.out), KW_38.out.tr ((Kp.refl _ wc).drew.tr HK54.out)⟩
            · go_simp
              refine hK (fun w' : World => Kp0 wc.drew w') _ _ (fun x h => h) (HK50.out.alloc _) ?_
              clear hK K
              have L10_55 : wc.drew.heap.size ≤ ww50.heap.size := HK50.out.size
              have N9_10_55 : ww40.heap.size < ww50.heap.size := B9_50.out.lt
              have HK55 : Hid (Kp0 wc.drew (ww50.alloc (.cells ((kis .u64 z5)).toArray 40))) := Lib.hid (HK50.out.alloc _)
              have B10_55 : Hid (Blk (ww50.alloc (.cells ((kis .u64 z5)).toArray 40)) ww50.heap.size 40 ((kis .u64 z5))) := Lib.hid (blk0 ww50 _ _)
              have B9_55 := Lib.hid (B9_50.out.kp0 ((Kp.refl (fun _ => False) ww50).alloc (.cells ((kis .u64 z5)).toArray 40)))
              change PX.wp _ _ _ _ _ _ (ww50.alloc (.cells ((kis .u64 z5)).toArray 40))
              generalize (ww50.alloc (.cells ((kis .u64 z5)).toArray 40)) = ww55 at HK55 B9_55 B10_55 ⊢
              refine px_eff rfl (by rfl) (fun K hK => ?_)
              go_simp
              refine (sub_fe e7 e8 (nM 57896044618658097711785492504343953926634992332820282019728792003956564819949 (nA 57896044618658097711785492504343953926634992332820282019728792003956564819949 m1 n1) (nS 57896044618658097711785492504343953926634992332820282019728792003956564819949 m2 n2)) (nM 57896044618658097711785492504343953926634992332820282019728792003956564819949 (nS 57896044618658097711785492504343953926634992332820282019728792003956564819949 m1 n1) (nA 57896044618658097711785492504343953926634992332820282019728792003956564819949 m2 n2)) _ HE7.out HE8.out).mono ?_
              rintro e ww56 ⟨c56, rfl, hc, hk⟩
              simp only []
              have HC56 : Hid (Fe El c56 (nS 57896044618658097711785492504343953926634992332820282019728792003956564819949 (nM 57896044618658097711785492504343953926634992332820282019728792003956564819949 (nA 57896044618658097711785492504343953926634992332820282019728792003956564819949 m1 n1) (nS 57896044618658097711785492504343953926634992332820282019728792003956564819949 m2 n2)) (nM 57896044618658097711785492504343953926634992332820282019728792003956564819949 (nS 57896044618658097711785492504343953926634992332820282019728792003956564819949 m1 n1) (nA 57896044618658097711785492504343953926634992332820282019728792003956564819949 m2 n2)))) := Lib.hid hc
              clear hc
              have HK56 : Hid (Kp0 wc.drew ww56) := Lib.hid (HK55.out.tr hk)
              have B9_56 := Lib.hid (B9_55.out.kp0 hk)
              have B10_56 := Lib.hid (B10_55.out.kp0 hk)
              clear hk
              refine hK (fun w' : World => Kp0 wc.drew w') _ _ (fun x h => h) HK56.out ?_
              clear hK K
              refine px_eff rfl (by rfl) (fun K hK => ?_)
              refine wp_store_blk 40 (.tmp 9) (.tmp 35) rfl ww40.heap.size _ ((kis .u64 z5)) (c40) rfl rfl B9_56.out HC40.out.2.2.1 (len_of (T := 40) fe_z5.2.2.1 HC40.out.2.2.1) HC40.out.2.2.2 ?_
              intro ww57 hA hS
              have B9_57 := Lib.hid hA
              have B10_57 := Lib.hid (B10_56.out.keep hS (fun e => by omega))
              have HK57 : Hid (Kp0 wc.drew ww57) := Lib.hid (HK56.out.trans hS (fun _ _ h => h) (fun i hi e => by omega))
              clear hA hS
              refine hK (fun w' : World => Kp0 wc.drew w') _ _ (fun x h => h) HK57.out ?_
              clear hK K
              refine px_eff rfl (by rfl) (fun K hK => ?_)
              refine wp_store_blk 40 (.tmp 10) (.tmp 38) rfl ww50.heap.size _ ((kis .u64 z5)) (c56) rfl rfl B10_57.out HC56.out.2.2.1 (len_of (T := 40) fe_z5.2.2.1 HC56.out.2.2.1) HC56.out.2.2.2 ?_
              intro ww58 hA hS
              have B9_58 := Lib.hid (B9_57.out.keep hS (fun e => by omega))
              have B10_58 := Lib.hid hA
              have HK58 : Hid (Kp0 wc.drew ww58) := Lib.hid (HK57.out.trans hS (fun _ _ h => h) (fun i hi e => by omega))
              clear hA hS
              refine hK (fun w' : World => Kp0 wc.drew w') _ _ (fun x h => h) HK58.out ?_
              clear hK K
              refine px_done ?_
              have O3 : w.heap.size < wc.drew.heap.size := B3_38.out.lt
              have O4 : (w.heap.size + 1) < wc.drew.heap.size := B4_38.out.lt
              have O5 : (w.heap.size + 1 + 1) < wc.drew.heap.size := B5_38.out.lt
              have O6 : (w.heap.size + 1 + 1 + 1) < wc.drew.heap.size := B6_38.out.lt
              have O7 : g7 < wc.drew.heap.size := B7_38.out.lt
              have O8 : g8 < wc.drew.heap.size := B8_38.out.lt
              have OW : w.heap.size ≤ wc.drew.heap.size := KW_38.out.size
              go_wp2
              go_meet
              exact ⟨ww40.heap.size, ww50.heap.size, c40, c56, rfl, rfl, ⟨by omega, by omega, by omega, by omega, by omega, by omega, by omega, by omega, by omega, by omega, by omega, by omega, by omega, by omega, by omega⟩, HC40.out, HC56.out, B9_58.out, B10_58.out, B3_38.out.kp0 ((Kp.refl _ wc).drew.tr HK58.out), B4_38.out.kp0 ((Kp.refl _ wc).drew.tr HK58.out), B5_38.out.kp0 ((Kp.refl _ wc).drew.tr HK58.out), B6_38.out.kp0 ((Kp.refl _ wc).drew.tr HK58.out), B7_38.out.kp0 ((Kp.refl _ wc).drew.tr HK58.out), B8_38.out.kp0 ((Kp.refl _ wc).drew.tr HK58.out), KW_38.out.tr ((Kp.refl _ wc).drew.tr HK58.out)⟩
          · go_simp
            refine hK (fun w' : World => Kp0 wc.drew w') _ _ (fun x h => h) (HK40.out.alloc _) ?_
            clear hK K
            have L10_59 : wc.drew.heap.size ≤ ww40.heap.size := HK40.out.size
            have HK59 : Hid (Kp0 wc.drew (ww40.alloc (.cells ((kis .u64 z5)).toArray 40))) := Lib.hid (HK40.out.alloc _)
            have B10_59 : Hid (Blk (ww40.alloc (.cells ((kis .u64 z5)).toArray 40)) ww40.heap.size 40 ((kis .u64 z5))) := Lib.hid (blk0 ww40 _ _)
            change PX.wp _ _ _ _ _ _ (ww40.alloc (.cells ((kis .u64 z5)).toArray 40))
            generalize (ww40.alloc (.cells ((kis .u64 z5)).toArray 40)) = ww59 at HK59 B10_59 ⊢
            refine ⟨px_one rfl (by rfl) (fun K hK => ?_), px_one rfl (by rfl) (fun K hK => ?_)⟩
            · go_simp
              refine (sub_fe e7 e8 (nM 57896044618658097711785492504343953926634992332820282019728792003956564819949 (nA 57896044618658097711785492504343953926634992332820282019728792003956564819949 m1 n1) (nS 57896044618658097711785492504343953926634992332820282019728792003956564819949 m2 n2)) (nM 57896044618658097711785492504343953926634992332820282019728792003956564819949 (nS 57896044618658097711785492504343953926634992332820282019728792003956564819949 m1 n1) (nA 57896044618658097711785492504343953926634992332820282019728792003956564819949 m2 n2)) _ HE7.out HE8.out).mono ?_
              rintro e ww60 ⟨c60, rfl, hc, hk⟩
              simp only []
              have HC60 : Hid (Fe El c60 (nS 57896044618658097711785492504343953926634992332820282019728792003956564819949 (nM 57896044618658097711785492504343953926634992332820282019728792003956564819949 (nA 57896044618658097711785492504343953926634992332820282019728792003956564819949 m1 n1) (nS 57896044618658097711785492504343953926634992332820282019728792003956564819949 m2 n2)) (nM 57896044618658097711785492504343953926634992332820282019728792003956564819949 (nS 57896044618658097711785492504343953926634992332820282019728792003956564819949 m1 n1) (nA 57896044618658097711785492504343953926634992332820282019728792003956564819949 m2 n2)))) := Lib.hid hc
              clear hc
              have HK60 : Hid (Kp0 wc.drew ww60) := Lib.hid (HK59.out.tr hk)
              have B10_60 := Lib.hid (B10_59.out.kp0 hk)
              clear hk
              refine hK (fun w' : World => Kp0 wc.drew w') _ _ (fun x h => h) HK60.out ?_
              clear hK K
              refine px_eff rfl (by rfl) (fun K hK => ?_)
              go_simp
              refine hK (fun w' : World => Kp0 wc.drew w') _ _ (fun x h => h) (HK60.out.alloc _) ?_
              clear hK K
              have L9_61 : wc.drew.heap.size ≤ ww60.heap.size := HK60.out.size
              have N10_9_61 : ww40.heap.size < ww60.heap.size := B10_60.out.lt
              have HK61 : Hid (Kp0 wc.drew (ww60.alloc (.cells ((kis .u64 z5)).toArray 40))) := Lib.hid (HK60.out.alloc _)
              have B9_61 : Hid (Blk (ww60.alloc (.cells ((kis .u64 z5)).toArray 40)) ww60.heap.size 40 ((kis .u64 z5))) := Lib.hid (blk0 ww60 _ _)
              have B10_61 := Lib.hid (B10_60.out.kp0 ((Kp.refl (fun _ => False) ww60).alloc (.cells ((kis .u64 z5)).toArray 40)))
              change PX.wp _ _ _ _ _ _ (ww60.alloc (.cells ((kis .u64 z5)).toArray 40))
              generalize (ww60.alloc (.cells ((kis .u64 z5)).toArray 40)) = ww61 at HK61 B10_61 B9_61 ⊢
              refine px_eff rfl (by rfl) (fun K hK => ?_)
              refine wp_store_blk 40 (.tmp 9) (.tmp 35) rfl ww60.heap.size _ ((kis .u64 z5)) (c40) rfl rfl B9_61.out HC40.out.2.2.1 (len_of (T := 40) fe_z5.2.2.1 HC40.out.2.2.1) HC40.out.2.2.2 ?_
              intro ww62 hA hS
              have B10_62 := Lib.hid (B10_61.out.keep hS (fun e => by omega))
              have B9_62 := Lib.hid hA
              have HK62 : Hid (Kp0 wc.drew ww62) := Lib.hid (HK61.out.trans hS (fun _ _ h => h) (fun i hi e => by omega))
              clear hA hS
              refine hK (fun w' : World => Kp0 wc.drew w') _ _ (fun x h => h) HK62.out ?_
              clear hK K
              refine px_eff rfl (by rfl) (fun K hK => ?_)
              refine wp_store_blk 40 (.tmp 10) (.tmp 38) rfl ww40.heap.size _ ((kis .u64 z5)) (c60) rfl rfl B10_62.out HC60.out.2.2.1 (len_of (T := 40) fe_z5.2.2.1 HC60.out.2.2.1) HC60.out.2.2.2 ?_
              intro ww63 hA hS
              have B10_63 := Lib.hid hA
              have B9_63 := Lib.hid (B9_62.out.keep hS (fun e => by omega))
              have HK63 : Hid (Kp0 wc.drew ww63) := Lib.hid (HK62.out.trans hS (fun _ _ h => h) (fun i hi e => by omega))
              clear hA hS
              refine hK (fun w' : World => Kp0 wc.drew w') _ _ (fun x h => h) HK63.out ?_
              clear hK K
              refine px_done ?_
              have O3 : w.heap.size < wc.drew.heap.size := B3_38.out.lt
              have O4 : (w.heap.size + 1) < wc.drew.heap.size := B4_38.out.lt
              have O5 : (w.heap.size + 1 + 1) < wc.drew.heap.size := B5_38.out.lt
              have O6 : (w.heap.size + 1 + 1 + 1) < wc.drew.heap.size := B6_38.out.lt
              have O7 : g7 < wc.drew.heap.size := B7_38.out.lt
              have O8 : g8 < wc.drew.heap.size := B8_38.out.lt
              have OW : w.heap.size ≤ wc.drew.heap.size := KW_38.out.size
              go_wp2
              go_meet
              exact ⟨ww60.heap.size, ww40.heap.size, c40, c60, rfl, rfl, ⟨by omega, by omega, by omega, by omega, by omega, by omega, by omega, by omega, by omega, by omega, by omega, by omega, by omega, by omega, by omega⟩, HC40.out, HC60.out, B9_63.out, B10_63.out, B3_38.out.kp0 ((Kp.refl _ wc).drew.tr HK63.out), B4_38.out.kp0 ((Kp.refl _ wc).drew.tr HK63.out), B5_38.out.kp0 ((Kp.refl _ wc).drew.tr HK63.out), B6_38.out.kp0 ((Kp.refl _ wc).drew.tr HK63.out), B7_38.out.kp0 ((Kp.refl _ wc).drew.tr HK63.out), B8_38.out.kp0 ((Kp.refl _ wc).drew.tr HK63.out), KW_38.out.tr ((Kp.refl _ wc).drew.tr HK63.out)⟩
            · go_simp
              refine hK (fun w' : World => Kp0 wc.drew w') _ _ (fun x h => h) (HK59.out.alloc _) ?_
              clear hK K
              have L9_64 : wc.drew.heap.size ≤ ww59.heap.size := HK59.out.size
              have N10_9_64 : ww40.heap.size < ww59.heap.size := B10_59.out.lt
              have HK64 : Hid (Kp0 wc.drew (ww59.alloc (.cells ((kis .u64 z5)).toArray 40))) := Lib.hid (HK59.out.alloc _)
              have B9_64 : Hid (Blk (ww59.alloc (.cells ((kis .u64 z5)).toArray 40)) ww59.heap.size 40 ((kis .u64 z5))) := Lib.hid (blk0 ww59 _ _)
              have B10_64 := Lib.hid (B10_59.out.kp0 ((Kp.refl (fun _ => False) ww59).alloc (.cells ((kis .u64 z5)).toArray 40)))
              change PX.wp _ _ _ _ _ _ (ww59.alloc (.cells ((kis .u64 z5)).toArray 40))
              generalize (ww59.alloc (.cells ((kis .u64 z5)).toArray 40)) = ww64 at HK64 B10_64 B9_64 ⊢
              refine px_eff rfl (by rfl) (fun K hK => ?_)
              go_simp
              refine (sub_fe e7 e8 (nM 57896044618658097711785492504343953926634992332820282019728792003956564819949 (nA 57896044618658097711785492504343953926634992332820282019728792003956564819949 m1 n1) (nS 57896044618658097711785492504343953926634992332820282019728792003956564819949 m2 n2)) (nM 57896044618658097711785492504343953926634992332820282019728792003956564819949 (nS 57896044618658097711785492504343953926634992332820282019728792003956564819949 m1 n1) (nA 57896044618658097711785492504343953926634992332820282019728792003956564819949 m2 n2)) _ HE7.out HE8.out).mono ?_
              rintro e ww65 ⟨c65, rfl, hc, hk⟩
              simp only []
              have HC65 : Hid (Fe El c65 (nS 57896044618658097711785492504343953926634992332820282019728792003956564819949 (nM 57896044618658097711785492504343953926634992332820282019728792003956564819949 (nA 57896044618658097711785492504343953926634992332820282019728792003956564819949 m1 n1) (nS 57896044618658097711785492504343953926634992332820282019728792003956564819949 m2 n2)) (nM 57896044618658097711785492504343953926634992332820282019728792003956564819949 (nS 57896044618658097711785492504343953926634992332820282019728792003956564819949 m1 n1) (nA 57896044618658097711785492504343953926634992332820282019728792003956564819949 m2 n2)))) := Lib.hid hc
              clear hc
              have HK65 : Hid (Kp0 wc.drew ww65) := Lib.hid (HK64.out.tr hk)
              have B10_65 := Lib.hid (B10_64.out.kp0 hk)
              have B9_65 := Lib.hid (B9_64.out.kp0 hk)
              clear hk
              refine hK (fun w' : World => Kp0 wc.drew w') _ _ (fun x h => h) HK65.out ?_
              clear hK K
              refine px_eff rfl (by rfl) (fun K hK => ?_)
              refine wp_store_blk 40 (.tmp 9) (.tmp 35) rfl ww59.heap.size _ ((kis .u64 z5)) (c40) rfl rfl B9_65.out HC40.out.2.2.1 (len_of (T := 40) fe_z5.2.2.1 HC40.out.2.2.1) HC40.out.2.2.2 ?_
              intro ww66 hA hS
              have B10_66 := Lib.hid (B10_65.out.keep hS (fun e => by omega))
              have B9_66 := Lib.hid hA
              have HK66 : Hid (Kp0 wc.drew ww66) := Lib.hid (HK65.out.trans hS (fun _ _ h => h) (fun i hi e => by omega))
              clear hA hS
              refine hK (fun w' : World => Kp0 wc.drew w') _ _ (fun x h => h) HK66.out ?_
              clear hK K
              refine px_eff rfl (by rfl) (fun K hK => ?_)
              refine wp_store_blk 40 (.tmp 10) (.tmp 38) rfl ww40.heap.size _ ((kis .u64 z5)) (c65) rfl rfl B10_66.out HC65.out.2.2.1 (len_of (T := 40) fe_z5.2.2.1 HC65.out.2.2.1) HC65.out.2.2.2 ?_
              intro ww67 hA hS
              have B10_67 := Lib.hid hA
              have B9_67 := Lib.hid (B9_66.out.keep hS (fun e => by omega))
              have HK67 : Hid (Kp0 wc.drew ww67) := Lib.hid (HK66.out.trans hS (fun _ _ h => h) (fun i hi e => by omega))
              clear hA hS
              refine hK (fun w' : World => Kp0 wc.drew w') _ _ (fun x h => h) HK67.out ?_
              clear hK K
              refine px_done ?_
              have O3 : w.heap.size < wc.drew.heap.size := B3_38.out.lt
              have O4 : (w.heap.size + 1) < wc.drew.heap.size := B4_38.out.lt
              have O5 : (w.heap.size + 1 + 1) < wc.drew.heap.size := B5_38.out.lt
              have O6 : (w.heap.size + 1 + 1 + 1) < wc.drew.heap.size := B6_38.out.lt
              have O7 : g7 < wc.drew.heap.size := B7_38.out.lt
              have O8 : g8 < wc.drew.heap.size := B8_38.out.lt
              have OW : w.heap.size ≤ wc.drew.heap.size := KW_38.out.size
              go_wp2
              go_meet
              exact ⟨ww59.heap.size, ww40.heap.size, c40, c65, rfl, rfl, ⟨by omega, by omega, by omega, by omega, by omega, by omega, by omega, by omega, by omega, by omega, by omega, by omega, by omega, by omega, by omega⟩, HC40.out, HC65.out, B9_67.out, B10_67.out, B3_38.out.kp0 ((Kp.refl _ wc).drew.tr HK67.out), B4_38.out.kp0 ((Kp.refl _ wc).drew.tr HK67.out), B5_38.out.kp0 ((Kp.refl _ wc).drew.tr HK67.out), B6_38.out.kp0 ((Kp.refl _ wc).drew.tr HK67.out), B7_38.out.kp0 ((Kp.refl _ wc).drew.tr HK67.out), B8_38.out.kp0 ((Kp.refl _ wc).drew.tr HK67.out), KW_38.out.tr ((Kp.refl _ wc).drew.tr HK67.out)⟩
        · go_simp
          refine hK (fun w' : World => Kp0 wc.drew w') _ _ (fun x h => h) (HK39_0.out.alloc _) ?_
          clear hK K
          have L9_68 : wc.drew.heap.size ≤ wc.drew.heap.size := HK39_0.out.size
          have HK68 : Hid (Kp0 wc.drew (wc.drew.alloc (.cells ((kis .u64 z5)).toArray 40))) := Lib.hid (HK39_0.out.alloc _)
          have B9_68 : Hid (Blk (wc.drew.alloc (.cells ((kis .u64 z5)).toArray 40)) wc.drew.heap.size 40 ((kis .u64 z5))) := Lib.hid (blk0 wc.drew _ _)
          change PX.wp _ _ _ _ _ _ (wc.drew.alloc (.cells ((kis .u64 z5)).toArray 40))
          generalize (wc.drew.alloc (.cells ((kis .u64 z5)).toArray 40)) = ww68 at HK68 B9_68 ⊢
          refine ⟨px_one rfl (by rfl) (fun K hK => ?_), px_one rfl (by rfl) (fun K hK => ?_)⟩
          · go_simp
            refine (add_fe e7 e8 (nM 57896044618658097711785492504343953926634992332820282019728792003956564819949 (nA 57896044618658097711785492504343953926634992332820282019728792003956564819949 m1 n1) (nS 57896044618658097711785492504343953926634992332820282019728792003956564819949 m2 n2)) (nM 57896044618658097711785492504343953926634992332820282019728792003956564819949 (nS 57896044618658097711785492504343953926634992332820282019728792003956564819949 m1 n1) (nA 57896044618658097711785492504343953926634992332820282019728792003956564819949 m2 n2)) _ HE7.out HE8.out).mono ?_
            rintro e ww69 ⟨c69, rfl, hc, hk⟩
            simp only []
            have HC69 : Hid (Fe El c69 (nA 57896044618658097711785492504343953926634992332820282019728792003956564819949 (nM 57896044618658097711785492504343953926634992332820282019728792003956564819949 (nA 57896044618658097711785492504343953926634992332820282019728792003956564819949 m1 n1) (nS 57896044618658097711785492504343953926634992332820282019728792003956564819949 m2 n2)) (nM 57896044618658097711785492504343953926634992332820282019728792003956564819949 (nS 57896044618658097711785492504343953926634992332820282019728792003956564819949 m1 n1) (nA 57896044618658097711785492504343953926634992332820282019728792003956564819949 m2 n2)))) := Lib.hid hc
            clear hc
            have HK69 : Hid (Kp0 wc.drew ww69) := Lib.hid (HK68.out.tr hk)
            have B9_69 := Lib.hid (B9_68.out.kp0 hk)
            clear hk
            refine hK (fun w' : World => Kp0 wc.drew w') _ _ (fun x h => h) HK69.out ?_
            clear hK K
            refine ⟨px_one rfl (by rfl) (fun K hK => ?_), px_one rfl (by rfl) (fun K hK => ?_)⟩
            · go_simp
              refine (sub_fe e7 e8 (nM 57896044618658097711785492504343953926634992332820282019728792003956564819949 (nA 57896044618658097711785492504343953926634992332820282019728792003956564819949 m1 n1) (nS 57896044618658097711785492504343953926634992332820282019728792003956564819949 m2 n2)) (nM 57896044618658097711785492504343953926634992332820282019728792003956564819949 (nS 57896044618658097711785492504343953926634992332820282019728792003956564819949 m1 n1) (nA 57896044618658097711785492504343953926634992332820282019728792003956564819949 m2 n2)) _ HE7.out HE8.out).mono ?_
              rintro e ww70 ⟨c70, rfl, hc, hk⟩
              simp only []
              have HC70 : Hid (Fe El c70 (nS 57896044618658097711785492504343953926634992332820282019728792003956564819949 (nM 57896044618658097711785492504343953926634992332820282019728792003956564819949 (nA 57896044618658097711785492504343953926634992332820282019728792003956564819949 m1 n1) (nS 57896044618658097711785492504343953926634992332820282019728792003956564819949 m2 n2)) (nM 57896044618658097711785492504343953926634992332820282019728792003956564819949 (nS 57896044618658097711785492504343953926634992332820282019728792003956564819949 m1 n1) (nA 57896044618658097711785492504343953926634992332820282019728792003956564819949 m2 n2)))) := Lib.hid hc
              clear hc
              have HK70 : Hid (Kp0 wc.drew ww70) := Lib.hid (HK69.out.tr hk)
              have B9_70 := Lib.hid (B9_69.out.kp0 hk)
              clear hk
              refine hK (fun w' : World => Kp0 wc.drew w') _ _ (fun x h => h) HK70.out ?_
              clear hK K
              refine px_eff rfl (by rfl) (fun K hK => ?_)
              go_simp
              refine hK (fun w' : World => Kp0 wc.drew w') _ _ (fun x h => h) (HK70.out.alloc _) ?_
              clear hK K
              have L10_71 : wc.drew.heap.size ≤ ww70.heap.size := HK70.out.size
              have N9_10_71 : wc.drew.heap.size < ww70.heap.size := B9_70.out.lt
              have HK71 : Hid (Kp0 wc.drew (ww70.alloc (.cells ((kis .u64 z5)).toArray 40))) := Lib.hid (HK70.out.alloc _)
              have B10_71 : Hid (Blk (ww70.alloc (.cells ((kis .u64 z5)).toArray 40)) ww70.heap.size 40 ((kis .u64 z5))) := Lib.hid (blk0 ww70 _ _)
              have B9_71 := Lib.hid (B9_70.out.kp0 ((Kp.refl (fun _ => False) ww70).alloc (.cells ((kis .u64 z5)).toArray 40)))
              change PX.wp _ _ _ _ _ _ (ww70.alloc (.cells ((kis .u64 z5)).toArray 40))
              generalize (ww70.alloc (.cells ((kis .u64 z5)).toArray 40)) = ww71 at HK71 B9_71 B10_71 ⊢
              refine px_eff rfl (by rfl) (fun K hK => ?_)
              refine wp_store_blk 40 (.tmp 9) (.tmp 35) rfl wc.drew.heap.size _ ((kis .u64 z5)) (c69) rfl rfl B9_71.out HC69.out.2.2.1 (len_of (T := 40) fe_z5.2.2.1 HC69.out.2.2.1) HC69.out.2.2.2 ?_
              intro ww72 hA hS
              have B9_72 := Lib.hid hA
              have B10_72 := Lib.hid (B10_71.out.keep hS (fun e => by omega))
              have HK72 : Hid (Kp0 wc.drew ww72) := Lib.hid (HK71.out.trans hS (fun _ _ h => h) (fun i hi e => by omega))
              clear hA hS
              refine hK (fun w' : World => Kp0 wc.drew w') _ _ (fun x h => h) HK72.out ?_
              clear hK K
              refine px_eff rfl (by rfl) (fun K hK => ?_)
              refine wp_store_blk 40 (.tmp 10) (.tmp 38) rfl ww70.heap.size _ ((kis .u64 z5)) (c70) rfl rfl B10_72.out HC70.out.2.2.1 (len_of (T := 40) fe_z5.2.2.1 HC70.out.2.2.1) HC70.out.2.2.2 ?_
              intro ww73 hA hS
              have B9_73 := Lib.hid (B9_72.out.keep hS (fun e => by omega))
              have B10_73 := Lib.hid hA
              have HK73 : Hid (Kp0 wc.drew ww73) := Lib.hid (HK72.out.trans hS (fun _ _ h => h) (fun i hi e => by omega))
              clear hA hS
              refine hK (fun w' : World => Kp0 wc.drew w') _ _ (fun x h => h) HK73.out ?_
              clear hK K
              refine px_done ?_
              have O3 : w.heap.size < wc.drew.heap.size := B3_38.out.lt
              have O4 : (w.heap.size + 1) < wc.drew.heap.size := B4_38.out.lt
              have O5 : (w.heap.size + 1 + 1) < wc.drew.heap.size := B5_38.out.lt
              have O6 : (w.heap.size + 1 + 1 + 1) < wc.drew.heap.size := B6_38.out.lt
              have O7 : g7 < wc.drew.heap.size := B7_38.out.lt
              have O8 : g8 < wc.drew.heap.size := B8_38.out.lt
              have OW : w.heap.size ≤ wc.drew.heap.size := KW_38.out.size
              go_wp2
              go_meet
              exact ⟨wc.drew.heap.size, ww70.heap.size, c69, c70, rfl, rfl, ⟨by omega, by omega, by omega, by omega, by omega, by omega, by omega, by omega, by omega, by omega, by omega, by omega, by omega, by omega, by omega⟩, HC69.out, HC70.out, B9_73.out, B10_73.out, B3_38.out.kp0 ((Kp.refl _ wc).drew.tr HK73.out), B4_38.out.kp0 ((Kp.refl _ wc).drew.tr HK73.out), B5_38.out.kp0 ((Kp.refl _ wc).drew.tr HK73.out), B6_38.out.kp0 ((Kp.refl _ wc).drew.tr HK73.out), B7_38.out.kp0 ((Kp.refl _ wc).drew.tr HK73.out), B8_38.out.kp0 ((Kp.refl _ wc).drew.tr HK73.out), KW_38.out.tr ((Kp.refl _ wc).drew.tr HK73.out)⟩
            · go_simp
              refine hK (fun w' : World => Kp0 wc.drew w') _ _ (fun x h => h) (HK69.out.alloc _) ?_
              clear hK K
              have L10_74 : wc.drew.heap.size ≤ ww69.heap.size := HK69.out.size
              have N9_10_74 : wc.drew.heap.size < ww69.heap.size := B9_69.out.lt
              have HK74 : Hid (Kp0 wc.drew (ww69.alloc (.cells ((kis .u64 z5)).toArray 40))) := Lib.hid (HK69.out.alloc _)
              have B10_74 : Hid (Blk (ww69.alloc (.cells ((kis .u64 z5)).toArray 40)) ww69.heap.size 40 ((kis .u64 z5))) := Lib.hid (blk0 ww69 _ _)
              have B9_74 := Lib.hid (B9_69.out.kp0 ((Kp.refl (fun _ => False) ww69).alloc (.cells ((kis .u64 z5)).toArray 40)))
              change PX.wp _ _ _ _ _ _ (ww69.alloc (.cells ((kis .u64 z5)).toArray 40))
              generalize (ww69.alloc (.cells ((kis .u64 z5)).toArray 40)) = ww74 at HK74 B9_74 B10_74 ⊢
              refine px_eff rfl (by rfl) (fun K hK => ?_)
              go_simp
              refine (sub_fe e7 e8 (nM 57896044618658097711785492504343953926634992332820282019728792003956564819949 (nA 57896044618658097711785492504343953926634992332820282019728792003956564819949 m1 n1) (nS 57896044618658097711785492504343953926634992332820282019728792003956564819949 m2 n2)) (nM 57896044618658097711785492504343953926634992332820282019728792003956564819949 (nS 57896044618658097711785492504343953926634992332820282019728792003956564819949 m1 n1) (nA 57896044618658097711785492504343953926634992332820282019728792003956564819949 m2 n2)) _ HE7.out HE8.out).mono ?_
              rintro e ww75 ⟨c75, rfl, hc, hk⟩
              simp only []
              have HC75 : Hid (Fe El c75 (nS 57896044618658097711785492504343953926634992332820282019728792003956564819949 (nM 57896044618658097711785492504343953926634992332820282019728792003956564819949 (nA 57896044618658097711785492504343953926634992332820282019728792003956564819949 m1 n1) (nS 57896044618658097711785492504343953926634992332820282019728792003956564819949 m2 n2)) (nM 57896044618658097711785492504343953926634992332820282019728792003956564819949 (nS 57896044618658097711785492504343953926634992332820282019728792003956564819949 m1 n1) (nA 57896044618658097711785492504343953926634992332820282019728792003956564819949 m2 n2)))) := Lib.hid hc
              clear hc
              have HK75 : Hid (Kp0 wc.drew ww75) := Lib.hid (HK74.out.tr hk)
              have B9_75 := Lib.hid (B9_74.out.kp0 hk)
              have B10_75 := Lib.hid (B10_74.out.kp0 hk)
              clear hk
              refine hK (fun w' : World => Kp0 wc.drew w') _ _ (fun x h => h) HK75.out ?_
              clear hK K
              refine px_eff rfl (by rfl) (fun K hK => ?_)
              refine wp_store_blk 40 (.tmp 9) (.tmp 35) rfl wc.drew.heap.size _ ((kis .u64 z5)) (c69) rfl rfl B9_75.out HC69.out.2.2.1 (len_of (T := 40) fe_z5.2.2.1 HC69.out.2.2.1) HC69.out.2.2.2 ?_
              intro ww76 hA hS
              have B9_76 := Lib.hid hA
              have B10_76 := Lib.hid (B10_75.out.keep hS (fun e => by omega))
              have HK76 : Hid (Kp0 wc.drew ww76) := Lib.hid (HK75.out.trans hS (fun _ _ h => h) (fun i hi e => by omega))
              clear hA hS
              refine hK (fun w' : World => Kp0 wc.drew w') _ _ (fun x h => h) HK76.out ?_
              clear hK K
              refine px_eff rfl (by rfl) (fun K hK => ?_)
              refine wp_store_blk 40 (.tmp 10) (.tmp 38) rfl ww69.heap.size _ ((kis .u64 z5)) (c75) rfl rfl B10_76.out HC75.out.2.2.1 (len_of (T := 40) fe_z5.2.2.1 HC75.out.2.2.1) HC75.out.2.2.2 ?_
              intro ww77 hA hS
              have B9_77 := Lib.hid (B9_76.out.keep hS (fun e => by omega))
              have B10_77 := Lib.hid hA
              have HK77 : Hid (Kp0 wc.drew ww77) := Lib.hid (HK76.out.trans hS (fun _ _ h => h) (fun i hi e => by omega))
              clear hA hS
              refine hK (fun w' : World => Kp0 wc.drew w') _ _ (fun x h => h) HK77.out ?_
              clear hK K
              refine px_done ?_
              have O3 : w.heap.size < wc.drew.heap.size := B3_38.out.lt
              have O4 : (w.heap.size + 1) < wc.drew.heap.size := B4_38.out.lt
              have O5 : (w.heap.size + 1 + 1) < wc.drew.heap.size := B5_38.out.lt
              have O6 : (w.heap.size + 1 + 1 + 1) < wc.drew.heap.size := B6_38.out.lt
              have O7 : g7 < wc.drew.heap.size := B7_38.out.lt
              have O8 : g8 < wc.drew.heap.size := B8_38.out.lt
              have OW : w.heap.size ≤ wc.drew.heap.size := KW_38.out.size
              go_wp2
              go_meet
              exact ⟨wc.drew.heap.size, ww69.heap.size, c69, c75, rfl, rfl, ⟨by omega, by omega, by omega, by omega, by omega, by omega, by omega, by omega, by omega, by omega, by omega, by omega, by omega, by omega, by omega⟩, HC69.out, HC75.out, B9_77.out, B10_77.out, B3_38.out.kp0 ((Kp.refl _ wc).drew.tr HK77.out), B4_38.out.kp0 ((Kp.refl _ wc).drew.tr HK77.out), B5_38.out.kp0 ((Kp.refl _ wc).drew.tr HK77.out), B6_38.out.kp0 ((Kp.refl _ wc).drew.tr HK77.out), B7_38.out.kp0 ((Kp.refl _ wc).drew.tr HK77.out), B8_38.out.kp0 ((Kp.refl _ wc).drew.tr HK77.out), KW_38.out.tr ((Kp.refl _ wc).drew.tr HK77.out)⟩
          · go_simp
            refine hK (fun w' : World => Kp0 wc.drew w') _ _ (fun x h => h) (HK68.out.alloc _) ?_
            clear hK K
            have L10_78 : wc.drew.heap.size ≤ ww68.heap.size := HK68.out.size
            have N9_10_78 : wc.drew.heap.size < ww68.heap.size := B9_68.out.lt
            have HK78 : Hid (Kp0 wc.drew (ww68.alloc (.cells ((kis .u64 z5)).toArray 40))) := Lib.hid (HK68.out.alloc _)
            have B10_78 : Hid (Blk (ww68.alloc (.cells ((kis .u64 z5)).toArray 40)) ww68.heap.size 40 ((kis .u64 z5))) := Lib.hid (blk0 ww68 _ _)
            have B9_78 := Lib.hid (B9_68.out.kp0 ((Kp.refl (fun _ => False) ww68).alloc (.cells ((kis .u64 z5)).toArray 40)))
            change PX.wp _ _ _ _ _ _ (ww68.alloc (.cells ((kis .u64 z5)).toArray 40))
            generalize (ww68.alloc (.cells ((kis .u64 z5)).toArray 40)) = ww78 at HK78 B9_78 B10_78 ⊢
            refine px_eff rfl (by rfl) (fun K hK => ?_)
            go_simp
            refine (add_fe e7 e8 (nM 57896044618658097711785492504343953926634992332820282019728792003956564819949 (nA 57896044618658097711785492504343953926634992332820282019728792003956564819949 m1 n1) (nS 57896044618658097711785492504343953926634992332820282019728792003956564819949 m2 n2)) (nM 57896044618658097711785492504343953926634992332820282019728792003956564819949 (nS 57896044618658097711785492504343953926634992332820282019728792003956564819949 m1 n1) (nA 57896044618658097711785492504343953926634992332820282019728792003956564819949 m2 n2)) _ HE7.out HE8.out).mono ?_
            rintro e ww79 ⟨c79, rfl, hc, hk⟩
            simp only []
            have HC79 : Hid (Fe El c79 (nA 57896044618658097711785492504343953926634992332820282019728792003956564819949 (nM 57896044618658097711785492504343953926634992332820282019728792003956564819949 (nA 57896044618658097711785492504343953926634992332820282019728792003956564819949 m1 n1) (nS 57896044618658097711785492504343953926634992332820282019728792003956564819949 m2 n2)) (nM 57896044618658097711785492504343953926634992332820282019728792003956564819949 (nS 57896044618658097711785492504343953926634992332820282019728792003956564819949 m1 n1) (nA 57896044618658097711785492504343953926634992332820282019728792003956564819949 m2 n2)))) := Lib.hid hc
            clear hc
            have HK79 : Hid (Kp0 wc.drew ww79) := Lib.hid (HK78.out.tr hk)
            have B9_79 := Lib.hid (B9_78.out.kp0 hk)
            have B10_79 := Lib.hid (B10_78.out.kp0 hk)
            clear hk
            refine hK (fun w' : World => Kp0 wc.drew w') _ _ (fun x h => h) HK79.out ?_
            clear hK K
            refine px_eff rfl (by rfl) (fun K hK => ?_)
            go_simp
            refine (sub_fe e7 e8 (nM 57896044618658097711785492504343953926634992332820282019728792003956564819949 (nA 57896044618658097711785492504343953926634992332820282019728792003956564819949 m1 n1) (nS 57896044618658097711785492504343953926634992332820282019728792003956564819949 m2 n2)) (nM 57896044618658097711785492504343953926634992332820282019728792003956564819949 (nS 57896044618658097711785492504343953926634992332820282019728792003956564819949 m1 n1) (nA 57896044618658097711785492504343953926634992332820282019728792003956564819949 m2 n2)) _ HE7.out HE8.out).mono ?_
            rintro e ww80 ⟨c80, rfl, hc, hk⟩
            simp only []
            have HC80 : Hid (Fe El c80 (nS 57896044618658097711785492504343953926634992332820282019728792003956564819949 (nM 57896044618658097711785492504343953926634992332820282019728792003956564819949 (nA 57896044618658097711785492504343953926634992332820282019728792003956564819949 m1 n1) (nS 57896044618658097711785492504343953926634992332820282019728792003956564819949 m2 n2)) (nM 57896044618658097711785492504343953926634992332820282019728792003956564819949 (nS 57896044618658097711785492504343953926634992332820282019728792003956564819949 m1 n1) (nA 57896044618658097711785492504343953926634992332820282019728792003956564819949 m2 n2)))) := Lib.hid hc
            clear hc
            have HK80 : Hid (Kp0 wc.drew ww80) := Lib.hid (HK79.out.tr hk)
            have B9_80 := Lib.hid (B9_79.out.kp0 hk)
            have B10_80 := Lib.hid (B10_79.out.kp0 hk)
            clear hk
            refine hK (fun w' : World => Kp0 wc.drew w') _ _ (fun x h => h) HK80.out ?_
            clear hK K
            refine px_eff rfl (by rfl) (fun K hK => ?_)
            refine wp_store_blk 40 (.tmp 9) (.tmp 35) rfl wc.drew.heap.size _ ((kis .u64 z5)) (c79) rfl rfl B9_80.out HC79.out.2.2.1 (len_of (T := 40) fe_z5.2.2.1 HC79.out.2.2.1) HC79.out.2.2.2 ?_
            intro ww81 hA hS
            have B9_81 := Lib.hid hA
            have B10_81 := Lib.hid (B10_80.out.keep hS (fun e => by omega))
            have HK81 : Hid (Kp0 wc.drew ww81) := Lib.hid (HK80.out.trans hS (fun _ _ h => h) (fun i hi e => by omega))
            clear hA hS
            refine hK (fun w' : World => Kp0 wc.drew w') _ _ (fun x h => h) HK81.out ?_
            clear hK K
            refine px_eff rfl (by rfl) (fun K hK => ?_)
            refine wp_store_blk 40 (.tmp 10) (.tmp 38) rfl ww68.heap.size _ ((kis .u64 z5)) (c80) rfl rfl B10_81.out HC80.out.2.2.1 (len_of (T := 40) fe_z5.2.2.1 HC80.out.2.2.1) HC80.out.2.2.2 ?_
            intro ww82 hA hS
            have B9_82 := Lib.hid (B9_81.out.keep hS (fun e => by omega))
            have B10_82 := Lib.hid hA
            have HK82 : Hid (Kp0 wc.drew ww82) := Lib.hid (HK81.out.trans hS (fun _ _ h => h) (fun i hi e => by omega))
            clear hA hS
            refine hK (fun w' : World => Kp0 wc.drew w') _ _ (fun x h => h) HK82.out ?_
            clear hK K
            refine px_done ?_
            have O3 : w.heap.size < wc.drew.heap.size := B3_38.out.lt
            have O4 : (w.heap.size + 1) < wc.drew.heap.size := B4_38.out.lt
            have O5 : (w.heap.size + 1 + 1) < wc.drew.heap.size := B5_38.out.lt
            have O6 : (w.heap.size + 1 + 1 + 1) < wc.drew.heap.size := B6_38.out.lt
            have O7 : g7 < wc.drew.heap.size := B7_38.out.lt
            have O8 : g8 < wc.drew.heap.size := B8_38.out.lt
            have OW : w.heap.size ≤ wc.drew.heap.size := KW_38.out.size
            go_wp2
            go_meet
            exact ⟨wc.drew.heap.size, ww68.heap.size, c79, c80, rfl, rfl, ⟨by omega, by omega, by omega, by omega, by omega, by omega, by omega, by omega, by omega, by omega, by omega, by omega, by omega, by omega, by omega⟩, HC79.out, HC80.out, B9_82.out, B10_82.out, B3_38.out.kp0 ((Kp.refl _ wc).drew.tr HK82.out), B4_38.out.kp0 ((Kp.refl _ wc).drew.tr HK82.out), B5_38.out.kp0 ((Kp.refl _ wc).drew.tr HK82.out), B6_38.out.kp0 ((Kp.refl _ wc).drew.tr HK82.out), B7_38.out.kp0 ((Kp.refl _ wc).drew.tr HK82.out), B8_38.out.kp0 ((Kp.refl _ wc).drew.tr HK82.out), KW_38.out.tr ((Kp.refl _ wc).drew.tr HK82.out)⟩
        · go_simp
          refine hK (fun w' : World => Kp0 wc.drew w') _ _ (fun x h => h) (HK39_0.out.alloc _) ?_
          clear hK K
          have L10_83 : wc.drew.heap.size ≤ wc.drew.heap.size := HK39_0.out.size
          have HK83 : Hid (Kp0 wc.drew (wc.drew.alloc (.cells ((kis .u64 z5)).toArray 40))) := Lib.hid (HK39_0.out.alloc _)
          have B10_83 : Hid (Blk (wc.drew.alloc (.cells ((kis .u64 z5)).toArray 40)) wc.drew.heap.size 40 ((kis .u64 z5))) := Lib.hid (blk0 wc.drew _ _)
          change PX.wp _ _ _ _ _ _ (wc.drew.alloc (.cells ((kis .u64 z5)).toArray 40))
          generalize (wc.drew.alloc (.cells ((kis .u64 z5)).toArray 40)) = ww83 at HK83 B10_83 ⊢
          refine ⟨px_one rfl (by rfl) (fun K hK => ?_), px_one rfl (by rfl) (fun K hK => ?_)⟩
          · go_simp
            refine (add_fe e7 e8 (nM 57896044618658097711785492504343953926634992332820282019728792003956564819949 (nA 57896044618658097711785492504343953926634992332820282019728792003956564819949 m1 n1) (nS 57896044618658097711785492504343953926634992332820282019728792003956564819949 m2 n2)) (nM 57896044618658097711785492504343953926634992332820282019728792003956564819949 (nS 57896044618658097711785492504343953926634992332820282019728792003956564819949 m1 n1) (nA 57896044618658097711785492504343953926634992332820282019728792003956564819949 m2 n2)) _ HE7.out HE8.out).mono ?_
            rintro e ww84 ⟨c84, rfl, hc, hk⟩
            simp only []
            have HC84 : Hid (Fe El c84 (nA 57896044618658097711785492504343953926634992332820282019728792003956564819949 (nM 57896044618658097711785492504343953926634992332820282019728792003956564819949 (nA 57896044618658097711785492504343953926634992332820282019728792003956564819949 m1 n1) (nS 57896044618658097711785492504343953926634992332820282019728792003956564819949 m2 n2)) (nM 57896044618658097711785492504343953926634992332820282019728792003956564819949 (nS 57896044618658097711785492504343953926634992332820282019728792003956564819949 m1 n1) (nA 57896044618658097711785492504343953926634992332820282019728792003956564819949 m2 n2)))) := Lib.hid hc
            clear hc
            have HK84 : Hid (Kp0 wc.drew ww84) := Lib.hid (HK83.out.tr hk)
            have B10_84 := Lib.hid (B10_83.out.kp0 hk)
            clear hk
            refine hK (fun w' : World => Kp0 wc.drew w') _ _ (fun x h => h) HK84.out ?_
            clear hK K
            refine ⟨px_one rfl (by rfl) (fun K hK => ?_), px_one rfl (by rfl) (fun K hK => ?_)⟩
            · go_simp
              refine (sub_fe e7 e8 (nM 57896044618658097711785492504343953926634992332820282019728792003956564819949 (nA 57896044618658097711785492504343953926634992332820282019728792003956564819949 m1 n1) (nS 57896044618658097711785492504343953926634992332820282019728792003956564819949 m2 n2)) (nM 57896044618658097711785492504343953926634992332820282019728792003956564819949 (nS 57896044618658097711785492504343953926634992332820282019728792003956564819949 m1 n1) (nA 57896044618658097711785492504343953926634992332820282019728792003956564819949 m2 n2)) _ HE7.out HE8.out).mono ?_
              rintro e ww85 ⟨c85, rfl, hc, hk⟩
              simp only []
              have HC85 : Hid (Fe El c85 (nS 57896044618658097711785492504343953926634992332820282019728792003956564819949 (nM 57896044618658097711785492504343953926634992332820282019728792003956564819949 (nA 57896044618658097711785492504343953926634992332820282019728792003956564819949 m1 n1) (nS 57896044618658097711785492504343953926634992332820282019728792003956564819949 m2 n2)) (nM 57896044618658097711785492504343953926634992332820282019728792003956564819949 (nS 57896044618658097711785492504343953926634992332820282019728792003956564819949 m1 n1) (nA 57896044618658097711785492504343953926634992332820282019728792003956564819949 m2 n2)))) := Lib.hid hc
              clear hc
              have HK85 : Hid (Kp0 wc.drew ww85) := Lib.hid (HK84.out.tr hk)
              have B10_85 := Lib.hid (B10_84.out.kp0 hk)
              clear hk
              refine hK (fun w' : World => Kp0 wc.drew w') _ _ (fun x h => h) HK85.out ?_
              clear hK K
              refine px_eff rfl (by rfl) (fun K hK => ?_)
              go_simp
              refine hK (fun w' : World => Kp0 wc.drew w') _ _ (fun x h => h) (HK85.out.alloc _) ?_
              clear hK K
              have L9_86 : wc.drew.heap.size ≤ ww85.heap.size := HK85.out.size
              have N10_9_86 : wc.drew.heap.size < ww85.heap.size := B10_85.out.lt
              have HK86 : Hid (Kp0 wc.drew (ww85.alloc (.cells ((kis .u64 z5)).toArray 40))) := Lib.hid (HK85.out.alloc _)
              have B9_86 : Hid (Blk (ww85.alloc (.cells ((kis .u64 z5)).toArray 40)) ww85.heap.size 40 ((kis .u64 z5))) := Lib.hid (blk0 ww85 _ _)
              have B10_86 := Lib.hid (B10_85.out.kp0 ((Kp.refl (fun _ => False) ww85).alloc (.cells ((kis .u64 z5)).toArray 40)))
              change PX.wp _ _ _ _ _ _ (ww85.alloc (.cells ((kis .u64 z5)).toArray 40))
              generalize (ww85.alloc (.cells ((kis .u64 z5)).toArray 40)) = ww86 at HK86 B10_86 B9_86 ⊢
              refine px_eff rfl (by rfl) (fun K hK => ?_)
              refine wp_store_blk 40 (.tmp 9) (.tmp 35) rfl ww85.heap.size _ ((kis .u64 z5)) (c84) rfl rfl B9_86.out HC84.out.2.2.1 (len_of (T := 40) fe_z5.2.2.1 HC84.out.2.2.1) HC84.out.2.2.2 ?_
              intro ww87 hA hS
              have B10_87 := Lib.hid (B10_86.out.keep hS (fun e => by omega))
              have B9_87 := Lib.hid hA
              have HK87 : Hid (Kp0 wc.drew ww87) := Lib.hid (HK86.out.trans hS (fun _ _ h => h) (fun i hi e => by omega))
              clear hA hS
              refine hK (fun w' : World => Kp0 wc.drew w') _ _ (fun x h => h) HK87.out ?_
              clear hK K
              refine px_eff rfl (by rfl) (fun K hK => ?_)
              refine wp_store_blk 40 (.tmp 10) (.tmp 38) rfl wc.drew.heap.size _ ((kis .u64 z5)) (c85) rfl rfl B10_87.out HC85.out.2.2.1 (len_of (T := 40) fe_z5.2.2.1 HC85.out.2.2.1) HC85.out.2.2.2 ?_
              intro ww88 hA hS
              have B10_88 := Lib.hid hA
              have B9_88 := Lib.hid (B9_87.out.keep hS (fun e => by omega))
              have HK88 : Hid (Kp0 wc.drew ww88) := Lib.hid (HK87.out.trans hS (fun _ _ h => h) (fun i hi e => by omega))
              clear hA hS
              refine hK (fun w' : World => Kp0 wc.drew w') _ _ (fun x h => h) HK88.out ?_
              clear hK K
              refine px_done ?_
              have O3 : w.heap.size < wc.drew.heap.size := B3_38.out.lt
              have O4 : (w.heap.size + 1) < wc.drew.heap.size := B4_38.out.lt
              have O5 : (w.heap.size + 1 + 1) < wc.drew.heap.size := B5_38.out.lt
              have O6 : (w.heap.size + 1 + 1 + 1) < wc.drew.heap.size := B6_38.out.lt
              have O7 : g7 < wc.drew.heap.size := B7_38.out.lt
              have O8 : g8 < wc.drew.heap.size := B8_38.out.lt
              have OW : w.heap.size ≤ wc.drew.heap.size := KW_38.out.size
              go_wp2
              go_meet
              exact ⟨ww85.heap.size, wc.drew.heap.size, c84, c85, rfl, rfl, ⟨by omega, by omega, by omega, by omega, by omega, by omega, by omega, by omega, by omega, by omega, by omega, by omega, by omega, by omega, by omega⟩, HC84.out, HC85.out, B9_88.out, B10_88.out, B3_38.out.kp0 ((Kp.refl _ wc).drew.tr HK88.out), B4_38.out.kp0 ((Kp.refl _ wc).drew.tr HK88.out), B5_38.out.kp0 ((Kp.refl _ wc).drew.tr HK88.out), B6_38.out.kp0 ((Kp.refl _ wc).drew.tr HK88.out), B7_38.out.kp0 ((Kp.refl _ wc).drew.tr HK88.out), B8_38.out.kp0 ((Kp.refl _ wc).drew.tr HK88.out), KW_38.out.tr ((Kp.refl _ wc).drew.tr HK88.out)⟩
            · go_simp
              refine hK (fun w' : World => Kp0 wc.drew w') _ _ (fun x h => h) (HK84.out.alloc _) ?_
              clear hK K
              have L9_89 : wc.drew.heap.size ≤ ww84.heap.size := HK84.out.size
              have N10_9_89 : wc.drew.heap.size < ww84.heap.size := B10_84.out.lt
              have HK89 : Hid (Kp0 wc.drew (ww84.alloc (.cells ((kis .u64 z5)).toArray 40))) := Lib.hid (HK84.out.alloc _)
              have B9_89 : Hid (Blk (ww84.alloc (.cells ((kis .u64 z5)).toArray 40)) ww84.heap.size 40 ((kis .u64 z5))) := Lib.hid (blk0 ww84 _ _)
              have B10_89 := Lib.hid (B10_84.out.kp0 ((Kp.refl (fun _ => False) ww84).alloc (.cells ((kis .u64 z5)).toArray 40)))
              change PX.wp _ _ _ _ _ _ (ww84.alloc (.cells ((kis .u64 z5)).toArray 40))
              generalize (ww84.alloc (.cells ((kis .u64 z5)).toArray 40)) = ww89 at HK89 B10_89 B9_89 ⊢
              refine px_eff rfl (by rfl) (fun K hK => ?_)
              go_simp
              refine (sub_fe e7 e8 (nM 57896044618658097711785492504343953926634992332820282019728792003956564819949 (nA 57896044618658097711785492504343953926634992332820282019728792003956564819949 m1 n1) (nS 57896044618658097711785492504343953926634992332820282019728792003956564819949 m2 n2)) (nM 57896044618658097711785492504343953926634992332820282019728792003956564819949 (nS 57896044618658097711785492504343953926634992332820282019728792003956564819949 m1 n1) (nA 57896044618658097711785492504343953926634992332820282019728792003956564819949 m2 n2)) _ HE7.out HE8.out).mono ?_
              rintro e ww90 ⟨c90, rfl, hc, hk⟩
              simp only []
              have HC90 : Hid (Fe El c90 (nS 57896044618658097711785492504343953926634992332820282019728792003956564819949 (nM 57896044618658097711785492504343953926634992332820282019728792003956564819949 (nA 57896044618658097711785492504343953926634992332820282019728792003956564819949 m1 n1) (nS 57896044618658097711785492504343953926634992332820282019728792003956564819949 m2 n2)) (nM 57896044618658097711785492504343953926634992332820282019728792003956564819949 (nS 57896044618658097711785492504343953926634992332820282019728792003956564819949 m1 n1) (nA 57896044618658097711785492504343953926634992332820282019728792003956564819949 m2 n2)))) := Lib.hid hc
              clear hc
              have HK90 : Hid (Kp0 wc.drew ww90) := Lib.hid (HK89.out.tr hk)
              have B10_90 := Lib.hid (B10_89.out.kp0 hk)
              have B9_90 := Lib.hid (B9_89.out.kp0 hk)
              clear hk
              refine hK (fun w' : World => Kp0 wc.drew w') _ _ (fun x h => h) HK90.out ?_
              clear hK K
              refine px_eff rfl (by rfl) (fun K hK => ?_)
              refine wp_store_blk 40 (.tmp 9) (.tmp 35) rfl ww84.heap.size _ ((kis .u64 z5)) (c84) rfl rfl B9_90.out HC84.out.2.2.1 (len_of (T := 40) fe_z5.2.2.1 HC84.out.2.2.1) HC84.out.2.2.2 ?_
              intro ww91 hA hS
              have B10_91 := Lib.hid (B10_90.out.keep hS (fun e => by omega))
              have B9_91 := Lib.hid hA
              have HK91 : Hid (Kp0 wc.drew ww91) := Lib.hid (HK90.out.trans hS (fun _ _ h => h) (fun i hi e => by omega))
              clear hA hS
              refine hK (fun w' : World => Kp0 wc.drew w') _ _ (fun x h => h) HK91.out ?_
              clear hK K
              refine px_eff rfl (by rfl) (fun K hK => ?_)
              refine wp_store_blk 40 (.tmp 10) (.tmp 38) rfl wc.drew.heap.size _ ((kis .u64 z5)) (c90) rfl rfl B10_91.out HC90.out.2.2.1 (len_of (T := 40) fe_z5.2.2.1 HC90.out.2.2.1) HC90.out.2.2.2 ?_
              intro ww92 hA hS
              have B10_92 := Lib.hid hA
              have B9_92 := Lib.hid (B9_91.out.keep hS (fun e => by omega))
              have HK92 : Hid (Kp0 wc.drew ww92) := Lib.hid (HK91.out.trans hS (fun _ _ h => h) (fun i hi e => by omega))
              clear hA hS
              refine hK (fun w' : World => Kp0 wc.drew w') _ _ (fun x h => h) HK92.out ?_
              clear hK K
              refine px_done ?_
              have O3 : w.heap.size < wc.drew.heap.size := B3_38.out.lt
              have O4 : (w.heap.size + 1) < wc.drew.heap.size := B4_38.out.lt
              have O5 : (w.heap.size + 1 + 1) < wc.drew.heap.size := B5_38.out.lt
              have O6 : (w.heap.size + 1 + 1 + 1) < wc.drew.heap.size := B6_38.out.lt
              have O7 : g7 < wc.drew.heap.size := B7_38.out.lt
              have O8 : g8 < wc.drew.heap.size := B8_38.out.lt
              have OW : w.heap.size ≤ wc.drew.heap.size := KW_38.out.size
              go_wp2
              go_meet
              exact ⟨ww84.heap.size, wc.drew.heap.size, c84, c90, rfl, rfl, ⟨by omega, by omega, by omega, by omega, by omega, by omega, by omega, by omega, by omega, by omega, by omega, by omega, by omega, by omega, by omega⟩, HC84.out, HC90.out, B9_92.out, B10_92.out, B3_38.out.kp0 ((Kp.refl _ wc).drew.tr HK92.out), B4_38.out.kp0 ((Kp.refl _ wc).drew.tr HK92.out), B5_38.out.kp0 ((Kp.refl _ wc).drew.tr HK92.out), B6_38.out.kp0 ((Kp.refl _ wc).drew.tr HK92.out), B7_38.out.kp0 ((Kp.refl _ wc).drew.tr HK92.out), B8_38.out.kp0 ((Kp.refl _ wc).drew.tr HK92.out), KW_38.out.tr ((Kp.refl _ wc).drew.tr HK92.out)⟩
          · go_simp
            refine hK (fun w' : World => Kp0 wc.drew w') _ _ (fun x h => h) (HK83.out.alloc _) ?_
            clear hK K
            have L9_93 : wc.drew.heap.size ≤ ww83.heap.size := HK83.out.size
            have N10_9_93 : wc.drew.heap.size < ww83.heap.size := B10_83.out.lt
            have HK93 : Hid (Kp0 wc.drew (ww83.alloc (.cells ((kis .u64 z5)).toArray 40))) := Lib.hid (HK83.out.alloc _)
            have B9_93 : Hid (Blk (ww83.alloc (.cells ((kis .u64 z5)).toArray 40)) ww83.heap.size 40 ((kis .u64 z5))) := Lib.hid (blk0 ww83 _ _)
            have B10_93 := Lib.hid (B10_83.out.kp0 ((Kp.refl (fun _ => False) ww83).alloc (.cells ((kis .u64 z5)).toArray 40)))
            change PX.wp _ _ _ _ _ _ (ww83.alloc (.cells ((kis .u64 z5)).toArray 40))
            generalize (ww83.alloc (.cells ((kis .u64 z5)).toArray 40)) = ww93 at HK93 B10_93 B9_93 ⊢
            refine px_eff rfl (by rfl) (fun K hK => ?_)
            go_simp
            refine (add_fe e7 e8 (nM 57896044618658097711785492504343953926634992332820282019728792003956564819949 (nA 57896044618658097711785492504343953926634992332820282019728792003956564819949 m1 n1) (nS 57896044618658097711785492504343953926634992332820282019728792003956564819949 m2 n2)) (nM 57896044618658097711785492504343953926634992332820282019728792003956564819949 (nS 57896044618658097711785492504343953926634992332820282019728792003956564819949 m1 n1) (nA 57896044618658097711785492504343953926634992332820282019728792003956564819949 m2 n2)) _ HE7.out HE8.out).mono ?_
            rintro e ww94 ⟨c94, rfl, hc, hk⟩
            simp only []
            have HC94 : Hid (Fe El c94 (nA 57896044618658097711785492504343953926634992332820282019728792003956564819949 (nM 57896044618658097711785492504343953926634992332820282019728792003956564819949 (nA 57896044618658097711785492504343953926634992332820282019728792003956564819949 m1 n1) (nS 57896044618658097711785492504343953926634992332820282019728792003956564819949 m2 n2)) (nM 57896044618658097711785492504343953926634992332820282019728792003956564819949 (nS 57896044618658097711785492504343953926634992332820282019728792003956564819949 m1 n1) (nA 57896044618658097711785492504343953926634992332820282019728792003956564819949 m2 n2)))) := Lib.hid hc
            clear hc
            have HK94 : Hid (Kp0 wc.drew ww94) := Lib.hid (HK93.out.tr hk)
            have B10_94 := Lib.hid (B10_93.out.kp0 hk)
            have B9_94 := Lib.hid (B9_93.out.kp0 hk)
            clear hk
            refine hK (fun w' : World => Kp0 wc.drew w') _ _ (fun x h => h) HK94.out ?_
            clear hK K
            refine px_eff rfl (by rfl) (fun K hK => ?_)
            go_simp
            refine (sub_fe e7 e8 (nM 57896044618658097711785492504343953926634992332820282019728792003956564819949 (nA 57896044618658097711785492504343953926634992332820282019728792003956564819949 m1 n1) (nS 57896044618658097711785492504343953926634992332820282019728792003956564819949 m2 n2)) (nM 57896044618658097711785492504343953926634992332820282019728792003956564819949 (nS 57896044618658097711785492504343953926634992332820282019728792003956564819949 m1 n1) (nA 57896044618658097711785492504343953926634992332820282019728792003956564819949 m2 n2)) _ HE7.out HE8.out).mono ?_
            rintro e ww95 ⟨c95, rfl, hc, hk⟩
            simp only []
            have HC95 : Hid (Fe El c95 (nS 57896044618658097711785492504343953926634992332820282019728792003956564819949 (nM 57896044618658097711785492504343953926634992332820282019728792003956564819949 (nA 57896044618658097711785492504343953926634992332820282019728792003956564819949 m1 n1) (nS 57896044618658097711785492504343953926634992332820282019728792003956564819949 m2 n2)) (nM 57896044618658097711785492504343953926634992332820282019728792003956564819949 (nS 57896044618658097711785492504343953926634992332820282019728792003956564819949 m1 n1) (nA 57896044618658097711785492504343953926634992332820282019728792003956564819949 m2 n2)))) := Lib.hid hc
            clear hc
            have HK95 : Hid (Kp0 wc.drew ww95) := Lib.hid (HK94.out.tr hk)
            have B10_95 := Lib.hid (B10_94.out.kp0 hk)
            have B9_95 := Lib.hid (B9_94.out.kp0 hk)
            clear hk
            refine hK (fun w' : World => Kp0 wc.drew w') _ _ (fun x h => h) HK95.out ?_
            clear hK K
            refine px_eff rfl (by rfl) (fun K hK => ?_)
            refine wp_store_blk 40 (.tmp 9) (.tmp 35) rfl ww83.heap.size _ ((kis .u64 z5)) (c94) rfl rfl B9_95.out HC94.out.2.2.1 (len_of (T := 40) fe_z5.2.2.1 HC94.out.2.2.1) HC94.out.2.2.2 ?_
            intro ww96 hA hS
            have B10_96 := Lib.hid (B10_95.out.keep hS (fun e => by omega))
            have B9_96 := Lib.hid hA
            have HK96 : Hid (Kp0 wc.drew ww96) := Lib.hid (HK95.out.trans hS (fun _ _ h => h) (fun i hi e => by omega))
            clear hA hS
            refine hK (fun w' : World => Kp0 wc.drew w') _ _ (fun x h => h) HK96.out ?_
            clear hK K
            refine px_eff rfl (by rfl) (fun K hK => ?_)
            refine wp_store_blk 40 (.tmp 10) (.tmp 38) rfl wc.drew.heap.size _ ((kis .u64 z5)) (c95) rfl rfl B10_96.out HC95.out.2.2.1 (len_of (T := 40) fe_z5.2.2.1 HC95.out.2.2.1) HC95.out.2.2.2 ?_
            intro ww97 hA hS
            have B10_97 := Lib.hid hA
            have B9_97 := Lib.hid (B9_96.out.keep hS (fun e => by omega))
            have HK97 : Hid (Kp0 wc.drew ww97) := Lib.hid (HK96.out.trans hS (fun _ _ h => h) (fun i hi e => by omega))
            clear hA hS
            refine hK (fun w' : World => Kp0 wc.drew w') _ _ (fun x h => h) HK97.out ?_
            clear hK K
            refine px_done ?_
            have O3 : w.heap.size < wc.drew.heap.size := B3_38.out.lt
            have O4 : (w.heap.size + 1) < wc.drew.heap.size := B4_38.out.lt
            have O5 : (w.heap.size + 1 + 1) < wc.drew.heap.size := B5_38.out.lt
            have O6 : (w.heap.size + 1 + 1 + 1) < wc.drew.heap.size := B6_38.out.lt
            have O7 : g7 < wc.drew.heap.size := B7_38.out.lt
            have O8 : g8 < wc.drew.heap.size := B8_38.out.lt
            have OW : w.heap.size ≤ wc.drew.heap.size := KW_38.out.size
            go_wp2
            go_meet
            exact ⟨ww83.heap.size, wc.drew.heap.size, c94, c95, rfl, rfl, ⟨by omega, by omega, by omega, by omega, by omega, by omega, by omega, by omega, by omega, by omega, by omega, by omega, by omega, by omega, by omega⟩, HC94.out, HC95.out, B9_97.out, B10_97.out, B3_38.out.kp0 ((Kp.refl _ wc).drew.tr HK97.out), B4_38.out.kp0 ((Kp.refl _ wc).drew.tr HK97.out), B5_38.out.kp0 ((Kp.refl _ wc).drew.tr HK97.out), B6_38.out.kp0 ((Kp.refl _ wc).drew.tr HK97.out), B7_38.out.kp0 ((Kp.refl _ wc).drew.tr HK97.out), B8_38.out.kp0 ((Kp.refl _ wc).drew.tr HK97.out), KW_38.out.tr ((Kp.refl _ wc).drew.tr HK97.out)⟩
      case rest =>
        obtain ⟨g9, g10, e9, e10, rfl, rfl, ho, hf9, hf10, hb9, hb10, ho3, ho4, ho5, ho6, ho7, ho8, hkw⟩ := hcut
        obtain ⟨o0, o1, o2, o3, o4, o5, o6, o7, o8, o9, o10, o11, o12, o13, o14⟩ := ho
        have HE9 := Lib.hid hf9
        have B9_98 := Lib.hid hb9
        clear hf9 hb9
        have HE10 := Lib.hid hf10
        have B10_98 := Lib.hid hb10
        clear hf10 hb10
        clear B4_38 B5_38 B3_38 KW_38 B6_38 B7_38 B8_38
        have B3_98 := Lib.hid ho3
        clear ho3
        have B4_98 := Lib.hid ho4
        clear ho4
        have B5_98 := Lib.hid ho5
        clear ho5
        have B6_98 := Lib.hid ho6
        clear ho6
        have B7_98 := Lib.hid ho7
        clear ho7
        have B8_98 := Lib.hid ho8
        clear ho8
        have KW_98 := Lib.hid hkw
        clear hkw
        go_upto_region 4 with (fail)
        have HK99_0 : Hid (Kp0 wc.drew wc.drew) := Lib.hid (Kp.refl _ _)
        refine wp_region_px 10 [9] (fun w' : World => Kp0 wc.drew w') (.quiet 0 (.quiet 1 (.quiet 3 (.quiet 4 (.quiet 6 (.eff 2 (.eff 5 (.eff 7 (.quiet 8 (.wall 9 .done)))))))))) (by kernel_rfl) (by kernel_rfl) (by kernel_rfl) (by kernel_rfl) (fun _ d _ _ _ h => by cases d <;> exact h) HK99_0.out ?_
        refine px_quiet (v := .agg (e9).toArray) rfl (by rfl) (fun wq hwq => run_load_blk 40 (.tmp 9) rfl g9 _ (e9) rfl (B9_98.out.kp0 ((Kp.refl _ wc).drew.tr hwq)) _ Try.underlying40 rfl HE9.out.2.2.1) rfl ?_
        try simp only [List.setIfInBounds_toArray, List.set_cons_zero, List.set_cons_succ]
        refine px_quiet (v := .agg (e9).toArray) rfl (by rfl) (fun wq hwq => run_load_blk 40 (.tmp 9) rfl g9 _ (e9) rfl (B9_98.out.kp0 ((Kp.refl _ wc).drew.tr hwq)) _ Try.underlying40 rfl HE9.out.2.2.1) rfl ?_
        try simp only [List.setIfInBounds_toArray, List.set_cons_zero, List.set_cons_succ]
        refine px_quiet (v := .agg (e10).toArray) rfl (by rfl) (fun wq hwq => run_load_blk 40 (.tmp 10) rfl g10 _ (e10) rfl (B10_98.out.kp0 ((Kp.refl _ wc).drew.tr hwq)) _ Try.underlying40 rfl HE10.out.2.2.1) rfl ?_
        try simp only [List.setIfInBounds_toArray, List.set_cons_zero, List.set_cons_succ]
        refine px_quiet (v := .agg (e10).toArray) rfl (by rfl) (fun wq hwq => run_load_blk 40 (.tmp 10) rfl g10 _ (e10) rfl (B10_98.out.kp0 ((Kp.refl _ wc).drew.tr hwq)) _ Try.underlying40 rfl HE10.out.2.2.1) rfl ?_
        try simp only [List.setIfInBounds_toArray, List.set_cons_zero, List.set_cons_succ]
        refine px_quiet (v := .agg (u).toArray) rfl (by rfl) (fun wq hwq => run_load_blk 40 (.tmp 5) rfl (w.heap.size + 1 + 1) _ (u) rfl (B5_98.out.kp0 ((Kp.refl _ wc).drew.tr hwq)) _ Try.underlying40 rfl H5.out.2.2.1) rfl ?_
        try simp only [List.setIfInBounds_toArray, List.set_cons_zero, List.set_cons_succ]
        refine px_eff rfl (by rfl) (fun K hK => ?_)
        go_simp
        refine (mul_fe e9 e9 (nA 57896044618658097711785492504343953926634992332820282019728792003956564819949 (nM 57896044618658097711785492504343953926634992332820282019728792003956564819949 (nA 57896044618658097711785492504343953926634992332820282019728792003956564819949 m1 n1) (nS 57896044618658097711785492504343953926634992332820282019728792003956564819949 m2 n2)) (nM 57896044618658097711785492504343953926634992332820282019728792003956564819949 (nS 57896044618658097711785492504343953926634992332820282019728792003956564819949 m1 n1) (nA 57896044618658097711785492504343953926634992332820282019728792003956564819949 m2 n2))) (nA 57896044618658097711785492504343953926634992332820282019728792003956564819949 (nM 57896044618658097711785492504343953926634992332820282019728792003956564819949 (nA 57896044618658097711785492504343953926634992332820282019728792003956564819949 m1 n1) (nS 57896044618658097711785492504343953926634992332820282019728792003956564819949 m2 n2)) (nM 57896044618658097711785492504343953926634992332820282019728792003956564819949 (nS 57896044618658097711785492504343953926634992332820282019728792003956564819949 m1 n1) (nA 57896044618658097711785492504343953926634992332820282019728792003956564819949 m2 n2))) _ HE9.out HE9.out).mono ?_
        rintro e ww100 ⟨c100, rfl, hc, hk⟩
        simp only []
        have HC100 : Hid (Fe El c100 (nM 57896044618658097711785492504343953926634992332820282019728792003956564819949 (nA 57896044618658097711785492504343953926634992332820282019728792003956564819949 (nM 57896044618658097711785492504343953926634992332820282019728792003956564819949 (nA 57896044618658097711785492504343953926634992332820282019728792003956564819949 m1 n1) (nS 57896044618658097711785492504343953926634992332820282019728792003956564819949 m2 n2)) (nM 57896044618658097711785492504343953926634992332820282019728792003956564819949 (nS 57896044618658097711785492504343953926634992332820282019728792003956564819949 m1 n1) (nA 57896044618658097711785492504343953926634992332820282019728792003956564819949 m2 n2))) (nA 57896044618658097711785492504343953926634992332820282019728792003956564819949 (nM 57896044618658097711785492504343953926634992332820282019728792003956564819949 (nA 57896044618658097711785492504343953926634992332820282019728792003956564819949 m1 n1) (nS 57896044618658097711785492504343953926634992332820282019728792003956564819949 m2 n2)) (nM 57896044618658097711785492504343953926634992332820282019728792003956564819949 (nS 57896044618658097711785492504343953926634992332820282019728792003956564819949 m1 n1) (nA 57896044618658097711785492504343953926634992332820282019728792003956564819949 m2 n2))))) := Lib.hid hc
        clear hc
        have HK100 : Hid (Kp0 wc.drew ww100) := Lib.hid (HK99_0.out.tr hk)
        clear hk
        refine hK (fun w' : World => Kp0 wc.drew w') _ _ (fun x h => h) HK100.out ?_
        clear hK K
        refine px_eff rfl (by rfl) (fun K hK => ?_)
        go_simp
        refine (mul_fe e10 e10 (nS 57896044618658097711785492504343953926634992332820282019728792003956564819949 (nM 57896044618658097711785492504343953926634992332820282019728792003956564819949 (nA 57896044618658097711785492504343953926634992332820282019728792003956564819949 m1 n1) (nS 57896044618658097711785492504343953926634992332820282019728792003956564819949 m2 n2)) (nM 57896044618658097711785492504343953926634992332820282019728792003956564819949 (nS 57896044618658097711785492504343953926634992332820282019728792003956564819949 m1 n1) (nA 57896044618658097711785492504343953926634992332820282019728792003956564819949 m2 n2))) (nS 57896044618658097711785492504343953926634992332820282019728792003956564819949 (nM 57896044618658097711785492504343953926634992332820282019728792003956564819949 (nA 57896044618658097711785492504343953926634992332820282019728792003956564819949 m1 n1) (nS 57896044618658097711785492504343953926634992332820282019728792003956564819949 m2 n2)) (nM 57896044618658097711785492504343953926634992332820282019728792003956564819949 (nS 57896044618658097711785492504343953926634992332820282019728792003956564819949 m1 n1) (nA 57896044618658097711785492504343953926634992332820282019728792003956564819949 m2 n2))) _ HE10.out HE10.out).mono ?_
        rintro e ww101 ⟨c101, rfl, hc, hk⟩
        simp only []
        have HC101 : Hid (Fe El c101 (nM 57896044618658097711785492504343953926634992332820282019728792003956564819949 (nS 57896044618658097711785492504343953926634992332820282019728792003956564819949 (nM 57896044618658097711785492504343953926634992332820282019728792003956564819949 (nA 57896044618658097711785492504343953926634992332820282019728792003956564819949 m1 n1) (nS 57896044618658097711785492504343953926634992332820282019728792003956564819949 m2 n2)) (nM 57896044618658097711785492504343953926634992332820282019728792003956564819949 (nS 57896044618658097711785492504343953926634992332820282019728792003956564819949 m1 n1) (nA 57896044618658097711785492504343953926634992332820282019728792003956564819949 m2 n2))) (nS 57896044618658097711785492504343953926634992332820282019728792003956564819949 (nM 57896044618658097711785492504343953926634992332820282019728792003956564819949 (nA 57896044618658097711785492504343953926634992332820282019728792003956564819949 m1 n1) (nS 57896044618658097711785492504343953926634992332820282019728792003956564819949 m2 n2)) (nM 57896044618658097711785492504343953926634992332820282019728792003956564819949 (nS 57896044618658097711785492504343953926634992332820282019728792003956564819949 m1 n1) (nA 57896044618658097711785492504343953926634992332820282019728792003956564819949 m2 n2))))) := Lib.hid hc
        clear hc
        have HK101 : Hid (Kp0 wc.drew ww101) := Lib.hid (HK100.out.tr hk)
        clear hk
        refine hK (fun w' : World => Kp0 wc.drew w') _ _ (fun x h => h) HK101.out ?_
        clear hK K
        refine px_eff rfl (by rfl) (fun K hK => ?_)
        go_simp
        refine (mul_fe c101 u (nM 57896044618658097711785492504343953926634992332820282019728792003956564819949 (nS 57896044618658097711785492504343953926634992332820282019728792003956564819949 (nM 57896044618658097711785492504343953926634992332820282019728792003956564819949 (nA 57896044618658097711785492504343953926634992332820282019728792003956564819949 m1 n1) (nS 57896044618658097711785492504343953926634992332820282019728792003956564819949 m2 n2)) (nM 57896044618658097711785492504343953926634992332820282019728792003956564819949 (nS 57896044618658097711785492504343953926634992332820282019728792003956564819949 m1 n1) (nA 57896044618658097711785492504343953926634992332820282019728792003956564819949 m2 n2))) (nS 57896044618658097711785492504343953926634992332820282019728792003956564819949 (nM 57896044618658097711785492504343953926634992332820282019728792003956564819949 (nA 57896044618658097711785492504343953926634992332820282019728792003956564819949 m1 n1) (nS 57896044618658097711785492504343953926634992332820282019728792003956564819949 m2 n2)) (nM 57896044618658097711785492504343953926634992332820282019728792003956564819949 (nS 57896044618658097711785492504343953926634992332820282019728792003956564819949 m1 n1) (nA 57896044618658097711785492504343953926634992332820282019728792003956564819949 m2 n2)))) nu _ HC101.out H5.out).mono ?_
        rintro e ww102 ⟨c102, rfl, hc, hk⟩
        simp only []
        have HC102 : Hid (Fe El c102 (nM 57896044618658097711785492504343953926634992332820282019728792003956564819949 (nM 57896044618658097711785492504343953926634992332820282019728792003956564819949 (nS 57896044618658097711785492504343953926634992332820282019728792003956564819949 (nM 57896044618658097711785492504343953926634992332820282019728792003956564819949 (nA 57896044618658097711785492504343953926634992332820282019728792003956564819949 m1 n1) (nS 57896044618658097711785492504343953926634992332820282019728792003956564819949 m2 n2)) (nM 57896044618658097711785492504343953926634992332820282019728792003956564819949 (nS 57896044618658097711785492504343953926634992332820282019728792003956564819949 m1 n1) (nA 57896044618658097711785492504343953926634992332820282019728792003956564819949 m2 n2))) (nS 57896044618658097711785492504343953926634992332820282019728792003956564819949 (nM 57896044618658097711785492504343953926634992332820282019728792003956564819949 (nA 57896044618658097711785492504343953926634992332820282019728792003956564819949 m1 n1) (nS 57896044618658097711785492504343953926634992332820282019728792003956564819949 m2 n2)) (nM 57896044618658097711785492504343953926634992332820282019728792003956564819949 (nS 57896044618658097711785492504343953926634992332820282019728792003956564819949 m1 n1) (nA 57896044618658097711785492504343953926634992332820282019728792003956564819949 m2 n2)))) nu)) := Lib.hid hc
        clear hc
        have HK102 : Hid (Kp0 wc.drew ww102) := Lib.hid (HK101.out.tr hk)
        clear hk
        refine hK (fun w' : World => Kp0 wc.drew w') _ _ (fun x h => h) HK102.out ?_
        clear hK K
        refine px_quiet (v := .agg ((c100 ++ c102)).toArray) rfl (by rfl) (fun wq hwq => run_build_fr wq _ _ 41 46 rfl (c100) (c102) (fe_len HC100.out) (fe_len HC102.out) rfl rfl) rfl ?_
        try simp only [List.setIfInBounds_toArray, List.set_cons_zero, List.set_cons_succ]
        refine px_wall rfl (by rfl) (fun K hK => ?_)
        refine wp_store_blk 60 (.tmp 6) (.tmp 47) rfl (w.heap.size + 1 + 1 + 1) _ (((kis .u64 z5) ++ (kis .u64 z5))) ((c100 ++ c102)) rfl rfl (B6_98.out.kp0 ((Kp.refl _ wc).drew.tr HK102.out)) (info_fr HC100.out HC102.out) (len_of (T := 60) (info_fr fe_z5 fe_z5) (info_fr HC100.out HC102.out)) (ones_app HC100.out.2.2.2 HC102.out.2.2.2) ?_
        intro ww103 hA hS
        have B3_103 := Lib.hid ((B3_98.out.kp0 ((Kp.refl _ wc).drew.tr HK102.out)).keep hS (fun e => by omega))
        have B4_103 := Lib.hid ((B4_98.out.kp0 ((Kp.refl _ wc).drew.tr HK102.out)).keep hS (fun e => by omega))
        have B5_103 := Lib.hid ((B5_98.out.kp0 ((Kp.refl _ wc).drew.tr HK102.out)).keep hS (fun e => by omega))
        have B6_103 := Lib.hid hA
        have B7_103 := Lib.hid ((B7_98.out.kp0 ((Kp.refl _ wc).drew.tr HK102.out)).keep hS (fun e => by omega))
        have B8_103 := Lib.hid ((B8_98.out.kp0 ((Kp.refl _ wc).drew.tr HK102.out)).keep hS (fun e => by omega))
        have B9_103 := Lib.hid ((B9_98.out.kp0 ((Kp.refl _ wc).drew.tr HK102.out)).keep hS (fun e => by omega))
        have B10_103 := Lib.hid ((B10_98.out.kp0 ((Kp.refl _ wc).drew.tr HK102.out)).keep hS (fun e => by omega))
        have KW_103 : Hid (Kp0 w ww103) := Lib.hid ((KW_98.out.tr ((Kp.refl _ wc).drew.tr HK102.out)).trans hS (fun _ _ h => h) (fun i hi e => by omega))
        clear hA hS
        refine hK (fun _ => True) _ _ trivial ?_
        clear hK K
        refine px_done ?_
        go_wp2
        refine ret_blk 6 60 60 (w.heap.size + 1 + 1 + 1) ((c100 ++ c102)) _ rfl rfl B6_103.out Try.underlying60 rfl (info_fr HC100.out HC102.out) rfl ?_
        exact ⟨_, _, rfl, HC100.out, HC102.out, KW_103.out⟩
end Go.Proofs.Ytcnehbfcagghpaa
